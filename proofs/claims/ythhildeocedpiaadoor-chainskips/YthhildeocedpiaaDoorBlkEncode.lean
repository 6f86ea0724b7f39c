/- What block.EncodeQc and block.Encode do; nothing old in memory is turned. -/
import Derived.Test.YthhildeocedpiaaDoorBlkRows
import Derived.Test.YthhildeocedpiaaDoorHdrTagsEnc
import Derived.Test.YthhildeocedpiaaDoorHdrOpen
import Derived.Lib.QuietBelow
import Derived.BigQuiet
namespace Go.Proofs.YthhildeocedpiaaDoor
open Go.RowKit Go.Sort
set_option linter.unusedVariables false

/-- What EncodeQc asks. -/
structure QcM.Enc (x : QcM) : Prop where
  blk : x.block.size ≤ 140737488351232
  few : x.votes.length ≤ 1000000000
  mac : ∀ t ∈ x.votes, t.mac.size ≤ 140737488351232
  len : (tagsB x.votes).length ≤ 140737488355328

/-- What Encode asks. -/
structure BlkM.Enc (x : BlkM) : Prop where
  qc : x.qc.Enc
  few : x.certs.length ≤ 1000000000
  len : (lst (bl x.certs)).length ≤ 140737488355328

theorem encQ_join (x : QcM) : (⟨(goInt x.view).toArray⟩ ++ ⟨(txt x.block.data.toList).toArray⟩ ++ ⟨(tagsB x.votes).toArray⟩ : ByteArray) = ⟨(encQ x.d).toArray⟩ := by
  rw [append_list (goInt x.view) ⟨(txt x.block.data.toList).toArray⟩]
  exact append_list _ _

theorem encK_join (x : BlkM) : (⟨(goInt x.view).toArray⟩ ++ ⟨(txt (encQ x.qc.d)).toArray⟩ ++ ⟨(lst (bl x.certs)).toArray⟩ : ByteArray) = ⟨(encK x.d).toArray⟩ := by
  rw [append_list (goInt x.view) ⟨(txt (encQ x.qc.d)).toArray⟩]
  exact append_list _ _

theorem encQ_len (x : QcM) (h : x.Enc) : (encQ x.d).length ≤ 281474976706580 := by
  have h1 := goInt_length x.view
  have h2 := txt_len_le x.block.data.toList
  have h3 : x.block.data.toList.length = x.block.size := by simp
  have h4 := h.blk
  have h5 := h.len
  show (goInt x.view ++ txt x.block.data.toList ++ tagsB x.votes).length ≤ _
  simp only [List.length_append]
  omega

set_option maxRecDepth 100000 in
set_option maxHeartbeats 2000000 in
theorem encodeQc_any (x : QcM) (w : World) (hA : x.At w) (hf : x.Enc) :
    Calls Tryd.prog 22 #[x.v] w fun e w' => e = .returned (.string ⟨(encQ x.d).toArray⟩) ∧ Below w.heap.size w w' := by
  have hX := Arr.new w 37 x.c
  have hB := belowNew w (.cells x.c.toArray 37)
  have hA1 := hA.below hB
  obtain ⟨w1, hw1⟩ : ∃ q, w.alloc (.cells x.c.toArray 37) = q := ⟨_, rfl⟩
  rw [hw1] at hX hB hA1
  have bl := fun d os => below_regrown w1 d os
  have hjo := encQ_join x
  have hbl := hf.blk
  have hvl := hf.len
  have hil := goInt_length x.view
  have htl := txt_len_le x.block.data.toList
  have hbz : x.block.data.toList.length = x.block.size := by simp
  obtain ⟨ib, hib⟩ : ∃ q, q = (⟨(goInt x.view).toArray⟩ : ByteArray) := ⟨_, rfl⟩
  obtain ⟨tb, htb⟩ : ∃ q, q = (⟨(txt x.block.data.toList).toArray⟩ : ByteArray) := ⟨_, rfl⟩
  obtain ⟨vb, hvb⟩ : ∃ q, q = (⟨(tagsB x.votes).toArray⟩ : ByteArray) := ⟨_, rfl⟩
  obtain ⟨out, hout⟩ : ∃ q, q = (⟨(encQ x.d).toArray⟩ : ByteArray) := ⟨_, rfl⟩
  have his : ib.size ≤ 9 := by rw [hib, size_mk]; exact hil
  have hts : tb.size ≤ 140737488351241 := by rw [htb, size_mk]; omega
  have hvs : vb.size ≤ 140737488355328 := by rw [hvb, size_mk]; exact hvl
  have hsum0 : ¬ (9223372036854775807 < ib.size + tb.size) := by omega
  have hsum : ¬ (9223372036854775807 < ib.size + tb.size + vb.size) := by omega
  have k1 : ∀ d os, Calls Tryd.prog 47 #[.int .i64 x.view] (grow (redrawn w1 d) os) fun e w'' => e = .returned (.string ib) ∧ ∃ p : Regrown, w'' = grow (redrawn w1 p.d) p.os := fun d os => Calls.regrown_of (by
    rw [hib]
    exact int_any x.view _)
  have k2 : ∀ d os, Calls Tryd.prog 48 #[.string x.block] (grow (redrawn w1 d) os) fun e w'' => e = .returned (.string tb) ∧ ∃ p : Regrown, w'' = grow (redrawn w1 p.d) p.os := fun d os => Calls.regrown_of (by
    rw [htb]
    exact text_any x.block _ (by omega))
  have k3 : ∀ d os, Calls Tryd.prog 49 #[.slice x.va x.votes.length x.vc] (grow (redrawn w1 d) os) fun e w'' => e = .returned (.string vb) ∧ ∃ p : Regrown, w'' = grow (redrawn w1 p.d) p.os := fun d os => Calls.regrown_of (by
    rw [hvb]
    exact tags_any x.va x.vc x.votes _ (hA1.below (bl d os)).votes hf.few hf.mac hf.len)
  rw [← hout, ← htb, ← hvb, ← hib] at hjo
  rw [← hout]
  have Hjo : Hid (ib ++ tb ++ vb = out) := hjo
  have hX0 : Arr w1 w.heap.size 37 [.int .i64 x.view, .string x.block, .slice x.va x.votes.length x.vc] := hX
  have A0 := cell_regrown (hX0.cell (i := 0) rfl)
  have A1 := cell_regrown (hX0.cell (i := 1) rfl)
  have A2 := cell_regrown (hX0.cell (i := 2) rfl)
  have HBF : Hid (∀ d os, Below w.heap.size w (grow (redrawn w1 d) os)) := fun d os => hB.trans ((bl d os).mono hB.size)
  unfold QcM.c at hw1
  unfold QcM.v
  clear hib htb hvb hout hjo hbl hvl htl hil hbz hf hA hA1 hX hX0 hB bl his hts hvs
  go_enter Tryd.func22, Tryd.ntmps22
  go_wp2_with fail
  refine wp_region_quiet_below (by kernel_rfl) (by kernel_rfl) ?_
  iterate 2 (go_big_quiet_step (fail))
  go_big_quiet_step (exact k1 _ _)
  iterate 2 (go_big_quiet_step (fail))
  go_big_quiet_step (exact k2 _ _)
  iterate 3 (go_big_quiet_step (fail))
  go_big_quiet_step (exact k3 _ _)
  iterate 2 (go_big_quiet_step (fail))
  refine wpQuiet_nil ?_
  rintro w' ⟨p, rfl⟩
  have hBF := HBF.out p.d p.os
  generalize grow (redrawn w1 p.d) p.os = w6 at hBF ⊢
  clear k1 k2 k3 A0 A1 A2 HBF
  go_wp2
  go_ret
  exact ⟨by rw [← Hjo.out]; rfl, hBF⟩

set_option maxRecDepth 100000 in
set_option maxHeartbeats 2000000 in
theorem blkEncode_any (x : BlkM) (w : World) (hA : x.At w) (hf : x.Enc) :
    Calls Tryd.prog 20 #[x.v] w fun e w' => e = .returned (.string ⟨(encK x.d).toArray⟩) ∧ Below w.heap.size w w' := by
  have hX := Arr.new w 39 x.c
  have hB := belowNew w (.cells x.c.toArray 39)
  have hA1 := hA.below hB
  obtain ⟨w1, hw1⟩ : ∃ q, w.alloc (.cells x.c.toArray 39) = q := ⟨_, rfl⟩
  rw [hw1] at hX hB hA1
  have bl' := fun d os => below_regrown w1 d os
  have hjo := encK_join x
  have hql := encQ_len x.qc hf.qc
  have hcl := hf.len
  have hil := goInt_length x.view
  have htl := txt_len_le (encQ x.qc.d)
  obtain ⟨ib, hib⟩ : ∃ q, q = (⟨(goInt x.view).toArray⟩ : ByteArray) := ⟨_, rfl⟩
  obtain ⟨qb, hqb⟩ : ∃ q, q = (⟨(encQ x.qc.d).toArray⟩ : ByteArray) := ⟨_, rfl⟩
  obtain ⟨tb, htb⟩ : ∃ q, q = (⟨(txt (encQ x.qc.d)).toArray⟩ : ByteArray) := ⟨_, rfl⟩
  obtain ⟨vb, hvb⟩ : ∃ q, q = (⟨(lst (bl x.certs)).toArray⟩ : ByteArray) := ⟨_, rfl⟩
  obtain ⟨out, hout⟩ : ∃ q, q = (⟨(encK x.d).toArray⟩ : ByteArray) := ⟨_, rfl⟩
  have his : ib.size ≤ 9 := by rw [hib, size_mk]; exact hil
  have hqs : qb.size ≤ 281474976706580 := by rw [hqb, size_mk]; exact hql
  have hts : tb.size ≤ 281474976706589 := by rw [htb, size_mk]; omega
  have hvs : vb.size ≤ 140737488355328 := by rw [hvb, size_mk]; exact hcl
  have hsum0 : ¬ (9223372036854775807 < ib.size + tb.size) := by omega
  have hsum : ¬ (9223372036854775807 < ib.size + tb.size + vb.size) := by omega
  have k1 : ∀ d os, Calls Tryd.prog 47 #[.int .i64 x.view] (grow (redrawn w1 d) os) fun e w'' => e = .returned (.string ib) ∧ ∃ p : Regrown, w'' = grow (redrawn w1 p.d) p.os := fun d os => Calls.regrown_of (by
    rw [hib]
    exact int_any x.view _)
  have k2 : ∀ d os, Calls Tryd.prog 22 #[x.qc.v] (grow (redrawn w1 d) os) fun e w'' => e = .returned (.string qb) ∧ ∃ p : Regrown, w'' = grow (redrawn w1 p.d) p.os := fun d os => Calls.regrown_of (by
    rw [hqb]
    exact encodeQc_any x.qc _ (hA1.below (bl' d os)).qc hf.qc)
  have k3 : ∀ d os, Calls Tryd.prog 48 #[.string qb] (grow (redrawn w1 d) os) fun e w'' => e = .returned (.string tb) ∧ ∃ p : Regrown, w'' = grow (redrawn w1 p.d) p.os := fun d os => Calls.regrown_of (by
    have := text_any qb (grow (redrawn w1 d) os) (by omega)
    have hed : qb.data.toList = encQ x.qc.d := by rw [hqb]
    rw [hed, ← htb] at this
    exact this)
  have k4 : ∀ d os, Calls Tryd.prog 50 #[.slice x.ca x.certs.length x.cc] (grow (redrawn w1 d) os) fun e w'' => e = .returned (.string vb) ∧ ∃ p : Regrown, w'' = grow (redrawn w1 p.d) p.os := fun d os => Calls.regrown_of (by
    rw [hvb]
    exact list_any x.ca x.cc x.certs _ (hA1.below (bl' d os)).certs.strs hf.len (by have := hf.few; omega))
  rw [← hout, ← htb, ← hvb, ← hib] at hjo
  rw [← hout]
  have Hjo : Hid (ib ++ tb ++ vb = out) := hjo
  have hX0 : Arr w1 w.heap.size 39 [.int .i64 x.view, .int .i64 x.qc.view, .string x.qc.block, .slice x.qc.va x.qc.votes.length x.qc.vc, .slice x.ca x.certs.length x.cc] := hX
  have A0 := cell_regrown (hX0.cell (i := 0) rfl)
  have A1 := cell_regrown (hX0.cell (i := 1) rfl)
  have A2 := cell_regrown (hX0.cell (i := 2) rfl)
  have A3 := cell_regrown (hX0.cell (i := 3) rfl)
  have A4 := cell_regrown (hX0.cell (i := 4) rfl)
  have HBF : Hid (∀ d os, Below w.heap.size w (grow (redrawn w1 d) os)) := fun d os => hB.trans ((bl' d os).mono hB.size)
  unfold BlkM.c at hw1
  unfold QcM.v at k2
  unfold BlkM.v
  clear hib hqb htb hvb hout hjo hql hcl htl hil hf hA hA1 hX hX0 hB bl' his hqs hts hvs
  go_enter Tryd.func20, Tryd.ntmps20
  go_wp2_with fail
  refine wp_region_quiet_below (by kernel_rfl) (by kernel_rfl) ?_
  iterate 2 (go_big_quiet_step (fail))
  go_big_quiet_step (exact k1 _ _)
  iterate 2 (go_big_quiet_step (fail))
  go_big_quiet_step (exact k2 _ _)
  go_big_quiet_step (exact k3 _ _)
  iterate 3 (go_big_quiet_step (fail))
  go_big_quiet_step (exact k4 _ _)
  iterate 2 (go_big_quiet_step (fail))
  refine wpQuiet_nil ?_
  rintro w' ⟨p, rfl⟩
  have hBF := HBF.out p.d p.os
  generalize grow (redrawn w1 p.d) p.os = w6 at hBF ⊢
  clear k1 k2 k3 k4 A0 A1 A2 A3 A4 HBF
  go_wp2
  go_ret
  exact ⟨by rw [← Hjo.out]; rfl, hBF⟩
end Go.Proofs.YthhildeocedpiaaDoor
