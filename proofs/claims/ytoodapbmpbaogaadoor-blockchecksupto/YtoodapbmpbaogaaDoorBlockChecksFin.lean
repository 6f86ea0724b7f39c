/- BlockChecks: for every input the statement answers true, and each argument reads afterwards as it read before. Condition: the two tables of package mix read as the program's text lays them; and what the arguments hold is together of bulk at most 1048576. -/
import Derived.Test.YtoodapbmpbaogaaDoorBlkEncode
import Derived.Test.YtoodapbmpbaogaaDoorRefHdrTagsEnc
import Derived.Test.YtoodapbmpbaogaaDoorRefText
import Derived.Test.YtoodapbmpbaogaaDoorRefList
import Derived.Test.YtoodapbmpbaogaaDoorMixAll
import Derived.Test.YtoodapbmpbaogaaDoorRefMixAll
import Derived.Test.YtoodapbmpbaogaaDoorBlkRows
import Derived.Test.YtoodapbmpbaogaaDoorRefHdrSame
import Derived.Test.YtoodapbmpbaogaaDoorHdrOpen
import Derived.Test.YtoodapbmpbaogaaDoorUpto
import Derived.Test.YtoodapbmpbaogaaDoorBlkCheck
import Derived.Test.YtoodapbmpbaogaaDoorRefBlkCheck
import Derived.Lib.QuietBelow
import Derived.BigQuiet
import Derived.Test.YtoodapbmpbaogaaDoorCards
import Derived.Test.YtoodapbmpbaogaaDoorTie
import Derived.SevenTiedAt
import Derived.Deep.DeepHandedRow
/- What tuskref08.EncodeQc and tuskref08.Encode do; nothing old in memory is turned. -/
namespace Go.Proofs.YtoodapbmpbaogaaDoor
open Go.RowKit Go.Sort
set_option linter.unusedVariables false

set_option maxRecDepth 100000 in
set_option maxHeartbeats 2000000 in
theorem refEncodeQc_any (x : QcM) (w : World) (hA : x.At w) (hf : x.Enc) :
    Calls Tryd.prog 18 #[x.v] w fun e w' => e = .returned (.string ⟨(encQ x.d).toArray⟩) ∧ Below w.heap.size w w' := by
  have hX := Arr.new w 24 x.c
  have hB := belowNew w (.cells x.c.toArray 24)
  have hA1 := hA.below hB
  obtain ⟨w1, hw1⟩ : ∃ q, w.alloc (.cells x.c.toArray 24) = q := ⟨_, rfl⟩
  rw [hw1] at hX hB hA1
  have bl := fun d os => below_regrown w1 d os
  have hjo := encQ_join x
  have hbl := hf.blk
  have hvl := hf.len
  have hil := goInt_length x.view
  have htl := txt_len_le x.block.data.toList
  have hbz : x.block.data.toList.length = x.block.size := by simp
  obtain ⟨ib, hib⟩ : ∃ q, q = (⟨(goInt x.view).toArray⟩ : ByteArray) := ⟨_, rfl⟩
  obtain ⟨tb, htb⟩ : ∃ q, q = (⟨(txt x.block.data.toList).toArray⟩ : ByteArray) := ⟨_, rfl⟩
  obtain ⟨vb, hvb⟩ : ∃ q, q = (⟨(tagsB x.votes).toArray⟩ : ByteArray) := ⟨_, rfl⟩
  obtain ⟨out, hout⟩ : ∃ q, q = (⟨(encQ x.d).toArray⟩ : ByteArray) := ⟨_, rfl⟩
  have his : ib.size ≤ 9 := by rw [hib, size_mk]; exact hil
  have hts : tb.size ≤ 140737488351241 := by rw [htb, size_mk]; omega
  have hvs : vb.size ≤ 140737488355328 := by rw [hvb, size_mk]; exact hvl
  have hsum0 : ¬ (9223372036854775807 < ib.size + tb.size) := by omega
  have hsum : ¬ (9223372036854775807 < ib.size + tb.size + vb.size) := by omega
  have k1 : ∀ d os, Calls Tryd.prog 55 #[.int .i64 x.view] (grow (redrawn w1 d) os) fun e w'' => e = .returned (.string ib) ∧ ∃ p : Regrown, w'' = grow (redrawn w1 p.d) p.os := fun d os => Calls.regrown_of (by
    rw [hib]
    exact refInt_any x.view _)
  have k2 : ∀ d os, Calls Tryd.prog 56 #[.string x.block] (grow (redrawn w1 d) os) fun e w'' => e = .returned (.string tb) ∧ ∃ p : Regrown, w'' = grow (redrawn w1 p.d) p.os := fun d os => Calls.regrown_of (by
    rw [htb]
    exact refText_any x.block _ (by omega))
  have k3 : ∀ d os, Calls Tryd.prog 59 #[.slice x.va x.votes.length x.vc] (grow (redrawn w1 d) os) fun e w'' => e = .returned (.string vb) ∧ ∃ p : Regrown, w'' = grow (redrawn w1 p.d) p.os := fun d os => Calls.regrown_of (by
    rw [hvb]
    exact refTags_any x.va x.vc x.votes _ (hA1.below (bl d os)).votes hf.few hf.mac hf.len)
  rw [← hout, ← htb, ← hvb, ← hib] at hjo
  rw [← hout]
  have Hjo : Hid (ib ++ tb ++ vb = out) := hjo
  have hX0 : Arr w1 w.heap.size 24 [.int .i64 x.view, .string x.block, .slice x.va x.votes.length x.vc] := hX
  have A0 := cell_regrown (hX0.cell (i := 0) rfl)
  have A1 := cell_regrown (hX0.cell (i := 1) rfl)
  have A2 := cell_regrown (hX0.cell (i := 2) rfl)
  have HBF : Hid (∀ d os, Below w.heap.size w (grow (redrawn w1 d) os)) := fun d os => hB.trans ((bl d os).mono hB.size)
  unfold QcM.c at hw1
  unfold QcM.v
  clear hib htb hvb hout hjo hbl hvl htl hil hbz hf hA hA1 hX hX0 hB bl his hts hvs
  go_enter Tryd.func18, Tryd.ntmps18
  go_wp2_with fail
  refine wp_region_quiet_below (by kernel_rfl) (by kernel_rfl) ?_
  iterate 2 (go_big_quiet_step (fail))
  go_big_quiet_step (exact k1 _ _)
  iterate 2 (go_big_quiet_step (fail))
  go_big_quiet_step (exact k2 _ _)
  iterate 3 (go_big_quiet_step (fail))
  go_big_quiet_step (exact k3 _ _)
  iterate 2 (go_big_quiet_step (fail))
  refine wpQuiet_nil ?_
  rintro w' ⟨p, rfl⟩
  have hBF := HBF.out p.d p.os
  generalize grow (redrawn w1 p.d) p.os = w6 at hBF ⊢
  clear k1 k2 k3 A0 A1 A2 HBF
  go_wp2
  go_ret
  exact ⟨by rw [← Hjo.out]; rfl, hBF⟩

set_option maxRecDepth 100000 in
set_option maxHeartbeats 2000000 in
theorem refBlkEncode_any (x : BlkM) (w : World) (hA : x.At w) (hf : x.Enc) :
    Calls Tryd.prog 16 #[x.v] w fun e w' => e = .returned (.string ⟨(encK x.d).toArray⟩) ∧ Below w.heap.size w w' := by
  have hX := Arr.new w 27 x.c
  have hB := belowNew w (.cells x.c.toArray 27)
  have hA1 := hA.below hB
  obtain ⟨w1, hw1⟩ : ∃ q, w.alloc (.cells x.c.toArray 27) = q := ⟨_, rfl⟩
  rw [hw1] at hX hB hA1
  have bl' := fun d os => below_regrown w1 d os
  have hjo := encK_join x
  have hql := encQ_len x.qc hf.qc
  have hcl := hf.len
  have hil := goInt_length x.view
  have htl := txt_len_le (encQ x.qc.d)
  obtain ⟨ib, hib⟩ : ∃ q, q = (⟨(goInt x.view).toArray⟩ : ByteArray) := ⟨_, rfl⟩
  obtain ⟨qb, hqb⟩ : ∃ q, q = (⟨(encQ x.qc.d).toArray⟩ : ByteArray) := ⟨_, rfl⟩
  obtain ⟨tb, htb⟩ : ∃ q, q = (⟨(txt (encQ x.qc.d)).toArray⟩ : ByteArray) := ⟨_, rfl⟩
  obtain ⟨vb, hvb⟩ : ∃ q, q = (⟨(lst (bl x.certs)).toArray⟩ : ByteArray) := ⟨_, rfl⟩
  obtain ⟨out, hout⟩ : ∃ q, q = (⟨(encK x.d).toArray⟩ : ByteArray) := ⟨_, rfl⟩
  have his : ib.size ≤ 9 := by rw [hib, size_mk]; exact hil
  have hqs : qb.size ≤ 281474976706580 := by rw [hqb, size_mk]; exact hql
  have hts : tb.size ≤ 281474976706589 := by rw [htb, size_mk]; omega
  have hvs : vb.size ≤ 140737488355328 := by rw [hvb, size_mk]; exact hcl
  have hsum0 : ¬ (9223372036854775807 < ib.size + tb.size) := by omega
  have hsum : ¬ (9223372036854775807 < ib.size + tb.size + vb.size) := by omega
  have k1 : ∀ d os, Calls Tryd.prog 55 #[.int .i64 x.view] (grow (redrawn w1 d) os) fun e w'' => e = .returned (.string ib) ∧ ∃ p : Regrown, w'' = grow (redrawn w1 p.d) p.os := fun d os => Calls.regrown_of (by
    rw [hib]
    exact refInt_any x.view _)
  have k2 : ∀ d os, Calls Tryd.prog 18 #[x.qc.v] (grow (redrawn w1 d) os) fun e w'' => e = .returned (.string qb) ∧ ∃ p : Regrown, w'' = grow (redrawn w1 p.d) p.os := fun d os => Calls.regrown_of (by
    rw [hqb]
    exact refEncodeQc_any x.qc _ (hA1.below (bl' d os)).qc hf.qc)
  have k3 : ∀ d os, Calls Tryd.prog 56 #[.string qb] (grow (redrawn w1 d) os) fun e w'' => e = .returned (.string tb) ∧ ∃ p : Regrown, w'' = grow (redrawn w1 p.d) p.os := fun d os => Calls.regrown_of (by
    have := refText_any qb (grow (redrawn w1 d) os) (by omega)
    have hed : qb.data.toList = encQ x.qc.d := by rw [hqb]
    rw [hed, ← htb] at this
    exact this)
  have k4 : ∀ d os, Calls Tryd.prog 57 #[.slice x.ca x.certs.length x.cc] (grow (redrawn w1 d) os) fun e w'' => e = .returned (.string vb) ∧ ∃ p : Regrown, w'' = grow (redrawn w1 p.d) p.os := fun d os => Calls.regrown_of (by
    rw [hvb]
    exact refList_any x.ca x.cc x.certs _ (hA1.below (bl' d os)).certs.strs hf.len (by have := hf.few; omega))
  rw [← hout, ← htb, ← hvb, ← hib] at hjo
  rw [← hout]
  have Hjo : Hid (ib ++ tb ++ vb = out) := hjo
  have hX0 : Arr w1 w.heap.size 27 [.int .i64 x.view, .int .i64 x.qc.view, .string x.qc.block, .slice x.qc.va x.qc.votes.length x.qc.vc, .slice x.ca x.certs.length x.cc] := hX
  have A0 := cell_regrown (hX0.cell (i := 0) rfl)
  have A1 := cell_regrown (hX0.cell (i := 1) rfl)
  have A2 := cell_regrown (hX0.cell (i := 2) rfl)
  have A3 := cell_regrown (hX0.cell (i := 3) rfl)
  have A4 := cell_regrown (hX0.cell (i := 4) rfl)
  have HBF : Hid (∀ d os, Below w.heap.size w (grow (redrawn w1 d) os)) := fun d os => hB.trans ((bl' d os).mono hB.size)
  unfold BlkM.c at hw1
  unfold QcM.v at k2
  unfold BlkM.v
  clear hib hqb htb hvb hout hjo hql hcl htl hil hf hA hA1 hX hX0 hB bl' his hqs hts hvs
  go_enter Tryd.func16, Tryd.ntmps16
  go_wp2_with fail
  refine wp_region_quiet_below (by kernel_rfl) (by kernel_rfl) ?_
  iterate 2 (go_big_quiet_step (fail))
  go_big_quiet_step (exact k1 _ _)
  iterate 2 (go_big_quiet_step (fail))
  go_big_quiet_step (exact k2 _ _)
  go_big_quiet_step (exact k3 _ _)
  iterate 3 (go_big_quiet_step (fail))
  go_big_quiet_step (exact k4 _ _)
  iterate 2 (go_big_quiet_step (fail))
  refine wpQuiet_nil ?_
  rintro w' ⟨p, rfl⟩
  have hBF := HBF.out p.d p.os
  generalize grow (redrawn w1 p.d) p.os = w6 at hBF ⊢
  clear k1 k2 k3 k4 A0 A1 A2 A3 A4 HBF
  go_wp2
  go_ret
  exact ⟨by rw [← Hjo.out]; rfl, hBF⟩
end Go.Proofs.YtoodapbmpbaogaaDoor

/- What block.Id does; nothing old in memory is turned. -/
namespace Go.Proofs.YtoodapbmpbaogaaDoor
open Go.RowKit
set_option linter.unusedVariables false

/-- A block's id. -/
def idK (b : BlkD) : ByteArray := Mx.bytes (Mx.sumL (encK b))

theorem idK_size (b : BlkD) : (idK b).size = 32 := by unfold idK; rw [Mx.bytes_size]; exact Mx.keyedL_len [] _

set_option maxRecDepth 100000 in
set_option maxHeartbeats 1000000 in
theorem blkId_any (x : BlkM) (w : World) (hA : x.At w) (hf : x.Enc) (hl : (encK x.d).length ≤ 140737488351232) (hG : Mx.Glob w) :
    Calls Tryd.prog 19 #[x.v] w fun e w' => e = .returned (.string (idK x.d)) ∧ Below w.heap.size w w' := by
  have hX := Arr.new w 27 x.c
  have hB := belowNew w (.cells x.c.toArray 27)
  have cE := blkEncode_any x _ (hA.below hB) hf
  obtain ⟨eb, heb⟩ : ∃ q, q = (⟨(encK x.d).toArray⟩ : ByteArray) := ⟨_, rfl⟩
  have hes : eb.size ≤ 140737488351232 := by rw [heb, size_mk]; exact hl
  have cS := fun w1 hg => Mx.sum_any eb w1 hes hg
  have HE : Hid (idK x.d = Mx.bytes (Mx.sumL eb.data.toList)) := by show idK x.d = _; rw [heb]; rfl
  rw [← heb] at cE
  obtain ⟨out, hout⟩ : ∃ q, Hid (q = idK x.d) := ⟨_, rfl⟩
  rw [← hout.out]
  have hG1 := hG.below hB
  clear heb hes hA hf hl hG
  unfold BlkM.v at cE ⊢
  unfold BlkM.c at hX hB cE hG1
  have x0 := hX.cell (i := 0) rfl
  have x1 := hX.cell (i := 1) rfl
  have x2 := hX.cell (i := 2) rfl
  have x3 := hX.cell (i := 3) rfl
  have x4 := hX.cell (i := 4) rfl
  go_enter Tryd.func19, Tryd.ntmps19
  go_wp2_with fail
  refine cE.mono ?_
  rintro e w1 ⟨rfl, hb1⟩
  have hB1 := hB.trans (hb1.mono hB.size)
  have hG2 := hG1.below hb1
  clear cE hX hB x0 x1 x2 x3 x4 hb1 hG1
  go_wp2_with fail
  refine (cS _ hG2).mono ?_
  rintro e w2 ⟨rfl, hb2⟩
  have hB2 := hB1.trans (hb2.mono hB1.size)
  clear cS hB1 hb2
  go_wp2
  go_ret
  exact ⟨by rw [hout.out, HE.out]; rfl, hB2⟩
end Go.Proofs.YtoodapbmpbaogaaDoor

/- What tuskref08.Id does; nothing old in memory is turned. -/
namespace Go.Proofs.YtoodapbmpbaogaaDoor
open Go.RowKit
set_option linter.unusedVariables false

set_option maxRecDepth 100000 in
set_option maxHeartbeats 1000000 in
theorem refBlkId_any (x : BlkM) (w : World) (hA : x.At w) (hf : x.Enc) (hl : (encK x.d).length ≤ 1073741824) :
    Calls Tryd.prog 20 #[x.v] w fun e w' => e = .returned (.string (idK x.d)) ∧ Below w.heap.size w w' := by
  have hX := Arr.new w 27 x.c
  have hB := belowNew w (.cells x.c.toArray 27)
  have cE := refBlkEncode_any x _ (hA.below hB) hf
  obtain ⟨eb, heb⟩ : ∃ q, q = (⟨(encK x.d).toArray⟩ : ByteArray) := ⟨_, rfl⟩
  have hes : eb.size ≤ 1073741824 := by rw [heb, size_mk]; exact hl
  have cS := fun w1 => Mx.refSum_any eb w1 hes
  have HE : Hid (idK x.d = Mx.bytes (Mx.sumL eb.data.toList)) := by show idK x.d = _; rw [heb]; rfl
  rw [← heb] at cE
  obtain ⟨out, hout⟩ : ∃ q, Hid (q = idK x.d) := ⟨_, rfl⟩
  rw [← hout.out]
  clear heb hes hA hf hl
  unfold BlkM.v at cE ⊢
  unfold BlkM.c at hX hB cE
  have x0 := hX.cell (i := 0) rfl
  have x1 := hX.cell (i := 1) rfl
  have x2 := hX.cell (i := 2) rfl
  have x3 := hX.cell (i := 3) rfl
  have x4 := hX.cell (i := 4) rfl
  go_enter Tryd.func20, Tryd.ntmps20
  go_wp2_with fail
  refine cE.mono ?_
  rintro e w1 ⟨rfl, hb1⟩
  have hB1 := hB.trans (hb1.mono hB.size)
  clear cE hX hB x0 x1 x2 x3 x4 hb1
  go_wp2_with fail
  refine (cS _).mono ?_
  rintro e w2 ⟨rfl, hb2⟩
  have hB2 := hB1.trans (hb2.mono hB1.size)
  clear cS hB1 hb2
  go_wp2
  go_ret
  exact ⟨by rw [hout.out, HE.out]; rfl, hB2⟩
end Go.Proofs.YtoodapbmpbaogaaDoor

/- What tuskref08.SameQc and tuskref08.Same say of two that are the same; nothing old in memory is turned. -/
namespace Go.Proofs.YtoodapbmpbaogaaDoor
open Go.RowKit
set_option linter.unusedVariables false

set_option maxRecDepth 100000 in
set_option maxHeartbeats 2000000 in
theorem sameQ_any (a b : QcM) (w : World) (hA : a.At w) (hB : b.At w) (hd : a.d = b.d) (hv : a.votes.length ≤ 4611686018427387903) :
    Calls Tryd.prog 26 #[a.v, b.v] w fun e w' => e = .returned (.bool true) ∧ Below w.heap.size w w' := by
  obtain ⟨v0, k0, a0, l0, c0⟩ := a
  obtain ⟨v1, k1, a1, l1, c1⟩ := b
  simp only [QcM.d, QcD.mk.injEq] at hd
  obtain ⟨rfl, rfl, rfl⟩ := hd
  have hA1 : RowAt tagK w a0 l0 := hA.votes
  have hB1 : RowAt tagK w a1 l0 := hB.votes
  obtain ⟨hX, hY, hb⟩ := two_new w 24 24 [.int .i64 v0, .string k0, .slice a0 l0.length c0] [.int .i64 v0, .string k0, .slice a1 l0.length c1]
  have cV := sameTags_any a0 a1 c0 c1 l0 _ (hA1.below hb) (hB1.below hb) hv
  unfold QcM.v
  simp only
  clear hA hB hA1 hB1 hv
  obtain ⟨w1, hw1⟩ : ∃ q, (w.alloc (.cells [.int .i64 v0, .string k0, .slice a0 l0.length c0].toArray 24)).alloc (.cells [.int .i64 v0, .string k0, .slice a1 l0.length c1].toArray 24) = q := ⟨_, rfl⟩
  rw [hw1] at hX hY hb cV
  have x0 := hX.cell (i := 0) rfl
  have x1 := hX.cell (i := 1) rfl
  have x2 := hX.cell (i := 2) rfl
  have y0 := hY.cell (i := 0) rfl
  have y1 := hY.cell (i := 1) rfl
  have y2 := hY.cell (i := 2) rfl
  go_enter Tryd.func26, Tryd.ntmps26
  go_wp2_with fail
  refine cV.mono ?_
  rintro e w2 ⟨rfl, hb2⟩
  have hB2 := hb.trans (hb2.mono hb.size)
  clear cV hX hY hb hb2 x0 x1 x2 y0 y1 y2
  go_wp2
  go_ret
  exact ⟨rfl, hB2⟩

set_option maxRecDepth 100000 in
set_option maxHeartbeats 2000000 in
theorem sameK_any (a b : BlkM) (w : World) (hA : a.At w) (hB : b.At w) (hd : a.d = b.d) (hv : a.qc.votes.length ≤ 4611686018427387903) (hc : a.certs.length ≤ 4611686018427387903) :
    Calls Tryd.prog 21 #[a.v, b.v] w fun e w' => e = .returned (.bool true) ∧ Below w.heap.size w w' := by
  obtain ⟨v0, q0, a0, l0, c0⟩ := a
  obtain ⟨v1, q1, a1, l1, c1⟩ := b
  simp only [BlkM.d, BlkD.mk.injEq] at hd
  obtain ⟨rfl, hq, rfl⟩ := hd
  have hA1 : RowAt strK w a0 l0 := hA.certs
  have hB1 : RowAt strK w a1 l0 := hB.certs
  have hAq : q0.At w := hA.qc
  have hBq : q1.At w := hB.qc
  obtain ⟨hX, hY, hb⟩ := two_new w 27 27 [.int .i64 v0, .int .i64 q0.view, .string q0.block, .slice q0.va q0.votes.length q0.vc, .slice a0 l0.length c0] [.int .i64 v0, .int .i64 q1.view, .string q1.block, .slice q1.va q1.votes.length q1.vc, .slice a1 l0.length c1]
  have cQ := sameQ_any q0 q1 _ (hAq.below hb) (hBq.below hb) hq hv
  have cS := fun w1 h0 h1 => same_any a0 a1 c0 c1 l0 w1 h0 h1 (by have := hc; simp only at this; omega)
  have hS0 := hA1.below hb
  have hS1 := hB1.below hb
  unfold QcM.v at cQ
  unfold BlkM.v
  simp only
  clear hA hB hA1 hB1 hv hc hAq hBq hq
  obtain ⟨w1, hw1⟩ : ∃ q, (w.alloc (.cells [.int .i64 v0, .int .i64 q0.view, .string q0.block, .slice q0.va q0.votes.length q0.vc, .slice a0 l0.length c0].toArray 27)).alloc (.cells [.int .i64 v0, .int .i64 q1.view, .string q1.block, .slice q1.va q1.votes.length q1.vc, .slice a1 l0.length c1].toArray 27) = q := ⟨_, rfl⟩
  rw [hw1] at hX hY hb cQ hS0 hS1
  have x0 := hX.cell (i := 0) rfl
  have x1 := hX.cell (i := 1) rfl
  have x2 := hX.cell (i := 2) rfl
  have x3 := hX.cell (i := 3) rfl
  have y0 := hY.cell (i := 0) rfl
  have y1 := hY.cell (i := 1) rfl
  have y2 := hY.cell (i := 2) rfl
  have y3 := hY.cell (i := 3) rfl
  go_enter Tryd.func21, Tryd.ntmps21
  go_wp2_with fail
  refine cQ.mono ?_
  rintro e w2 ⟨rfl, hb2⟩
  have hX2 := hX.below hb2 hX.lt
  have hY2 := hY.below hb2 hY.lt
  have hS02 := hS0.below hb2
  have hS12 := hS1.below hb2
  have hB2 := hb.trans (hb2.mono hb.size)
  clear cQ hX hY hS0 hS1 hb hb2 x0 x1 x2 x3 y0 y1 y2 y3
  have x4 := hX2.cell (i := 4) rfl
  have y4 := hY2.cell (i := 4) rfl
  go_wp2_with fail
  refine (cS _ hS02.strs hS12.strs).mono ?_
  rintro e w3 ⟨rfl, hb3⟩
  have hB3 := hB2.trans (hb3.mono hB2.size)
  clear cS hX2 hY2 hS02 hS12 hB2 hb3 x4 y4
  go_wp2
  go_ret
  exact ⟨rfl, hB3⟩
end Go.Proofs.YtoodapbmpbaogaaDoor

/- What tusklaw08.OwnQc and tusklaw08.Own do: what shares nothing; nothing old in memory is turned. -/
namespace Go.Proofs.YtoodapbmpbaogaaDoor
open Go.RowKit
set_option linter.unusedVariables false

theorem own_empty (w : World) (T : TypeId) (n : Nat) : (w.alloc (.cells #[] T)).ownsRow w.heap.size T n (.slice (some ⟨w.heap.size, 0, none⟩) 0 0) 0 [] := World.ownsRow_made w #[] 0 (Nat.le_refl _) (by unfold maxLen; omega) (by simp)

theorem infoStr8 : (Tryd.prog.info? 9).map (fun i => (i.zero, i.size, i.bytes)) = some (some (.string ⟨#[]⟩), 1, 16) := by kernel_rfl

theorem results_qcO {fn : Func} {p : Tmp} (h : fn.results = #[.cell p 24]) (tmps : Array Value) (w : World) (g : Nat) (x : QcM)
    (hp : tmps.getD p undef = .pointer (some ⟨g, 0, none⟩)) (hg : Arr w g 24 x.c) :
    (results fn tmps).run Tryd.prog w = .ok x.v w :=
  results_cell_row h tmps w g 24 x.c.toArray (0, 0) _ hp hg Tryd.underlying24 rfl infoQc8

theorem results_blkO {fn : Func} {p : Tmp} (h : fn.results = #[.cell p 27]) (tmps : Array Value) (w : World) (g : Nat) (x : BlkM)
    (hp : tmps.getD p undef = .pointer (some ⟨g, 0, none⟩)) (hg : Arr w g 27 x.c) :
    (results fn tmps).run Tryd.prog w = .ok x.v w :=
  results_cell_row h tmps w g 27 x.c.toArray (0, 0) _ hp hg Tryd.underlying27 rfl infoBlk8

/-- A Qc that shares nothing is handed back. -/
def GotOwnQ (W : World) (x : QcM) (e : Ending) (w : World) : Prop :=
  ∃ y : QcM, e = .returned y.v ∧ y.d = x.d ∧ y.At w ∧ (∀ b, y.foot b → W.heap.size ≤ b) ∧ Below W.heap.size W w

/-- A block that shares nothing is handed back. -/
def GotOwnB (W : World) (x : BlkM) (e : Ending) (w : World) : Prop :=
  ∃ y : BlkM, e = .returned y.v ∧ y.d = x.d ∧ y.At w ∧ (∀ b, y.foot b → W.heap.size ≤ b) ∧ Below W.heap.size W w

set_option maxRecDepth 100000 in
set_option maxHeartbeats 2000000 in
theorem ownQc_any (x : QcM) (w : World) (hA : x.At w) (hv : x.votes.length * 24 ≤ 140737488351232) :
    Calls Tryd.prog 25 #[x.v] w fun e w' => GotOwnQ w x e w' := by
  obtain ⟨v, b, va, l, vc⟩ := x
  obtain ⟨hX, hZ, hB⟩ := two_new w 24 24 [.int .i64 v, .string b, .slice va l.length vc] [.int .i64 0, .string ⟨#[]⟩, .slice none 0 0]
  obtain ⟨i1, hi, hz0, hz1, hz2⟩ := info_parts infoTag6
  have hA1 : RowAt tagK _ va l := (hA.below hB).votes
  have hnv : va = none → vc = 0 := hA.nv
  have hl : l.length * 24 ≤ 140737488351232 := hv
  obtain ⟨w1, hw1⟩ : ∃ q, (w.alloc (.cells [.int .i64 v, .string b, .slice va l.length vc].toArray 24)).alloc (.cells [.int .i64 0, .string ⟨#[]⟩, .slice none 0 0].toArray 24) = q := ⟨_, rfl⟩
  have hs1 : w.heap.size + 2 ≤ w1.heap.size := by rw [← hw1, alloc_size, alloc_size]; omega
  rw [hw1] at hX hZ hB hA1
  have hbe := belowNew w1 (.cells #[] 54)
  have hoE := own_empty w1 54 tagK.n
  have hX2 := hX.below hbe hX.lt
  have hA2 := hA1.below hbe
  have hbs := hbe.size
  have x2 := hX2.cell (i := 2) rfl
  have n1 : l.length ≤ maxLen := by unfold maxLen; omega
  have n2 : l.length * 24 ≤ 140737488355328 := by omega
  unfold QcM.v
  simp only
  clear hA hv
  go_enter Tryd.func25, Tryd.ntmps25
  go_wp2_with (at_builtin; refine wpList_copy (K := tagK) rfl _ _ 22 rfl w1.heap.size 54 i1 _ 24 Tryd.underlying22 hi hz0 hz1 hz2 rfl _ rfl hoE va vc l rfl hA2 (fun _ _ _ h => h.elim) hnv n1 n2 hbs ?_)
  intro ao3 cap3 w3 hR3 hn3 hf3 hb3
  have hB3 : Below w1.heap.size w1 w3 := hbe.trans hb3
  have hX3 := hX.below hB3 hX.lt
  have hZ3 := hZ.below hB3 hZ.lt
  have hBw3 := hB.trans (hB3.mono hB.size)
  have hfl : ∀ g, rowFoot tagK ao3 l g → w1.heap.size ≤ g := fun g hg => by
    rcases hg with ⟨hne, off, e⟩ | ⟨_, _, h⟩
    · exact hf3 hne g off e
    · exact h.elim
  have x2 := hX3.cell (i := 2) rfl
  have f2 := hX3.frozen 2
  have hX4 := hX3.set 2 (.slice ao3 l.length cap3)
  have hZ4 := hZ3.other (p := ⟨w.heap.size, 2, none⟩) (by show w.heap.size + 1 ≠ w.heap.size; omega) (.slice ao3 l.length cap3)
  have hR4 := hR3.kept (Kept.setCell w3 ⟨w.heap.size, 2, none⟩ (.slice ao3 l.length cap3)) (fun g hg e => by have := hfl g hg; have e' : g = w.heap.size := e; omega)
  have hB4 := hBw3.setCell (p := ⟨w.heap.size, 2, none⟩) (Nat.le_refl _) (.slice ao3 l.length cap3)
  obtain ⟨w4, hw4⟩ : ∃ q, w3.setCell ⟨w.heap.size, 2, none⟩ (.slice ao3 l.length cap3) = q := ⟨_, rfl⟩
  rw [hw4] at hX4 hZ4 hR4 hB4
  replace hX4 : Arr w4 w.heap.size 24 [.int .i64 v, .string b, .slice ao3 l.length cap3] := hX4
  have y0 := hX4.cell (i := 0) rfl
  have y1 := hX4.cell (i := 1) rfl
  have y2 := hX4.cell (i := 2) rfl
  have z0 := hZ4.cell (i := 0) rfl
  have z1 := hZ4.cell (i := 1) rfl
  have z2 := hZ4.cell (i := 2) rfl
  have g0 := hZ4.frozen 0
  have g1 := hZ4.frozen 1
  have g2 := hZ4.frozen 2
  have hZF := hZ4.set3 (.int .i64 v) (.string b) (.slice ao3 l.length cap3)
  have kF := kept_set3 w4 (w.heap.size + 1) (.int .i64 v) (.string b) (.slice ao3 l.length cap3)
  have hRF := hR4.kept kF (fun g hg e => by have := hfl g hg; have e' : g = w.heap.size + 1 := e; omega)
  have hBF := below_set3 hB4 (g := w.heap.size + 1) (Nat.le_succ _) (.int .i64 v) (.string b) (.slice ao3 l.length cap3)
  have fin : ∀ e, e = .returned (QcM.v ⟨v, b, ao3, l, cap3⟩) → GotOwnQ w ⟨v, b, va, l, vc⟩ e _ := fun e he => ⟨⟨v, b, ao3, l, cap3⟩, he, rfl, ⟨hRF, hn3⟩, (fun g hg => by have := hfl g hg; omega), hBF⟩
  unfold set3 at hZF fin
  clear hX hZ hB hA1 hbe hoE hX2 hA2 hR3 hb3 hB3 hX3 hZ3 hBw3 hfl hX4 hZ4 hR4 hB4 kF hRF hBF hf3 hw1
  go_wp2
  refine bodyPost_ret (v := QcM.v ⟨v, b, ao3, l, cap3⟩) (results_qcO rfl _ _ (w.heap.size + 1) ⟨v, b, ao3, l, cap3⟩ rfl hZF) rfl ?_
  exact fin _ rfl

set_option maxRecDepth 100000 in
set_option maxHeartbeats 2000000 in
theorem ownBlk_any (x : BlkM) (w : World) (hA : x.At w) (hv : x.qc.votes.length * 24 ≤ 140737488351232) (hc : x.certs.length * 16 ≤ 140737488351232) :
    Calls Tryd.prog 10 #[x.v] w fun e w' => GotOwnB w x e w' := by
  obtain ⟨v, q, ca, l, cc⟩ := x
  obtain ⟨hX, hZ, hB⟩ := two_new w 27 27 [.int .i64 v, .int .i64 q.view, .string q.block, .slice q.va q.votes.length q.vc, .slice ca l.length cc] [.int .i64 0, .int .i64 0, .string ⟨#[]⟩, .slice none 0 0, .slice none 0 0]
  obtain ⟨i1, hi, hz0, hz1, hz2⟩ := info_parts infoStr8
  have hA1 := hA.below hB
  have hq1 : q.At _ := hA1.qc
  have hc1 : RowAt strK _ ca l := hA1.certs
  have hnc : ca = none → cc = 0 := hA.nc
  have hcl : ∀ g, rowFoot strK ca l g → g < w.heap.size := fun g hg => hA.certs.lt hg
  have hl : l.length * 16 ≤ 140737488351232 := hc
  have cQ := ownQc_any q _ hq1 hv
  unfold QcM.v at cQ
  obtain ⟨w1, hw1⟩ : ∃ q', (w.alloc (.cells [.int .i64 v, .int .i64 q.view, .string q.block, .slice q.va q.votes.length q.vc, .slice ca l.length cc].toArray 27)).alloc (.cells [.int .i64 0, .int .i64 0, .string ⟨#[]⟩, .slice none 0 0, .slice none 0 0].toArray 27) = q' := ⟨_, rfl⟩
  have hs1 : w.heap.size + 2 ≤ w1.heap.size := by rw [← hw1, alloc_size, alloc_size]; omega
  rw [hw1] at hX hZ hB hA1 hq1 hc1 cQ
  have n1 : l.length ≤ maxLen := by unfold maxLen; omega
  have n2 : l.length * 16 ≤ 140737488355328 := by omega
  have x1 := hX.cell (i := 1) rfl
  have x2 := hX.cell (i := 2) rfl
  have x3 := hX.cell (i := 3) rfl
  unfold BlkM.v
  simp only
  clear hA hv hc hA1 hq1
  go_enter Tryd.func10, Tryd.ntmps10
  go_wp2_with fail
  refine cQ.mono ?_
  rintro e w2 ⟨y, rfl, hyd, hy, hyf, hb2⟩
  unfold QcM.v
  have hX2 := hX.below hb2 hX.lt
  have hZ2 := hZ.below hb2 hZ.lt
  have hc2 := hc1.below hb2
  have hB2 := hB.trans (hb2.mono hB.size)
  have hs2 := hb2.size
  have hyl : ∀ g, y.foot g → w.heap.size + 2 ≤ g := fun g hg => by have := hyf g hg; omega
  clear cQ hX hZ hc1 hB hb2 x1 x2 x3 hyf hw1
  have x1 := hX2.cell (i := 1) rfl
  have x2 := hX2.cell (i := 2) rfl
  have x3 := hX2.cell (i := 3) rfl
  have x4 := hX2.cell (i := 4) rfl
  have f1 := hX2.frozen 1
  have f2 := hX2.frozen 2
  have f3 := hX2.frozen 3
  have hX3 := ((hX2.set 1 (.int .i64 y.view)).set 2 (.string y.block)).set 3 (.slice y.va y.votes.length y.vc)
  have k3 := (((Kept.refl (fun k => k = w.heap.size) w2).set (p := ⟨w.heap.size, 1, none⟩) rfl (.int .i64 y.view)).set (p := ⟨w.heap.size, 2, none⟩) rfl (.string y.block)).set (p := ⟨w.heap.size, 3, none⟩) rfl (.slice y.va y.votes.length y.vc)
  have hZ3 := hZ2.kept k3 (by omega)
  have hc3 := hc2.kept k3 (fun g hg e => by have := hcl g hg; have e' : g = w.heap.size := e; omega)
  have hy3 := Kind.kept qcK hy k3 (fun g hg e => by have := hyl g hg; have e' : g = w.heap.size := e; omega)
  have hB3 := ((hB2.setCell (p := ⟨w.heap.size, 1, none⟩) (Nat.le_refl _) (.int .i64 y.view)).setCell (p := ⟨w.heap.size, 2, none⟩) (Nat.le_refl _) (.string y.block)).setCell (p := ⟨w.heap.size, 3, none⟩) (Nat.le_refl _) (.slice y.va y.votes.length y.vc)
  have hs3 := k3.size
  obtain ⟨w3, hw3⟩ : ∃ q', ((w2.setCell ⟨w.heap.size, 1, none⟩ (.int .i64 y.view)).setCell ⟨w.heap.size, 2, none⟩ (.string y.block)).setCell ⟨w.heap.size, 3, none⟩ (.slice y.va y.votes.length y.vc) = q' := ⟨_, rfl⟩
  rw [hw3] at hX3 hZ3 hc3 hy3 hB3 hs3
  replace hX3 : Arr w3 w.heap.size 27 [.int .i64 v, .int .i64 y.view, .string y.block, .slice y.va y.votes.length y.vc, .slice ca l.length cc] := hX3
  have hbe := belowNew w3 (.cells #[] 9)
  have hoE := own_empty w3 9 strK.n
  have hX4 := hX3.below hbe hX3.lt
  have hc4 := hc3.below hbe
  have hbs := hbe.size
  have q4 := hX4.cell (i := 4) rfl
  clear hX2 hZ2 hc2 hB2 k3 hy
  go_wp2_with (at_builtin; refine wpList_copy (K := strK) rfl _ _ 25 rfl w3.heap.size 9 i1 _ 16 Tryd.underlying25 hi hz0 hz1 hz2 rfl _ rfl hoE ca cc l rfl hc4 (fun _ _ _ h => h.elim) hnc n1 n2 hbs ?_)
  intro ao5 cap5 w5 hR5 hn5 hf5 hb5
  clear x1 x2 x3 x4 f1 f2 f3 q4
  have hB5 : Below w3.heap.size w3 w5 := hbe.trans hb5
  have hX5 := hX3.below hB5 hX3.lt
  have hZ5 := hZ3.below hB5 hZ3.lt
  have hy5 := hy3.below hB5
  have hBw5 := hB3.trans (hB5.mono hB3.size)
  have hfl : ∀ g, rowFoot strK ao5 l g → w.heap.size + 2 ≤ g := fun g hg => by
    rcases hg with ⟨hne, off, e⟩ | ⟨_, _, h⟩
    · have := hf5 hne g off e
      omega
    · exact h.elim
  have x4 := hX5.cell (i := 4) rfl
  have f4 := hX5.frozen 4
  have hX6 := hX5.set 4 (.slice ao5 l.length cap5)
  have hZ6 := hZ5.other (p := ⟨w.heap.size, 4, none⟩) (by show w.heap.size + 1 ≠ w.heap.size; omega) (.slice ao5 l.length cap5)
  have k6 := Kept.setCell w5 ⟨w.heap.size, 4, none⟩ (.slice ao5 l.length cap5)
  have hR6 := hR5.kept k6 (fun g hg e => by have := hfl g hg; have e' : g = w.heap.size := e; omega)
  have hy6 := Kind.kept qcK hy5 k6 (fun g hg e => by have := hyl g hg; have e' : g = w.heap.size := e; omega)
  have hB6 := hBw5.setCell (p := ⟨w.heap.size, 4, none⟩) (Nat.le_refl _) (.slice ao5 l.length cap5)
  obtain ⟨w6, hw6⟩ : ∃ q', w5.setCell ⟨w.heap.size, 4, none⟩ (.slice ao5 l.length cap5) = q' := ⟨_, rfl⟩
  rw [hw6] at hX6 hZ6 hR6 hy6 hB6
  replace hX6 : Arr w6 w.heap.size 27 [.int .i64 v, .int .i64 y.view, .string y.block, .slice y.va y.votes.length y.vc, .slice ao5 l.length cap5] := hX6
  have y0 := hX6.cell (i := 0) rfl
  have y1 := hX6.cell (i := 1) rfl
  have y2 := hX6.cell (i := 2) rfl
  have y3 := hX6.cell (i := 3) rfl
  have y4 := hX6.cell (i := 4) rfl
  have z0 := hZ6.cell (i := 0) rfl
  have z1 := hZ6.cell (i := 1) rfl
  have z2 := hZ6.cell (i := 2) rfl
  have z3 := hZ6.cell (i := 3) rfl
  have z4 := hZ6.cell (i := 4) rfl
  have g0 := hZ6.frozen 0
  have g1 := hZ6.frozen 1
  have g2 := hZ6.frozen 2
  have g3 := hZ6.frozen 3
  have g4 := hZ6.frozen 4
  have hZF := hZ6.set5 (.int .i64 v) (.int .i64 y.view) (.string y.block) (.slice y.va y.votes.length y.vc) (.slice ao5 l.length cap5)
  have kF := kept_set5 w6 (w.heap.size + 1) (.int .i64 v) (.int .i64 y.view) (.string y.block) (.slice y.va y.votes.length y.vc) (.slice ao5 l.length cap5)
  have hRF := hR6.kept kF (fun g hg e => by have := hfl g hg; have e' : g = w.heap.size + 1 := e; omega)
  have hyF := Kind.kept qcK hy6 kF (fun g hg e => by have := hyl g hg; have e' : g = w.heap.size + 1 := e; omega)
  have hBF := below_set5 hB6 (g := w.heap.size + 1) (Nat.le_succ _) (.int .i64 v) (.int .i64 y.view) (.string y.block) (.slice y.va y.votes.length y.vc) (.slice ao5 l.length cap5)
  have fin : ∀ e, e = .returned (BlkM.v ⟨v, y, ao5, l, cap5⟩) → GotOwnB w ⟨v, q, ca, l, cc⟩ e _ := fun e he => ⟨⟨v, y, ao5, l, cap5⟩, he, (by show (⟨v, y.d, l⟩ : BlkD) = ⟨v, q.d, l⟩; rw [hyd]), ⟨hyF, hRF, hn5⟩, (fun g hg => hg.elim (fun h => by have := hyl g h; omega) (fun h => by have := hfl g h; omega)), hBF⟩
  unfold set5 at hZF fin
  clear hX3 hZ3 hc3 hy3 hB3 hbe hoE hX4 hc4 hR5 hb5 hB5 hX5 hZ5 hy5 hBw5 hfl hX6 hZ6 hR6 hy6 hB6 kF hRF hyF hBF hf5 k6 hw3
  go_wp2
  refine bodyPost_ret (v := BlkM.v ⟨v, y, ao5, l, cap5⟩) (results_blkO rfl _ _ (w.heap.size + 1) ⟨v, y, ao5, l, cap5⟩ rfl hZF) rfl ?_
  exact fin _ rfl
end Go.Proofs.YtoodapbmpbaogaaDoor

/- What tusklaw08.Great does: it answers yes or no; nothing old in memory is turned. -/
namespace Go.Proofs.YtoodapbmpbaogaaDoor
open Go.RowKit
set_option linter.unusedVariables false

/-- Yes or no. -/
def YesNo (e : Ending) : Prop := ∃ g : Bool, e = .returned (.bool g)

set_option maxRecDepth 100000 in
set_option maxHeartbeats 2000000 in
theorem greatBlk_any (x : BlkM) (w : World) (hA : x.At w) (hc : x.certs.length ≤ maxLen) :
    Calls Tryd.prog 9 #[x.v] w fun e w' => YesNo e ∧ Below w.heap.size w w' := by
  obtain ⟨v, q, ca, l, cc⟩ := x
  have hX := Arr.new w 27 [.int .i64 v, .int .i64 q.view, .string q.block, .slice q.va q.votes.length q.vc, .slice ca l.length cc]
  have hB := belowNew w (.cells #[.int .i64 v, .int .i64 q.view, .string q.block, .slice q.va q.votes.length q.vc, .slice ca l.length cc] 27)
  have hR : RowAt strK _ ca l := (hA.below hB).certs
  have hc' : l.length ≤ maxLen := hc
  unfold maxLen at hc'
  unfold BlkM.v
  simp only
  have x2 := hX.cell (i := 2) rfl
  have x3 := hX.cell (i := 3) rfl
  have x4 := hX.cell (i := 4) rfl
  clear hA hc
  go_enter Tryd.func9, Tryd.ntmps9
  go_wp2
  obtain ⟨w1, hw1⟩ : ∃ q', w.alloc (.cells #[.int .i64 v, .int .i64 q.view, .string q.block, .slice q.va q.votes.length q.vc, .slice ca l.length cc] 27) = q' := ⟨_, rfl⟩
  rw [hw1] at hX hB hR x2 x3 x4 ⊢
  go_loopw [3, 4] (fun v3 v4 wr => ∃ (k : Nat) (z : Int), k ≤ l.length ∧ v4 = .int .i64 (k : Int) ∧ v3 = .int .i64 z ∧ wr = w1) (fun _ v _ => l.length - (intOf v).toNat)
  case atStart => exact ⟨0, _, Nat.zero_le _, rfl, rfl, rfl⟩
  case round =>
    obtain ⟨k, z, hk, rfl, rfl, rfl⟩ := hrel
    by_cases hlt : k < l.length
    · obtain ⟨m, hm⟩ : ∃ m, l[k]? = some m := ⟨l[k], List.getElem?_eq_getElem hlt⟩
      obtain ⟨b, off, rfl, hbl, hcc⟩ := hR.cell k m hm
      have c0 := hcc 0 (.string m) rfl
      have e0 : off + k * strK.n + 0 = off + k := by show off + k * 1 + 0 = _; omega
      rw [e0] at c0
      clear hcc hm e0
      go_wp2
      go_roundw
      case rel => exact ⟨k + 1, _, by omega, by go_num, rfl, trivial⟩
      case measure => simp [intOf]; omega
    · go_wp2
      go_ret
      exact ⟨⟨_, rfl⟩, hB⟩
end Go.Proofs.YtoodapbmpbaogaaDoor

/- How a block that came in is opened; its sizes; its bulk. -/
namespace Go.Proofs.YtoodapbmpbaogaaDoor
open Go.ChangeShapes Go.WideShapes Go.ChangeAt Go.RowKit Go.Joins Go.Deep
set_option linter.unusedVariables false

theorem list3x {α : Type} {l : List α} (h : l.length = 3) : ∃ c0 c1 c2, l = [c0, c1, c2] := by
  match l, h with
  | [c0, c1, c2], _ => exact ⟨c0, c1, c2, rfl⟩

theorem list5y {α : Type} {l : List α} (h : l.length = 5) : ∃ c0 c1 c2 c3 c4, l = [c0, c1, c2, c3, c4] := by
  match l, h with
  | [c0, c1, c2, c3, c4], _ => exact ⟨c0, c1, c2, c3, c4, rfl⟩

theorem cellsQc8 : Tryd.prog.cellsOf 24 = 3 := by kernel_rfl
theorem cellsBlk8 : Tryd.prog.cellsOf 27 = 5 := by kernel_rfl

/-- How a Qc reads. -/
def QcQ {H : Type} (d : DataW H) (x : QcM) : Prop := ∃ y0 y1 y2, d = .agg [y0, y1, y2] ∧ StrQ y1 x.block ∧ RowD TagQ y2 x.votes

/-- How a block reads. -/
def BlkQ {H : Type} (d : DataW H) (x : BlkM) : Prop := ∃ y0 y1 y2, d = .agg [y0, y1, y2] ∧ QcQ y1 x.qc ∧ RowD StrQ y2 x.certs

/-- A row's length is within its capacity. -/
theorem row_cap {H : Type} {enc : TypeId × Value → H} {W : World} {T E : TypeId} (hT : Tryd.prog.underlying T = some (.slice E))
    {fuel : Nat} {a : Option Addr} {len cap : Nat} {y : DataW H × List MemPlace} (hf : DataW.trod enc Tryd.prog W 0 (fun _ => true) true fuel T [.slice a len cap] = some y) : len ≤ cap := by
  rcases open_slice hT hf with ⟨hcs, hx⟩ | ⟨x, l, c, m, n, D, Pl, hcs, _, hl, hm, hmm, hx, hc⟩
  · simp at hcs
    omega
  · simp at hcs
    omega

set_option maxRecDepth 100000 in
theorem open_qc_cells {H : Type} {enc : TypeId × Value → H} {W : World} {fuel : Nat} {cs : List Value} {y : DataW H × List MemPlace}
    (hf : DataW.trod enc Tryd.prog W 0 (fun _ => true) true fuel 24 cs = some y) : ∃ x : QcM, cs = qcK.c x ∧ qcK.At W x ∧ QcQ y.1 x := by
  obtain ⟨xs, n, _, hx, hcl, hl, hg⟩ := DataW.trod_struct Tryd.underlying24 hf
  obtain ⟨c0, c1, c2, rfl⟩ := list3x (hcl.trans cellsQc8)
  obtain ⟨y0, y1, y2, rfl⟩ := list3x hl
  have g0 := hg 0 _ rfl
  have g1 := hg 1 _ rfl
  have g2 := hg 2 _ rfl
  simp [cellsInt6, cellsStr6, cellsTags6] at g0 g1 g2
  obtain ⟨a0, e0, _, _⟩ := DataW.trod_int Tryd.underlying3 g0
  obtain ⟨a1, e1, hy1, s1⟩ := DataW.trod_string Tryd.underlying9 g1
  obtain ⟨va, vlen, vc, e2⟩ := slice_form Tryd.underlying22 g2
  simp at e0 e1 e2
  subst e0 e1 e2
  obtain ⟨l, rfl, l1, l2, l3, l4⟩ := open_tagsK g2
  refine ⟨⟨a0, a1, va, l, vc⟩, rfl, ⟨l1, l2⟩, y0.1, y1.1, y2.1, ?_, ⟨by rw [hy1], s1⟩, l4⟩
  have := congrArg Prod.fst hx
  simpa using this

set_option maxRecDepth 100000 in
theorem open_blk_cells {H : Type} {enc : TypeId × Value → H} {W : World} {fuel : Nat} {cs : List Value} {y : DataW H × List MemPlace}
    (hf : DataW.trod enc Tryd.prog W 0 (fun _ => true) true fuel 27 cs = some y) : ∃ x : BlkM, cs = blkK.c x ∧ blkK.At W x ∧ BlkQ y.1 x ∧ x.certs.length ≤ x.cc := by
  obtain ⟨xs, n, _, hx, hcl, hl, hg⟩ := DataW.trod_struct Tryd.underlying27 hf
  obtain ⟨c0, c1, c2, c3, c4, rfl⟩ := list5y (hcl.trans cellsBlk8)
  obtain ⟨y0, y1, y2, rfl⟩ := list3x hl
  have g0 := hg 0 _ rfl
  have g1 := hg 1 _ rfl
  have g2 := hg 2 _ rfl
  simp [cellsInt6, cellsQc8, cellsStrs6] at g0 g1 g2
  obtain ⟨a0, e0, _, _⟩ := DataW.trod_int Tryd.underlying3 g0
  obtain ⟨q, e1, hat, hq⟩ := open_qc_cells g1
  obtain ⟨ca, clen, cc, e2⟩ := slice_form Tryd.underlying25 g2
  have e1' : [c1, c2, c3] = [.int .i64 q.view, .string q.block, .slice q.va q.votes.length q.vc] := e1
  simp at e0 e1' e2
  obtain ⟨rfl, rfl, rfl⟩ := e1'
  subst e0 e2
  have hcap := row_cap Tryd.underlying25 g2
  obtain ⟨l, rfl, l1, l2, l3, l4⟩ := open_row strK StrQ Tryd.underlying25 cellsStr6 open_str_cells g2
  refine ⟨⟨a0, q, ca, l, cc⟩, rfl, ⟨hat, l1, l2⟩, ⟨y0.1, y1.1, y2.1, ?_, hq, l4⟩, hcap⟩
  have := congrArg Prod.fst hx
  simpa using this

set_option maxRecDepth 100000 in
theorem open_blk {H : Type} {enc : TypeId × Value → H} {W : World} {r : Reach} {b0 : Nat} {v : Value} {d : DataW H} {p : List MemPlace} (hv : Value.okWide Tryd.prog W r b0 27 v)
    (h : DataW.Trod enc Tryd.prog W 0 (fun _ => true) true 27 v d p) : ∃ x : BlkM, v = x.v ∧ x.At W ∧ BlkQ d x ∧ x.certs.length ≤ x.cc := by
  obtain ⟨cs, rfl, hsz⟩ := okWide_struct Tryd.underlying27 hv
  obtain ⟨fuel, hf⟩ := h
  have hc : (Value.agg cs).cells.toList = cs.toList := by simp [Value.cells]
  obtain ⟨x, e, hx, hq⟩ := open_blk_cells hf
  refine ⟨x, ?_, hx, hq⟩
  have e' : cs.toList = x.c := by rw [← hc]; exact e
  have : cs = x.c.toArray := by rw [← e']
  rw [this]
  rfl

/-- A block's lists, in sizes that a machine holds. -/
structure BlkM.Lens (x : BlkM) : Prop where
  votes : x.qc.votes.length * 24 ≤ 140737488351232
  certs : x.certs.length * 16 ≤ 140737488351232
  blk : x.qc.block.size ≤ 140737488351232

set_option maxRecDepth 100000 in
theorem qc_fit {H : Type} {d : DataW H} {x : QcM} (h : QcQ d x) (hw : ∀ n ∈ d.weights Tryd.prog 24, n ≤ reachBytes) : x.votes.length * 24 ≤ 140737488351232 ∧ x.block.size ≤ 140737488351232 := by
  obtain ⟨y0, y1, y2, rfl, h1, h2⟩ := h
  have f2 := (h2.fit Tryd.underlying22 (fun n hn => hw n (by
    rw [DataW.weights, Tryd.underlying24]
    exact DataW.weights_mem_each (ts := [3, 9, 22]) (j := 2) rfl rfl n hn))).1
  have f1 := h1.fit (t := 9) (fun n hn => hw n (by
    rw [DataW.weights, Tryd.underlying24]
    exact DataW.weights_mem_each (ts := [3, 9, 22]) (j := 1) rfl rfl n hn))
  rw [bytesTag6] at f2
  exact ⟨by simpa [reachBytes] using f2, f1⟩

set_option maxRecDepth 100000 in
theorem blk_fit {H : Type} {d : DataW H} {x : BlkM} (h : BlkQ d x) (hw : ∀ n ∈ d.weights Tryd.prog 27, n ≤ reachBytes) : x.Lens := by
  obtain ⟨y0, y1, y2, rfl, h1, h2⟩ := h
  obtain ⟨f1, f2⟩ := qc_fit h1 (fun n hn => hw n (by
    rw [DataW.weights, Tryd.underlying27]
    exact DataW.weights_mem_each (ts := [3, 24, 25]) (j := 1) rfl rfl n hn))
  have g1 := (h2.fit Tryd.underlying25 (fun n hn => hw n (by
    rw [DataW.weights, Tryd.underlying27]
    exact DataW.weights_mem_each (ts := [3, 24, 25]) (j := 2) rfl rfl n hn))).1
  rw [bytesStr6] at g1
  exact ⟨f1, by simpa [reachBytes] using g1, f2⟩

/-- A block that came in: in sizes that a machine holds. -/
theorem blk_sized {H : Type} {ts : List TypeId} {ds : List (DataW H)} (h : (DataW.weightsEach Tryd.prog ts ds).all (· ≤ reachBytes) = true) {j : Nat} {d : DataW H} {x : BlkM} (ht : ts[j]? = some 27) (hd : ds[j]? = some d) (hs : BlkQ d x) : x.Lens := blk_fit hs (weights_of h ht hd)

/-- What the bound of the second form gives of a block. -/
theorem blk_bulk {H : Type} {d : DataW H} {x : BlkM} (h : BlkQ d x) (hk : Rows.uptoBulk d ≤ 1048576) : x.Lens ∧ x.Enc ∧ (encK x.d).length ≤ 1073741824 := by
  obtain ⟨y0, y1, y2, rfl, ⟨q0, q1, q2, rfl, h1, h2⟩, h3⟩ := h
  have p1 := h1.bulk
  have p2 := h2.bulk tagQ_bulk
  have p3 := h3.bulk StrQ.bulk
  simp only [Rows.uptoBulk, Rows.uptoBulkAll] at hk
  have b2 : tagsBulk x.qc.votes ≤ 1048576 := by unfold tagsBulk; omega
  have b3 : strsBulk x.certs ≤ 1048576 := by unfold strsBulk; omega
  have l2 := tagsBulk_len x.qc.votes
  have l3 := strsBulk_length x.certs
  have m2 := tagsB_len_le x.qc.votes
  have m3 := lst_bulk x.certs
  have g0 := goInt_length x.view
  have g1 := goInt_length x.qc.view
  have t1 := txt_len_le x.qc.block.data.toList
  have t2 : x.qc.block.data.toList.length = x.qc.block.size := by simp
  have t3 := txt_len_le (encQ x.qc.d)
  have eq : (encQ x.qc.d).length = (goInt x.qc.view).length + (txt x.qc.block.data.toList).length + (tagsB x.qc.votes).length := by
    show (goInt x.qc.view ++ txt x.qc.block.data.toList ++ tagsB x.qc.votes).length = _
    simp only [List.length_append]
  have ek : (encK x.d).length = (goInt x.view).length + (txt (encQ x.qc.d)).length + (lst (bl x.certs)).length := by
    show (goInt x.view ++ txt (encQ x.qc.d) ++ lst (bl x.certs)).length = _
    simp only [List.length_append]
  exact ⟨⟨by omega, by omega, by omega⟩, ⟨⟨by omega, by omega, fun t ht => by have := tagsBulk_mem ht; omega, by omega⟩, by omega, by omega⟩, by omega⟩
end Go.Proofs.YtoodapbmpbaogaaDoor

/- tusklaw08.BlockChecks answers true; nothing old in memory is turned. -/
namespace Go.Proofs.YtoodapbmpbaogaaDoor
open Go.RowKit Go.Sort
set_option linter.unusedVariables false

theorem enc_sameB {x y : BlkM} (h : y.d = x.d) (hf : x.Enc) : y.Enc := by
  have hq : y.qc.d = x.qc.d := congrArg BlkD.qc h
  have h1 : y.qc.block = x.qc.block := congrArg QcD.block hq
  have h2 : y.qc.votes = x.qc.votes := congrArg QcD.votes hq
  have h3 : y.certs = x.certs := congrArg BlkD.certs h
  exact ⟨⟨by rw [h1]; exact hf.qc.blk, by rw [h2]; exact hf.qc.few, by rw [h2]; exact hf.qc.mac, by rw [h2]; exact hf.qc.len⟩, by rw [h3]; exact hf.few, by rw [h3]; exact hf.len⟩

set_option maxRecDepth 100000 in
set_option maxHeartbeats 4000000 in
theorem blockChecks_walk (f : Int) (x : BlkM) (w : World) (hwf : (Lit.int .i64 f).wf = true) (hA : x.At w) (hcc : x.certs.length ≤ x.cc) (hL : x.Lens) (hf : x.Enc) (hl : (encK x.d).length ≤ 1073741824) (hG : Mx.Glob w) :
    Calls Tryd.prog 3 #[.int .i64 f, x.v] w fun e w' => e = .returned (.bool true) ∧ Below w.heap.size w w' := by
  have hX : Arr _ w.heap.size 27 [.int .i64 x.view, .int .i64 x.qc.view, .string x.qc.block, .slice x.qc.va x.qc.votes.length x.qc.vc, .slice x.ca x.certs.length x.cc] := Arr.new w 27 x.c
  have hB := belowNew w (.cells x.c.toArray 27)
  have cB := both_any f _ (hG.below hB)
  have hvM : x.qc.votes.length ≤ maxLen := by have := hL.votes; unfold maxLen; omega
  have hcM : x.certs.length ≤ maxLen := by have := hL.certs; unfold maxLen; omega
  have cG := fun w1 h => greatBlk_any x w1 h hcM
  have cO := fun w1 h => ownBlk_any x w1 h hL.votes hL.certs
  unfold BlkM.v at cO cG ⊢
  unfold BlkM.c at hX hB cB
  go_enter Tryd.func3, Tryd.ntmps3
  go_wp2_with fail
  refine cB.mono ?_
  rintro e w2 ⟨n, tb, rb, n2, n1, rfl, hT2, hR2, hb2⟩
  have hX2 := hX.below hb2 hX.lt
  have hB2 := hB.trans (hb2.mono hB.size)
  have hk32 : ∀ k ∈ Mx.keysL seedW (3 * n + 1), k.size ≤ 32 := Mx.keysL_size _ _
  have hkl : Hid ((Mx.keysL seedW (3 * n + 1)).length = 3 * n + 1) := Mx.keysL_len _ _
  generalize Mx.keysL seedW (3 * n + 1) = ks at *
  clear hX hB hb2 cB
  have x0 := hX2.cell (i := 0) rfl
  have x1 := hX2.cell (i := 1) rfl
  have x2 := hX2.cell (i := 2) rfl
  have x3 := hX2.cell (i := 3) rfl
  have x4 := hX2.cell (i := 4) rfl
  go_wp2_with fail
  refine (cG _ (hA.below hB2)).mono ?_
  rintro e w3 ⟨⟨g, rfl⟩, hb3⟩
  have hX3 := hX2.below hb3 hX2.lt
  have hT3 := hT2.below hb3
  have hR3 := hR2.below hb3
  have hB3 := hB2.trans (hb3.mono hB2.size)
  clear hX2 hB2 hb3 cG x0 x1 x2 x3 x4 hT2 hR2
  cases g with
  | true =>
    go_wp2
    go_ret
    exact ⟨rfl, hB3⟩
  | false =>
  have x0 := hX3.cell (i := 0) rfl
  have x1 := hX3.cell (i := 1) rfl
  have x2 := hX3.cell (i := 2) rfl
  have x3 := hX3.cell (i := 3) rfl
  have x4 := hX3.cell (i := 4) rfl
  go_wp2_with fail
  refine (cO _ (hA.below hB3)).mono ?_
  rintro e w4 ⟨y, rfl, hyd, hy, hyf, hb4⟩
  unfold BlkM.v
  have hX4 := hX3.below hb4 hX3.lt
  have hT4 := hT3.below hb4
  have hR4 := hR3.below hb4
  have hB4 := hB3.trans (hb4.mono hB3.size)
  have hbx := belowNew w4 (.cells y.c.toArray 27)
  have hY5 : Arr _ w4.heap.size 27 [.int .i64 y.view, .int .i64 y.qc.view, .string y.qc.block, .slice y.qc.va y.qc.votes.length y.qc.vc, .slice y.ca y.certs.length y.cc] := Arr.new w4 27 y.c
  have hX5 := hX4.below hbx hX4.lt
  have hT5 := hT4.below hbx
  have hR5 := hR4.below hbx
  have hB5 := hB4.trans (hbx.mono hB4.size)
  have hy5 := hy.below hbx
  have hx5 := hA.below hB5
  have hG5 := hG.below hB5
  unfold BlkM.c at hY5 hX5 hT5 hR5 hB5 hy5 hx5 hG5
  clear hX3 hT3 hR3 hB3 hb4 cO x0 x1 x2 x3 x4 hyf hX4 hT4 hR4 hB4 hbx hy hA hG
  obtain ⟨w5, hw5⟩ : ∃ q, w4.alloc (.cells [.int .i64 y.view, .int .i64 y.qc.view, .string y.qc.block, .slice y.qc.va y.qc.votes.length y.qc.vc, .slice y.ca y.certs.length y.cc].toArray 27) = q := ⟨_, rfl⟩
  rw [hw5] at hY5 hX5 hT5 hR5 hB5 hy5 hx5 hG5
  have hyq : y.qc.d = x.qc.d := congrArg BlkD.qc hyd
  have hyv : y.qc.votes = x.qc.votes := congrArg QcD.votes hyq
  have hyc : y.certs = x.certs := congrArg BlkD.certs hyd
  have hfy : y.Enc := enc_sameB hyd hf
  have hl2 : (encK x.d).length ≤ 140737488351232 := by omega
  have hyvM : y.qc.votes.length ≤ maxLen := by rw [hyv]; exact hvM
  have hycM : y.certs.length ≤ maxLen := by rw [hyc]; exact hcM
  have hyv4 : y.qc.votes.length ≤ 4611686018427387903 := by have := hfy.qc.few; omega
  have hyc4 : y.certs.length ≤ 4611686018427387903 := by have := hfy.few; omega
  have bl := fun d os => below_regrown w5 d os
  obtain ⟨er, her⟩ : ∃ q, Hid (q = chkK ks n x.d) := ⟨_, rfl⟩
  obtain ⟨eq, heq⟩ : ∃ q, Hid (q = chkQ ks n x.qc.d) := ⟨_, rfl⟩
  obtain ⟨eb, heb⟩ : ∃ q, Hid (q = (⟨(encK x.d).toArray⟩ : ByteArray)) := ⟨_, rfl⟩
  obtain ⟨qb, hqb⟩ : ∃ q, Hid (q = (⟨(encQ x.qc.d).toArray⟩ : ByteArray)) := ⟨_, rfl⟩
  obtain ⟨ib, hib⟩ : ∃ q, Hid (q = idK x.d) := ⟨_, rfl⟩
  have k1 : ∀ d os, Calls Tryd.prog 11 #[.pointer (some ⟨tb, 0, none⟩), y.v] (grow (redrawn w5 d) os) fun e w'' => e = .returned (.int .i64 (er : Int)) ∧ ∃ p : Regrown, w'' = grow (redrawn w5 p.d) p.os := fun d os => Calls.regrown_of (by
    rw [her.out, ← hyd]
    exact blkCheck_any tb n ks y _ (hT5.below (bl d os)) n2 hk32 (hy5.below (bl d os)) hyvM hycM (hG5.below (bl d os)))
  have k2 : ∀ d os, Calls Tryd.prog 12 #[.pointer (some ⟨rb, 0, none⟩), x.v] (grow (redrawn w5 d) os) fun e w'' => e = .returned (.int .i64 (er : Int)) ∧ ∃ p : Regrown, w'' = grow (redrawn w5 p.d) p.os := fun d os => Calls.regrown_of (by
    rw [her.out]
    exact refBlkCheck_any rb n ks x _ (hR5.below (bl d os)) n2 hkl.out hk32 (hx5.below (bl d os)) hvM hcc (hG5.below (bl d os)))
  have k3 : ∀ d os, Calls Tryd.prog 13 #[.pointer (some ⟨tb, 0, none⟩), y.qc.v] (grow (redrawn w5 d) os) fun e w'' => e = .returned (.int .i64 (eq : Int)) ∧ ∃ p : Regrown, w'' = grow (redrawn w5 p.d) p.os := fun d os => Calls.regrown_of (by
    rw [heq.out, ← hyq]
    exact checkQc_any tb n ks y.qc _ (hT5.below (bl d os)) n2 hk32 (hy5.below (bl d os)).qc hyvM (hG5.below (bl d os)))
  have k4 : ∀ d os, Calls Tryd.prog 14 #[.pointer (some ⟨rb, 0, none⟩), x.qc.v] (grow (redrawn w5 d) os) fun e w'' => e = .returned (.int .i64 (eq : Int)) ∧ ∃ p : Regrown, w'' = grow (redrawn w5 p.d) p.os := fun d os => Calls.regrown_of (by
    rw [heq.out]
    exact refCheckQc_any rb n ks x.qc _ (hR5.below (bl d os)) n2 hkl.out hk32 (hx5.below (bl d os)).qc hvM (hG5.below (bl d os)))
  have k5 : ∀ d os, Calls Tryd.prog 15 #[y.v] (grow (redrawn w5 d) os) fun e w'' => e = .returned (.string eb) ∧ ∃ p : Regrown, w'' = grow (redrawn w5 p.d) p.os := fun d os => Calls.regrown_of (by
    rw [heb.out, ← hyd]
    exact blkEncode_any y _ (hy5.below (bl d os)) hfy)
  have k6 : ∀ d os, Calls Tryd.prog 16 #[x.v] (grow (redrawn w5 d) os) fun e w'' => e = .returned (.string eb) ∧ ∃ p : Regrown, w'' = grow (redrawn w5 p.d) p.os := fun d os => Calls.regrown_of (by
    rw [heb.out]
    exact refBlkEncode_any x _ (hx5.below (bl d os)) hf)
  have k7 : ∀ d os, Calls Tryd.prog 17 #[y.qc.v] (grow (redrawn w5 d) os) fun e w'' => e = .returned (.string qb) ∧ ∃ p : Regrown, w'' = grow (redrawn w5 p.d) p.os := fun d os => Calls.regrown_of (by
    rw [hqb.out, ← hyq]
    exact encodeQc_any y.qc _ (hy5.below (bl d os)).qc hfy.qc)
  have k8 : ∀ d os, Calls Tryd.prog 18 #[x.qc.v] (grow (redrawn w5 d) os) fun e w'' => e = .returned (.string qb) ∧ ∃ p : Regrown, w'' = grow (redrawn w5 p.d) p.os := fun d os => Calls.regrown_of (by
    rw [hqb.out]
    exact refEncodeQc_any x.qc _ (hx5.below (bl d os)).qc hf.qc)
  have k9 : ∀ d os, Calls Tryd.prog 19 #[y.v] (grow (redrawn w5 d) os) fun e w'' => e = .returned (.string ib) ∧ ∃ p : Regrown, w'' = grow (redrawn w5 p.d) p.os := fun d os => Calls.regrown_of (by
    rw [hib.out, ← hyd]
    exact blkId_any y _ (hy5.below (bl d os)) hfy (by rw [hyd]; exact hl2) (hG5.below (bl d os)))
  have k10 : ∀ d os, Calls Tryd.prog 20 #[x.v] (grow (redrawn w5 d) os) fun e w'' => e = .returned (.string ib) ∧ ∃ p : Regrown, w'' = grow (redrawn w5 p.d) p.os := fun d os => Calls.regrown_of (by
    rw [hib.out]
    exact refBlkId_any x _ (hx5.below (bl d os)) hf hl)
  have k11 : ∀ d os, Calls Tryd.prog 21 #[y.v, x.v] (grow (redrawn w5 d) os) fun e w'' => e = .returned (.bool true) ∧ ∃ p : Regrown, w'' = grow (redrawn w5 p.d) p.os := fun d os => Calls.regrown_of (by
    exact sameK_any y x _ (hy5.below (bl d os)) (hx5.below (bl d os)) hyd hyv4 hyc4)
  unfold BlkM.v at k1 k2 k5 k6 k9 k10 k11
  unfold QcM.v at k3 k4 k7 k8
  have A0 := cell_regrown (hX5.cell (i := 0) rfl)
  have A1 := cell_regrown (hX5.cell (i := 1) rfl)
  have A2 := cell_regrown (hX5.cell (i := 2) rfl)
  have A3 := cell_regrown (hX5.cell (i := 3) rfl)
  have A4 := cell_regrown (hX5.cell (i := 4) rfl)
  have B0 := cell_regrown (hY5.cell (i := 0) rfl)
  have B1 := cell_regrown (hY5.cell (i := 1) rfl)
  have B2 := cell_regrown (hY5.cell (i := 2) rfl)
  have B3 := cell_regrown (hY5.cell (i := 3) rfl)
  have B4 := cell_regrown (hY5.cell (i := 4) rfl)
  have HBF : Hid (∀ d os, Below w.heap.size w (grow (redrawn w5 d) os)) := fun d os => hB5.trans ((bl d os).mono hB5.size)
  clear hY5 hX5 hT5 hR5 hB5 hy5 hx5 hG5 hyd hfy hl2 hyq hyv hyc hyvM hycM hyv4 hyc4 bl hf hl hL hk32 hvM hcM hcc
  go_wp2_with fail
  refine wp_region_quiet_below (by kernel_rfl) (by kernel_rfl) ?_
  iterate 2 (go_big_quiet_step (fail))
  go_big_quiet_step (exact k1 _ _)
  iterate 2 (go_big_quiet_step (fail))
  go_big_quiet_step (exact k2 _ _)
  iterate 5 (go_big_quiet_step (fail))
  go_big_quiet_step (exact k3 _ _)
  iterate 3 (go_big_quiet_step (fail))
  go_big_quiet_step (exact k4 _ _)
  iterate 4 (go_big_quiet_step (fail))
  go_big_quiet_step (exact k5 _ _)
  iterate 1 (go_big_quiet_step (fail))
  go_big_quiet_step (exact k6 _ _)
  iterate 5 (go_big_quiet_step (fail))
  go_big_quiet_step (exact k7 _ _)
  iterate 2 (go_big_quiet_step (fail))
  go_big_quiet_step (exact k8 _ _)
  iterate 4 (go_big_quiet_step (fail))
  go_big_quiet_step (exact k9 _ _)
  iterate 1 (go_big_quiet_step (fail))
  go_big_quiet_step (exact k10 _ _)
  iterate 5 (go_big_quiet_step (fail))
  go_big_quiet_step (exact k11 _ _)
  iterate 2 (go_big_quiet_step (fail))
  refine wpQuiet_nil ?_
  rintro w' ⟨p, rfl⟩
  have hBF := HBF.out p.d p.os
  generalize grow (redrawn w5 p.d) p.os = w6 at hBF ⊢
  clear k1 k2 k3 k4 k5 k6 k7 k8 k9 k10 k11 A0 A1 A2 A3 A4 B0 B1 B2 B3 B4 HBF
  go_wp2
  go_ret
  exact ⟨rfl, hBF⟩
end Go.Proofs.YtoodapbmpbaogaaDoor

/- BlockChecks: for every input the statement answers true, and each argument reads afterwards as it read before. Condition: the two tables of package mix read as the program's text lays them; and what the arguments hold is together of bulk at most 1048576. -/
namespace Go.Proofs.YtoodapbmpbaogaaDoor
open Go.ChangeShapes Go.WideShapes Go.ChangeAt Go.RowKit
open Go.ChangeMaps (open_string shut_string)
set_option linter.unusedVariables false

set_option maxRecDepth 100000 in
theorem blockChecks_reads (os : Os) {H : Type} (enc : TypeId × Value → H) : ∃ places, DataW.whole enc Tryd.prog ((World.doorLaid Tryd.prog 400 os).forCall (fun _ _ => 0) ⟨#[], #[.int .i64 0, .agg #[.int .i64 0, .int .i64 0, .string ByteArray.empty, .slice none 0 0, .slice none 0 0]], []⟩).memory Tryd.f3.params.toList Rows.blockChecksSpec.vars false (#[.int .i64 0, .agg #[.int .i64 0, .int .i64 0, .string ByteArray.empty, .slice none 0 0, .slice none 0 0]] : Array Value).toList 8 = some ([.lit (.int .i64 0), .agg [.lit (.int .i64 0), .agg [.lit (.int .i64 0), .lit (.string []), .nil], .nil]], [], places) :=
  ⟨[], by kernel_rfl⟩

set_option maxRecDepth 100000 in
theorem blockChecks_lifted (os : Os) (started : os.Started) (H : Type) (enc : TypeId × Value → H) (F : Stop.Interp) :
    ReturnsInHanded {} Tryd.checked os 3 .any ((Rows.OpenSpec.upto Rows.blockChecksSpec).preRow enc Tryd.prog Tryd.f3 Rows.blockChecksUptoRow.domain false Rows.blockChecksUptoRow.laid) (((Rows.OpenSpec.upto Rows.blockChecksSpec).at F).post enc Tryd.prog Tryd.f3 false true false false) := by
  obtain ⟨places, hx⟩ := blockChecks_reads os enc
  refine returnsInHanded_of_row (C := Tryd.checked) (s := Rows.OpenSpec.upto Rows.blockChecksSpec) ownKnob_none started (by kernel_rfl) Tryd.func3
    ⟨World.doorLaid Tryd.prog 400 os, fun _ _ => 0, ⟨#[], #[.int .i64 0, .agg #[.int .i64 0, .int .i64 0, .string ByteArray.empty, .slice none 0 0, .slice none 0 0]], []⟩, rfl, World.shaped_of_RefB (by kernel_rfl) (by kernel_rfl), rfl, (Input.okWide_of_okWideB (by kernel_rfl)).2,
      OpenSpec.preRow_of_cond 8 hx (by kernel_rfl) (fun k hk => by cases hk; kernel_rfl) (by kernel_rfl) (Mx.door_met os _), by
      simp only [Assume.holds]
      exact ⟨by simp, by simp, fun _ => Modest.zero, by simp, by simp⟩⟩ ?_
  intro W base args ds gs before hval0 hW hcnd hcond hsz0 hL _ _
  have hk : Rows.uptoSmall H (ds ++ gs) = true := hcond _ rfl
  have hval : ∀ (j : Nat) t v, Tryd.f3.params[j]? = some t → args[j]? = some v → Value.okWide Tryd.prog W .any base t v := hval0
  have hsz : (DataW.weightsEach Tryd.prog (Tryd.f3.params.toList ++ Rows.blockChecksSpec.plain.varTypes Tryd.prog) (ds ++ gs)).all (· ≤ reachBytes) = true := hsz0
  have hW' := hW
  obtain ⟨p, q, hA0, hV, rfl, hfz, hnd⟩ := hW
  have hA : DataW.TrodAll enc Tryd.prog W 0 (fun _ => true) true Tryd.f3.params.toList args.toList ds p := hA0
  rw [Tryd.params3] at hA hval hsz
  obtain ⟨v0, vs0, d0, ds0, p0, q0, hargs, rfl, rfl, h0, r0⟩ := trodAll_cons hA
  obtain ⟨v1, vs1, d1, ds1, p1, q1, rfl, rfl, rfl, h1, r1⟩ := trodAll_cons r0
  obtain ⟨rfl, rfl, rfl⟩ := trodAll_nil r1
  obtain rfl : args = #[v0, v1] := by cases args; simp_all
  obtain ⟨rfl, rfl⟩ := trodVars_none hV
  have k0 := h0
  have lt0 : ∀ x ∈ p0, x.block < W.heap.size := by obtain ⟨m, hm⟩ := k0; exact DataW.trod_lt m _ _ _ hm
  obtain ⟨a0, rfl, hd0, hp0, w0⟩ := open_int Tryd.underlying3 (hval 0 3 v0 rfl rfl) h0
  have k1 := h1
  have lt1 : ∀ x ∈ p1, x.block < W.heap.size := by obtain ⟨m, hm⟩ := k1; exact DataW.trod_lt m _ _ _ hm
  obtain ⟨x1, rfl, at1, qd1, cc1⟩ := open_blk (hval 1 27 v1 rfl rfl) h1
  obtain ⟨sl1, ft1, eb1⟩ := blk_bulk qd1 (Nat.le_trans (upto_part (d := d1) (by simp)) (upto_bound hk))
  clear hA0 hval0 hsz0
  refine (blockChecks_walk a0 x1 W w0 at1 cc1 sl1 ft1 eb1 (Mx.of_laid hL)).mono fun e W' ⟨he, bel⟩ => ?_
  subst he
  exact ⟨_, rfl, _, _, _, [], _, [], hW', trodAll_mk1 (shut_bool Tryd.underlying4 _), (trodAll_cons_mk (Below.trod laidOut_true (by kernel_rfl) (of_decide_eq_true (by kernel_rfl)) k0 bel lt0) (trodAll_cons_mk (Below.trod laidOut_true (by kernel_rfl) (of_decide_eq_true (by kernel_rfl)) k1 bel lt1) trodAll_mk0)), rfl, bel.frame _, fun h => by cases h⟩

theorem blockChecksUpto_holds : Rows.BlockChecksUptoSaid :=
  OpenClaim.holds_of_cond 3 Tryd.f3 rfl rfl rfl rfl rfl rfl rfl ⟨rfl, rfl, rfl, rfl, rfl⟩ rfl rfl rfl rfl rfl (by kernel_rfl) Tryd.func3 (by kernel_rfl)
    (of_decide_eq_true (by kernel_rfl)) (by unfold Func.isWrapper; rw [if_neg (of_decide_eq_false (by kernel_rfl))]; exact ⟨rfl, rfl⟩)
    (fun os started H enc _ F => by rw [OpenClaim.pre_eq_preRow]; exact blockChecks_lifted os started H enc F)

theorem blockChecksUpto_card : Rows.BlockChecksUptoCardSaid :=
  Claim7.holds_tied_plain_at .later [] [.data, .data] true (true, "9b200217b6f6b519613b493f24995ae3180a9199bc923eb04e9d1025e2e0dfcb") false
    blockChecksUpto_holds (fun _ h => by cases h) (by kernel_rfl) (fun _ h => by cases h) blockChecksUpto_row_tie rfl ⟨rfl, rfl⟩ (by kernel_rfl) rfl
    (fun f fn hf hfn => by
      obtain rfl : f = 3 := Option.some.inj ((show Tryd.prog.funcNamed "tusk/tusklaw08.BlockChecks" = some 3 by kernel_rfl).symm.trans hf) |>.symm
      obtain rfl : fn = Tryd.f3 := (Option.some.inj (Tryd.func3.symm.trans hfn)).symm
      exact ⟨by kernel_rfl, fun j t ht => by
        rw [Tryd.params3] at ht
        have hall : ∀ t ∈ (#[3, 27] : Array TypeId).toList, Tryd.prog.wantsStandIn t = false := by
          show ∀ t ∈ ([3, 27] : List TypeId), Tryd.prog.wantsStandIn t = false
          refine List.forall_mem_cons.2 ⟨by kernel_rfl, ?_⟩
          refine List.forall_mem_cons.2 ⟨by kernel_rfl, ?_⟩
          exact fun _ h => by cases h
        exact hall t (Array.mem_toList_iff.2 (Array.mem_of_getElem? ht))⟩)
    (by kernel_rfl)
end Go.Proofs.YtoodapbmpbaogaaDoor
