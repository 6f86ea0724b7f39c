/- What tuskref07.Check and tuskref07.Encode do; nothing old in memory is turned. -/
import Derived.Test.YtjebfkgigijnhaaDoorCertCheck
import Derived.Test.YtjebfkgigijnhaaDoorCertEncode
import Derived.Test.YtjebfkgigijnhaaDoorRefHdrCheck
import Derived.Test.YtjebfkgigijnhaaDoorRefHdrId
import Derived.Test.YtjebfkgigijnhaaDoorRefHdrTagsEnc
namespace Go.Proofs.YtjebfkgigijnhaaDoor
open Go.RowKit Go.Sort
set_option linter.unusedVariables false

set_option maxRecDepth 100000 in
set_option maxHeartbeats 2000000 in
theorem refCertCheck_any (tb f : Nat) (ks : List ByteArray) (x : CertM) (w : World) (hT : Mx.TabAt w tb f ks) (hf : f ≤ 2) (hkl : ks.length = 3 * f + 1) (hks : ∀ k ∈ ks, k.size ≤ 32) (hA : x.At w) (hlm : ∀ r ∈ x.hdr.refs, r.acks.length ≤ maxLen) (hpm : x.hdr.parents.length ≤ maxLen) (hvm : x.votes.length ≤ maxLen) (hfit : x.hdr.Fit) (hl : (encH x.hdr.d).length ≤ 1073741824) (hG : Mx.Glob w) :
    Calls Tryd.prog 12 #[.pointer (some ⟨tb, 0, none⟩), x.v] w fun e w' => e = .returned (.int .i64 (chkC ks f x.d : Int)) ∧ Below w.heap.size w w' := by
  have hX := Arr.new w 28 x.c
  have hB := belowNew w (.cells x.c.toArray 28)
  have hA1 := hA.below hB
  have hT1 := hT.below hB
  have hG1 := hG.below hB
  obtain ⟨w1, hw1⟩ : ∃ q, w.alloc (.cells x.c.toArray 28) = q := ⟨_, rfl⟩
  rw [hw1] at hX hB hA1 hT1 hG1
  have hX0 : Arr w1 w.heap.size 28 [.int .i64 x.hdr.author, .int .i64 x.hdr.round, .slice x.hdr.ra x.hdr.refs.length x.hdr.rc, .slice x.hdr.pa x.hdr.parents.length x.hdr.pc, .slice x.va x.votes.length x.vc] := hX
  have cC := refHdrCheck_any tb f ks x.hdr w1 hT1 hf hkl hks hA1.hdr hlm hpm hG1
  obtain ⟨er, her⟩ : ∃ q, Hid (q = chkH (3 * f + 1) (2 * f + 1) (enT ks f) x.hdr.d) := ⟨_, rfl⟩
  obtain ⟨ev, hev⟩ : ∃ q, Hid (q = enV ks f x.hdr.d x.votes) := ⟨_, rfl⟩
  have HC : Hid (chkC ks f x.d = if er ≠ 0 then er else ev) := by rw [her.out, hev.out]; rfl
  rw [← her.out] at cC
  obtain ⟨out, hout⟩ : ∃ q, Hid (q = chkC ks f x.d) := ⟨_, rfl⟩
  rw [← hout.out]
  have x0 := hX0.cell (i := 0) rfl
  have x1 := hX0.cell (i := 1) rfl
  have x2 := hX0.cell (i := 2) rfl
  have x3 := hX0.cell (i := 3) rfl
  unfold CertM.c at hw1
  unfold HdrM.v at cC
  unfold CertM.v
  go_enter Tryd.func12, Tryd.ntmps12
  go_wp2_with fail
  refine cC.mono ?_
  rintro e w2 ⟨rfl, hb2⟩
  have hX2 := hX0.below hb2 hX0.lt
  have hA2 := hA1.below hb2
  have hT2 := hT1.below hb2
  have hG2 := hG1.below hb2
  have hB2 := hB.trans (hb2.mono hB.size)
  clear cC hX hX0 hA1 hT1 hG1 hB hb2 x0 x1 x2 x3 hw1
  by_cases he : er ≠ 0
  · have hne : ((er : Int) != 0) = true := by rw [bne_iff_ne]; omega
    have HF : Hid (out = er) := hout.out.trans (HC.out.trans (if_pos he))
    go_wp2
    go_ret
    exact ⟨by rw [HF.out]; rfl, hB2⟩
  have HF : Hid (out = ev) := hout.out.trans (HC.out.trans (if_neg he))
  have he0 : er = 0 := by omega
  subst he0
  have bl := fun d os => below_regrown w2 d os
  obtain ⟨ib, hib⟩ : ∃ q, Hid (q = idB x.hdr.d) := ⟨_, rfl⟩
  have hibs : ib.size = 32 := by rw [hib.out]; exact idB_size _
  have k1 : ∀ d os, Calls Tryd.prog 37 #[x.hdr.v] (grow (redrawn w2 d) os) fun e w'' => e = .returned (.string ib) ∧ ∃ p : Regrown, w'' = grow (redrawn w2 p.d) p.os := fun d os => Calls.regrown_of (by
    rw [hib.out]
    exact refHdrId_any x.hdr _ (hA2.below (bl d os)).hdr hfit hl)
  have k2 : ∀ d os, Calls Tryd.prog 36 #[.pointer (some ⟨tb, 0, none⟩), .slice x.va x.votes.length x.vc, .string voteW, .string ib] (grow (redrawn w2 d) os) fun e w'' => e = .returned (.int .i64 (ev : Int)) ∧ ∃ p : Regrown, w'' = grow (redrawn w2 p.d) p.os := fun d os => Calls.regrown_of (by
    have := Mx.refEnough_any tb f ks x.va x.vc (pairT x.votes) voteW ib _ (hT2.below (bl d os)) hf hkl hks (hA2.below (bl d os)).votes.pairs (by rw [pairT_length]; exact hvm) (by decide) (by omega) (hG2.below (bl d os))
    rw [pairT_length, hib.out] at this
    rw [hib.out, hev.out]
    exact this)
  have A0 := cell_regrown (hX2.cell (i := 0) rfl)
  have A1 := cell_regrown (hX2.cell (i := 1) rfl)
  have A2 := cell_regrown (hX2.cell (i := 2) rfl)
  have A3 := cell_regrown (hX2.cell (i := 3) rfl)
  have A4 := cell_regrown (hX2.cell (i := 4) rfl)
  have HBF : Hid (∀ d os, Below w.heap.size w (grow (redrawn w2 d) os)) := fun d os => hB2.trans ((bl d os).mono hB2.size)
  unfold HdrM.v at k1
  unfold voteW at k2
  clear hX2 hA2 hT2 hG2 hB2 bl hA hT hG hfit hl hlm hpm hvm
  go_wp2_with fail
  refine wp_region_quiet_below (by kernel_rfl) (by kernel_rfl) ?_
  iterate 5 (go_big_quiet_step (fail))
  go_big_quiet_step (exact k1 _ _)
  go_big_quiet_step (exact k2 _ _)
  go_big_quiet_step (fail)
  refine wpQuiet_nil ?_
  rintro w' ⟨p, rfl⟩
  have hBF := HBF.out p.d p.os
  generalize grow (redrawn w2 p.d) p.os = w6 at hBF ⊢
  clear k1 k2 A0 A1 A2 A3 A4 HBF
  go_wp2
  go_ret
  exact ⟨by rw [HF.out]; rfl, hBF⟩
set_option maxRecDepth 100000 in
set_option maxHeartbeats 2000000 in
theorem refCertEncode_any (x : CertM) (w : World) (hA : x.At w) (hf : x.Fit) :
    Calls Tryd.prog 14 #[x.v] w fun e w' => e = .returned (.string ⟨(encC x.d).toArray⟩) ∧ Below w.heap.size w w' := by
  have hX := Arr.new w 28 x.c
  have hB := belowNew w (.cells x.c.toArray 28)
  have hA1 := hA.below hB
  obtain ⟨w1, hw1⟩ : ∃ q, w.alloc (.cells x.c.toArray 28) = q := ⟨_, rfl⟩
  rw [hw1] at hX hB hA1
  have bl := fun d os => below_regrown w1 d os
  have hjo := encC_join x
  have hel := hf.hdr.len
  have hvl := hf.len
  obtain ⟨eb, heb⟩ : ∃ q, q = (⟨(encH x.hdr.d).toArray⟩ : ByteArray) := ⟨_, rfl⟩
  obtain ⟨tb, htb⟩ : ∃ q, q = (⟨(txt (encH x.hdr.d)).toArray⟩ : ByteArray) := ⟨_, rfl⟩
  obtain ⟨vb, hvb⟩ : ∃ q, q = (⟨(tagsB x.votes).toArray⟩ : ByteArray) := ⟨_, rfl⟩
  obtain ⟨out, hout⟩ : ∃ q, q = (⟨(encC x.d).toArray⟩ : ByteArray) := ⟨_, rfl⟩
  have hes : eb.size ≤ 140737488355328 := by rw [heb, size_mk]; exact hel
  have htl := txt_len_le (encH x.hdr.d)
  have hts : tb.size ≤ 140737488355337 := by rw [htb, size_mk]; omega
  have hvs : vb.size ≤ 140737488355328 := by rw [hvb, size_mk]; exact hvl
  have hsum : ¬ (9223372036854775807 < tb.size + vb.size) := by omega
  have k1 : ∀ d os, Calls Tryd.prog 42 #[x.hdr.v] (grow (redrawn w1 d) os) fun e w'' => e = .returned (.string eb) ∧ ∃ p : Regrown, w'' = grow (redrawn w1 p.d) p.os := fun d os => Calls.regrown_of (by
    rw [heb]
    exact refHdrEncode_any x.hdr _ (hA1.below (bl d os)).hdr hf.hdr)
  have k2 : ∀ d os, Calls Tryd.prog 41 #[.string eb] (grow (redrawn w1 d) os) fun e w'' => e = .returned (.string tb) ∧ ∃ p : Regrown, w'' = grow (redrawn w1 p.d) p.os := fun d os => Calls.regrown_of (by
    have := refText_any eb (grow (redrawn w1 d) os) (by omega)
    have hed : eb.data.toList = encH x.hdr.d := by rw [heb]
    rw [hed, ← htb] at this
    exact this)
  have k3 : ∀ d os, Calls Tryd.prog 43 #[.slice x.va x.votes.length x.vc] (grow (redrawn w1 d) os) fun e w'' => e = .returned (.string vb) ∧ ∃ p : Regrown, w'' = grow (redrawn w1 p.d) p.os := fun d os => Calls.regrown_of (by
    rw [hvb]
    exact refTags_any x.va x.vc x.votes _ (hA1.below (bl d os)).votes hf.few hf.mac hf.len)
  rw [← hout, ← htb, ← hvb] at hjo
  rw [← hout]
  have Hjo : Hid (tb ++ vb = out) := hjo
  have hX0 : Arr w1 w.heap.size 28 [.int .i64 x.hdr.author, .int .i64 x.hdr.round, .slice x.hdr.ra x.hdr.refs.length x.hdr.rc, .slice x.hdr.pa x.hdr.parents.length x.hdr.pc, .slice x.va x.votes.length x.vc] := hX
  have A0 := cell_regrown (hX0.cell (i := 0) rfl)
  have A1 := cell_regrown (hX0.cell (i := 1) rfl)
  have A2 := cell_regrown (hX0.cell (i := 2) rfl)
  have A3 := cell_regrown (hX0.cell (i := 3) rfl)
  have A4 := cell_regrown (hX0.cell (i := 4) rfl)
  have HBF : Hid (∀ d os, Below w.heap.size w (grow (redrawn w1 d) os)) := fun d os => hB.trans ((bl d os).mono hB.size)
  unfold CertM.c at hw1
  unfold HdrM.v at k1
  unfold CertM.v
  clear heb htb hvb hout hjo hel hvl htl hf hA hA1 hX hX0 hB bl hes hts hvs
  go_enter Tryd.func14, Tryd.ntmps14
  go_wp2_with fail
  refine wp_region_quiet_below (by kernel_rfl) (by kernel_rfl) ?_
  iterate 2 (go_big_quiet_step (fail))
  go_big_quiet_step (exact k1 _ _)
  go_big_quiet_step (exact k2 _ _)
  iterate 2 (go_big_quiet_step (fail))
  go_big_quiet_step (exact k3 _ _)
  iterate 2 (go_big_quiet_step (fail))
  refine wpQuiet_nil ?_
  rintro w' ⟨p, rfl⟩
  have hBF := HBF.out p.d p.os
  generalize grow (redrawn w1 p.d) p.os = w6 at hBF ⊢
  clear k1 k2 k3 A0 A1 A2 A3 A4 HBF
  go_wp2
  go_ret
  exact ⟨by rw [← Hjo.out]; rfl, hBF⟩
end Go.Proofs.YtjebfkgigijnhaaDoor
