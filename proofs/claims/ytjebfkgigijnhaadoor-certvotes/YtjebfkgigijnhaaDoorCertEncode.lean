/- What cert.Encode does; nothing old in memory is turned. -/
import Derived.Test.YtjebfkgigijnhaaDoorCertRows
import Derived.Test.YtjebfkgigijnhaaDoorHdrEncode
import Derived.Test.YtjebfkgigijnhaaDoorHdrOpen
import Derived.Lib.QuietBelow
import Derived.BigQuiet
namespace Go.Proofs.YtjebfkgigijnhaaDoor
open Go.RowKit Go.Sort
set_option linter.unusedVariables false

theorem encC_join (x : CertM) : (⟨(txt (encH x.hdr.d)).toArray⟩ ++ ⟨(tagsB x.votes).toArray⟩ : ByteArray) = ⟨(encC x.d).toArray⟩ := by
  have := append_list (txt (encH x.hdr.d)) ⟨(tagsB x.votes).toArray⟩
  exact this

/-- What Encode asks of a certificate. -/
structure CertM.Fit (x : CertM) : Prop where
  hdr : x.hdr.Fit
  few : x.votes.length ≤ 1000000000
  mac : ∀ t ∈ x.votes, t.mac.size ≤ 140737488351232
  len : (tagsB x.votes).length ≤ 140737488355328

set_option maxRecDepth 100000 in
set_option maxHeartbeats 2000000 in
theorem certEncode_any (x : CertM) (w : World) (hA : x.At w) (hf : x.Fit) :
    Calls Tryd.prog 13 #[x.v] w fun e w' => e = .returned (.string ⟨(encC x.d).toArray⟩) ∧ Below w.heap.size w w' := by
  have hX := Arr.new w 28 x.c
  have hB := belowNew w (.cells x.c.toArray 28)
  have hA1 := hA.below hB
  obtain ⟨w1, hw1⟩ : ∃ q, w.alloc (.cells x.c.toArray 28) = q := ⟨_, rfl⟩
  rw [hw1] at hX hB hA1
  have bl := fun d os => below_regrown w1 d os
  have hjo := encC_join x
  have hel := hf.hdr.len
  have hvl := hf.len
  obtain ⟨eb, heb⟩ : ∃ q, q = (⟨(encH x.hdr.d).toArray⟩ : ByteArray) := ⟨_, rfl⟩
  obtain ⟨tb, htb⟩ : ∃ q, q = (⟨(txt (encH x.hdr.d)).toArray⟩ : ByteArray) := ⟨_, rfl⟩
  obtain ⟨vb, hvb⟩ : ∃ q, q = (⟨(tagsB x.votes).toArray⟩ : ByteArray) := ⟨_, rfl⟩
  obtain ⟨out, hout⟩ : ∃ q, q = (⟨(encC x.d).toArray⟩ : ByteArray) := ⟨_, rfl⟩
  have hes : eb.size ≤ 140737488355328 := by rw [heb, size_mk]; exact hel
  have htl := txt_len_le (encH x.hdr.d)
  have hts : tb.size ≤ 140737488355337 := by rw [htb, size_mk]; omega
  have hvs : vb.size ≤ 140737488355328 := by rw [hvb, size_mk]; exact hvl
  have hsum : ¬ (9223372036854775807 < tb.size + vb.size) := by omega
  have k1 : ∀ d os, Calls Tryd.prog 39 #[x.hdr.v] (grow (redrawn w1 d) os) fun e w'' => e = .returned (.string eb) ∧ ∃ p : Regrown, w'' = grow (redrawn w1 p.d) p.os := fun d os => Calls.regrown_of (by
    rw [heb]
    exact hdrEncode_any x.hdr _ (hA1.below (bl d os)).hdr hf.hdr)
  have k2 : ∀ d os, Calls Tryd.prog 38 #[.string eb] (grow (redrawn w1 d) os) fun e w'' => e = .returned (.string tb) ∧ ∃ p : Regrown, w'' = grow (redrawn w1 p.d) p.os := fun d os => Calls.regrown_of (by
    have := text_any eb (grow (redrawn w1 d) os) (by omega)
    have hed : eb.data.toList = encH x.hdr.d := by rw [heb]
    rw [hed, ← htb] at this
    exact this)
  have k3 : ∀ d os, Calls Tryd.prog 40 #[.slice x.va x.votes.length x.vc] (grow (redrawn w1 d) os) fun e w'' => e = .returned (.string vb) ∧ ∃ p : Regrown, w'' = grow (redrawn w1 p.d) p.os := fun d os => Calls.regrown_of (by
    rw [hvb]
    exact tags_any x.va x.vc x.votes _ (hA1.below (bl d os)).votes hf.few hf.mac hf.len)
  rw [← hout, ← htb, ← hvb] at hjo
  rw [← hout]
  have Hjo : Hid (tb ++ vb = out) := hjo
  have hX0 : Arr w1 w.heap.size 28 [.int .i64 x.hdr.author, .int .i64 x.hdr.round, .slice x.hdr.ra x.hdr.refs.length x.hdr.rc, .slice x.hdr.pa x.hdr.parents.length x.hdr.pc, .slice x.va x.votes.length x.vc] := hX
  have A0 := cell_regrown (hX0.cell (i := 0) rfl)
  have A1 := cell_regrown (hX0.cell (i := 1) rfl)
  have A2 := cell_regrown (hX0.cell (i := 2) rfl)
  have A3 := cell_regrown (hX0.cell (i := 3) rfl)
  have A4 := cell_regrown (hX0.cell (i := 4) rfl)
  have HBF : Hid (∀ d os, Below w.heap.size w (grow (redrawn w1 d) os)) := fun d os => hB.trans ((bl d os).mono hB.size)
  unfold CertM.c at hw1
  unfold HdrM.v at k1
  unfold CertM.v
  clear heb htb hvb hout hjo hel hvl htl hf hA hA1 hX hX0 hB bl hes hts hvs
  go_enter Tryd.func13, Tryd.ntmps13
  go_wp2_with fail
  refine wp_region_quiet_below (by kernel_rfl) (by kernel_rfl) ?_
  iterate 2 (go_big_quiet_step (fail))
  go_big_quiet_step (exact k1 _ _)
  go_big_quiet_step (exact k2 _ _)
  iterate 2 (go_big_quiet_step (fail))
  go_big_quiet_step (exact k3 _ _)
  iterate 2 (go_big_quiet_step (fail))
  refine wpQuiet_nil ?_
  rintro w' ⟨p, rfl⟩
  have hBF := HBF.out p.d p.os
  generalize grow (redrawn w1 p.d) p.os = w6 at hBF ⊢
  clear k1 k2 k3 A0 A1 A2 A3 A4 HBF
  go_wp2
  go_ret
  exact ⟨by rw [← Hjo.out]; rfl, hBF⟩
end Go.Proofs.YtjebfkgigijnhaaDoor
