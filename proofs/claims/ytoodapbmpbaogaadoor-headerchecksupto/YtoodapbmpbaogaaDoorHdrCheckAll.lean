/- What package header's Check does, whole; nothing old in memory is turned. -/
import Derived.Test.YtoodapbmpbaogaaDoorHdrCheck
import Derived.Deep.QuietTactic
import Derived.BigQuiet
namespace Go.Proofs.YtoodapbmpbaogaaDoor
open Go.RowKit
set_option linter.unusedVariables false

/-- What is behind the range. -/
def chkR (n need : Nat) (en : List TagD → ByteArray → Nat) (h : HdrD) : Nat :=
  if 4 < h.refs.length then 8 else if refP en ⟨#[]⟩ h.refs ≠ 0 then refP en ⟨#[]⟩ h.refs
  else if risP ⟨#[]⟩ h.parents ≠ 0 then risP ⟨#[]⟩ h.parents else countE n need h.round h.parents.length

set_option maxRecDepth 100000 in
set_option maxHeartbeats 4000000 in
theorem hdrCheck_any (tb f : Nat) (ks : List ByteArray) (x : HdrM) (w : World) (hT : Mx.TabAt w tb f ks) (hf : f ≤ 2) (hks : ∀ k ∈ ks, k.size ≤ 32) (hA : x.At w) (hlm : ∀ r ∈ x.refs, r.acks.length ≤ maxLen) (hpm : x.parents.length ≤ maxLen) (hG : Mx.Glob w) :
    Calls Tryd.prog 35 #[.pointer (some ⟨tb, 0, none⟩), x.v] w fun e w' => e = .returned (.int .i64 (chkH (3 * f + 1) (2 * f + 1) (enT ks f) x.d : Int)) ∧ Below w.heap.size w w' := by
  obtain ⟨au, ro, ra, rs, rc, pa, ps, pc⟩ := x
  have hA1 : RowAt refK w ra rs := hA.refs
  have hA2 : RowAt strK w pa ps := hA.ps
  have hX := Arr.new w 66 [.int .i64 au, .int .i64 ro, .slice ra rs.length rc, .slice pa ps.length pc]
  have hB := belowNew w (.cells #[.int .i64 au, .int .i64 ro, .slice ra rs.length rc, .slice pa ps.length pc] 66)
  obtain ⟨res, hres⟩ : ∃ z, Hid (z = chkH (3 * f + 1) (2 * f + 1) (enT ks f) (HdrM.d ⟨au, ro, ra, rs, rc, pa, ps, pc⟩)) := ⟨_, rfl⟩
  rw [← hres.out]
  have HR : Hid (res = if au < 0 ∨ ((3 * f + 1 : Nat) : Int) ≤ au ∨ ro < 1 ∨ 4611686018427387903 < ro then 2 else if 4 < rs.length then 8 else if refP (enT ks f) ⟨#[]⟩ (rd rs) ≠ 0 then refP (enT ks f) ⟨#[]⟩ (rd rs) else if risP ⟨#[]⟩ ps ≠ 0 then risP ⟨#[]⟩ ps else countE (3 * f + 1) (2 * f + 1) ro ps.length) := by
    have := hres.out
    simp only [chkH, HdrM.d, rd_length] at this
    exact this
  have hlm' : ∀ r ∈ rs, r.acks.length ≤ maxLen := hlm
  have hpm' : ps.length ≤ maxLen := hpm
  have hT1 := hT.below hB
  have hA11 := hA1.below hB
  have hA21 := hA2.below hB
  have hG1 := hG.below hB
  unfold HdrM.v
  simp only
  obtain ⟨w0, hw0⟩ : ∃ q, w.alloc (.cells #[.int .i64 au, .int .i64 ro, .slice ra rs.length rc, .slice pa ps.length pc] 66) = q := ⟨_, rfl⟩
  rw [hw0] at hX hB hT1 hA11 hA21 hG1
  have x0 := hX.cell (i := 0) rfl
  have x1 := hX.cell (i := 1) rfl
  obtain ⟨nn, hnn⟩ : ∃ z, Hid (z = 3 * f + 1) := ⟨_, rfl⟩
  have cN : ∀ m, Calls Tryd.prog 27 #[.pointer (some ⟨tb, 0, none⟩)] (w0.drewN m) fun e w' => e = .returned (.int .i64 (nn : Int)) ∧ w' = w0.drewN m := fun m => by
    rw [hnn.out]
    exact Mx.n_any tb f ks _ (hT1.below (below_drewN (Below.refl _ _) m)) hf
  clear hA hlm hpm hT hA1 hA2 hG hres
  go_enter Tryd.func35, Tryd.ntmps35
  go_wp2_with fail
  by_cases h1 : au < 0
  · have HF : Hid (res = 2) := HR.out.trans (if_pos (Or.inl h1))
    clear HR
    go_big_quiet (fail)
    have hBF := below_drewN hB nq
    clear hX hB hT1 hA11 hA21 hG1 x0 x1
    go_wp2
    go_ret
    exact ⟨by rw [HF.out]; rfl, hBF⟩
  have d1 : decide (au < 0) = false := decide_eq_false h1
  by_cases h2 : (nn : Int) ≤ au
  · have HF : Hid (res = 2) := HR.out.trans (if_pos (Or.inr (Or.inl (by rw [← hnn.out]; exact h2))))
    clear HR
    go_big_quiet (exact Calls.quiet_of_same (cN _))
    have hBF := below_drewN hB nq
    clear hX hB hT1 hA11 hA21 hG1 x0 x1
    go_wp2
    go_ret
    exact ⟨by rw [HF.out]; rfl, hBF⟩
  have d2 : decide ((nn : Int) ≤ au) = false := decide_eq_false h2
  by_cases h3 : ro < 1
  · have HF : Hid (res = 2) := HR.out.trans (if_pos (Or.inr (Or.inr (Or.inl h3))))
    clear HR
    go_big_quiet (exact Calls.quiet_of_same (cN _))
    have hBF := below_drewN hB nq
    clear hX hB hT1 hA11 hA21 hG1 x0 x1
    go_wp2
    go_ret
    exact ⟨by rw [HF.out]; rfl, hBF⟩
  have d3 : decide (ro < 1) = false := decide_eq_false h3
  by_cases h4 : 4611686018427387903 < ro
  · have HF : Hid (res = 2) := HR.out.trans (if_pos (Or.inr (Or.inr (Or.inr h4))))
    clear HR
    go_big_quiet (exact Calls.quiet_of_same (cN _))
    have hBF := below_drewN hB nq
    clear hX hB hT1 hA11 hA21 hG1 x0 x1
    go_wp2
    go_ret
    exact ⟨by rw [HF.out]; rfl, hBF⟩
  have d4 : decide (4611686018427387903 < ro) = false := decide_eq_false h4
  have HR2 := HR.out.trans (if_neg (fun h => h.elim h1 (fun h => h.elim (fun h => h2 (by rw [hnn.out]; exact h)) (fun h => h.elim h3 h4))))
  replace HR : Hid (res = _) := HR2
  clear HR2
  go_big_quiet (exact Calls.quiet_of_same (cN _))
  have hbq := below_drewN (Below.refl w0.heap.size w0) nq
  have hX2 := hX.below hbq hX.lt
  have hB2 := hB.trans (hbq.mono hB.size)
  have hT2 := hT1.below hbq
  have hA12 := hA11.below hbq
  have hA22 := hA21.below hbq
  have hG2 := hG1.below hbq
  generalize w0.drewN nq = w1 at *
  clear hX hB hT1 hA11 hA21 hG1 x0 x1 hbq cN
  have x1 := hX2.cell (i := 1) rfl
  have x2 := hX2.cell (i := 2) rfl
  have x3 := hX2.cell (i := 3) rfl
  by_cases h5 : 4 < rs.length
  · have h5' : (4 : Int) < (rs.length : Int) := by omega
    have HF : Hid (res = 8) := HR.out.trans (if_pos h5)
    clear HR
    go_wp2
    go_ret
    exact ⟨by rw [HF.out]; rfl, hB2⟩
  have h5' : ¬ (4 : Int) < (rs.length : Int) := by omega
  have HR2 := HR.out.trans (if_neg h5)
  have cR := checkRefs_any tb f ks ra rc rs w1 hT2 hf hks hA12 (by omega) hlm' hG2
  clear HR
  by_cases h6 : refP (enT ks f) ⟨#[]⟩ (rd rs) ≠ 0
  · have HF : Hid (res = refP (enT ks f) ⟨#[]⟩ (rd rs)) := HR2.trans (if_pos h6)
    have hne : ((refP (enT ks f) ⟨#[]⟩ (rd rs) : Int) != 0) = true := by rw [bne_iff_ne]; omega
    clear HR2
    generalize refP (enT ks f) ⟨#[]⟩ (rd rs) = de at *
    go_wp2_with fail
    refine cR.mono ?_
    rintro e w2 ⟨rfl, hb2⟩
    have hB3 := hB2.trans (hb2.mono hB2.size)
    clear hb2 cR
    go_wp2
    go_ret
    exact ⟨by rw [HF.out]; rfl, hB3⟩
  replace HR2 := HR2.trans (if_neg h6)
  have h60 : refP (enT ks f) ⟨#[]⟩ (rd rs) = 0 := by omega
  rw [h60] at cR
  have H2 : Hid _ := HR2
  clear HR2 h6 h60
  have cP := fun w2 h => checkParents_any pa pc ps w2 h hpm'
  have cK := fun w2 h => checkCount_any tb f ks ro ps.length w2 h hf
  go_wp2_with fail
  refine cR.mono ?_
  rintro e w2 ⟨rfl, hb2⟩
  have hB3 := hB2.trans (hb2.mono hB2.size)
  have hX3 := hX2.below hb2 hX2.lt
  have hT3 := hT2.below hb2
  have hA23 := hA22.below hb2
  clear hb2 cR hX2 hT2 hA22 hA12 hB2 hG2 x1 x2 x3
  have x1 := hX3.cell (i := 1) rfl
  have x3 := hX3.cell (i := 3) rfl
  by_cases h7 : risP ⟨#[]⟩ ps ≠ 0
  · have HF : Hid (res = risP ⟨#[]⟩ ps) := H2.out.trans (if_pos h7)
    have hne : ((risP ⟨#[]⟩ ps : Int) != 0) = true := by rw [bne_iff_ne]; omega
    clear H2
    generalize risP ⟨#[]⟩ ps = de at *
    go_wp2_with fail
    refine (cP _ hA23).mono ?_
    rintro e w3 ⟨rfl, rfl⟩
    clear cP
    go_wp2
    go_ret
    exact ⟨by rw [HF.out]; rfl, hB3⟩
  have HF : Hid (res = countE (3 * f + 1) (2 * f + 1) ro ps.length) := H2.out.trans (if_neg h7)
  have h70 : risP ⟨#[]⟩ ps = 0 := by omega
  rw [h70] at cP
  clear H2 h7 h70
  generalize countE (3 * f + 1) (2 * f + 1) ro ps.length = de at *
  go_wp2_with fail
  refine (cP _ hA23).mono ?_
  rintro e w3 ⟨rfl, rfl⟩
  clear cP
  go_wp2_with fail
  refine (cK _ hT3).mono ?_
  rintro e w4 ⟨rfl, rfl⟩
  clear cK
  go_wp2
  go_ret
  exact ⟨by rw [HF.out]; rfl, hB3⟩
end Go.Proofs.YtoodapbmpbaogaaDoor
