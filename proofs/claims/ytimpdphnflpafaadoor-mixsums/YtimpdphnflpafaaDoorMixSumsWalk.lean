/- tusklaw02.MixSums answers true; nothing old in memory is turned. -/
import Derived.Test.YtimpdphnflpafaaDoorRefMixFace
namespace Go.Proofs.YtimpdphnflpafaaDoor
open Go.RowKit Go.Sort
set_option linter.unusedVariables false

set_option maxRecDepth 100000 in
set_option maxHeartbeats 400000 in
theorem mixSums_walk (s : ByteArray) (w : World) (hs : s.size ≤ 140737488351232) (hG : Glob w) :
    Calls Tryd.prog 3 #[.string s] w fun e w' => e = .returned (.bool true) ∧ Below w.heap.size w w' := by
  go_enter Tryd.func3, Tryd.ntmps3
  by_cases h1 : 2000 < s.size
  · have h1' : (2000 : Int) < (s.size : Int) := by omega
    go_wp2
    go_ret
    exact ⟨rfl, Below.refl _ _⟩
  · have h1' : ¬ (2000 : Int) < (s.size : Int) := by omega
    go_wp2_with fail
    refine (sum_any s w hs hG).mono ?_
    rintro e w1 ⟨rfl, hB1⟩
    obtain ⟨x, hx⟩ : ∃ z, Hid (z = bytes (sumL s.data.toList)) := ⟨_, rfl⟩
    rw [← hx.out]
    go_wp2_with fail
    refine (refSum_any s w1 (by omega)).mono ?_
    rintro e w2 ⟨rfl, hB2⟩
    rw [← hx.out]
    have hB3 := hB1.trans (hB2.mono hB1.size)
    go_wp2
    go_ret
    exact ⟨by simp, hB3⟩
end Go.Proofs.YtimpdphnflpafaaDoor
