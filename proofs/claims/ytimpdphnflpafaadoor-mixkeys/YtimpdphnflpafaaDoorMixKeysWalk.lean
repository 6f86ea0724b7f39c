/- tusklaw02.MixKeys answers true; nothing old in memory is turned. -/
import Derived.Test.YtimpdphnflpafaaDoorRefMixFace
namespace Go.Proofs.YtimpdphnflpafaaDoor
open Go.RowKit Go.Sort
set_option linter.unusedVariables false

set_option maxRecDepth 100000 in
set_option maxHeartbeats 400000 in
theorem mixKeys_walk (key s : ByteArray) (w : World) (hk : key.size ≤ 140737488351232) (hs : s.size ≤ 140737488351232) (hG : Glob w) :
    Calls Tryd.prog 4 #[.string key, .string s] w fun e w' => e = .returned (.bool true) ∧ Below w.heap.size w w' := by
  go_enter Tryd.func4, Tryd.ntmps4
  by_cases h1 : 2000 < s.size
  · have h1' : (2000 : Int) < (s.size : Int) := by omega
    go_wp2
    go_ret
    exact ⟨rfl, Below.refl _ _⟩
  · have h1' : ¬ (2000 : Int) < (s.size : Int) := by omega
    by_cases h2 : 2000 < key.size
    · have h2' : (2000 : Int) < (key.size : Int) := by omega
      go_wp2
      go_ret
      exact ⟨rfl, Below.refl _ _⟩
    · have h2' : ¬ (2000 : Int) < (key.size : Int) := by omega
      have k1 := keyed_any key s w hk hs hG
      obtain ⟨x, hx⟩ : ∃ z, Hid (z = bytes (keyedL key.data.toList s.data.toList)) := ⟨_, rfl⟩
      rw [← hx.out] at k1
      go_wp2_with fail
      refine k1.mono ?_
      rintro e w1 ⟨rfl, hB1⟩
      have k2 := refKeyed_any key s w1 (by omega) (by omega)
      rw [← hx.out] at k2
      go_wp2_with fail
      refine k2.mono ?_
      rintro e w2 ⟨rfl, hB2⟩
      have hB12 := hB1.trans (hB2.mono hB1.size)
      have k3 := short_any key s w2 hk hs (hG.below hB12)
      rw [← hx.out] at k3
      obtain ⟨y, hy⟩ : ∃ z, Hid (z = x.extract 0 16) := ⟨_, rfl⟩
      rw [← hy.out] at k3
      clear k1 k2
      go_wp2_with fail
      refine k3.mono ?_
      rintro e w3 ⟨rfl, hB3⟩
      have hB13 := hB12.trans (hB3.mono hB12.size)
      have k4 := refShort_any key s w3 (by omega) (by omega)
      rw [← hx.out, ← hy.out] at k4
      clear k3
      go_wp2_with fail
      refine k4.mono ?_
      rintro e w4 ⟨rfl, hB4⟩
      have hB14 := hB13.trans (hB4.mono hB13.size)
      clear k4 hB1 hB2 hB3 hB4 hB12 hB13
      go_wp2
      go_ret
      exact ⟨rfl, hB14⟩
end Go.Proofs.YtimpdphnflpafaaDoor
