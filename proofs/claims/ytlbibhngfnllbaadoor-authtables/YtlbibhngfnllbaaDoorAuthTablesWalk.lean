/- tusklaw03.AuthTables answers true; nothing old in memory is turned. -/
import Derived.Test.YtlbibhngfnllbaaDoorRefAuthNew
import Derived.Test.YtlbibhngfnllbaaDoorRefAuthSign
namespace Go.Proofs.YtlbibhngfnllbaaDoor
open Go.RowKit Go.Sort
set_option linter.unusedVariables false

set_option maxRecDepth 100000 in
set_option maxHeartbeats 400000 in
theorem authTables_walk (f : Int) (seed : ByteArray) (w : World) (hwf : (Lit.int .i64 f).wf = true) (hs : seed.size ≤ 140737488351232) (hG : Glob w) :
    Calls Tryd.prog 3 #[.int .i64 f, .string seed] w fun e w' => e = .returned (.bool true) ∧ Below w.heap.size w w' := by
  by_cases hr : f < 1 ∨ 2 < f
  · go_enter Tryd.func3, Tryd.ntmps3
    go_wp2_with fail
    refine (new_range f seed w hr).mono ?_
    rintro e w1 ⟨rfl, rfl⟩
    go_wp2_with fail
    refine (refNew_range f seed w1 hr).mono ?_
    rintro e w2 ⟨rfl, rfl⟩
    go_wp2
    go_ret
    exact ⟨rfl, Below.refl _ _⟩
  · by_cases hl : (32 : Int) < (seed.size : Int)
    · go_enter Tryd.func3, Tryd.ntmps3
      go_wp2_with fail
      refine (new_long f seed w (by omega) (by omega) hl).mono ?_
      rintro e w1 ⟨rfl, rfl⟩
      go_wp2_with fail
      refine (refNew_long f seed w1 (by omega) (by omega) hl).mono ?_
      rintro e w2 ⟨rfl, rfl⟩
      go_wp2
      go_ret
      exact ⟨rfl, Below.refl _ _⟩
    · obtain ⟨n, rfl⟩ := Int.eq_ofNat_of_zero_le (a := f) (by omega)
      have n2 : n ≤ 2 := by omega
      go_enter Tryd.func3, Tryd.ntmps3
      go_wp2_with fail
      refine (new_yes n seed w (by omega) n2 (by omega) hG).mono ?_
      rintro e w1 ⟨b1, rfl, hb1, hT1, hB1⟩
      go_wp2_with fail
      refine (refNew_yes n seed w1 (by omega) n2 (by omega) (hG.below hB1)).mono ?_
      rintro e w2 ⟨b2, rfl, hb2, hT2, hB2⟩
      have hT3 := hT1.below hB2
      have hB3 := hB1.trans (hB2.mono hB1.size)
      clear hT1 hB1 hB2
      go_wp2_with fail
      refine (n_any b1 n _ w2 hT3 n2).mono ?_
      rintro e w' ⟨rfl, rfl⟩
      go_wp2_with fail
      refine (refN_any b2 n _ w' hT2 n2).mono ?_
      rintro e w3 ⟨rfl, rfl⟩
      go_wp2_with fail
      refine (need_any b1 n _ _ hT3 n2).mono ?_
      rintro e w' ⟨rfl, rfl⟩
      go_wp2_with fail
      refine (refNeed_any b2 n _ _ hT2 n2).mono ?_
      rintro e w3 ⟨rfl, rfl⟩
      go_wp2
      go_ret
      exact ⟨rfl, hB3⟩
end Go.Proofs.YtlbibhngfnllbaaDoor
