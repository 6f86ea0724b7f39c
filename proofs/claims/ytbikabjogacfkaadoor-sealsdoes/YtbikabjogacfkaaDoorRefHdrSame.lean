/- tuskref06.SameTags and tuskref06.Same answer true at what reads the same; nothing old in memory is turned. -/
import Derived.Test.YtbikabjogacfkaaDoorHdrRows
import Derived.Deep.RegionHeld3
namespace Go.Proofs.YtbikabjogacfkaaDoor
open Go.RowKit
set_option linter.unusedVariables false

theorem RowAt.drewN {α : Type} {K : Kind α} {w : World} {ao : Option Addr} {l : List α} (h : RowAt K w ao l) (n : Nat) : RowAt K (w.drewN n) ao l :=
  h.below (below_drewN (Below.refl _ _) n)

set_option maxRecDepth 100000 in
set_option maxHeartbeats 1000000 in
theorem sameTags_any (a0 a1 : Option Addr) (c0 c1 : Nat) (l : List TagD) (w : World) (h0 : RowAt tagK w a0 l) (h1 : RowAt tagK w a1 l) (hn : l.length ≤ 4611686018427387903) :
    Calls Tryd.prog 13 #[.slice a0 l.length c0, .slice a1 l.length c1] w fun e w' => e = .returned (.bool true) ∧ Below w.heap.size w w' := by
  go_enter Tryd.func13, Tryd.ntmps13
  go_wp2
  go_loopw [5] (fun i wr => ∃ m : Nat, m ≤ l.length ∧ i = .int .i64 m ∧ Below w.heap.size w wr ∧ RowAt tagK wr a0 l ∧ RowAt tagK wr a1 l) (fun i _ => l.length - (intOf i).toNat)
  case atStart => exact ⟨0, Nat.zero_le _, rfl, Below.refl _ _, h0, h1⟩
  case round =>
    clear h0 h1
    obtain ⟨m, hm, rfl, hw, k0, k1⟩ := hrel
    by_cases hlt : m < l.length
    · obtain ⟨t, ht⟩ : ∃ t, l[m]? = some t := ⟨l[m], List.getElem?_eq_getElem hlt⟩
      obtain ⟨b0, o0, rfl, _, p0, p1⟩ := k0.tag ht
      obtain ⟨b1, o1, rfl, _, q0, q1⟩ := k1.tag ht
      clear ht
      go_wp2_with fail
      go_quiet (fail)
      have hwf := below_drewN hw nq
      have j0 := k0.drewN nq
      have j1 := k1.drewN nq
      clear hw k0 k1 p0 p1 q0 q1
      go_wp2
      go_roundw
      case rel => exact ⟨m + 1, by omega, by go_num, hwf, j0, j1⟩
      case measure => simp [intOf]; omega
    · go_wp2
      go_ret
      exact ⟨rfl, hw⟩
end Go.Proofs.YtbikabjogacfkaaDoor
