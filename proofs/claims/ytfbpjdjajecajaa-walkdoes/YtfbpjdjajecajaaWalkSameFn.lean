/- What tuskref01.Same does at two rows of the same texts: it answers true. -/
import Derived.Test.YtfbpjdjajecajaaSliceStr
import Derived.Deep.QuietTactic
import Derived.BigQuiet
namespace Go.Proofs.Ytfbpjdjajecajaa
open Go.RowKit
set_option linter.unusedVariables false

set_option maxRecDepth 100000 in
set_option maxHeartbeats 1000000 in
theorem sameRows_any (a0 a1 : Option Addr) (c0 c1 : Nat) (ss : List ByteArray) (w : World) (h0 : RowAt textK w a0 ss) (h1 : RowAt textK w a1 ss) (hn : ss.length ≤ 9223372036854775807) :
    Calls Try.prog 9 #[.slice a0 ss.length c0, .slice a1 ss.length c1] w fun e w' => e = .returned (.bool true) ∧ Below w.heap.size w w' := by
  go_enter Try.func9, Try.ntmps9
  go_wp2
  go_loopw [5] (fun i wr => ∃ m : Nat, m ≤ ss.length ∧ i = .int .i64 m ∧ Below w.heap.size w wr) (fun i _ => ss.length - (intOf i).toNat)
  case atStart => exact ⟨0, Nat.zero_le _, rfl, Below.refl _ _⟩
  case round =>
    obtain ⟨m, hm, rfl, hw⟩ := hrel
    by_cases hlt : m < ss.length
    · have g1 : (m : Int) < (ss.length : Int) := by omega
      obtain ⟨x, hx⟩ : ∃ x, ss[m]? = some x := ⟨_, List.getElem?_eq_getElem hlt⟩
      obtain ⟨b0, o0, rfl, _, hcl0⟩ := (h0.below hw).text hx
      obtain ⟨b1, o1, rfl, _, hcl1⟩ := (h1.below hw).text hx
      go_wp2_with fail
      go_quiet (fail)
      have hwf := below_drewN hw nq
      clear hw hcl0 hcl1
      go_wp2
      go_roundw
      case rel => exact ⟨m + 1, by omega, by go_num, hwf⟩
      case measure => simp [intOf]; omega
    · have g1 : ¬ (m : Int) < (ss.length : Int) := by omega
      go_wp2
      go_ret
      exact ⟨rfl, hw⟩
end Go.Proofs.Ytfbpjdjajecajaa
