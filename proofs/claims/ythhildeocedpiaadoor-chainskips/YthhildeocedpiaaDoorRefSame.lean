/- What tuskref01.Same does at two rows of the same strings: it answers true; nothing old in memory is turned. -/
import Derived.Test.YthhildeocedpiaaDoorWireGetList
import Derived.Deep.QuietTactic
import Derived.BigQuiet
namespace Go.Proofs.YthhildeocedpiaaDoor
open Go.RowKit

theorem own_strs {w : World} {B : Nat} {ao : Option Addr} {n cap : Nat} {ss : List ByteArray} (h : w.ownsRow B 9 1 (.slice ao n cap) n ((bl ss).map strVal)) (hn : n = ss.length) : StrsAt w ao ss := by
  subst hn
  intro j hj
  rcases h.2 with ⟨hv, h0⟩ | ⟨g, cap', cur, hv, hb, hg, _⟩
  · omega
  · simp at hv
    obtain ⟨rfl, _⟩ := hv
    refine ⟨g, 0, rfl, (Array.getElem?_eq_some_iff.1 hg).1, ?_⟩
    have := h.cells (g := g) rfl j (.string ss[j]) (by simp [bl, strVal, List.getElem?_eq_getElem hj])
    rw [Go.WideShapes.add_plain] at this
    exact this

theorem StrsAt.drewN {w : World} {ao : Option Addr} {ss : List ByteArray} (h : StrsAt w ao ss) (n : Nat) : StrsAt (w.drewN n) ao ss :=
  h.below (below_drewN (Below.refl _ _) n)

set_option maxRecDepth 100000 in
set_option maxHeartbeats 1000000 in
theorem same_any (a0 a1 : Option Addr) (c0 c1 : Nat) (ss : List ByteArray) (w : World) (h0 : StrsAt w a0 ss) (h1 : StrsAt w a1 ss) (hn : ss.length ≤ 9223372036854775807) :
    Calls Tryd.prog 33 #[.slice a0 ss.length c0, .slice a1 ss.length c1] w fun e w' => e = .returned (.bool true) ∧ Below w.heap.size w w' := by
  go_enter Tryd.func33, Tryd.ntmps33
  go_wp2
  go_loopw [5] (fun i wr => ∃ m : Nat, m ≤ ss.length ∧ i = .int .i64 m ∧ Below w.heap.size w wr ∧ StrsAt wr a0 ss ∧ StrsAt wr a1 ss) (fun i _ => ss.length - (intOf i).toNat)
  case atStart => exact ⟨0, Nat.zero_le _, rfl, Below.refl _ _, h0, h1⟩
  case round =>
    clear h0 h1
    obtain ⟨m, hm, rfl, hw, k0, k1⟩ := hrel
    by_cases hlt : m < ss.length
    · obtain ⟨b0, o0, rfl, _, hcl0⟩ := k0 m hlt
      obtain ⟨b1, o1, rfl, _, hcl1⟩ := k1 m hlt
      go_wp2_with fail
      go_quiet (fail)
      have hwf := below_drewN hw nq
      have j0 := k0.drewN nq
      have j1 := k1.drewN nq
      clear hw k0 k1 hcl0 hcl1
      go_wp2
      go_roundw
      case rel => exact ⟨m + 1, by omega, by go_num, hwf, j0, j1⟩
      case measure => simp [intOf]; omega
    · go_wp2
      go_ret
      exact ⟨rfl, hw⟩
end Go.Proofs.YthhildeocedpiaaDoor
