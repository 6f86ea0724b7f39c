/- What tuskref01.Same does at two rows of the same strings: it answers true; nothing old in memory is turned. -/
import Derived.Test.YtcjmeaikdfgapaaDoorWireGetList
import Derived.Deep.QuietTactic
import Derived.BigQuiet
namespace Go.Proofs.YtcjmeaikdfgapaaDoor
open Go.RowKit

theorem own_strs {w : World} {B : Nat} {ao : Option Addr} {n cap : Nat} {ss : List ByteArray} (h : w.ownsRow B 9 1 (.slice ao n cap) n ((bl ss).map strVal)) (hn : n = ss.length) : StrsAt w ao ss := by
  subst hn
  intro j hj
  rcases h.2 with ⟨hv, h0⟩ | ⟨g, cap', cur, hv, hb, hg, _⟩
  · omega
  · simp at hv
    obtain ⟨rfl, _⟩ := hv
    refine ⟨g, 0, rfl, (Array.getElem?_eq_some_iff.1 hg).1, ?_⟩
    have := h.cells (g := g) rfl j (.string ss[j]) (by simp [bl, strVal, List.getElem?_eq_getElem hj])
    rw [Go.WideShapes.add_plain] at this
    exact this

theorem StrsAt.drewN {w : World} {ao : Option Addr} {ss : List ByteArray} (h : StrsAt w ao ss) (n : Nat) : StrsAt (w.drewN n) ao ss :=
  h.below (below_drewN (Below.refl _ _) n)
end Go.Proofs.YtcjmeaikdfgapaaDoor
