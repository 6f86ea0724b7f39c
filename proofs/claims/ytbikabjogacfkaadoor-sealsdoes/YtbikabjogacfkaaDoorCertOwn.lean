/- What tusklaw07.Own does: a certificate that shares nothing; nothing old in memory is turned. -/
import Derived.Test.YtbikabjogacfkaaDoorHdrRows
import Derived.Test.YtbikabjogacfkaaDoorKindsCopy
import Derived.Deep.RegionHeld3
namespace Go.Proofs.YtbikabjogacfkaaDoor
open Go.RowKit
set_option linter.unusedVariables false

theorem ownEmpty (w : World) : (w.alloc (.cells #[] 32)).ownsRow w.heap.size 32 tagK.n (.slice (some ⟨w.heap.size, 0, none⟩) 0 0) 0 [] := World.ownsRow_made w #[] 0 (Nat.le_refl _) (by unfold maxLen; omega) (by simp)

theorem own_belowC {B : Nat} {e : TypeId} {k : Nat} {v : Value} {n : Nat} {xs : List Value} {w w' : World} (h : w.ownsRow B e k v n xs) (hb : Below w.heap.size w w') : w'.ownsRow B e k v n xs := by
  refine ⟨h.1, ?_⟩
  rcases h.2 with h0 | ⟨g, cap, cur, hv, hB, hg, r⟩
  · exact Or.inl h0
  · have hl : g < w.heap.size := (Array.getElem?_eq_some_iff.1 hg).1
    exact Or.inr ⟨g, cap, cur, hv, hB, by rw [hb.block g hl]; exact hg, r⟩
end Go.Proofs.YtbikabjogacfkaaDoor
