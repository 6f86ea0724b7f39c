/- Texts as one: ExeWalk. -/
import Derived.Test.YtajpfkenhchafaaGreatDoorEz15
import Derived.Test.YtajpfkenhchafaaGreatDoorEz18
import Derived.Deep.DeepCutAuto
import Derived.Deep.CutBlock
/- What the walks of layer 23 share. -/
namespace Go.Proofs.YtajpfkenhchafaaGreatDoor
open Go Go.RowKit
set_option linter.unusedVariables false

theorem sumR_le {l : List TRow} (i : Nat) : sumR (l.take i) ≤ sumR l := by
  have h : sumR l = sumR (l.take i) + sumR (l.drop i) := by
    unfold sumR
    rw [← List.sum_append, ← List.map_append, List.take_append_drop]
  omega

/-- A row of the call's own, as one that is run. -/
theorem own_rows {W w : World} {lo ao : Option Addr} {l m : List TxM} {B cap : Nat} (h : RowsM W lo l) (hm : KQ txK 55 w B (.slice ao m.length cap) m) (hf : ∀ y ∈ m, ∀ b, txK.foot y b → B ≤ b) (hd : m.map TxM.d = l.map TxM.d) :
    RowsM w ao m ∧ m.length = l.length ∧ ∀ b, rowFoot txK ao m b → B ≤ b := by
  obtain ⟨h1, h2⟩ := rows_same h hd
  exact ⟨⟨hm.rowOf.1, by rw [h1]; exact h.len, h2⟩, h1, hm.foot_ge (Nat.le_refl _) (fun y hy b hb => hf y hy b hb)⟩
end Go.Proofs.YtajpfkenhchafaaGreatDoor
