/- A list of ids sorted is the rising list of the same ids. -/
import Derived.Test.YtegahpgokmcjhaaSortStr
import Derived.Test.YtegahpgokmcjhaaTabMath
namespace Go.Proofs.Ytegahpgokmcjhaa
open Go Go.RowKit Go.Sort
set_option linter.unusedVariables false

theorem nod_perm : ∀ {k m : List ByteArray}, k.Nodup → m.Nodup → (∀ i, i ∈ k ↔ i ∈ m) → k.Perm m := fun h1 h2 h => (List.perm_ext_iff_of_nodup h1 h2).2 h

/-- A list of ids that stand in any order, sorted: the rising list of the same ids. -/
theorem sortT_eq {k m : List ByteArray} (hm : m.Pairwise (fun a b => a.toList < b.toList)) (hp : k.Perm m) : sortT k = m := by
  have hl : ∀ x y : List UInt8, (decide (x ≤ y)) = true ↔ x ≤ y := fun x y => decide_eq_true_iff
  have h1 : ((k.map (fun x => x.data.toList)).mergeSort (fun x y => decide (x ≤ y))).Perm (m.map (fun x => x.data.toList)) := (List.mergeSort_perm _ _).trans (hp.map _)
  have h2 : ((k.map (fun x => x.data.toList)).mergeSort (fun x y => decide (x ≤ y))).Pairwise (· ≤ ·) := by
    have := List.pairwise_mergeSort (le := fun x y : List UInt8 => decide (x ≤ y)) (fun a b c h1 h2 => by rw [hl] at *; exact List.le_trans h1 h2) (fun a b => by
      rcases Std.le_total (a := a) (b := b) with h | h <;> simp [h]) (k.map (fun x => x.data.toList))
    exact this.imp (fun h => (hl _ _).1 h)
  have h3 : (m.map (fun x => x.data.toList)).Pairwise (· ≤ ·) := by
    rw [List.pairwise_map]
    exact hm.imp (fun {a b} h => by rw [ByteArray.toList_eq, ByteArray.toList_eq] at h; exact List.le_of_lt h)
  have h4 := List.Perm.eq_of_pairwise (fun a b _ _ h1 h2 => List.le_antisymm h1 h2) h2 h3 h1
  unfold sortT
  rw [h4, List.map_map]
  exact (List.map_congr_left (fun x _ => by cases x; rfl)).trans (List.map_id m)
end Go.Proofs.Ytegahpgokmcjhaa
