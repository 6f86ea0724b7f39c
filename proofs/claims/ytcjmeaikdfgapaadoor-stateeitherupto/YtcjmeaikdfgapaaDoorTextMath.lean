/- Texts: their order and when they are the same. -/
import Derived.Test.YtcjmeaikdfgapaaDoorSlimBase
namespace Go.Proofs.YtcjmeaikdfgapaaDoor
open Go Go.RowKit
set_option linter.unusedVariables false

theorem bytes_eq (a b : ByteArray) : (a.toList == b.toList) = decide (a = b) := by
  by_cases h : a = b
  · subst h; simp
  · rw [decide_eq_false h]
    refine beq_eq_false_iff_ne.2 (fun e => h ?_)
    rw [ByteArray.toList_eq, ByteArray.toList_eq] at e
    cases a
    cases b
    simpa using e

theorem lessT_eq : ∀ (x y : List UInt8), Op.bytesLess x y = decide (x < y)
  | [], [] => by simp [Op.bytesLess]
  | _ :: _, [] => by simp [Op.bytesLess]
  | [], _ :: _ => by simp [Op.bytesLess]
  | a :: x, b :: y => by
    rw [Op.bytesLess, lessT_eq x y]
    simp only [List.cons_lt_cons_iff]
    by_cases h1 : a < b <;> by_cases h2 : a = b <;> by_cases h3 : x < y <;> simp [h1, h2, h3]

theorem bytes_inj {a b : ByteArray} (h : a.toList = b.toList) : a = b := by
  have h1 := bytes_eq a b
  rw [h] at h1
  exact of_decide_eq_true (by rw [← h1]; simp)
end Go.Proofs.YtcjmeaikdfgapaaDoor
