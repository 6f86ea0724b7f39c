/- What access.lastWriters does. -/
import Derived.Test.YtkgidmifgfoeiaaAccGroups
namespace Go.Proofs.Ytkgidmifgfoeiaa
open Go Go.RowKit
set_option linter.unusedVariables false

/-- Transactions are few, and their keys. -/
def Few (l : List TxA) : Prop := l.length ≤ 1000 ∧ ∀ x ∈ l, x.rs.length ≤ 1000 ∧ x.ws.length ≤ 1000

/-- The last writers among the first i members, and of member i's first keys. -/
def lastP (l : List RwD) (i : Nat) (ks : List ByteArray) (key : ByteArray) : Option Value :=
  if inK ks key = true then some (.int .i64 ((i : Nat) : Int)) else (lastN l key i).map (fun w => .int .i64 ((w : Nat) : Int))

theorem lastP_put {l : List RwD} {i j : Nat} {ks : List ByteArray} {y : ByteArray} (hy : ks[j]? = some y) (k : ByteArray) : lastP l i (ks.take (j + 1)) k = putF (lastP l i (ks.take j)) y (.int .i64 ((i : Nat) : Int)) k := by
  rw [List.take_add_one, hy]
  unfold lastP putF
  simp only [Option.toList_some, inK_snoc]
  by_cases h : k = y
  · subst h; simp
  · rw [if_neg h]
    have : decide (y = k) = false := decide_eq_false (fun e => h e.symm)
    rw [this, Bool.or_false]

theorem lastP_end {l : List RwD} {i : Nat} {t : RwD} (ht : l[i]? = some t) (k : ByteArray) : lastP l (i + 1) [] k = lastP l i t.ws k := by
  have h1 : lastN l k (i + 1) = match l[i]? with | some t => if inK t.ws k = true then some i else lastN l k i | none => lastN l k i := rfl
  unfold lastP
  have e0 : inK [] k = false := rfl
  rw [e0, h1, ht]
  simp only [Bool.false_eq_true, if_false]
  by_cases h : inK t.ws k = true
  · rw [if_pos h, if_pos h]; rfl
  · rw [if_neg h, if_neg h]

theorem lastP_start (l : List RwD) (k : ByteArray) : lastP l 0 [] k = none := rfl

def GotLast (W : World) (l : List RwD) (e : Ending) (w : World) : Prop :=
  ∃ b n, e = .returned (.map (some b)) ∧ SMap w b (lastF l) n ∧ W.heap.size ≤ b ∧ Below W.heap.size W w
end Go.Proofs.Ytkgidmifgfoeiaa
