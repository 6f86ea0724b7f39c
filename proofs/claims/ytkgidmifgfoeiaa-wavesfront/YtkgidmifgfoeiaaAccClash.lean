/- What access.Clash does. -/
import Derived.Test.YtkgidmifgfoeiaaAccTx
import Derived.Test.YtkgidmifgfoeiaaMapStr
namespace Go.Proofs.Ytkgidmifgfoeiaa
open Go Go.RowKit
set_option linter.unusedVariables false

/-- What is declared of a key. -/
def usesF (rs ws : List ByteArray) (k : ByteArray) : Option Value := if inK ws k = true then some (.int .i64 2) else if inK rs k = true then some (.int .i64 1) else none

theorem inK_snoc (l : List ByteArray) (x k : ByteArray) : inK (l ++ [x]) k = (inK l k || decide (x = k)) := by
  unfold inK
  rw [List.any_append]
  simp

theorem usesF_read {rs : List ByteArray} {i : Nat} {x : ByteArray} (hx : rs[i]? = some x) (k : ByteArray) : usesF (rs.take (i + 1)) [] k = putF (usesF (rs.take i) []) x (.int .i64 1) k := by
  rw [List.take_add_one, hx]
  unfold usesF putF
  show _ = if k = x then _ else _
  have e0 : inK [] k = false := rfl
  simp only [e0, Option.toList_some, inK_snoc]
  by_cases h : k = x
  · subst h; simp
  · rw [if_neg h]
    have : decide (x = k) = false := decide_eq_false (fun e => h e.symm)
    rw [this, Bool.or_false]

theorem usesF_write {rs ws : List ByteArray} {i : Nat} {x : ByteArray} (hx : ws[i]? = some x) (k : ByteArray) : usesF rs (ws.take (i + 1)) k = putF (usesF rs (ws.take i)) x (.int .i64 2) k := by
  rw [List.take_add_one, hx]
  unfold usesF putF
  simp only [Option.toList_some, inK_snoc]
  by_cases h : k = x
  · subst h; simp
  · rw [if_neg h]
    have : decide (x = k) = false := decide_eq_false (fun e => h e.symm)
    rw [this, Bool.or_false]

theorem putN_le (f : ByteArray → Option Value) (id : ByteArray) (n : Nat) : putN f id n ≤ n + 1 := by
  unfold putN
  split <;> omega

def GotUses (W : World) (x : TxA) (e : Ending) (w : World) : Prop :=
  ∃ b n, e = .returned (.map (some b)) ∧ SMap w b (usesF x.rs x.ws) n ∧ W.heap.size ≤ b ∧ Below W.heap.size W w

theorem zeroIntA (w : World) : (zeroValue 3).run Try.prog w = .ok (.int .i64 0) w := by rfl

theorem clash_uses (a b : RwD) : clashB a b = (b.ws.any (fun y => inK a.ws y || inK a.rs y) || b.rs.any (fun y => inK a.ws y)) := by
  rw [Bool.eq_iff_iff, clashB_iff]
  simp only [Bool.or_eq_true, List.any_eq_true, inK_iff]
  constructor
  · rintro (⟨k, h1, h2 | h2⟩ | ⟨k, h1, h2⟩)
    · exact Or.inl ⟨k, h2, Or.inl h1⟩
    · exact Or.inr ⟨k, h2, h1⟩
    · exact Or.inl ⟨k, h1, Or.inr h2⟩
  · rintro (⟨k, h1, h2 | h2⟩ | ⟨k, h1, h2⟩)
    · exact Or.inl ⟨k, h2, Or.inl h1⟩
    · exact Or.inr ⟨k, h1, h2⟩
    · exact Or.inl ⟨k, h2, Or.inr h1⟩

theorem two_newA (w : World) (x y : TxA) : ∃ w2, w2 = (w.alloc (.cells x.c.toArray 38)).alloc (.cells y.c.toArray 38) ∧ Arr w2 w.heap.size 38 x.c ∧ Arr w2 (w.heap.size + 1) 38 y.c ∧ Below w.heap.size w w2 := by
  obtain ⟨h1, h2, h3⟩ := two_new w 38 38 x.c y.c
  exact ⟨_, rfl, h1, h2, h3⟩

theorem take_any {α : Type} {l : List α} {p : α → Bool} {i : Nat} {x : α} (hx : l[i]? = some x) (h : (l.take i).any p = false) (hp : p x = false) : (l.take (i + 1)).any p = false := by
  rw [List.take_add_one, hx, List.any_append, h]
  simp [hp]

theorem any_hit {α : Type} {l : List α} {p : α → Bool} {i : Nat} {x : α} (hx : l[i]? = some x) (hp : p x = true) : l.any p = true := List.any_eq_true.2 ⟨x, List.mem_of_getElem? hx, hp⟩
end Go.Proofs.Ytkgidmifgfoeiaa
