/- A map of numbers to yes or no that the call makes: what is looked up in it, and how it is written. -/
import Derived.Test.YtmbfidegcebbdaaQueue
import Derived.Maps.OwnSet
import Derived.Maps.OwnOps
namespace Go.Proofs.Ytmbfidegcebbdaa
open Go Go.RowKit Go.Maps
set_option linter.unusedVariables false

theorem plainElem_bool_inv {H : Type} {P : Program} {e : TypeId} (he : P.underlying e = some .bool) {v : Value} {z : DataW H × List MemPlace} (h : plainElem P e v = some z) : ∃ b, v = .bool b ∧ z = (.lit (.bool b), []) := by
  unfold plainElem at h
  simp only [he] at h
  cases v <;> simp_all

/-- 'm[k]' at elements that are bools. -/
theorem wpList_lookup_own_bool {H : Type} {P : Program} (w : World) {ops : Array Oper} {rest : List Oper} {o : Oper} {a : Act} {Q : Exit → Act → World → Prop}
    (hg : o.guard = none) (m x : Operand) (t : TypeId) (hop : o.op = Op.lookup t m x false)
    (k e : TypeId) (K : Keyed P k) (ht : P.underlying t = some (.map k e)) (he : P.underlying e = some .bool) (hz : (zeroValue e).run P w = .ok (.bool false) w) (b n : Nat) (D : DataW H)
    (hm : a.eval m = .map (some b)) (hown : w.ownsMap P k (plainElem P e) b n D) (key : Value) (kl : Lit) (hx : a.eval x = key) (hkey : keyOf P k key = some kl)
    (c : Bool) (hat : D.atKey kl (.lit (.bool false)) = .lit (.bool c)) (hK : wpList P ops Q rest (a.put o.dst (.bool c)) w) :
    wpList P ops Q (o :: rest) a w := by
  refine wpList_plain hg fun K' hK' => ?_
  obtain ⟨v, ps, hrun, hv⟩ := hown.lookup K ht hz (plainElem_bool he false) hkey
  obtain ⟨c', rfl, hc'⟩ := plainElem_bool_inv he hv
  simp only [Prod.mk.injEq] at hc'
  have : c' = c := by
    have h1 := hc'.1
    rw [hat] at h1
    simp at h1
    exact h1.symm
  subst this
  unfold Oper.wp
  simp [execOp, hop, hm, hx, hrun, Result.andThen]
  exact hK' _ _ hK

theorem Kept.grown {w w' : World} {r : Nat} (h : Kept (fun k => k = r) w w') : w.grownBy w' (some r) := ⟨h.os, h.tape, h.output, h.size, fun k hk hne => h.block k hk (fun e => hne (by rw [e]))⟩

theorem Below.grown0 {w w' : World} (h : Below w.heap.size w w') : w.grownBy w' none := ⟨h.os, h.tape, h.output, h.size, fun k hk _ => h.block k hk⟩

/-- The map holds just the numbers below n that p tells. -/
structure SetMap (D : DataW Unit) (n : Nat) (p : Nat → Bool) (sz : Nat) : Prop where
  at_ : ∀ j, j < n → D.atKey (.int .i64 (j : Int)) (.lit (.bool false)) = .lit (.bool (p j))
  has : ∀ j, j < n → Maps.has D (.int .i64 (j : Int)) = p j
  size : Maps.size D = sz

theorem key_ok (j : Int) : WideAt.IsKeyLit (.int .i64 j) := by
  exact trivial

theorem SetMap.put {D : DataW Unit} {n : Nat} {p : Nat → Bool} {sz : Nat} (h : SetMap D n p sz) (hT : Tidy D) {j : Nat} (hj : j < n) {p' : Nat → Bool} (hp : ∀ i, p' i = if i = j then true else p i) : SetMap (D.put (.int .i64 (j : Int)) (.lit (.bool true))) n p' (if p j = true then sz else sz + 1) := by
  refine ⟨fun i hi => ?_, fun i hi => ?_, ?_⟩
  · rw [hp]
    by_cases e : i = j
    · subst e
      rw [if_pos rfl]
      exact atKey_put_same hT.isMap (key_ok _) _ _
    · rw [if_neg e, atKey_put_other (by simp; omega)]
      exact h.at_ i hi
  · rw [hp]
    by_cases e : i = j
    · subst e
      rw [if_pos rfl]
      exact has_put_same hT.isMap (key_ok _) _
    · rw [if_neg e, has_put_other (by simp; omega)]
      exact h.has i hi
  · rw [size_put hT, h.has j hj, h.size]
end Go.Proofs.Ytmbfidegcebbdaa
