/- append(q, xs...) upon a row of the call's own, whatever is appended; a copy at an operation that is guarded. -/
import Derived.Test.YthhildeocedpiaaDoorKindsCopy
import Derived.Test.YthhildeocedpiaaDoorKindsSet
namespace Go.Proofs.YthhildeocedpiaaDoor
open Go.RowKit
set_option linter.unusedVariables false

section
variable {α : Type} {K : Kind α}

/-- append(q, xs...), q of the call's own, xs at an address. -/
theorem step_ownO {P : Program} (w : World) {ops : Array Oper} {o : Oper} {a : Act} {C : Act → World → Prop} {Q : Exit → Act → World → Prop} {E : Prop} (hgd : o.guard = none) (s x : Operand) (t : TypeId)
    (ho : o.op = .call { callee := .builtin .append, args := #[s, x], argTypes := #[t, t] })
    (base : Nat) (e : TypeId) (i : TypeInfo) (z : Value) (bytes : Nat) (ht : P.underlying t = some (.slice e)) (hi : P.info? e = some i) (hz : i.zero = some z)
    (hsize : i.size = K.n) (hby : i.bytes = bytes) (hzs : z.cells.size = K.n)
    (v : Value) (n : Nat) (xs : List Value) (hs : a.eval s = v) (hown : w.ownsRow base e K.n v n xs) (ad : Addr) (cap : Nat) (l : List α) (hx : a.eval x = .slice (some ad) l.length cap)
    (hS : RowAt K w (some ad) l) (hm : n + l.length ≤ maxLen) (hlen : (n + l.length) * bytes ≤ 140737488355328) (hbase : base ≤ w.heap.size)
    (h : ∀ ao' cap' w', w'.ownsRow base e K.n (.slice ao' (n + l.length) cap') (n + l.length) (xs ++ flatK K l) → Kept (fun k => v.ownBlock = some k) w w' → C (a.put o.dst (.slice ao' (n + l.length) cap')) w') : if Region.wanted o (yielded ops a.tmps) = true then Oper.wp P o a w C Q else E := by
  rw [if_pos (by simp [Region.wanted, hgd])]
  obtain ⟨v', w', hrun, hown', hgrow, _⟩ := run_append_own (P := P) w base t o.type e i z K.n bytes ht hi hz hsize hby hzs K.pos v n xs hown ad l.length cap (flatK K l) (flatK_length K l) hS.news (flatK_one K l) hm hlen hbase
  obtain ⟨ao', cap', rfl, _, _⟩ := (QRow.of_own hown').form
  unfold Oper.wp
  simp [execOp, ho, resolve, invoke, builtin, hs, hx, hrun, Result.andThen]
  exact h ao' cap' w' hown' (Kept.of_grown hgrow)

/-- The same, the lengths under letters. -/
theorem step_ownM {P : Program} (w : World) {ops : Array Oper} {o : Oper} {a : Act} {C : Act → World → Prop} {Q : Exit → Act → World → Prop} {E : Prop} (hgd : o.guard = none) (s x : Operand) (t : TypeId)
    (ho : o.op = .call { callee := .builtin .append, args := #[s, x], argTypes := #[t, t] })
    (base : Nat) (e : TypeId) (i : TypeInfo) (z : Value) (bytes : Nat) (ht : P.underlying t = some (.slice e)) (hi : P.info? e = some i) (hz : i.zero = some z)
    (hsize : i.size = K.n) (hby : i.bytes = bytes) (hzs : z.cells.size = K.n)
    (v : Value) (n m N : Nat) (xs : List Value) (hs : a.eval s = v) (hown : w.ownsRow base e K.n v n xs) (ad : Addr) (cap : Nat) (l : List α) (hl : l.length = m) (hN : n + m = N) (hx : a.eval x = .slice (some ad) m cap)
    (hS : RowAt K w (some ad) l) (hm : N ≤ maxLen) (hlen : N * bytes ≤ 140737488355328) (hbase : base ≤ w.heap.size)
    (h : ∀ ao' cap' w', w'.ownsRow base e K.n (.slice ao' N cap') N (xs ++ flatK K l) → Kept (fun k => v.ownBlock = some k) w w' → C (a.put o.dst (.slice ao' N cap')) w') : if Region.wanted o (yielded ops a.tmps) = true then Oper.wp P o a w C Q else E := by
  subst hl
  subst hN
  exact step_ownO w hgd s x t ho base e i z bytes ht hi hz hsize hby hzs v n xs hs hown ad cap l hx hS hm hlen hbase h

/-- append(q, xs...), q of the call's own, xs whatever row. -/
theorem step_ownR {P : Program} (w : World) {ops : Array Oper} {o : Oper} {a : Act} {C : Act → World → Prop} {Q : Exit → Act → World → Prop} {E : Prop} (hgd : o.guard = none) (s x : Operand) (t : TypeId)
    (ho : o.op = .call { callee := .builtin .append, args := #[s, x], argTypes := #[t, t] })
    (base : Nat) (e : TypeId) (i : TypeInfo) (z : Value) (bytes : Nat) (ht : P.underlying t = some (.slice e)) (hi : P.info? e = some i) (hz : i.zero = some z)
    (hsize : i.size = K.n) (hby : i.bytes = bytes) (hzs : z.cells.size = K.n)
    (v : Value) (n m N : Nat) (xs : List Value) (hs : a.eval s = v) (hown : w.ownsRow base e K.n v n xs) (ao : Option Addr) (cap : Nat) (l : List α) (hl : l.length = m) (hN : n + m = N) (hx : a.eval x = .slice ao m cap)
    (hS : RowAt K w ao l) (hnil : ao = none → cap = 0) (hm : N ≤ maxLen) (hlen : N * bytes ≤ 140737488355328) (hbase : base ≤ w.heap.size)
    (h : ∀ ao' cap' w', w'.ownsRow base e K.n (.slice ao' N cap') N (xs ++ flatK K l) → Kept (fun k => v.ownBlock = some k) w w' → C (a.put o.dst (.slice ao' N cap')) w') : if Region.wanted o (yielded ops a.tmps) = true then Oper.wp P o a w C Q else E := by
  cases ao with
  | some ad => exact step_ownM w hgd s x t ho base e i z bytes ht hi hz hsize hby hzs v n m N xs hs hown ad cap l hl hN hx hS hm hlen hbase h
  | none =>
    have hc0 := hnil rfl
    subst hc0
    have hss : l = [] := by
      cases l with
      | nil => rfl
      | cons y r => obtain ⟨_, _, e, _⟩ := hS.cell 0 y rfl; cases e
    subst hss
    have hm0 : m = 0 := by simpa using hl.symm
    subst hm0
    have hNn : N = n := by omega
    subst hNn
    rw [if_pos (by simp [Region.wanted, hgd])]
    have hrun := run_append_owned_none (P := P) (w := w) base t o.type e i K.n ht hi v N xs hown
    obtain ⟨ao', cap', rfl, _, _⟩ := (QRow.of_own hown).form
    have e0 : xs ++ flatK K ([] : List α) = xs := by simp [flatK]
    rw [e0] at h
    unfold Oper.wp
    simp [execOp, ho, resolve, invoke, builtin, hs, hx, hrun, Result.andThen]
    exact h ao' cap' w hown (Kept.refl _ _)

/-- A row of the call's own, flat elements. -/
theorem KQ.of_own {T : TypeId} {w : World} {base : Nat} {ao : Option Addr} {n cap : Nat} {l : List α} (hf : ∀ x b, ¬ K.foot x b) (hA : ∀ x ∈ l, K.At w x) (hn : n = l.length) (h : w.ownsRow base T K.n (.slice ao n cap) n (flatK K l)) : KQ K T w base (.slice ao n cap) l := by
  subst hn
  refine ⟨QRow.of_own h, hA, fun x hx b hb => absurd hb (hf x b), fun k hk => ⟨(h.lt k hk).1, (h.lt k hk).2⟩, ?_⟩
  intro n c he
  rcases h.2 with ⟨hv, _⟩ | ⟨g, c', cur, hv, _⟩
  · rw [hv] at he
    simp at he
    omega
  · rw [hv] at he
    cases he

/-- append(q, xs...), q an empty row of the call's own, at an operation that is wanted. -/
theorem wpList_copyW {P : Program} {w : World} {ops : Array Oper} {rest : List Oper} {o : Oper} {a : Act} {Q : Exit → Act → World → Prop} (hw : Region.wanted o (yielded ops a.tmps) = true) (s x : Operand) (t : TypeId)
    (ho : o.op = .call { callee := .builtin .append, args := #[s, x], argTypes := #[t, t] })
    (base : Nat) (e : TypeId) (i : TypeInfo) (z : Value) (bytes : Nat) (ht : P.underlying t = some (.slice e)) (hi : P.info? e = some i) (hz : i.zero = some z)
    (hsize : i.size = K.n) (hby : i.bytes = bytes) (hzs : z.cells.size = K.n)
    (v : Value) (hs : a.eval s = v) (hown : w.ownsRow base e K.n v 0 []) (ao : Option Addr) (cap : Nat) (l : List α) (hx : a.eval x = .slice ao l.length cap)
    (hS : RowAt K w ao l) (hf : ∀ x b, ¬ K.foot x b) (hnil : ao = none → cap = 0) (hm : l.length ≤ maxLen) (hlen : l.length * bytes ≤ 140737488355328) (hbase : base ≤ w.heap.size)
    (h : ∀ ao' cap' w', KQ K e w' base (.slice ao' l.length cap') l → Kept (fun k => v.ownBlock = some k) w w' → wpList P ops Q rest (a.put o.dst (.slice ao' l.length cap')) w') : wpList P ops Q (o :: rest) a w := by
  refine wpList_step fun K' hK' => ?_
  rw [if_pos hw]
  obtain ⟨ao', cap', w', hrun, r1, r2⟩ := run_copyK (K := K) (P := P) w t o.type base e i z bytes ht hi hz hsize hby hzs v hown ao cap l hS hf hnil hm hlen hbase
  unfold Oper.wp
  simp [execOp, ho, resolve, invoke, builtin, hs, hx, hrun, Result.andThen]
  exact hK' _ _ (h ao' cap' w' r1 r2)
end
end Go.Proofs.YthhildeocedpiaaDoor
