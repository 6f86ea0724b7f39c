/- append(q, xs...) of a row's elements, q an empty row of the call's own: nothing but q's block and new ones is turned. -/
import Derived.Test.YthhildeocedpiaaDoorKinds
namespace Go.Proofs.YthhildeocedpiaaDoor
open Go.RowKit
set_option linter.unusedVariables false

section
variable {α : Type} {K : Kind α}

/-- As an equation of the run. -/
theorem run_copyK {P : Program} (w : World) (t ty : TypeId) (base : Nat) (e : TypeId) (i : TypeInfo) (z : Value) (bytes : Nat) (ht : P.underlying t = some (.slice e)) (hi : P.info? e = some i) (hz : i.zero = some z)
    (hsize : i.size = K.n) (hby : i.bytes = bytes) (hzs : z.cells.size = K.n)
    (v : Value) (hown : w.ownsRow base e K.n v 0 []) (ao : Option Addr) (cap : Nat) (l : List α)
    (hS : RowAt K w ao l) (hf : ∀ x b, ¬ K.foot x b) (hnil : ao = none → cap = 0) (hm : l.length ≤ maxLen) (hlen : l.length * bytes ≤ 140737488355328) (hbase : base ≤ w.heap.size) :
    ∃ ao' cap' w', (Builtin.append_ #[t, t] ty #[v, .slice ao l.length cap]).run P w = .ok (.slice ao' l.length cap') w' ∧ KQ K e w' base (.slice ao' l.length cap') l ∧ Kept (fun k => v.ownBlock = some k) w w' := by
  cases ao with
  | none =>
    have hc0 := hnil rfl
    subst hc0
    have hss : l = [] := by
      cases l with
      | nil => rfl
      | cons y r => obtain ⟨_, _, e, _⟩ := hS.cell 0 y rfl; cases e
    subst hss
    have hrun := run_append_owned_none (P := P) (w := w) base t ty e i K.n ht hi v 0 [] hown
    have hq := QRow.of_own hown
    rcases hown.2 with ⟨hv, _⟩ | ⟨g, c, cur, hv, _⟩
    · rw [hv] at hrun ⊢
      exact ⟨none, 0, w, hrun, KQ.empty K e w base, Kept.refl _ _⟩
    · rw [hv] at hrun hq hown ⊢
      exact ⟨_, c, w, hrun, ⟨hq, (fun x hx => by cases hx), (fun x hx => by cases hx), (fun k hk => ⟨(hown.lt k hk).1, (hown.lt k hk).2⟩), (fun n cap e => by cases e)⟩, Kept.refl _ _⟩
  | some ad =>
    obtain ⟨v', w', hrun, hown', hgrow, _⟩ := run_append_own (P := P) w base t ty e i z K.n bytes ht hi hz hsize hby hzs K.pos v 0 [] hown ad l.length cap (flatK K l) (flatK_length K l) hS.news (flatK_one K l) (by omega) (by rw [Nat.zero_add]; exact hlen) hbase
    rw [Nat.zero_add, List.nil_append] at hown'
    have hk := Kept.of_grown hgrow
    have hA : ∀ x ∈ l, K.At w' x := fun x hx => K.kept (hS.at_ x hx) hk (fun b hb' => absurd hb' (hf x b))
    have hq := QRow.of_own hown'
    obtain ⟨ao', cap', rfl, hlc, _⟩ := hq.form
    refine ⟨ao', cap', w', hrun, ⟨hq, hA, fun x hx b hb => absurd hb (hf x b), fun k hk => ⟨(hown'.lt k hk).1, (hown'.lt k hk).2⟩, ?_⟩, hk⟩
    intro n c he
    rcases hown'.2 with ⟨hv, _⟩ | ⟨g, c', cur, hv, _⟩
    · rw [hv] at he
      simp at he
      omega
    · rw [hv] at he
      cases he

/-- The same, at a step of a region that draws its order. -/
theorem step_copyK {P : Program} (w : World) {ops : Array Oper} {o : Oper} {a : Act} {C : Act → World → Prop} {Q : Exit → Act → World → Prop} {E : Prop} (hgd : o.guard = none) (s x : Operand) (t : TypeId)
    (ho : o.op = .call { callee := .builtin .append, args := #[s, x], argTypes := #[t, t] })
    (base : Nat) (e : TypeId) (i : TypeInfo) (z : Value) (bytes : Nat) (ht : P.underlying t = some (.slice e)) (hi : P.info? e = some i) (hz : i.zero = some z)
    (hsize : i.size = K.n) (hby : i.bytes = bytes) (hzs : z.cells.size = K.n)
    (v : Value) (hs : a.eval s = v) (hown : w.ownsRow base e K.n v 0 []) (ao : Option Addr) (cap : Nat) (l : List α) (hx : a.eval x = .slice ao l.length cap)
    (hS : RowAt K w ao l) (hf : ∀ x b, ¬ K.foot x b) (hnil : ao = none → cap = 0) (hm : l.length ≤ maxLen) (hlen : l.length * bytes ≤ 140737488355328) (hbase : base ≤ w.heap.size)
    (h : ∀ ao' cap' w', KQ K e w' base (.slice ao' l.length cap') l → Kept (fun k => v.ownBlock = some k) w w' → C (a.put o.dst (.slice ao' l.length cap')) w') : if Region.wanted o (yielded ops a.tmps) = true then Oper.wp P o a w C Q else E := by
  rw [if_pos (by simp [Region.wanted, hgd])]
  obtain ⟨ao', cap', w', hrun, r1, r2⟩ := run_copyK (K := K) (P := P) w t o.type base e i z bytes ht hi hz hsize hby hzs v hown ao cap l hS hf hnil hm hlen hbase
  unfold Oper.wp
  simp [execOp, ho, resolve, invoke, builtin, hs, hx, hrun, Result.andThen]
  exact h ao' cap' w' r1 r2
end
end Go.Proofs.YthhildeocedpiaaDoor
