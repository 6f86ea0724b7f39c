/- A sealer and two rows side by side in memory, none in the other's way. -/
import Derived.Test.YtdnkakmdhdceaaaBatAddNew
import Derived.Test.YtdnkakmdhdceaaaTxQueue
namespace Go.Proofs.Ytdnkakmdhdceaaa
open Go.RowKit
set_option linter.unusedVariables false

/-- A sealer, what was added, what came out. -/
structure Ord (w : World) (base p : Nat) (q qi qo : Value) (au : Int) (s : Seal TxM) (li lo : List TxM) : Prop where
  sl : SlAt 73 w base p q au s
  ri : TxQ w base qi li
  ro : TxQ w base qo lo
  d1 : ∀ k, SlB p q k → qi.ownBlock ≠ some k
  d2 : ∀ k, SlB p q k → qo.ownBlock ≠ some k
  d3 : ∀ k, qi.ownBlock = some k → qo.ownBlock ≠ some k
  os : ∀ x ∈ s.l, x.Off (fun k => qi.ownBlock = some k ∨ qo.ownBlock = some k)
  oi : ∀ x ∈ li, x.Off (fun k => SlB p q k ∨ qo.ownBlock = some k)
  oo : ∀ x ∈ lo, x.Off (fun k => SlB p q k ∨ qi.ownBlock = some k)

theorem Ord.below {w w' : World} {base p : Nat} {q qi qo : Value} {au : Int} {s : Seal TxM} {li lo : List TxM} (h : Ord w base p q qi qo au s li lo) (hb : Below w.heap.size w w') : Ord w' base p q qi qo au s li lo :=
  ⟨h.sl.below hb, h.ri.below hb, h.ro.below hb, h.d1, h.d2, h.d3, h.os, h.oi, h.oo⟩

/-- The sealer was turned. -/
theorem Ord.seal {w w' : World} {base p : Nat} {q q' qi qo : Value} {au : Int} {s s' : Seal TxM} {li lo : List TxM} (h : Ord w base p q qi qo au s li lo) (hs : SlAt 73 w' base p q' au s') (hk : Kept (SlB p q) w w') (hf : ∀ k, SlB p q' k → SlB p q k ∨ w.heap.size ≤ k)
    (hn : ∀ x ∈ s'.l, x ∈ s.l ∨ x.Off (fun k => k < w.heap.size)) : Ord w' base p q' qi qo au s' li lo := by
  have f1 : ∀ k, SlB p q' k → qi.ownBlock ≠ some k := fun k hk' e => by
    rcases hf k hk' with h1 | h1
    · exact h.d1 k h1 e
    · have := (h.ri.lt k e).2; omega
  have f2 : ∀ k, SlB p q' k → qo.ownBlock ≠ some k := fun k hk' e => by
    rcases hf k hk' with h1 | h1
    · exact h.d2 k h1 e
    · have := (h.ro.lt k e).2; omega
  refine ⟨hs, h.ri.kept hk (fun k e hS => h.d1 k hS e) (fun x hx => (h.oi x hx).mono (fun k e => Or.inl e)), h.ro.kept hk (fun k e hS => h.d2 k hS e) (fun x hx => (h.oo x hx).mono (fun k e => Or.inl e)), f1, f2, h.d3, ?_, ?_, ?_⟩
  · intro x hx
    rcases hn x hx with h1 | h1
    · exact h.os x h1
    · exact h1.mono (fun k e => by
        rcases e with e | e
        · exact (h.ri.lt k e).2
        · exact (h.ro.lt k e).2)
  · exact fun x hx => (h.ri.at_ x hx).off_grow (h.oi x hx) (fun k e => by
      rcases e with e | e
      · exact (hf k e).imp (fun h => Or.inl h) id
      · exact Or.inl (Or.inr e))
  · exact fun x hx => (h.ro.at_ x hx).off_grow (h.oo x hx) (fun k e => by
      rcases e with e | e
      · exact (hf k e).imp (fun h => Or.inl h) id
      · exact Or.inl (Or.inr e))

/-- More was appended to what was added. -/
theorem Ord.pushIn {w w' : World} {base p : Nat} {q qi qi' qo : Value} {au : Int} {s : Seal TxM} {li lo : List TxM} {m : List TxM} (h : Ord w base p q qi qo au s li lo) (hq : TxQ w' base qi' (li ++ m)) (hgr : w.grownBy w' qi.ownBlock) (hf : ∀ k, qi'.ownBlock = some k → qi.ownBlock = some k ∨ w.heap.size ≤ k)
    (hm : ∀ x ∈ m, x.At w ∧ x.Off (fun k => SlB p q k ∨ qo.ownBlock = some k)) : Ord w' base p q qi' qo au s (li ++ m) lo := by
  have k := Kept.of_grown hgr
  have hsl : ∀ j, SlB p q j → ¬ qi.ownBlock = some j := h.d1
  refine ⟨h.sl.kept k hsl (fun x hx => (h.os x hx).mono (fun j e => Or.inl e)), hq, h.ro.kept k (fun j e hS => h.d3 j hS e) (fun x hx => (h.oo x hx).mono (fun j e => Or.inr e)), ?_, h.d2, ?_, ?_, ?_, ?_⟩
  · intro j hj e
    rcases hf j e with h1 | h1
    · exact h.d1 j hj h1
    · rcases hj with rfl | hj
      · have := h.sl.own.2; omega
      · have := h.sl.lt j hj; omega
  · intro j e e2
    rcases hf j e with h1 | h1
    · exact h.d3 j h1 e2
    · have := (h.ro.lt j e2).2; omega
  · exact fun x hx => (h.sl.at_ x hx).off_grow (h.os x hx) (fun j e => by
      rcases e with e | e
      · exact (hf j e).imp (fun h => Or.inl h) id
      · exact Or.inl (Or.inr e))
  · intro x hx
    rw [List.mem_append] at hx
    rcases hx with hx | hx
    · exact h.oi x hx
    · exact (hm x hx).2
  · exact fun x hx => (h.ro.at_ x hx).off_grow (h.oo x hx) (fun j e => by
      rcases e with e | e
      · exact Or.inl (Or.inl e)
      · exact (hf j e).imp (fun h => Or.inr h) id)

/-- More was appended to what came out. -/
theorem Ord.pushOut {w w' : World} {base p : Nat} {q qi qo qo' : Value} {au : Int} {s : Seal TxM} {li lo : List TxM} {m : List TxM} (h : Ord w base p q qi qo au s li lo) (hq : TxQ w' base qo' (lo ++ m)) (hgr : w.grownBy w' qo.ownBlock) (hf : ∀ k, qo'.ownBlock = some k → qo.ownBlock = some k ∨ w.heap.size ≤ k)
    (hm : ∀ x ∈ m, x.At w ∧ x.Off (fun k => SlB p q k ∨ qi.ownBlock = some k)) : Ord w' base p q qi qo' au s li (lo ++ m) := by
  have k := Kept.of_grown hgr
  refine ⟨h.sl.kept k h.d2 (fun x hx => (h.os x hx).mono (fun j e => Or.inr e)), h.ri.kept k (fun j e hS => h.d3 j e hS) (fun x hx => (h.oi x hx).mono (fun j e => Or.inr e)), hq, h.d1, ?_, ?_, ?_, ?_, ?_⟩
  · intro j hj e
    rcases hf j e with h1 | h1
    · exact h.d2 j hj h1
    · rcases hj with rfl | hj
      · have := h.sl.own.2; omega
      · have := h.sl.lt j hj; omega
  · intro j e e2
    rcases hf j e2 with h1 | h1
    · exact h.d3 j e h1
    · have := (h.ri.lt j e).2; omega
  · exact fun x hx => (h.sl.at_ x hx).off_grow (h.os x hx) (fun j e => by
      rcases e with e | e
      · exact Or.inl (Or.inl e)
      · exact (hf j e).imp (fun h => Or.inr h) id)
  · exact fun x hx => (h.ri.at_ x hx).off_grow (h.oi x hx) (fun j e => by
      rcases e with e | e
      · exact Or.inl (Or.inl e)
      · exact (hf j e).imp (fun h => Or.inr h) id)
  · intro x hx
    rw [List.mem_append] at hx
    rcases hx with hx | hx
    · exact h.oo x hx
    · exact (hm x hx).2
end Go.Proofs.Ytdnkakmdhdceaaa
