/- A sealer in memory: its box, and the row of what waits. -/
import Derived.Test.YtibfnefdpbdkoaaTxRows
import Derived.Test.YtibfnefdpbdkoaaSealMath
namespace Go.Proofs.Ytibfnefdpbdkoaa
open Go.RowKit
set_option linter.unusedVariables false

theorem TxM.At.off_ge {x : TxM} {w : World} (h : x.At w) {S : Nat → Prop} (hS : ∀ k, S k → w.heap.size ≤ k) : x.Off S := by
  refine ⟨fun b off e hl hk => ?_, fun b off e hl hk => ?_⟩
  · obtain ⟨b', off', e', h2, _⟩ := h.at_.rd 0 hl
    rw [e] at e'
    simp at e'
    have := hS b hk
    omega
  · obtain ⟨b', off', e', h2, _⟩ := h.at_.wr 0 hl
    rw [e] at e'
    simp at e'
    have := hS b hk
    omega

/-- Two sets of blocks that a list keeps off, where the second has new blocks alone behind the first. -/
theorem TxM.At.off_grow {x : TxM} {w : World} (h : x.At w) {S T : Nat → Prop} (ho : x.Off S) (hT : ∀ k, T k → S k ∨ w.heap.size ≤ k) : x.Off T := by
  have h2 := h.off_ge (S := fun k => w.heap.size ≤ k) (fun k hk => hk)
  exact ⟨fun b off e hl hk => (hT b hk).elim (ho.r b off e hl) (h2.r b off e hl), fun b off e hl hk => (hT b hk).elim (ho.w b off e hl) (h2.w b off e hl)⟩

/-- The blocks that a sealer turns: its box, and its row's. -/
def SlB (p : Nat) (q : Value) : Nat → Prop := fun k => k = p ∨ q.ownBlock = some k

/-- A sealer: its box is block p, its row is q. -/
structure SlAt (T : TypeId) (w : World) (base p : Nat) (q : Value) (au : Int) (s : Seal TxM) : Prop where
  box : Arr w p T [.int .i64 au, .int .i64 (s.size : Int), .int .i64 (s.wait : Int), q, .int .i64 (s.ticks : Int), .int .i64 (s.number : Int)]
  row : QRow w base 33 9 q s.l.length (flatX s.l)
  at_ : ∀ x ∈ s.l, x.At w
  off : ∀ x ∈ s.l, x.Off (SlB p q)
  bp : base ≤ p
  ne : q.ownBlock ≠ some p
  lt : ∀ k, q.ownBlock = some k → k < w.heap.size
  lb : ∀ k, q.ownBlock = some k → base ≤ k

theorem SlAt.kept {T : TypeId} {w w' : World} {base p : Nat} {q : Value} {au : Int} {s : Seal TxM} (h : SlAt T w base p q au s) {S : Nat → Prop} (hk : Kept S w w') (hS : ∀ k, SlB p q k → ¬ S k) (ho : ∀ x ∈ s.l, x.Off S) : SlAt T w' base p q au s :=
  ⟨h.box.kept hk (hS p (Or.inl rfl)), h.row.kept hk (fun g hg => hS g (Or.inr hg)), fun x hx => (h.at_ x hx).kept hk (ho x hx), h.off, h.bp, h.ne, fun k hq => Nat.lt_of_lt_of_le (h.lt k hq) hk.size, h.lb⟩

theorem SlAt.below {T : TypeId} {w w' : World} {base p : Nat} {q : Value} {au : Int} {s : Seal TxM} (h : SlAt T w base p q au s) (hb : Below w.heap.size w w') : SlAt T w' base p q au s := by
  refine h.kept (Kept.of_below (S := fun _ => False) hb) (fun _ _ h => h) (fun x _ => ⟨fun _ _ _ _ h => h, fun _ _ _ _ h => h⟩)

/-- What it turns is of the call's own. -/
theorem SlAt.own {T : TypeId} {w : World} {base p : Nat} {q : Value} {au : Int} {s : Seal TxM} (h : SlAt T w base p q au s) : base ≤ p ∧ p < w.heap.size := ⟨h.bp, h.box.lt⟩

/-- What it turns is of the call's own. -/
theorem SlAt.keptBelow {T : TypeId} {w w' : World} {base p : Nat} {q : Value} {au : Int} {s : Seal TxM} (h : SlAt T w base p q au s) (hk : Kept (SlB p q) w w') {B : Nat} (hB : B ≤ base) : Below B w w' :=
  hk.below (by have := h.own; omega) (fun k hS => by
    rcases hS with rfl | hS
    · have := h.bp; omega
    · have := h.lb k hS; omega)

/-- A batch as a value. -/
def batV (a n : Int) (ao : Option Addr) (len cap : Nat) : Value := .agg #[.int .i64 a, .int .i64 n, .slice ao len cap]

end Go.Proofs.Ytibfnefdpbdkoaa
