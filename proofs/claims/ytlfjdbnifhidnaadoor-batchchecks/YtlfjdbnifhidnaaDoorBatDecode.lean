/- What decodeAll and batch.Decode do; nothing old in memory is turned. -/
import Derived.Test.YtlfjdbnifhidnaaDoorTxQueue
import Derived.Test.YtlfjdbnifhidnaaDoorTxDecode
namespace Go.Proofs.YtlfjdbnifhidnaaDoor
open Go.RowKit
set_option linter.unusedVariables false

/-- decodeAll hands back a row and an error. -/
def GotAll (W : World) (r : Except Nat (List TxD)) (e : Ending) (w : World) : Prop :=
  ∃ ao cap l er, e = .returned (.tuple #[.slice ao (l : List TxM).length cap, .int .i64 ((er : Nat) : Int)]) ∧ TxsAt w ao l ∧ (ao = none → cap = 0) ∧ ((er = 0 ∧ r = .ok (dl l)) ∨ (er ≠ 0 ∧ r = .error er ∧ l = [])) ∧ (∀ b o, ao = some ⟨b, o, none⟩ → W.heap.size ≤ b) ∧ (∀ x ∈ l, x.Off (fun k => k < W.heap.size)) ∧ Below W.heap.size W w

theorem decE_of {l : List UInt8} {d : TxD} {er : Nat} (h : decL l = (d, er)) : (er = 0 → decE l = .ok d) ∧ (er ≠ 0 → decE l = .error er) := by
  unfold decE
  rw [h]
  exact ⟨fun e => by rw [if_neg (by simpa using e)], fun e => by rw [if_pos e]⟩

/-- Decode hands back a batch and an error. -/
def GotBat (W : World) (r : Except Nat BatD) (e : Ending) (w : World) : Prop :=
  ∃ (a n : Int) (ao : Option Addr) (l : List TxM) (cap er : Nat), e = .returned (.tuple #[batV a n ao l.length cap, .int .i64 (er : Int)]) ∧ TxsAt w ao l ∧ (ao = none → cap = 0) ∧ ((er = 0 ∧ r = .ok ⟨a, n, dl l⟩) ∨ (er ≠ 0 ∧ r = .error er ∧ a = 0 ∧ n = 0 ∧ l = [])) ∧ Below W.heap.size W w

theorem gotBat_err {W w : World} {r : Except Nat BatD} {er : Nat} (h : r = .error er) (he : er ≠ 0) (hb : Below W.heap.size W w) (e : Ending) (hv : e = .returned (.tuple #[batV 0 0 none 0 0, .int .i64 (er : Int)])) : GotBat W r e w :=
  ⟨0, 0, none, [], 0, er, hv, nil_txs _ _, fun _ => rfl, Or.inr ⟨he, h, rfl, rfl, rfl⟩, hb⟩

theorem below_set3 {B : Nat} {w w' : World} (h : Below B w w') {g : Nat} (hg : B ≤ g) (v0 v1 v2 : Value) : Below B w (set3 w' g v0 v1 v2) :=
  ((h.setCell (p := ⟨g, 0, none⟩) hg v0).setCell (p := ⟨g, 1, none⟩) hg v1).setCell (p := ⟨g, 2, none⟩) hg v2
end Go.Proofs.YtlfjdbnifhidnaaDoor
