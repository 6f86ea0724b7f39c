/- What Decode does: the transaction of bytes, or the first error, caught; nothing old in memory is turned. -/
import Derived.Test.YtlfjdbnifhidnaaDoorTxRead
import Derived.Defers
import Derived.Recover
import Derived.RegionTactic
namespace Go.Proofs.YtlfjdbnifhidnaaDoor
open Go.RowKit
set_option linter.unusedVariables false

theorem Arr.other9 {w : World} {g g' : Nat} {t : TypeId} {cs : List Value} (h : Arr w g' t cs) (hg : g' ≠ g) (v0 v1 v2 v3 v4 v5 v6 v7 v8 : Value) : Arr (Proofs.YtlfjdbnifhidnaaDoor.set9 w g v0 v1 v2 v3 v4 v5 v6 v7 v8) g' t cs :=
  ((((((((h.other (p := ⟨g, 0, none⟩) hg v0).other (p := ⟨g, 1, none⟩) hg v1).other (p := ⟨g, 2, none⟩) hg v2).other (p := ⟨g, 3, none⟩) hg v3).other (p := ⟨g, 4, none⟩) hg v4).other (p := ⟨g, 5, none⟩) hg v5).other (p := ⟨g, 6, none⟩) hg v6).other (p := ⟨g, 7, none⟩) hg v7).other (p := ⟨g, 8, none⟩) hg v8

theorem infoErrno : (Tryd.prog.info? 26).map (·.size) = some 1 := by kernel_rfl

theorem results_dec {fn : Func} {p q : Tmp} (h : fn.results = #[.cell p 36, .cell q 26]) (tmps : Array Value) (w : World) (g g2 : Nat) (d : TxD) (ra : Option Addr) (rc : Nat) (wa : Option Addr) (wc : Nat) (er : Int)
    (hp : tmps.getD p undef = .pointer (some ⟨g, 0, none⟩)) (hg : Arr w g 36 (txC d ra rc wa wc)) (hq : tmps.getD q undef = .pointer (some ⟨g2, 0, none⟩)) (hg2 : Arr w g2 26 [.int .i64 er]) :
    (results fn tmps).run Tryd.prog w = .ok (.tuple #[txV d ra rc wa wc, .int .i64 er]) w := by
  have hl := run_loadVar_row w g 36 36 (txC d ra rc wa wc).toArray (0, 0) _ hg Tryd.underlying36 rfl infoTx
  have hc := hg2.cell (i := 0) rfl
  have hp' : tmps[p]?.getD undef = .pointer (some ⟨g, 0, none⟩) := by simpa using hp
  have hq' : tmps[q]?.getD undef = .pointer (some ⟨g2, 0, none⟩) := by simpa using hq
  have hl2 : (loadVar 26 ⟨g2, 0, none⟩).run Tryd.prog w = .ok (.int .i64 er) w := by
    simp [go_sem, hc]
  simp [results, h, hp', hq', asAddr, hl, hl2]
  rfl

/-- Decode hands back a transaction and an error. -/
def GotDec (W : World) (r : TxD × Nat) (e : Ending) (w : World) : Prop :=
  ∃ ra rc wa wc, e = .returned (.tuple #[txV r.1 ra rc wa wc, .int .i64 (r.2 : Int)]) ∧ TxAt w r.1 ra wa ∧ (ra = none → rc = 0) ∧ (wa = none → wc = 0) ∧ Below W.heap.size W w

/-- The same, and its lists lie in new memory. -/
def GotDecO (W : World) (r : TxD × Nat) (e : Ending) (w : World) : Prop :=
  ∃ ra rc wa wc, e = .returned (.tuple #[txV r.1 ra rc wa wc, .int .i64 (r.2 : Int)]) ∧ OwnStrs W.heap.size w ra r.1.rs ∧ OwnStrs W.heap.size w wa r.1.ws ∧ (ra = none → rc = 0) ∧ (wa = none → wc = 0) ∧ Below W.heap.size W w

theorem GotDecO.got {W : World} {r : TxD × Nat} {e : Ending} {w : World} (h : GotDecO W r e w) : GotDec W r e w := by
  obtain ⟨ra, rc, wa, wc, h1, h2, h3, h4⟩ := h
  exact ⟨ra, rc, wa, wc, h1, ⟨h2.at, h3.at⟩, h4⟩

theorem nil_own (b : Nat) (w : World) (ao : Option Addr) : OwnStrs b w ao [] := fun j hj => absurd hj (by simp)
end Go.Proofs.YtlfjdbnifhidnaaDoor
