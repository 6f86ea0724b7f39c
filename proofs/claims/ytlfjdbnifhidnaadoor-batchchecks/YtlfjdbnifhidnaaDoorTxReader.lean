/- What must does, and the reader's number, text and keys. -/
import Derived.Test.YtlfjdbnifhidnaaDoorTxDecMath
import Derived.Test.YtlfjdbnifhidnaaDoorTxOwn
import Derived.WalkLawsBesides
namespace Go.Proofs.YtlfjdbnifhidnaaDoor
open Go.RowKit
set_option linter.unusedVariables false

/-- The error er, thrown. -/
def thrown (er : Nat) : List PanicEntry := [{ v := .iface 26 (.int .i64 (er : Int)), recovered := false }]

/-- A reader's block, a result's, a transaction's that is being read; rows of the call's own. -/
structure RdSt (W : World) (base rb zb tb top : Nat) (T : TypeId) (R : List (Option Addr × List ByteArray)) (w : World) (rcs cs : List Value) : Prop where
  rd : Arr w rb T rcs
  res : Arr w zb 36 zeroC
  tx : Arr w tb 36 cs
  d1 : rb ≠ zb
  d2 : rb ≠ tb
  d3 : zb ≠ tb
  t1 : rb < top
  t2 : zb < top
  t3 : tb < top
  b1 : base ≤ rb
  b2 : base ≤ zb
  b3 : base ≤ tb
  tw : top ≤ w.heap.size
  rows : ∀ p ∈ R, OwnStrs top w p.1 p.2
  bel : Below base W w

theorem RdSt.below {W : World} {base rb zb tb top : Nat} {T : TypeId} {R : List (Option Addr × List ByteArray)} {w w1 : World} {rcs cs : List Value} (h : RdSt W base rb zb tb top T R w rcs cs) (hb : Below w.heap.size w w1) : RdSt W base rb zb tb top T R w1 rcs cs :=
  ⟨h.rd.below hb h.rd.lt, h.res.below hb h.res.lt, h.tx.below hb h.tx.lt, h.d1, h.d2, h.d3, h.t1, h.t2, h.t3, h.b1, h.b2, h.b3, Nat.le_trans h.tw hb.size, fun p hp => (h.rows p hp).below hb, h.bel.trans (hb.mono (by have := h.rd.lt; have := h.b1; omega))⟩

theorem RdSt.setR {W : World} {base rb zb tb top : Nat} {T : TypeId} {R : List (Option Addr × List ByteArray)} {w : World} {rcs cs : List Value} (h : RdSt W base rb zb tb top T R w rcs cs) (i : Nat) (v : Value) : RdSt W base rb zb tb top T R (w.setCell ⟨rb, i, none⟩ v) (rcs.set i v) cs :=
  ⟨h.rd.set i v, h.res.other (p := ⟨rb, i, none⟩) (fun e => h.d1 e.symm) v, h.tx.other (p := ⟨rb, i, none⟩) (fun e => h.d2 e.symm) v, h.d1, h.d2, h.d3, h.t1, h.t2, h.t3, h.b1, h.b2, h.b3, by rw [setCell_size]; exact h.tw, fun p hp => (h.rows p hp).put (p := ⟨rb, i, none⟩) h.t1 v, h.bel.setCell (p := ⟨rb, i, none⟩) h.b1 v⟩

theorem RdSt.setT {W : World} {base rb zb tb top : Nat} {T : TypeId} {R : List (Option Addr × List ByteArray)} {w : World} {rcs cs : List Value} (h : RdSt W base rb zb tb top T R w rcs cs) (i : Nat) (v : Value) : RdSt W base rb zb tb top T R (w.setCell ⟨tb, i, none⟩ v) rcs (cs.set i v) :=
  ⟨h.rd.other (p := ⟨tb, i, none⟩) h.d2 v, h.res.other (p := ⟨tb, i, none⟩) h.d3 v, h.tx.set i v, h.d1, h.d2, h.d3, h.t1, h.t2, h.t3, h.b1, h.b2, h.b3, by rw [setCell_size]; exact h.tw, fun p hp => (h.rows p hp).put (p := ⟨tb, i, none⟩) h.t3 v, h.bel.setCell (p := ⟨tb, i, none⟩) h.b3 v⟩

theorem RdSt.row {W : World} {base rb zb tb top : Nat} {T : TypeId} {R : List (Option Addr × List ByteArray)} {w : World} {rcs cs : List Value} (h : RdSt W base rb zb tb top T R w rcs cs) {a : Option Addr} {ss : List ByteArray} (hr : OwnStrs top w a ss) : RdSt W base rb zb tb top T ((a, ss) :: R) w rcs cs :=
  ⟨h.rd, h.res, h.tx, h.d1, h.d2, h.d3, h.t1, h.t2, h.t3, h.b1, h.b2, h.b3, h.tw, fun p hp => by
    rw [List.mem_cons] at hp
    rcases hp with rfl | hp
    · exact hr
    · exact h.rows p hp, h.bel⟩
end Go.Proofs.YtlfjdbnifhidnaaDoor
