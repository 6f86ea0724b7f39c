/- A strings.Builder of the call's own at work. -/
import Derived.Test.YtcjmeaikdfgapaaDoorWireList
import Derived.Test.YtcjmeaikdfgapaaDoorTxArr
namespace Go.Proofs.YtcjmeaikdfgapaaDoor
open Go.RowKit
set_option linter.unusedVariables false

/-- Block bb is a Builder of the call's own that holds l, block xb ahead of it still a row of the cells cs. -/
structure BldSt (W : World) (xb bb : Nat) (T : TypeId) (cs : List Value) (w : World) (l : List UInt8) : Prop where
  box : Arr w xb T cs
  ord : xb < bb
  bld : Lib.IsBuilder 66 5 bb bb (Lib.byteCells l) w
  bel : Below W.heap.size W w
  low : W.heap.size ≤ bb
  has : bb ≤ w.heap.size

theorem BldSt.new {W w : World} {xb : Nat} {T : TypeId} {cs : List Value} (hx : Arr w xb T cs) (hb : Below W.heap.size W w) :
    BldSt W xb w.heap.size T cs (w.alloc (.cells #[.pointer none, .slice none 0 0] 66)) [] :=
  ⟨hx.alloc _, hx.lt, Lib.fresh_isBuilder 66 5 w, hb.alloc hb.size _, hb.size, by rw [alloc_size]; omega⟩

theorem BldSt.call {W w w1 : World} {xb bb : Nat} {T : TypeId} {cs : List Value} {l : List UInt8} (h : BldSt W xb bb T cs w l) (hb : Below w.heap.size w w1) : BldSt W xb bb T cs w1 l :=
  ⟨h.box.below hb h.box.lt, h.ord, builder_keep h.bld hb, h.bel.trans (hb.mono h.bel.size), h.low, Nat.le_trans h.has hb.size⟩

theorem BldSt.write {W w : World} {xb bb : Nat} {T : TypeId} {cs : List Value} {l : List UInt8} (h : BldSt W xb bb T cs w l) (m : List UInt8) (hm : l.length + m.length ≤ 140737488355328) :
    Calls Tryd.prog 30 #[.pointer (some ⟨bb, 0, none⟩), .string ⟨m.toArray⟩] w fun e w' => e = .returned (.tuple #[.int .i64 m.length, .nilIface]) ∧ BldSt W xb bb T cs w' (l ++ m) := by
  refine (write_any bb bb _ ⟨m.toArray⟩ w h.bld (by rw [Lib.byteCells_length, size_mk]; exact hm) h.has).mono ?_
  rintro e w' ⟨rfl, h2, hb⟩
  refine ⟨by rw [size_mk], h.box.below hb h.ord, h.ord, Or.inr ?_, h.bel.trans (hb.mono h.low), h.low, Nat.le_trans h.has hb.size⟩
  rw [Lib.byteCells_append]
  rw [Lib.strCells_eq] at h2
  exact h2

theorem BldSt.read {W w : World} {xb bb : Nat} {T : TypeId} {cs : List Value} {l : List UInt8} (h : BldSt W xb bb T cs w l) (h0 : l ≠ []) :
    Calls Tryd.prog 35 #[.pointer (some ⟨bb, 0, none⟩)] w fun e w' => e = .returned (.string ⟨l.toArray⟩) ∧ Below W.heap.size W w' := by
  refine (string_any bb bb l w h.bld h0).mono ?_
  rintro e w' ⟨rfl, hb⟩
  exact ⟨rfl, h.bel.trans (hb.mono h.low)⟩

end Go.Proofs.YtcjmeaikdfgapaaDoor
