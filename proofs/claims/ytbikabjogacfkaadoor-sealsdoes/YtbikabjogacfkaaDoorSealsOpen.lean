/- How a row of acts on a board that came in is opened. -/
import Derived.Test.YtbikabjogacfkaaDoorKindsOpen
import Derived.Test.YtbikabjogacfkaaDoorHdrRows
namespace Go.Proofs.YtbikabjogacfkaaDoor
open Go.ChangeShapes Go.WideShapes Go.ChangeAt Go.RowKit Go.Joins Go.Deep
set_option linter.unusedVariables false

theorem list3s {α : Type} {l : List α} (h : l.length = 3) : ∃ c0 c1 c2, l = [c0, c1, c2] := by
  match l, h with
  | [a, b, c], _ => exact ⟨a, b, c, rfl⟩

theorem list2s {α : Type} {l : List α} (h : l.length = 2) : ∃ c0 c1, l = [c0, c1] := by
  match l, h with
  | [a, b], _ => exact ⟨a, b, rfl⟩

theorem list4s {α : Type} {l : List α} (h : l.length = 4) : ∃ c0 c1 c2 c3, l = [c0, c1, c2, c3] := by
  match l, h with
  | [a, b, c, d], _ => exact ⟨a, b, c, d, rfl⟩

theorem cellsOp12 : Tryd.prog.cellsOf 34 = 4 := by kernel_rfl
theorem cellsInt12 : Tryd.prog.cellsOf 3 = 1 := by kernel_rfl
theorem cellsStr12 : Tryd.prog.cellsOf 9 = 1 := by kernel_rfl
theorem cellsTag12 : Tryd.prog.cellsOf 32 = 2 := by kernel_rfl

/-- An act on a board. -/
structure ActD where
  kind : Int
  word : ByteArray
  who : Int
  mac : ByteArray

instance : Inhabited ActD := ⟨⟨0, ⟨#[]⟩, 0, ⟨#[]⟩⟩⟩

def actK : Kind ActD where
  n := 4
  c x := [.int .i64 x.kind, .string x.word, .int .i64 x.who, .string x.mac]
  foot _ _ := False
  At _ x := x.word.size ≤ maxLen
  pos := by decide
  len _ := rfl
  one x u hu := by
    simp only [List.mem_cons, List.not_mem_nil, or_false] at hu
    rcases hu with rfl | rfl | rfl | rfl <;> rfl
  lt _ h := h.elim
  keep h _ := h

def AnyA {H α : Type} (d : DataW H) (x : α) : Prop := True

set_option maxRecDepth 100000 in
theorem open_act_cells {H : Type} {enc : TypeId × Value → H} {W : World} {fuel : Nat} {cs : List Value} {y : DataW H × List MemPlace}
    (hf : DataW.trod enc Tryd.prog W 0 (fun _ => true) true fuel 34 cs = some y) : ∃ x : ActD, cs = actK.c x ∧ actK.At W x ∧ AnyA y.1 x := by
  obtain ⟨xs, n, _, hx, hcl, hl, hg⟩ := DataW.trod_struct Tryd.underlying34 hf
  obtain ⟨c0, c1, c2, c3, rfl⟩ := list4s (hcl.trans cellsOp12)
  obtain ⟨y0, y1, y2, rfl⟩ := list3s hl
  have g0 := hg 0 _ rfl
  have g1 := hg 1 _ rfl
  have g2 := hg 2 _ rfl
  simp [cellsInt12, cellsStr12, cellsTag12] at g0 g1 g2
  obtain ⟨a0, e0, _⟩ := DataW.trod_int Tryd.underlying3 g0
  obtain ⟨a1, e1, _, s1⟩ := DataW.trod_string Tryd.underlying9 g1
  obtain ⟨xs2, n2, _, hx2, hcl2, hl2, hg2⟩ := DataW.trod_struct Tryd.underlying32 g2
  obtain ⟨z0, z1, rfl⟩ := list2s hl2
  have k0 := hg2 0 _ rfl
  have k1 := hg2 1 _ rfl
  simp [cellsInt12, cellsStr12] at k0 k1
  obtain ⟨a2, e2, _⟩ := DataW.trod_int Tryd.underlying3 k0
  obtain ⟨a3, e3, _, _⟩ := DataW.trod_string Tryd.underlying9 k1
  simp at e0 e1 e2 e3
  subst e0 e1 e2 e3
  exact ⟨⟨a0, a1, a2, a3⟩, rfl, s1, trivial⟩

theorem open_acts12 {H : Type} {enc : TypeId × Value → H} {W : World} {a : Option Addr} {len cap : Nat} {d : DataW H} {p : List MemPlace}
    (h : DataW.Trod enc Tryd.prog W 0 (fun _ => true) true 22 (.slice a len cap) d p) :
    ∃ l : List ActD, l.length = len ∧ RowAt actK W a l ∧ len ≤ maxLen := by
  obtain ⟨fuel, hf⟩ := h
  obtain ⟨l, h1, h2, _, h4, _⟩ := open_row actK AnyA Tryd.underlying22 cellsOp12 open_act_cells hf
  exact ⟨l, h1, h2, h4⟩

theorem RowAt.act {w : World} {ao : Option Addr} {l : List ActD} (h : RowAt actK w ao l) {i : Nat} {x : ActD} (hx : l[i]? = some x) :
    ∃ g off, ao = some ⟨g, off, none⟩ ∧ g < w.heap.size ∧ w.cell? ⟨g, off + i * 4, none⟩ = some (.int .i64 x.kind) ∧ w.cell? ⟨g, off + i * 4 + 1, none⟩ = some (.string x.word) ∧ w.cell? ⟨g, off + i * 4 + 2, none⟩ = some (.int .i64 x.who) ∧ w.cell? ⟨g, off + i * 4 + 3, none⟩ = some (.string x.mac) := by
  obtain ⟨g, off, h1, h2, h3⟩ := h.cell i x hx
  exact ⟨g, off, h1, h2, h3 0 _ rfl, h3 1 _ rfl, h3 2 _ rfl, h3 3 _ rfl⟩
end Go.Proofs.YtbikabjogacfkaaDoor
