/- How a row of acts on a table that came in is opened. -/
import Derived.Test.YtegahpgokmcjhaaKindsOpen
import Derived.Test.YtegahpgokmcjhaaTabRows
namespace Go.Proofs.Ytegahpgokmcjhaa
open Go.ChangeShapes Go.WideShapes Go.ChangeAt Go.RowKit Go.Joins Go.Deep
set_option linter.unusedVariables false

theorem list4t {α : Type} {l : List α} (h : l.length = 4) : ∃ c0 c1 c2 c3, l = [c0, c1, c2, c3] := by
  match l, h with
  | [c0, c1, c2, c3], _ => exact ⟨c0, c1, c2, c3, rfl⟩

theorem cellsOp11 : Try.prog.cellsOf 28 = 4 := by kernel_rfl
theorem cellsInt11 : Try.prog.cellsOf 3 = 1 := by kernel_rfl
theorem cellsStr11 : Try.prog.cellsOf 9 = 1 := by kernel_rfl
theorem cellsBool11 : Try.prog.cellsOf 4 = 1 := by kernel_rfl

/-- Something that is put in, or a round that is dropped. -/
structure OpD where
  drop : Bool
  id : ByteArray
  round : Int
  s : ByteArray

instance : Inhabited OpD := ⟨⟨false, ⟨#[]⟩, 0, ⟨#[]⟩⟩⟩

def opK : Kind OpD where
  n := 4
  c x := [.bool x.drop, .string x.id, .int .i64 x.round, .string x.s]
  foot _ _ := False
  At _ x := x.id.size ≤ maxLen ∧ -9223372036854775808 ≤ x.round
  pos := by decide
  len _ := rfl
  one x u hu := by
    simp only [List.mem_cons, List.not_mem_nil, or_false] at hu
    rcases hu with rfl | rfl | rfl | rfl <;> rfl
  lt _ h := h.elim
  keep h _ := h

def AnyO {H α : Type} (d : DataW H) (x : α) : Prop := True

set_option maxRecDepth 100000 in
theorem open_op_cells {H : Type} {enc : TypeId × Value → H} {W : World} {fuel : Nat} {cs : List Value} {y : DataW H × List MemPlace}
    (hf : DataW.trod enc Try.prog W 0 (fun _ => true) true fuel 28 cs = some y) : ∃ x : OpD, cs = opK.c x ∧ opK.At W x ∧ AnyO y.1 x := by
  obtain ⟨xs, n, _, hx, hcl, hl, hg⟩ := DataW.trod_struct Try.underlying28 hf
  obtain ⟨c0, c1, c2, c3, rfl⟩ := list4t (hcl.trans cellsOp11)
  obtain ⟨y0, y1, y2, y3, rfl⟩ := list4t hl
  have g0 := hg 0 _ rfl
  have g1 := hg 1 _ rfl
  have g2 := hg 2 _ rfl
  have g3 := hg 3 _ rfl
  simp [cellsInt11, cellsStr11, cellsBool11] at g0 g1 g2 g3
  obtain ⟨a0, e0, _⟩ := DataW.trod_bool Try.underlying4 g0
  obtain ⟨a1, e1, _, s1⟩ := DataW.trod_string Try.underlying9 g1
  obtain ⟨a2, e2, _, s2⟩ := DataW.trod_int Try.underlying3 g2
  obtain ⟨a3, e3, _, _⟩ := DataW.trod_string Try.underlying9 g3
  simp at e0 e1 e2 e3
  subst e0 e1 e2 e3
  refine ⟨⟨a0, a1, a2, a3⟩, rfl, ⟨s1, ?_⟩, trivial⟩
  simp [Lit.wf] at s2
  exact s2.1

theorem open_ops {H : Type} {enc : TypeId × Value → H} {W : World} {a : Option Addr} {len cap : Nat} {d : DataW H} {p : List MemPlace}
    (h : DataW.Trod enc Try.prog W 0 (fun _ => true) true 22 (.slice a len cap) d p) :
    ∃ l : List OpD, l.length = len ∧ RowAt opK W a l ∧ len ≤ maxLen := by
  obtain ⟨fuel, hf⟩ := h
  obtain ⟨l, h1, h2, _, h4, _⟩ := open_row opK AnyO Try.underlying22 cellsOp11 open_op_cells hf
  exact ⟨l, h1, h2, h4⟩

theorem RowAt.op {w : World} {ao : Option Addr} {l : List OpD} (h : RowAt opK w ao l) {i : Nat} {x : OpD} (hx : l[i]? = some x) :
    ∃ g off, ao = some ⟨g, off, none⟩ ∧ g < w.heap.size ∧ w.cell? ⟨g, off + i * 4, none⟩ = some (.bool x.drop) ∧ w.cell? ⟨g, off + i * 4 + 1, none⟩ = some (.string x.id) ∧ w.cell? ⟨g, off + i * 4 + 2, none⟩ = some (.int .i64 x.round) ∧ w.cell? ⟨g, off + i * 4 + 3, none⟩ = some (.string x.s) := by
  obtain ⟨g, off, h1, h2, h3⟩ := h.cell i x hx
  exact ⟨g, off, h1, h2, h3 0 _ rfl, h3 1 _ rfl, h3 2 _ rfl, h3 3 _ rfl⟩
end Go.Proofs.Ytegahpgokmcjhaa
