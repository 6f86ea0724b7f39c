/- How a row of acts on a graph that came in is opened. -/
import Derived.Test.YtfbpjdjajecajaaKindsOpen
import Derived.Test.YtfbpjdjajecajaaRowsMore
namespace Go.Proofs.Ytfbpjdjajecajaa
open Go Go.ChangeShapes Go.WideShapes Go.ChangeAt Go.RowKit Go.Joins Go.Deep
set_option linter.unusedVariables false

theorem list5w {α : Type} {l : List α} (h : l.length = 5) : ∃ c0 c1 c2 c3 c4, l = [c0, c1, c2, c3, c4] := by
  match l, h with
  | [c0, c1, c2, c3, c4], _ => exact ⟨c0, c1, c2, c3, c4, rfl⟩

/-- An act, as it lies. -/
structure OpW where
  kind : Int
  id : ByteArray
  round : Int
  author : Int
  ps : List ByteArray
  pa : Option Addr
  pc : Nat

instance : Inhabited OpW := ⟨⟨0, ⟨#[]⟩, 0, 0, [], none, 0⟩⟩

/-- What an act's texts are. -/
structure OpW.At (w : World) (x : OpW) : Prop where
  row : RowAt textK w x.pa x.ps
  id : x.id.size ≤ maxLen
  each : ∀ p ∈ x.ps, p.size ≤ maxLen
  len : x.ps.length ≤ maxLen
  nil : x.pa = none → x.pc = 0

def opW : Kind OpW where
  n := 5
  c x := [.int .i64 x.kind, .string x.id, .int .i64 x.round, .int .i64 x.author, .slice x.pa x.ps.length x.pc]
  foot x b := rowFoot textK x.pa x.ps b
  At w x := x.At w
  pos := by decide
  len _ := rfl
  one x u hu := by
    simp only [List.mem_cons, List.not_mem_nil, or_false] at hu
    rcases hu with rfl | rfl | rfl | rfl | rfl <;> rfl
  lt h hf := h.row.lt hf
  keep h hk := ⟨h.row.keep hk, h.id, h.each, h.len, h.nil⟩

theorem cellsOp16 : Try.prog.cellsOf 31 = 5 := by kernel_rfl
theorem cellsInt16 : Try.prog.cellsOf 3 = 1 := by kernel_rfl
theorem cellsStr16 : Try.prog.cellsOf 9 = 1 := by kernel_rfl
theorem cellsStrs16 : Try.prog.cellsOf 29 = 1 := by kernel_rfl

def AnyW {H α : Type} (d : DataW H) (x : α) : Prop := True

def StrW {H : Type} (d : DataW H) (s : ByteArray) : Prop := s.size ≤ maxLen

set_option maxRecDepth 100000 in
theorem open_strW {H : Type} {enc : TypeId × Value → H} {W : World} {fuel : Nat} {cs : List Value} {y : DataW H × List MemPlace}
    (hf : DataW.trod enc Try.prog W 0 (fun _ => true) true fuel 9 cs = some y) : ∃ x : ByteArray, cs = textK.c x ∧ textK.At W x ∧ StrW y.1 x := by
  obtain ⟨a, e, hy, s⟩ := DataW.trod_string Try.underlying9 hf
  exact ⟨a, e, trivial, s⟩

theorem RowD.all {H α : Type} {Q : DataW H → α → Prop} {d : DataW H} {l : List α} (h : RowD Q d l) : ∀ x ∈ l, ∃ y, Q y x := by
  intro x hx
  rcases h with ⟨_, rfl⟩ | ⟨ds, rest, _, hl, ha⟩
  · cases hx
  · obtain ⟨i, hi⟩ := List.getElem?_of_mem hx
    have hil := (List.getElem?_eq_some_iff.1 hi).1
    exact ⟨ds[i], ha i _ x (List.getElem?_eq_getElem (by omega)) hi⟩

set_option maxRecDepth 100000 in
theorem open_op16_cells {H : Type} {enc : TypeId × Value → H} {W : World} {fuel : Nat} {cs : List Value} {y : DataW H × List MemPlace}
    (hf : DataW.trod enc Try.prog W 0 (fun _ => true) true fuel 31 cs = some y) : ∃ x : OpW, cs = opW.c x ∧ opW.At W x ∧ AnyW y.1 x := by
  obtain ⟨xs, n, _, hx, hcl, hl, hg⟩ := DataW.trod_struct Try.underlying31 hf
  obtain ⟨c0, c1, c2, c3, c4, rfl⟩ := list5w (hcl.trans cellsOp16)
  obtain ⟨y0, y1, y2, y3, y4, rfl⟩ := list5w hl
  have g0 := hg 0 _ rfl
  have g1 := hg 1 _ rfl
  have g2 := hg 2 _ rfl
  have g3 := hg 3 _ rfl
  have g4 := hg 4 _ rfl
  simp [cellsInt16, cellsStr16, cellsStrs16] at g0 g1 g2 g3 g4
  obtain ⟨a0, e0, _, _⟩ := DataW.trod_int Try.underlying3 g0
  obtain ⟨a1, e1, _, s1⟩ := DataW.trod_string Try.underlying9 g1
  obtain ⟨a2, e2, _, _⟩ := DataW.trod_int Try.underlying3 g2
  obtain ⟨a3, e3, _, _⟩ := DataW.trod_int Try.underlying3 g3
  have e4 : ∃ a len cap, c4 = .slice a len cap := by
    rcases open_slice Try.underlying29 g4 with ⟨hcs, _⟩ | ⟨x, l, c, m, n, D, Pl, hcs, _⟩
    · exact ⟨none, 0, 0, by simpa using hcs⟩
    · exact ⟨some x, _, _, by simpa using hcs⟩
  obtain ⟨a4, len4, cap4, rfl⟩ := e4
  obtain ⟨l4, hl4, hr4, hn4, hm4, hd4⟩ := open_row textK StrW Try.underlying29 cellsStr16 open_strW g4
  simp at e0 e1 e2 e3
  subst e0 e1 e2 e3 hl4
  exact ⟨⟨a0, a1, a2, a3, l4, a4, cap4⟩, rfl, ⟨hr4, s1, fun p hp => by obtain ⟨_, q⟩ := hd4.all p hp; exact q, hm4, hn4⟩, trivial⟩

theorem open_ops16 {H : Type} {enc : TypeId × Value → H} {W : World} {a : Option Addr} {len cap : Nat} {d : DataW H} {p : List MemPlace}
    (h : DataW.Trod enc Try.prog W 0 (fun _ => true) true 22 (.slice a len cap) d p) :
    ∃ l : List OpW, l.length = len ∧ RowAt opW W a l ∧ len ≤ maxLen := by
  obtain ⟨fuel, hf⟩ := h
  obtain ⟨l, h1, h2, _, h4, _⟩ := open_row opW AnyW Try.underlying22 cellsOp16 open_op16_cells hf
  exact ⟨l, h1, h2, h4⟩

theorem RowAt.op16 {w : World} {ao : Option Addr} {l : List OpW} (h : RowAt opW w ao l) {i : Nat} {x : OpW} (hx : l[i]? = some x) :
    ∃ g off, ao = some ⟨g, off, none⟩ ∧ g < w.heap.size ∧ w.cell? ⟨g, off + i * 5, none⟩ = some (.int .i64 x.kind) ∧ w.cell? ⟨g, off + i * 5 + 1, none⟩ = some (.string x.id) ∧ w.cell? ⟨g, off + i * 5 + 2, none⟩ = some (.int .i64 x.round) ∧ w.cell? ⟨g, off + i * 5 + 3, none⟩ = some (.int .i64 x.author) ∧ w.cell? ⟨g, off + i * 5 + 4, none⟩ = some (.slice x.pa x.ps.length x.pc) ∧ x.At w := by
  obtain ⟨g, off, h1, h2, h3⟩ := h.cell i x hx
  exact ⟨g, off, h1, h2, h3 0 _ rfl, h3 1 _ rfl, h3 2 _ rfl, h3 3 _ rfl, h3 4 _ rfl, h.at_ x (List.mem_of_getElem? hx)⟩
end Go.Proofs.Ytfbpjdjajecajaa
