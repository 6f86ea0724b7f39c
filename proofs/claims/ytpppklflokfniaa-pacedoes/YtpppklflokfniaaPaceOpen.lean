/- How a row of acts on a pace that came in is opened. -/
import Derived.Test.YtpppklflokfniaaKindsOpen
import Derived.Test.YtpppklflokfniaaPaceMath
namespace Go.Proofs.Ytpppklflokfniaa
open Go.ChangeShapes Go.WideShapes Go.ChangeAt Go.RowKit Go.Joins Go.Deep
set_option linter.unusedVariables false

theorem list2p {α : Type} {l : List α} (h : l.length = 2) : ∃ c0 c1, l = [c0, c1] := by
  match l, h with
  | [c0, c1], _ => exact ⟨c0, c1, rfl⟩

/-- An act. -/
structure OpP where
  kind : Int
  n : Int

instance : Inhabited OpP := ⟨⟨0, 0⟩⟩

def opP : Kind OpP where
  n := 2
  c x := [.int .i64 x.kind, .int .i64 x.n]
  foot _ _ := False
  At _ _ := True
  pos := by decide
  len _ := rfl
  one x u hu := by
    simp only [List.mem_cons, List.not_mem_nil, or_false] at hu
    rcases hu with rfl | rfl <;> rfl
  lt _ h := h.elim
  keep _ _ := trivial

theorem cellsOp18 : Try.prog.cellsOf 31 = 2 := by kernel_rfl
theorem cellsInt18 : Try.prog.cellsOf 3 = 1 := by kernel_rfl

/-- Nothing is asked of how it reads. -/
def AnyP {H α : Type} (d : DataW H) (x : α) : Prop := True

set_option maxRecDepth 100000 in
theorem open_op18_cells {H : Type} {enc : TypeId × Value → H} {W : World} {fuel : Nat} {cs : List Value} {y : DataW H × List MemPlace}
    (hf : DataW.trod enc Try.prog W 0 (fun _ => true) true fuel 31 cs = some y) : ∃ x : OpP, cs = opP.c x ∧ opP.At W x ∧ AnyP y.1 x := by
  obtain ⟨xs, n, _, hx, hcl, hl, hg⟩ := DataW.trod_struct Try.underlying31 hf
  obtain ⟨c0, c1, rfl⟩ := list2p (hcl.trans cellsOp18)
  obtain ⟨y0, y1, rfl⟩ := list2p hl
  have g0 := hg 0 _ rfl
  have g1 := hg 1 _ rfl
  simp [cellsInt18] at g0 g1
  obtain ⟨a0, e0, _, _⟩ := DataW.trod_int Try.underlying3 g0
  obtain ⟨a1, e1, x1, x2⟩ := DataW.trod_int Try.underlying3 g1
  simp at e0 e1
  subst e0 e1
  exact ⟨⟨a0, a1⟩, rfl, trivial, trivial⟩

theorem open_ops18 {H : Type} {enc : TypeId × Value → H} {W : World} {a : Option Addr} {len cap : Nat} {d : DataW H} {p : List MemPlace}
    (h : DataW.Trod enc Try.prog W 0 (fun _ => true) true 22 (.slice a len cap) d p) :
    ∃ l : List OpP, l.length = len ∧ RowAt opP W a l ∧ len ≤ maxLen := by
  obtain ⟨fuel, hf⟩ := h
  obtain ⟨l, h1, h2, _, h4, _⟩ := open_row opP AnyP Try.underlying22 cellsOp18 open_op18_cells hf
  exact ⟨l, h1, h2, h4⟩

theorem RowAt.op18 {w : World} {ao : Option Addr} {l : List OpP} (h : RowAt opP w ao l) {i : Nat} {x : OpP} (hx : l[i]? = some x) :
    ∃ g off, ao = some ⟨g, off, none⟩ ∧ g < w.heap.size ∧ w.cell? ⟨g, off + i * 2, none⟩ = some (.int .i64 x.kind) ∧ w.cell? ⟨g, off + i * 2 + 1, none⟩ = some (.int .i64 x.n) := by
  obtain ⟨g, off, h1, h2, h3⟩ := h.cell i x hx
  exact ⟨g, off, h1, h2, h3 0 _ rfl, h3 1 _ rfl⟩
end Go.Proofs.Ytpppklflokfniaa
