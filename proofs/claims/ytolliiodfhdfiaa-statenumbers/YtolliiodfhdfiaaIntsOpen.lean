/- How a row of numbers that came in is opened. -/
import Derived.Test.YtolliiodfhdfiaaKindsOpen
import Derived.Test.YtolliiodfhdfiaaInts
namespace Go.Proofs.Ytolliiodfhdfiaa
open Go.ChangeShapes Go.WideShapes Go.ChangeAt Go.RowKit Go.Joins Go.Deep
set_option linter.unusedVariables false

theorem cellsInt7 : Try.prog.cellsOf 3 = 1 := by kernel_rfl

/-- How a number reads. -/
def IntQ {H : Type} (d : DataW H) (v : Int) : Prop := True

set_option maxRecDepth 100000 in
theorem open_int_cells7 {H : Type} {enc : TypeId × Value → H} {W : World} {fuel : Nat} {cs : List Value} {y : DataW H × List MemPlace}
    (hf : DataW.trod enc Try.prog W 0 (fun _ => true) true fuel 3 cs = some y) : ∃ v : Int, cs = intK.c v ∧ intK.At W v ∧ IntQ y.1 v := by
  obtain ⟨a0, e0, _, _⟩ := DataW.trod_int Try.underlying3 hf
  exact ⟨a0, e0, trivial, trivial⟩

theorem open_intsK {H : Type} {enc : TypeId × Value → H} {W : World} {a : Option Addr} {len cap : Nat} {d : DataW H} {p : List MemPlace}
    (h : DataW.Trod enc Try.prog W 0 (fun _ => true) true 35 (.slice a len cap) d p) :
    ∃ l : List Int, l.length = len ∧ RowAt intK W a l ∧ len ≤ maxLen := by
  obtain ⟨fuel, hf⟩ := h
  obtain ⟨l, h1, h2, _, h4, _⟩ := open_row intK IntQ Try.underlying35 cellsInt7 open_int_cells7 hf
  exact ⟨l, h1, h2, h4⟩
end Go.Proofs.Ytolliiodfhdfiaa
