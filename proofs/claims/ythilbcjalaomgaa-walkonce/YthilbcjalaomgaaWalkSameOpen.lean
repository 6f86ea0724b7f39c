/- How WalkSame's arguments are opened. -/
import Derived.Test.YthilbcjalaomgaaWalkOpen
import Derived.Test.YthilbcjalaomgaaIntsOpen
namespace Go.Proofs.Ythilbcjalaomgaa
open Go Go.ChangeShapes Go.WideShapes Go.ChangeAt Go.RowKit Go.Joins Go.Deep
set_option linter.unusedVariables false

theorem open_ops16d {H : Type} {enc : TypeId × Value → H} {W : World} {a : Option Addr} {len cap : Nat} {d : DataW H} {p : List MemPlace}
    (h : DataW.Trod enc Try.prog W 0 (fun _ => true) true 22 (.slice a len cap) d p) :
    ∃ l : List OpW, l.length = len ∧ RowAt opW W a l ∧ len ≤ maxLen ∧ RowD AnyW d l := by
  obtain ⟨fuel, hf⟩ := h
  obtain ⟨l, h1, h2, _, h4, h5⟩ := open_row opW AnyW Try.underlying22 cellsOp16 open_op16_cells hf
  exact ⟨l, h1, h2, h4, h5⟩

theorem bytesOp16 : Try.prog.bytesOf 31 = 64 := by kernel_rfl

theorem ops16_sized {H : Type} {ts : List TypeId} {ds : List (DataW H)} (h : (DataW.weightsEach Try.prog ts ds).all (· ≤ reachBytes) = true) {j : Nat} {d : DataW H} {l : List OpW} (ht : ts[j]? = some 22) (hd : ds[j]? = some d) (hs : RowD AnyW d l) :
    l.length * 64 ≤ 140737488351232 := by
  rcases hs with ⟨rfl, rfl⟩ | ⟨es, rest, rfl, hl, _⟩
  · simp
  · have := sized_slice h ht hd Try.underlying22
    rw [bytesOp16] at this
    simp [reachBytes] at this
    omega
end Go.Proofs.Ythilbcjalaomgaa
