/- How a plan that came in is opened. -/
import Derived.Test.YtkgidmifgfoeiaaAccOpen
import Derived.Test.YtkgidmifgfoeiaaRefWavSame
namespace Go.Proofs.Ytkgidmifgfoeiaa
open Go Go.ChangeShapes Go.WideShapes Go.ChangeAt Go.RowKit Go.Joins Go.Deep
set_option linter.unusedVariables false

theorem cellsInts21 : Try.prog.cellsOf 24 = 1 := by kernel_rfl
theorem bytesInt21 : Try.prog.bytesOf 3 = 8 := by kernel_rfl
theorem bytesInts21 : Try.prog.bytesOf 24 = 24 := by kernel_rfl

theorem open_int21 {H : Type} {enc : TypeId × Value → H} {W : World} {fuel : Nat} {cs : List Value} {y : DataW H × List MemPlace}
    (hf : DataW.trod enc Try.prog W 0 (fun _ => true) true fuel 3 cs = some y) : ∃ v : Int, cs = intK.c v ∧ intK.At W v ∧ Any20 y.1 v := by
  obtain ⟨a0, e0, _, _⟩ := DataW.trod_int Try.underlying3 hf
  exact ⟨a0, e0, trivial, trivial⟩

instance : Inhabited IRow := ⟨⟨[], none, 0⟩⟩

/-- What a row of numbers weighs. -/
def IRowQ {H : Type} (d : DataW H) (x : IRow) : Prop := (∀ n ∈ d.weights Try.prog 24, n ≤ reachBytes) → x.l.length ≤ 140737488355328

theorem RowD.ints21 {H : Type} {d : DataW H} {l : List Int} (hs : RowD Any20 d l) (h : ∀ n ∈ d.weights Try.prog 24, n ≤ reachBytes) : l.length ≤ 140737488355328 := by
  rcases hs with ⟨rfl, rfl⟩ | ⟨es, rest, rfl, hl, _⟩
  · simp
  · have := h ((es.length + rest.length) * Try.prog.bytesOf 3) (by simp [DataW.weights, Try.underlying24])
    rw [bytesInt21] at this
    simp [reachBytes] at this
    omega

theorem open_irow {H : Type} {enc : TypeId × Value → H} {W : World} {fuel : Nat} {cs : List Value} {y : DataW H × List MemPlace}
    (hf : DataW.trod enc Try.prog W 0 (fun _ => true) true fuel 24 cs = some y) : ∃ x : IRow, cs = irowK.c x ∧ irowK.At W x ∧ IRowQ y.1 x := by
  have sl : ∃ a len cap, cs = [.slice a len cap] := by
    rcases open_slice Try.underlying24 hf with ⟨hcs, _⟩ | ⟨x, l, c, m, n, D, Pl, hcs, _⟩
    · exact ⟨none, 0, 0, by simpa using hcs⟩
    · exact ⟨some x, _, _, by simpa using hcs⟩
  obtain ⟨a, len, cap, rfl⟩ := sl
  obtain ⟨l, rfl, h2, h3, _, h5⟩ := open_row intK Any20 Try.underlying24 cellsInt20 open_int21 hf
  exact ⟨⟨l, a, cap⟩, rfl, ⟨h2, h3⟩, fun hw => h5.ints21 hw⟩

theorem open_plan21 {H : Type} {enc : TypeId × Value → H} {W : World} {a : Option Addr} {len cap : Nat} {d : DataW H} {p : List MemPlace}
    (h : DataW.Trod enc Try.prog W 0 (fun _ => true) true 28 (.slice a len cap) d p) :
    ∃ l : List IRow, l.length = len ∧ RowAt irowK W a l ∧ len ≤ maxLen ∧ RowD IRowQ d l := by
  obtain ⟨fuel, hf⟩ := h
  obtain ⟨l, h1, h2, _, h4, h5⟩ := open_row irowK IRowQ Try.underlying28 cellsInts21 open_irow hf
  exact ⟨l, h1, h2, h4, h5⟩

theorem plan21_sized {H : Type} {ts : List TypeId} {ds : List (DataW H)} (h : (DataW.weightsEach Try.prog ts ds).all (· ≤ reachBytes) = true) {j : Nat} {d : DataW H} {l : List IRow} (ht : ts[j]? = some 28) (hd : ds[j]? = some d) (hs : RowD IRowQ d l) : RowsLen l := by
  have hw := weights_of h ht hd
  obtain ⟨h1, h2⟩ := hs.fit Try.underlying28 hw
  rw [bytesInts21] at h1
  simp [reachBytes] at h1
  refine ⟨by omega, fun x hx => ?_⟩
  obtain ⟨y, q1, q2⟩ := h2 x hx
  exact q1 q2
end Go.Proofs.Ytkgidmifgfoeiaa
