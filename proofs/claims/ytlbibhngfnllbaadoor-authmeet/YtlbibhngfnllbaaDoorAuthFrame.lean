/- How a tag, a row of tags and a row of bools that came in are opened. -/
import Derived.Test.YtlbibhngfnllbaaDoorAuthEnough
import Derived.Test.YtlbibhngfnllbaaDoorMixLaid
import Derived.Lib.SmallJoins
import Derived.Deep.SlicePairs
import Derived.Deep.Grids
namespace Go.Proofs.YtlbibhngfnllbaaDoor
open Go.ChangeShapes Go.WideShapes Go.ChangeAt Go.RowKit Go.WideElems Go.Deep
set_option linter.unusedVariables false

theorem cellsTag : Tryd.prog.cellsOf 32 = 2 := by kernel_rfl
theorem cellsInt : Tryd.prog.cellsOf 3 = 1 := by kernel_rfl
theorem cellsStr : Tryd.prog.cellsOf 9 = 1 := by kernel_rfl
theorem cellsBool : Tryd.prog.cellsOf 4 = 1 := by kernel_rfl

theorem open_tag {H : Type} {enc : TypeId × Value → H} {W : World} {r : Reach} {b0 : Nat} {v : Value} {d : DataW H} {p : List MemPlace} (hv : Value.okWide Tryd.prog W r b0 32 v)
    (h : DataW.Trod enc Tryd.prog W 0 (fun _ => true) true 32 v d p) : ∃ (who : Int) (mac : ByteArray), v = tagV who mac := by
  obtain ⟨v0, v1, y0, y1, n, rfl, _, _, h0, h1⟩ := Go.Joins.open_agg2 Tryd.underlying32 (by kernel_rfl) cellsTag hv h
  obtain ⟨who, hw, _⟩ := DataW.trod_int Tryd.underlying3 h0
  obtain ⟨mac, hm, _⟩ := DataW.trod_string Tryd.underlying9 h1
  simp at hw hm
  subst hw hm
  exact ⟨who, mac, rfl⟩

/-- A row of tags that came in. -/
theorem open_tags {H : Type} {enc : TypeId × Value → H} {W : World} {a : Option Addr} {len cap : Nat} {d : DataW H} {p : List MemPlace}
    (h : DataW.Trod enc Tryd.prog W 0 (fun _ => true) true 37 (.slice a len cap) d p) :
    ∃ l : List (Int × ByteArray), l.length = len ∧ TagsAt W a l ∧ len ≤ maxLen := by
  obtain ⟨fuel, hf⟩ := h
  rcases open_slice_pairs Tryd.underlying37 Tryd.underlying32 cellsTag rfl rfl cellsInt cellsStr hf with ⟨hcs, hx⟩ | ⟨x, l, c, m, n, V0, V1, D0, D1, P0, P1, hcs, _, hl, hm, hmm, hx, hc⟩
  · simp [Value.cells] at hcs
    obtain ⟨rfl, rfl, rfl⟩ := hcs
    exact ⟨[], rfl, fun j y hy => by simp at hy, Nat.zero_le _⟩
  · simp [Value.cells] at hcs
    obtain ⟨rfl, rfl, rfl⟩ := hcs
    simp at hmm
    subst hmm
    have hall : ∀ i : Nat, ∃ y : Int × ByteArray, i < len → W.cell? (x.add (i * 2)) = some (.int .i64 y.1) ∧ W.cell? (x.add (i * 2 + 1)) = some (.string y.2) := by
      intro i
      by_cases hi : i < len
      · obtain ⟨e0, e1, t0, t1⟩ := hc i (by omega)
        obtain ⟨who, hw, _⟩ := DataW.trod_int Tryd.underlying3 t0
        obtain ⟨mac, hm2, _⟩ := DataW.trod_string Tryd.underlying9 t1
        simp at hw hm2
        exact ⟨(who, mac), fun _ => ⟨by rw [e0, hw], by rw [e1, hm2]⟩⟩
      · exact ⟨(0, ⟨#[]⟩), fun h => absurd h hi⟩
    obtain ⟨Y, hY⟩ := Classical.axiomOfChoice hall
    refine ⟨(List.range len).map Y, by simp, ?_, by omega⟩
    intro j y hy
    have hj : j < len := by
      by_cases hj : j < len
      · exact hj
      · rw [List.getElem?_eq_none (by simp; omega)] at hy
        cases hy
    obtain rfl : Y j = y := by simpa [hj] using hy
    obtain ⟨c0, c1⟩ := hY j hj
    obtain ⟨b, off, spot⟩ := x
    have hz := (hY 0 (by omega)).1
    have hspot : spot = none := by simpa [Addr.add] using World.cell?_spot hz
    subst hspot
    rw [Go.WideShapes.add_plain] at c0 c1
    exact ⟨b, off, rfl, World.block_lt_of_cell? W _ c0, c0, by rw [← c1, Nat.add_assoc]⟩

/-- A row of bools lies at an address. -/
def BoolsAt (w : World) (ao : Option Addr) (l : List Bool) : Prop :=
  ∀ j x, l[j]? = some x → ∃ b off, ao = some ⟨b, off, none⟩ ∧ b < w.heap.size ∧ w.cell? ⟨b, off + j, none⟩ = some (.bool x)

theorem BoolsAt.below {w w' : World} {ao : Option Addr} {l : List Bool} (h : BoolsAt w ao l) (hb : Below w.heap.size w w') : BoolsAt w' ao l := by
  intro j x hj
  obtain ⟨b, off, h1, h2, h3⟩ := h j x hj
  exact ⟨b, off, h1, Nat.lt_of_lt_of_le h2 hb.size, by rw [hb.cell (p := ⟨b, off + j, none⟩) h2]; exact h3⟩

/-- A row of bools that came in. -/
theorem open_bools_row {H : Type} {enc : TypeId × Value → H} {W : World} {a : Option Addr} {len cap : Nat} {d : DataW H} {p : List MemPlace}
    (h : DataW.Trod enc Tryd.prog W 0 (fun _ => true) true 40 (.slice a len cap) d p) :
    ∃ l : List Bool, l.length = len ∧ BoolsAt W a l ∧ len ≤ maxLen := by
  obtain ⟨fuel, hf⟩ := h
  rcases open_bools Tryd.underlying40 Tryd.underlying4 cellsBool hf with ⟨hcs, hx⟩ | ⟨x, l, c, B, hcs, _, hl, hm, hx, hc⟩
  · simp [Value.cells] at hcs
    obtain ⟨rfl, rfl, rfl⟩ := hcs
    exact ⟨[], rfl, fun j y hy => by simp at hy, Nat.zero_le _⟩
  · simp [Value.cells] at hcs
    obtain ⟨rfl, rfl, rfl⟩ := hcs
    refine ⟨(List.range len).map B, by simp, ?_, by omega⟩
    intro j y hy
    have hj : j < len := by
      by_cases hj : j < len
      · exact hj
      · rw [List.getElem?_eq_none (by simp; omega)] at hy
        cases hy
    obtain rfl : B j = y := by simpa [hj] using hy
    have c0 := hc j (by omega)
    obtain ⟨b, off, spot⟩ := x
    have hz := hc 0 (by omega)
    have hspot : spot = none := by simpa [Addr.add] using World.cell?_spot hz
    subst hspot
    rw [Go.WideShapes.add_plain] at c0
    exact ⟨b, off, rfl, World.block_lt_of_cell? W _ c0, c0⟩
end Go.Proofs.YtlbibhngfnllbaaDoor
