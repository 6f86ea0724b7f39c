/- How tags, Refs and headers that came in are opened; their sizes. -/
import Derived.Test.YthhildeocedpiaaDoorKindsOpen
import Derived.Test.YthhildeocedpiaaDoorHdrRows
namespace Go.Proofs.YthhildeocedpiaaDoor
open Go.ChangeShapes Go.WideShapes Go.ChangeAt Go.RowKit Go.Joins Go.Deep
set_option linter.unusedVariables false

instance : Inhabited TagD := ⟨⟨0, ⟨#[]⟩⟩⟩
instance : Inhabited RefM := ⟨⟨⟨#[]⟩, [], none, 0⟩⟩

/-- How a text reads. -/
def StrQ {H : Type} (d : DataW H) (s : ByteArray) : Prop := d = .lit (.string s.data.toList) ∧ s.size ≤ maxLen

theorem StrQ.bulk {H : Type} (y : DataW H) (s : ByteArray) (h : StrQ y s) : s.size + 1 ≤ Rows.uptoBulk y := by
  rw [h.1]
  simp [Rows.uptoBulk]

theorem StrQ.fit {H : Type} {y : DataW H} {s : ByteArray} (h : StrQ y s) {t : TypeId} (hw : ∀ n ∈ y.weights Tryd.prog t, n ≤ reachBytes) : s.size ≤ 140737488351232 := by
  have := hw s.data.toList.length (by rw [h.1]; simp [DataW.weights])
  simpa [reachBytes] using this

/-- How a tag reads. -/
def TagQ {H : Type} (d : DataW H) (t : TagD) : Prop := ∃ y0 y1, d = .agg [y0, y1] ∧ StrQ y1 t.mac

theorem list2x {α : Type} {l : List α} (h : l.length = 2) : ∃ c0 c1, l = [c0, c1] := by
  match l, h with
  | [c0, c1], _ => exact ⟨c0, c1, rfl⟩

theorem list4x {α : Type} {l : List α} (h : l.length = 4) : ∃ c0 c1 c2 c3, l = [c0, c1, c2, c3] := by
  match l, h with
  | [c0, c1, c2, c3], _ => exact ⟨c0, c1, c2, c3, rfl⟩

theorem cellsTag6 : Tryd.prog.cellsOf 123 = 2 := by kernel_rfl
theorem cellsInt6 : Tryd.prog.cellsOf 3 = 1 := by kernel_rfl
theorem cellsStr6 : Tryd.prog.cellsOf 9 = 1 := by kernel_rfl

set_option maxRecDepth 100000 in
theorem open_tag_cells {H : Type} {enc : TypeId × Value → H} {W : World} {fuel : Nat} {cs : List Value} {y : DataW H × List MemPlace}
    (hf : DataW.trod enc Tryd.prog W 0 (fun _ => true) true fuel 123 cs = some y) : ∃ t : TagD, cs = tagK.c t ∧ tagK.At W t ∧ TagQ y.1 t := by
  obtain ⟨xs, n, _, hx, hcl, hl, hg⟩ := DataW.trod_struct Tryd.underlying123 hf
  obtain ⟨c0, c1, rfl⟩ := list2x (hcl.trans cellsTag6)
  obtain ⟨y0, y1, rfl⟩ := list2x hl
  have g0 := hg 0 _ rfl
  have g1 := hg 1 _ rfl
  simp [cellsInt6, cellsStr6] at g0 g1
  obtain ⟨a0, e0, _, _⟩ := DataW.trod_int Tryd.underlying3 g0
  obtain ⟨a1, e1, hy1, s1⟩ := DataW.trod_string Tryd.underlying9 g1
  simp at e0 e1
  subst e0 e1
  refine ⟨⟨a0, a1⟩, rfl, trivial, y0.1, y1.1, ?_, by rw [hy1], s1⟩
  have := congrArg Prod.fst hx
  simpa using this

/-- What tags hold. -/
def tagsBulk (l : List TagD) : Nat := (l.map (fun t => t.mac.size + 1)).sum

theorem tagQ_bulk {H : Type} (y : DataW H) (t : TagD) (h : TagQ y t) : t.mac.size + 1 ≤ Rows.uptoBulk y := by
  obtain ⟨y0, y1, rfl, h1⟩ := h
  have := h1.bulk
  simp only [Rows.uptoBulk, Rows.uptoBulkAll]
  omega

theorem open_tagsK {H : Type} {enc : TypeId × Value → H} {W : World} {fuel : Nat} {a : Option Addr} {len cap : Nat} {y : DataW H × List MemPlace}
    (hf : DataW.trod enc Tryd.prog W 0 (fun _ => true) true fuel 35 [.slice a len cap] = some y) :
    ∃ l : List TagD, l.length = len ∧ RowAt tagK W a l ∧ (a = none → cap = 0) ∧ len ≤ maxLen ∧ RowD TagQ y.1 l :=
  open_row tagK TagQ Tryd.underlying35 cellsTag6 open_tag_cells hf

theorem tagsBulk_len : ∀ (l : List TagD), l.length ≤ tagsBulk l
  | [] => by simp
  | t :: l => by
    have := tagsBulk_len l
    simp only [tagsBulk, List.map_cons, List.sum_cons, List.length_cons] at this ⊢
    omega

theorem tagsBulk_mem : ∀ {l : List TagD} {t : TagD}, t ∈ l → t.mac.size ≤ tagsBulk l
  | [], t, h => by cases h
  | x :: l, t, h => by
    simp only [tagsBulk, List.map_cons, List.sum_cons]
    rcases List.mem_cons.1 h with rfl | h
    · omega
    · have := tagsBulk_mem h
      simp only [tagsBulk] at this
      omega

theorem txt_len_le (l : List UInt8) : (txt l).length ≤ 9 + l.length := by
  rw [txt, List.length_append]
  have := goInt_length (l.length : Int)
  omega

theorem tagB_len_le (t : TagD) : (tagB t).length ≤ 9 + t.mac.size := by
  have := goInt_length t.who
  have h2 : t.mac.data.toList.length = t.mac.size := by simp
  rw [tagB, List.length_append]
  omega

theorem tags_flat_le : ∀ (l : List TagD), ((l.map tagB).flatMap txt).length ≤ 18 * tagsBulk l
  | [] => by simp
  | t :: l => by
    have ih := tags_flat_le l
    have h1 := txt_len_le (tagB t)
    have h2 := tagB_len_le t
    simp only [List.map_cons, List.flatMap_cons, List.length_append, tagsBulk, List.sum_cons] at ih ⊢
    omega

theorem tagsB_len_le (l : List TagD) : (tagsB l).length ≤ 9 + 18 * tagsBulk l := by
  have h1 := tags_flat_le l
  have h2 := goInt_length ((l.map tagB).length : Int)
  rw [tagsB, lst, List.length_append]
  omega

instance : Inhabited ByteArray := ⟨⟨#[]⟩⟩

theorem cellsTags6 : Tryd.prog.cellsOf 35 = 1 := by kernel_rfl
theorem cellsStrs6 : Tryd.prog.cellsOf 23 = 1 := by kernel_rfl
theorem bytesTag6 : Tryd.prog.bytesOf 123 = 24 := by kernel_rfl
theorem bytesStr6 : Tryd.prog.bytesOf 9 = 16 := by kernel_rfl
set_option maxRecDepth 100000 in
theorem open_str_cells {H : Type} {enc : TypeId × Value → H} {W : World} {fuel : Nat} {cs : List Value} {y : DataW H × List MemPlace}
    (hf : DataW.trod enc Tryd.prog W 0 (fun _ => true) true fuel 9 cs = some y) : ∃ s : ByteArray, cs = strK.c s ∧ strK.At W s ∧ StrQ y.1 s := by
  obtain ⟨a0, e0, hy0, s0⟩ := DataW.trod_string Tryd.underlying9 hf
  exact ⟨a0, e0, trivial, by rw [hy0], s0⟩
end Go.Proofs.YthhildeocedpiaaDoor
