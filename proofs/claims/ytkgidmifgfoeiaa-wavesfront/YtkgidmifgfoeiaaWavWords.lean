/- Words for the walks of layer 21's statements: rows of one row; lengths of plans. -/
import Derived.Test.YtkgidmifgfoeiaaWavOpen
import Derived.Test.YtkgidmifgfoeiaaRefWavPlan
import Derived.Test.YtkgidmifgfoeiaaWavLook
namespace Go.Proofs.Ytkgidmifgfoeiaa
open Go Go.RowKit
set_option linter.unusedVariables false

theorem Arr.rowW {α : Type} {K : Kind α} {w : World} {g : Nat} {t : TypeId} {l : List α} {cs : List Value} (h : Arr w g t cs) (hc : cs = flatK K l) (hA : ∀ x ∈ l, K.At w x) : RowAt K w (some ⟨g, 0, none⟩) l := by
  subst hc
  refine ⟨fun i x hx => ⟨g, 0, rfl, h.lt, fun j v hv => ?_⟩, hA⟩
  have hj : j < K.n := by
    rw [← K.len x]
    exact (List.getElem?_eq_some_iff.1 hv).1
  rw [Nat.zero_add]
  exact h.cell (by rw [flatK_get K l i x hx j hj]; exact hv)

/-- A new row of one row. -/
theorem one_row (w : World) (x : IRow) {n : Nat} (hn : n = x.l.length) (hx : irowK.At w x) : RowAt irowK (w.alloc (.cells #[.slice x.ao n x.cap] 24)) (some ⟨w.heap.size, 0, none⟩) [x] := by
  subst hn
  have h : Arr (w.alloc (.cells #[.slice x.ao x.l.length x.cap] 24)) w.heap.size 24 [.slice x.ao x.l.length x.cap] := Arr.new w 24 [.slice x.ao x.l.length x.cap]
  exact Arr.rowW h (by simp [flatK, irowK]) (fun z hz => by
    simp only [List.mem_cons, List.not_mem_nil, or_false] at hz
    subst hz
    exact irowK.below hx (belowNew w _))

theorem rowI_len (q : List Nat) : (rowI q).length = q.length := by unfold rowI; rw [List.length_map]

/-- Of's row as one of a row. -/
theorem KQ.irow {w : World} {B : Nat} {ao : Option Addr} {n cap : Nat} {q : List Nat} (h : KQ natK 3 w B (.slice ao n cap) q) : irowK.At w ⟨rowI q, ao, cap⟩ ∧ n = (rowI q).length := by
  obtain ⟨h1, h2⟩ := h.natInt.rowOf
  exact ⟨⟨h1, fun e => h.natInt.nil n cap (by have e' : ao = none := e; rw [e'])⟩, h2⟩

theorem planI_row {l : List RwD} {p : List IRow} (h : lsP p = planI (planN l l.length)) {x : IRow} (hx : x ∈ p) : x.l.length ≤ l.length := by
  obtain ⟨i, hi⟩ := List.mem_iff_getElem?.1 hx
  have hlt : i < (planN l l.length).length := by rw [← lsP_len h]; exact (List.getElem?_eq_some_iff.1 hi).1
  obtain ⟨y, q1, q2⟩ := lsP_row h (List.getElem?_eq_getElem hlt)
  rw [hi] at q1
  obtain rfl : x = y := by simpa using q1
  rw [q2, rowI_len]
  rw [planN_length] at hlt
  have := planN_get hlt
  rw [List.getElem?_eq_getElem (by rw [planN_length]; exact hlt)] at this
  rw [Option.some.inj this]
  exact waveL_length _ _ _

theorem plan_fit {l : List RwD} {p : List IRow} (h : lsP p = planI (planN l l.length)) (hl : l.length ≤ 1000) : RowsFit p ∧ RowsLen p := by
  have h1 : p.length ≤ 1000 := by
    rw [lsP_len h, planN_length]
    have := nwN_le l l.length
    omega
  have h2 : ∀ x ∈ p, x.l.length ≤ 1000 := fun x hx => by have := planI_row h hx; omega
  exact ⟨⟨h1, fun x hx => by have := h2 x hx; omega⟩, by omega, fun x hx => by have := h2 x hx; omega⟩

theorem one_len {x : IRow} (h : x.l.length ≤ 1000) : RowsLen [x] := ⟨by simp, fun y hy => by
  simp only [List.mem_cons, List.not_mem_nil, or_false] at hy
  subst hy
  omega⟩

/-- Same of two rows of numbers, each as the one of a row. -/
theorem same_rows (w : World) (B B' : Nat) (a1 a2 : Option Addr) (c1 c2 n1 n2 : Nat) (q1 q2 : List Nat) (h1 : KQ natK 3 w B (.slice a1 n1 c1) q1) (h2 : KQ natK 3 w B' (.slice a2 n2 c2) q2) (hn1 : n1 ≤ 1000) (hn2 : n2 ≤ 1000) :
    Calls Try.prog 12 #[.slice (some ⟨w.heap.size, 0, none⟩) 1 1, .slice (some ⟨w.heap.size + 1, 0, none⟩) 1 1] ((w.alloc (.cells #[.slice a1 n1 c1] 24)).alloc (.cells #[.slice a2 n2 c2] 24)) fun e w' => e = .returned (.bool (decide (q1 = q2))) ∧ Below w.heap.size w w' := by
  obtain ⟨hA1, e1⟩ := h1.irow
  obtain ⟨hA2, e2⟩ := h2.irow
  have hR1 := one_row w _ e1 hA1
  have hbn1 := belowNew w (.cells #[.slice a1 n1 c1] 24)
  have hR2 := one_row (w.alloc (.cells #[.slice a1 n1 c1] 24)) _ e2 (irowK.below hA2 hbn1)
  have hbn2 := belowNew (w.alloc (.cells #[.slice a1 n1 c1] 24)) (.cells #[.slice a2 n2 c2] 24)
  have hb := hbn1.trans (hbn2.mono hbn1.size)
  have cS := refSame21_any _ _ _ _ 1 1 _ (hR1.below hbn2) hR2 (one_len (by rw [← e1]; exact hn1)) (one_len (by rw [← e2]; exact hn2))
  rw [alloc_size] at cS
  refine cS.mono ?_
  rintro e w' ⟨rfl, h⟩
  refine ⟨?_, hb.trans (h.mono hb.size)⟩
  have key : (lsP [(⟨rowI q1, a1, c1⟩ : IRow)] = lsP [(⟨rowI q2, a2, c2⟩ : IRow)]) ↔ q1 = q2 := by
    unfold lsP rowI
    simp only [List.map_cons, List.map_nil, List.cons.injEq, and_true]
    constructor
    · intro h
      exact (List.map_inj_right (fun a b h => Int.ofNat.inj h)).1 h
    · exact fun h => by rw [h]
  rw [decide_eq_decide.2 key]
end Go.Proofs.Ytkgidmifgfoeiaa
