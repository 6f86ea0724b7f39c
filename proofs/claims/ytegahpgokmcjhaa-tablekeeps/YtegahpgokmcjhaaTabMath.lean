/- The pure side of layer 11: what is in a table as a list that rises by ids. -/
import Derived.Test.YtegahpgokmcjhaaTabRows
namespace Go.Proofs.Ytegahpgokmcjhaa
open Go Go.RowKit
set_option linter.unusedVariables false

theorem bytes_eq (a b : ByteArray) : (a.toList == b.toList) = decide (a = b) := by
  by_cases h : a = b
  · subst h; simp
  · rw [decide_eq_false h]
    refine beq_eq_false_iff_ne.2 (fun e => h ?_)
    rw [ByteArray.toList_eq, ByteArray.toList_eq] at e
    cases a
    cases b
    simpa using e

theorem getR_none {l : List ThingD} {id : ByteArray} (h : id ∉ l.map (·.id)) : getR l id = none := by
  unfold getR
  rw [List.find?_eq_none]
  intro y hy
  rw [bytes_eq]
  simp only [decide_eq_true_eq]
  exact fun e => h (List.mem_map.2 ⟨y, hy, e⟩)

theorem getR_cons (x : ThingD) (l : List ThingD) (id : ByteArray) : getR (x :: l) id = if x.id = id then some x else getR l id := by
  unfold getR
  rw [List.find?_cons, bytes_eq]
  by_cases h : x.id = id
  · rw [decide_eq_true h, if_pos h]
  · rw [decide_eq_false h, if_neg h]

theorem getR_drop {l : List ThingD} (r : Int) (id : ByteArray) : (l.map (·.id)).Nodup → getR (dropL l r) id = match getR l id with | some x => if r ≤ x.round then some x else none | none => none := by
  induction l with
  | nil => intro _; rfl
  | cons x l ih =>
    intro hn
    rw [List.map_cons, List.nodup_cons] at hn
    have ih := ih hn.2
    have ed : dropL (x :: l) r = if r ≤ x.round then x :: dropL l r else dropL l r := by
      unfold dropL
      rw [List.filter_cons]
      by_cases hr : r ≤ x.round <;> simp [hr]
    have hsub : ∀ i, i ∉ l.map (·.id) → i ∉ (dropL l r).map (·.id) := by
      intro i hi hm
      obtain ⟨y, hy, e⟩ := List.mem_map.1 hm
      exact hi (List.mem_map.2 ⟨y, (List.mem_filter.1 hy).1, e⟩)
    rw [getR_cons, ed]
    by_cases he : x.id = id
    · rw [if_pos he]
      by_cases hr : r ≤ x.round
      · simp only [if_pos hr]
        rw [getR_cons, if_pos he]
      · simp only [if_neg hr]
        exact getR_none (hsub _ (by rw [← he]; exact hn.1))
    · rw [if_neg he]
      by_cases hr : r ≤ x.round
      · rw [if_pos hr, getR_cons, if_neg he]
        exact ih
      · rw [if_neg hr]
        exact ih

theorem getR_some {l : List ThingD} {id : ByteArray} {x : ThingD} (h : getR l id = some x) : x ∈ l ∧ x.id = id := by
  unfold getR at h
  have h1 := List.mem_of_find?_eq_some h
  have h2 := List.find?_some h
  rw [bytes_eq] at h2
  exact ⟨h1, of_decide_eq_true h2⟩

theorem dropL_nod {l : List ThingD} (h : (l.map (·.id)).Nodup) (r : Int) : ((dropL l r).map (·.id)).Nodup := by
  unfold dropL
  induction l with
  | nil => exact List.nodup_nil
  | cons x l ih =>
    rw [List.map_cons, List.nodup_cons] at h
    rw [List.filter_cons]
    split
    · rw [List.map_cons, List.nodup_cons]
      refine ⟨fun hm => ?_, ih h.2⟩
      obtain ⟨y, hy, e⟩ := List.mem_map.1 hm
      exact h.1 (List.mem_map.2 ⟨y, (List.mem_filter.1 hy).1, e⟩)
    · exact ih h.2

theorem lessT_eq : ∀ (x y : List UInt8), Op.bytesLess x y = decide (x < y)
  | [], [] => by simp [Op.bytesLess]
  | _ :: _, [] => by simp [Op.bytesLess]
  | [], _ :: _ => by simp [Op.bytesLess]
  | a :: x, b :: y => by
    rw [Op.bytesLess, lessT_eq x y]
    simp only [List.cons_lt_cons_iff]
    by_cases h1 : a < b <;> by_cases h2 : a = b <;> by_cases h3 : x < y <;> simp [h1, h2, h3]

/-- The things of a table stand by rising ids. -/
def Rise (l : List ThingD) : Prop := l.Pairwise (fun x y => x.id.toList < y.id.toList)

theorem Rise.nil : Rise [] := List.Pairwise.nil

theorem Rise.filter {l : List ThingD} (h : Rise l) (p : ThingD → Bool) : Rise (l.filter p) := List.Pairwise.filter p h

theorem Rise.drop {l : List ThingD} (h : Rise l) (r : Int) : Rise (dropL l r) := h.filter _

theorem Rise.nod {l : List ThingD} (h : Rise l) : (l.map (·.id)).Nodup := by
  unfold List.Nodup
  rw [List.pairwise_map]
  exact h.imp (fun {x y} h e => by rw [e] at h; exact List.lt_irrefl _ h)

theorem putL_cons (y : ThingD) (l : List ThingD) (x : ThingD) : putL (y :: l) x = if y.id.toList < x.id.toList then y :: putL l x else x :: y :: l := by
  unfold putL putAt
  rw [List.takeWhile_cons, lessT_eq]
  by_cases h : y.id.toList < x.id.toList
  · rw [decide_eq_true h, if_pos h]
    simp
  · rw [decide_eq_false h, if_neg h]
    simp

theorem putL_mem {l : List ThingD} {x y : ThingD} : y ∈ putL l x ↔ y = x ∨ y ∈ l := by
  induction l with
  | nil => simp [putL]
  | cons z l ih =>
    rw [putL_cons]
    split
    · rw [List.mem_cons, ih, List.mem_cons]
      constructor
      · rintro (h | h | h)
        · exact Or.inr (Or.inl h)
        · exact Or.inl h
        · exact Or.inr (Or.inr h)
      · rintro (h | h | h)
        · exact Or.inr (Or.inl h)
        · exact Or.inl h
        · exact Or.inr (Or.inr h)
    · exact List.mem_cons

theorem putL_length (l : List ThingD) (x : ThingD) : (putL l x).length = l.length + 1 := by
  induction l with
  | nil => rfl
  | cons z l ih =>
    rw [putL_cons]
    split
    · rw [List.length_cons, ih, List.length_cons]
    · rfl

theorem bytes_inj {a b : ByteArray} (h : a.toList = b.toList) : a = b := by
  have h1 := bytes_eq a b
  rw [h] at h1
  exact of_decide_eq_true (by rw [← h1]; simp)

theorem Rise.put {l : List ThingD} (h : Rise l) {x : ThingD} (hx : x.id ∉ l.map (·.id)) : Rise (putL l x) := by
  induction l with
  | nil => exact List.pairwise_singleton _ _
  | cons z l ih =>
    obtain ⟨h1, h2⟩ := List.pairwise_cons.1 h
    rw [List.map_cons, List.mem_cons, not_or] at hx
    rw [putL_cons]
    split
    · next hlt =>
      refine List.pairwise_cons.2 ⟨fun y hy => ?_, ih h2 hx.2⟩
      rcases putL_mem.1 hy with rfl | hy
      · exact hlt
      · exact h1 y hy
    · next hge =>
      have hlt : x.id.toList < z.id.toList := by
        rcases Std.lt_trichotomy x.id.toList z.id.toList with h | h | h
        · exact h
        · exact (hx.1 (bytes_inj h)).elim
        · exact (hge h).elim
      refine List.pairwise_cons.2 ⟨fun y hy => ?_, h⟩
      rcases List.mem_cons.1 hy with rfl | hy
      · exact hlt
      · exact List.lt_trans hlt (h1 y hy)

theorem getR_put {l : List ThingD} {x : ThingD} (hx : x.id ∉ l.map (·.id)) (id : ByteArray) : getR (putL l x) id = if x.id = id then some x else getR l id := by
  induction l with
  | nil => exact getR_cons x [] id
  | cons z l ih =>
    rw [List.map_cons, List.mem_cons, not_or] at hx
    rw [putL_cons]
    split
    · rw [getR_cons, ih hx.2, getR_cons]
      by_cases h1 : z.id = id
      · rw [if_pos h1, if_pos h1, if_neg (fun e => hx.1 (e.trans h1.symm))]
      · rw [if_neg h1, if_neg h1]
    · exact getR_cons x _ id

theorem getR_mem {l : List ThingD} (h : (l.map (·.id)).Nodup) {x : ThingD} (hx : x ∈ l) : getR l x.id = some x := by
  induction l with
  | nil => cases hx
  | cons z l ih =>
    rw [List.map_cons, List.nodup_cons] at h
    rw [getR_cons]
    rcases List.mem_cons.1 hx with rfl | hx
    · rw [if_pos rfl]
    · rw [if_neg (fun e => h.1 (by rw [e]; exact List.mem_map.2 ⟨x, hx, rfl⟩)), ih h.2 hx]

theorem ids_rise {l : List ThingD} (h : Rise l) (r : Int) : (idsL l r).Pairwise (fun a b => a.toList < b.toList) := by
  unfold idsL
  rw [List.pairwise_map]
  exact h.filter _

theorem ids_mem {l : List ThingD} (h : (l.map (·.id)).Nodup) {r : Int} {i : ByteArray} : i ∈ idsL l r ↔ ∃ x, getR l i = some x ∧ x.round = r := by
  unfold idsL
  rw [List.mem_map]
  constructor
  · rintro ⟨x, hx, rfl⟩
    obtain ⟨h1, h2⟩ := List.mem_filter.1 hx
    exact ⟨x, getR_mem h h1, by simpa using h2⟩
  · rintro ⟨x, hx, e⟩
    obtain ⟨h1, h2⟩ := getR_some hx
    exact ⟨x, List.mem_filter.2 ⟨h1, by simpa using e⟩, h2⟩
end Go.Proofs.Ytegahpgokmcjhaa
