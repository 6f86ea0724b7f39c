/- Tags that are collected: a place for each number, and the tags that are in, rising. -/
import Derived.Test.YtbikabjogacfkaaDoorHeaderMath
namespace Go.Proofs.YtbikabjogacfkaaDoor
open Go.RowKit
set_option linter.unusedVariables false

/-- The tags that are in, rising. -/
def inL (P : List (Option TagD)) : List TagD := P.filterMap id

theorem inL_append (P Q : List (Option TagD)) : inL (P ++ Q) = inL P ++ inL Q := by simp [inL, List.filterMap_append]
theorem inL_len (P : List (Option TagD)) : (inL P).length ≤ P.length := List.length_filterMap_le _ _

/-- Seven places, each with a tag of its own number; there is none beyond n. -/
structure Places (chk : TagD → Nat) (n : Nat) (P : List (Option TagD)) : Prop where
  len : P.length = 7
  own : ∀ (i : Nat) (t : TagD), P[i]? = some (some t) → t.who = (i : Int) ∧ i < n ∧ chk t = 0

def noP : List (Option TagD) := List.replicate 7 none

theorem noP_get (i : Nat) (t : TagD) : ¬ noP[i]? = some (some t) := by
  unfold noP
  rw [List.getElem?_replicate]
  split <;> simp

theorem places_none (chk : TagD → Nat) (n : Nat) : Places chk n noP := ⟨rfl, fun i t h => (noP_get i t h).elim⟩

theorem inL_none : inL noP = [] := rfl

def addE (chk : TagD → Nat) (P : List (Option TagD)) (t : TagD) : Nat := if chk t ≠ 0 then chk t else if (P.getD t.who.toNat none).isSome = true then 13 else 0
def addP (chk : TagD → Nat) (P : List (Option TagD)) (t : TagD) : List (Option TagD) := if chk t ≠ 0 then P else if (P.getD t.who.toNat none).isSome = true then P else P.set t.who.toNat (some t)

section
variable {chk : TagD → Nat} {n : Nat} {P : List (Option TagD)}

theorem Places.set (h : Places chk n P) {t : TagD} {j : Nat} (hj : t.who = (j : Int)) (hn : j < n) (hc : chk t = 0) : Places chk n (P.set j (some t)) := by
  refine ⟨by rw [List.length_set]; exact h.len, fun i u hu => ?_⟩
  rw [List.getElem?_set] at hu
  split at hu
  · rename_i e
    split at hu
    · simp only [Option.some.injEq] at hu
      subst hu e
      exact ⟨hj, hn, hc⟩
    · cases hu
  · exact h.own i u hu

theorem Places.add (h : Places chk n P) {t : TagD} (hc : chk t = 0 → 0 ≤ t.who ∧ t.who < n) : Places chk n (addP chk P t) := by
  unfold addP
  split
  · exact h
  split
  · exact h
  rename_i h1 h2
  have h0 : chk t = 0 := by omega
  obtain ⟨a, b⟩ := hc h0
  exact h.set (by omega) (by omega) h0

theorem cutP {j : Nat} {o : Option TagD} (h : P[j]? = some o) : P = P.take j ++ o :: P.drop (j + 1) := by
  obtain ⟨hi, hx⟩ := List.getElem?_eq_some_iff.1 h
  have : P.drop j = o :: P.drop (j + 1) := by rw [← hx]; exact List.drop_eq_getElem_cons hi
  rw [← this, List.take_append_drop]

theorem inL_cut {j : Nat} {o : Option TagD} (h : P[j]? = some o) : inL P = inL (P.take j) ++ (o.toList ++ inL (P.drop (j + 1))) := by
  have e := cutP h
  generalize P.take j = a at *
  generalize P.drop (j + 1) = b at *
  subst e
  rw [inL_append]
  cases o <;> simp [inL]

theorem inL_succ {j : Nat} {o : Option TagD} (h : P[j]? = some o) : inL (P.take (j + 1)) = inL (P.take j) ++ o.toList := by
  rw [List.take_add_one, h, inL_append]
  cases o <;> simp [inL]

theorem inL_set {j : Nat} {o : Option TagD} (h : P[j]? = some o) (t : TagD) : inL (P.set j (some t)) = inL (P.take j) ++ t :: inL (P.drop (j + 1)) := by
  have hj := (List.getElem?_eq_some_iff.1 h).1
  have h2 : (P.set j (some t))[j]? = some (some t) := by rw [List.getElem?_set, if_pos rfl, if_pos hj]
  rw [inL_cut h2, List.take_set_of_le (Nat.le_refl _), List.drop_set_of_lt (by omega)]
  rfl

theorem Places.front (h : Places chk n P) (j : Nat) : ∀ t ∈ inL (P.take j), 0 ≤ t.who ∧ t.who < (j : Int) := by
  intro t ht
  obtain ⟨o, ho, e⟩ := List.mem_filterMap.1 ht
  simp only [id] at e
  subst e
  obtain ⟨i, hi⟩ := List.getElem?_of_mem ho
  rw [List.getElem?_take] at hi
  split at hi
  · rename_i hij
    obtain ⟨a, _⟩ := h.own i t hi
    omega
  · cases hi

theorem Places.back (h : Places chk n P) (j : Nat) : ∀ t ∈ inL (P.drop (j + 1)), (j : Int) < t.who := by
  intro t ht
  obtain ⟨o, ho, e⟩ := List.mem_filterMap.1 ht
  simp only [id] at e
  subst e
  obtain ⟨i, hi⟩ := List.getElem?_of_mem ho
  rw [List.getElem?_drop] at hi
  obtain ⟨a, _⟩ := h.own _ t hi
  omega

theorem Places.mem (h : Places chk n P) : ∀ t ∈ inL P, 0 ≤ t.who ∧ t.who < (n : Int) ∧ chk t = 0 := by
  intro t ht
  obtain ⟨o, ho, e⟩ := List.mem_filterMap.1 ht
  simp only [id] at e
  subst e
  obtain ⟨i, hi⟩ := List.getElem?_of_mem ho
  obtain ⟨a, b, c⟩ := h.own i t hi
  exact ⟨by omega, by omega, c⟩

/-- Beyond n there is none. -/
theorem Places.all (h : Places chk n P) : inL (P.take n) = inL P := by
  have e : inL P = inL (P.take n) ++ inL (P.drop n) := by rw [← inL_append, List.take_append_drop]
  have hz : inL (P.drop n) = [] := by
    cases hx : inL (P.drop n) with
    | nil => rfl
    | cons t r =>
      have ht : t ∈ inL (P.drop n) := by rw [hx]; simp
      obtain ⟨o, ho, e⟩ := List.mem_filterMap.1 ht
      simp only [id] at e
      subst e
      obtain ⟨i, hi⟩ := List.getElem?_of_mem ho
      rw [List.getElem?_drop] at hi
      have := (h.own _ t hi).2.1
      omega
  rw [e, hz, List.append_nil]

theorem Places.rising (h : Places chk n P) : ∀ j, j ≤ 7 → (inL (P.take j)).Pairwise (fun a b => a.who < b.who)
  | 0, _ => by simp [inL]
  | j + 1, hj => by
    have ih := h.rising j (by omega)
    obtain ⟨o, ho⟩ : ∃ o, P[j]? = some o := ⟨_, List.getElem?_eq_getElem (by rw [h.len]; omega)⟩
    rw [inL_succ ho, List.pairwise_append]
    refine ⟨ih, ?_, ?_⟩
    · cases o <;> simp
    · intro a ha b hb
      have h1 := (h.front j a ha).2
      cases o with
      | none => simp at hb
      | some t =>
        simp at hb
        subst hb
        have := (h.own j _ ho).1
        omega

theorem Places.sorted (h : Places chk n P) : (inL P).Pairwise (fun a b => a.who < b.who) := by
  have := h.rising 7 (Nat.le_refl _)
  rw [List.take_of_length_le (by rw [h.len]; omega)] at this
  exact this

/-- Where a tag of the number j stands, or would: behind all that are less. -/
theorem Places.less (h : Places chk n P) {j : Nat} {o : Option TagD} (ho : P[j]? = some o) {i : Nat} {t : TagD} (ht : (inL P)[i]? = some t) : t.who < (j : Int) ↔ i < (inL (P.take j)).length := by
  rw [inL_cut ho] at ht
  constructor
  · intro hlt
    by_cases hi : i < (inL (P.take j)).length
    · exact hi
    · rw [List.getElem?_append_right (by omega)] at ht
      have hm := List.mem_of_getElem? ht
      rw [List.mem_append] at hm
      rcases hm with hm | hm
      · cases o with
        | none => simp at hm
        | some u =>
          simp at hm
          subst hm
          have := (h.own j _ ho).1
          omega
      · have := h.back j t hm
        omega
  · intro hi
    rw [List.getElem?_append_left hi] at ht
    exact (h.front j t (List.mem_of_getElem? ht)).2

/-- Where a tag of that number is in. -/
theorem Places.there (h : Places chk n P) {j : Nat} {u : TagD} (ho : P[j]? = some (some u)) : (inL P)[(inL (P.take j)).length]? = some u := by
  rw [inL_cut ho, List.getElem?_append_right (Nat.le_refl _), Nat.sub_self]
  rfl

/-- Where none is in. -/
theorem Places.gone (h : Places chk n P) {j : Nat} (ho : P[j]? = some none) : inL P = inL (P.take j) ++ inL (P.drop (j + 1)) := by
  rw [inL_cut ho]
  rfl

theorem Places.gone_ne (h : Places chk n P) {j : Nat} (ho : P[j]? = some none) {t : TagD} (ht : (inL P)[(inL (P.take j)).length]? = some t) : (j : Int) < t.who := by
  rw [h.gone ho, List.getElem?_append_right (Nat.le_refl _), Nat.sub_self] at ht
  exact h.back j t (List.mem_of_getElem? ht)

theorem Places.few (h : Places chk n P) : (inL P).length ≤ 7 := by
  have := inL_len P
  rw [h.len] at this
  exact this

theorem front_le {j : Nat} : (inL (P.take j)).length ≤ (inL P).length := by
  have e : inL P = inL (P.take j) ++ inL (P.drop j) := by rw [← inL_append, List.take_append_drop]
  rw [e, List.length_append]
  omega
end
end Go.Proofs.YtbikabjogacfkaaDoor
