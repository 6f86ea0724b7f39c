/- Texts as one: StaList. -/
import Derived.Test.YtajpfkenhchafaaGreatDoorEz03
/- Rising lists of names with what stands under them: looking up, putting in. -/
namespace Go.Proofs.YtajpfkenhchafaaGreatDoor
open Go
set_option linter.unusedVariables false

section
variable {β : Type}

def kAt (L : List (ByteArray × β)) (n : ByteArray) : Nat := (L.takeWhile (fun x => Op.bytesLess x.1.toList n.toList)).length

theorem kAt_le (L : List (ByteArray × β)) (n : ByteArray) : kAt L n ≤ L.length := (List.takeWhile_sublist _).length_le

theorem kStop {α : Type} {p : α → Bool} : ∀ (l : List α) (i : Nat) (x : α), l[i]? = some x → i ≤ (l.takeWhile p).length → (i < (l.takeWhile p).length ↔ p x = true)
  | [], i, x, h, _ => by simp at h
  | y :: l, 0, x, h, _ => by
    simp at h
    subst h
    rw [List.takeWhile_cons]
    cases p y <;> simp
  | y :: l, i + 1, x, h, hi => by
    have h' : l[i]? = some x := by simpa using h
    rw [List.takeWhile_cons] at hi ⊢
    cases hp : p y with
    | false => rw [hp] at hi; simp at hi
    | true =>
      rw [hp] at hi
      simp only [if_true, List.length_cons] at hi ⊢
      rw [← kStop (p := p) l i x h' (by omega)]
      omega

theorem kAt_step {L : List (ByteArray × β)} {n : ByteArray} {i : Nat} {x : ByteArray × β} (hx : L[i]? = some x) (hi : i ≤ kAt L n) : i < kAt L n ↔ Op.bytesLess x.1.toList n.toList = true := kStop L i x hx hi

def kGet (L : List (ByteArray × β)) (n : ByteArray) : Option β := (L.find? (fun x => x.1.toList == n.toList)).map (·.2)

theorem kGet_step {L : List (ByteArray × β)} {n : ByteArray} {i : Nat} {x : ByteArray × β} (hx : L[i]? = some x) : kGet (L.drop i) n = if x.1.toList == n.toList then some x.2 else kGet (L.drop (i + 1)) n := by
  have hi := (List.getElem?_eq_some_iff.1 hx).1
  unfold kGet
  rw [List.drop_eq_getElem_cons hi, (List.getElem?_eq_some_iff.1 hx).2, List.find?_cons]
  cases x.1.toList == n.toList <;> rfl

def kPut (n : ByteArray) (x : β) : List (ByteArray × β) → List (ByteArray × β)
  | [] => [(n, x)]
  | y :: r => if Op.bytesLess y.1.toList n.toList = true then y :: kPut n x r else if y.1 = n then (n, x) :: r else (n, x) :: y :: r

def KRise (L : List (ByteArray × β)) : Prop := L.Pairwise (fun a b => a.1.toList < b.1.toList)

/-- It is set where it stands; else put between. -/
theorem kPut_set (n : ByteArray) (x y : β) : ∀ {L : List (ByteArray × β)}, L[kAt L n]? = some (n, y) → kPut n x L = L.set (kAt L n) (n, x)
  | [], h => by simp at h
  | z :: r, h => by
    unfold kAt at h ⊢
    unfold kPut
    rw [List.takeWhile_cons] at h ⊢
    by_cases hl : Op.bytesLess z.1.toList n.toList = true
    · rw [if_pos hl] at h ⊢
      rw [if_pos hl]
      rw [List.length_cons] at h ⊢
      rw [List.getElem?_cons_succ] at h
      rw [List.set_cons_succ, kPut_set n x y (L := r) h]
      rfl
    · rw [if_neg hl] at h ⊢
      rw [if_neg hl]
      simp only [List.length_nil, List.getElem?_cons_zero, Option.some.injEq] at h
      rw [if_pos (by rw [h])]
      rfl

theorem kPut_new (n : ByteArray) (x : β) : ∀ {L : List (ByteArray × β)}, (∀ y, L[kAt L n]? ≠ some (n, y)) → kPut n x L = L.take (kAt L n) ++ (n, x) :: L.drop (kAt L n)
  | [], _ => rfl
  | z :: r, h => by
    unfold kAt at h ⊢
    unfold kPut
    rw [List.takeWhile_cons] at h ⊢
    by_cases hl : Op.bytesLess z.1.toList n.toList = true
    · rw [if_pos hl] at h ⊢
      rw [if_pos hl]
      rw [List.length_cons] at h ⊢
      rw [List.take_succ_cons, List.drop_succ_cons, List.cons_append, kPut_new n x (L := r) (fun y e => h y (by rw [List.getElem?_cons_succ]; exact e))]
      rfl
    · rw [if_neg hl] at h ⊢
      rw [if_neg hl]
      simp only [List.length_nil, List.getElem?_cons_zero] at h
      rw [if_neg (fun e => h z.2 (by rw [← e]))]
      rfl

theorem kPut_mem (n : ByteArray) (x : β) : ∀ {L : List (ByteArray × β)} {z : ByteArray × β}, z ∈ kPut n x L → z = (n, x) ∨ z ∈ L
  | [], z, h => Or.inl (by simpa [kPut] using h)
  | y :: r, z, h => by
    unfold kPut at h
    split at h
    · rcases List.mem_cons.1 h with e | e
      · exact Or.inr (by rw [e]; exact List.mem_cons_self)
      · exact (kPut_mem n x e).imp id (List.mem_cons_of_mem _)
    · split at h
      · exact (List.mem_cons.1 h).imp id (List.mem_cons_of_mem _)
      · exact (List.mem_cons.1 h).imp id id

theorem ltT_of {a b : ByteArray} (h1 : ¬ a.toList < b.toList) (h2 : a ≠ b) : b.toList < a.toList := by
  rcases List.le_total a.toList b.toList with h4 | h4
  · rcases List.le_iff_lt_or_eq.1 h4 with h5 | h5
    · exact absurd h5 h1
    · exact absurd (bytes_inj h5) h2
  · rcases List.le_iff_lt_or_eq.1 h4 with h5 | h5
    · exact h5
    · exact absurd (bytes_inj h5).symm h2

theorem KRise.put {L : List (ByteArray × β)} (h : KRise L) (n : ByteArray) (x : β) : KRise (kPut n x L) := by
  unfold KRise at h ⊢
  induction L with
  | nil => exact List.pairwise_singleton _ _
  | cons y r ih =>
    obtain ⟨h1, h2⟩ := List.pairwise_cons.1 h
    unfold kPut
    split
    · rename_i hl
      rw [lessT_eq] at hl
      have hl := of_decide_eq_true hl
      refine List.pairwise_cons.2 ⟨fun z hz => ?_, ih h2⟩
      rcases kPut_mem n x hz with e | e
      · rw [e]; exact hl
      · exact h1 z e
    · rename_i hl
      rw [lessT_eq] at hl
      have hl : ¬ y.1.toList < n.toList := by simpa using hl
      split
      · rename_i e
        exact List.pairwise_cons.2 ⟨fun z hz => by rw [← e]; exact h1 z hz, h2⟩
      · rename_i e
        have hn := ltT_of hl e
        refine List.pairwise_cons.2 ⟨fun z hz => ?_, h⟩
        rcases List.mem_cons.1 hz with q | q
        · rw [q]; exact hn
        · exact List.lt_trans hn (h1 z q)

theorem kGet_cons (y : ByteArray × β) (r : List (ByteArray × β)) (m : ByteArray) : kGet (y :: r) m = if y.1 = m then some y.2 else kGet r m := by
  unfold kGet
  rw [List.find?_cons, bytes_eq]
  by_cases h : y.1 = m
  · rw [decide_eq_true h, if_pos h]; rfl
  · rw [decide_eq_false h, if_neg h]

theorem kGet_put {L : List (ByteArray × β)} (n : ByteArray) (x : β) (m : ByteArray) : kGet (kPut n x L) m = if m = n then some x else kGet L m := by
  induction L with
  | nil =>
    unfold kPut
    rw [kGet_cons]
    by_cases h : m = n
    · rw [if_pos h.symm, if_pos h]
    · rw [if_neg (fun e => h e.symm), if_neg h]
  | cons y r ih =>
    unfold kPut
    split
    · rename_i hl
      have hne : y.1 ≠ n := fun e => by rw [e, lessT_eq, decide_eq_true_eq] at hl; exact List.lt_irrefl _ hl
      rw [kGet_cons, kGet_cons, ih]
      by_cases h : m = n
      · rw [if_neg (fun e => hne (e.trans h)), if_pos h, if_pos h]
      · rw [if_neg h]; rw [if_neg h]
    · split
      · rename_i e
        rw [kGet_cons, kGet_cons]
        by_cases h : m = n
        · rw [if_pos h.symm, if_pos h]
        · rw [if_neg (fun q => h q.symm), if_neg h, if_neg (fun q => h (q.symm.trans e))]
      · rename_i e
        rw [kGet_cons]
        by_cases h : m = n
        · rw [if_pos h.symm, if_pos h]
        · rw [if_neg (fun q => h q.symm), if_neg h]

theorem kGet_some {L : List (ByteArray × β)} {m : ByteArray} {x : β} (h : kGet L m = some x) : (m, x) ∈ L := by
  induction L with
  | nil => cases h
  | cons y r ih =>
    rw [kGet_cons] at h
    split at h
    · rename_i e
      have : y = (m, x) := by rw [← e, ← Option.some.inj h]
      rw [this]; exact List.mem_cons_self
    · exact List.mem_cons_of_mem _ (ih h)

theorem kGet_iff {L : List (ByteArray × β)} (hr : KRise L) {m : ByteArray} {x : β} : kGet L m = some x ↔ (m, x) ∈ L := by
  refine ⟨kGet_some, fun h => ?_⟩
  unfold KRise at hr
  induction L with
  | nil => cases h
  | cons y r ih =>
    obtain ⟨h1, h2⟩ := List.pairwise_cons.1 hr
    rw [kGet_cons]
    rcases List.mem_cons.1 h with e | e
    · rw [← e, if_pos rfl]
    · have hlt := h1 _ e
      rw [if_neg (fun q => by rw [q] at hlt; exact List.lt_irrefl _ hlt)]
      exact ih h2 e

/-- What stands where it would be put. -/
theorem kGet_at {L : List (ByteArray × β)} (hr : KRise L) {n : ByteArray} {x : β} : L[kAt L n]? = some (n, x) ↔ kGet L n = some x := by
  refine ⟨fun h => (kGet_iff hr).2 (List.mem_of_getElem? h), fun h => ?_⟩
  have hm := kGet_some h
  clear h
  unfold KRise at hr
  induction L with
  | nil => cases hm
  | cons y r ih =>
    obtain ⟨h1, h2⟩ := List.pairwise_cons.1 hr
    unfold kAt at ih ⊢
    rw [List.takeWhile_cons]
    rcases List.mem_cons.1 hm with e | e
    · have hl : ¬ Op.bytesLess y.1.toList n.toList = true := by
        rw [← e, lessT_eq, decide_eq_true_eq]; exact List.lt_irrefl _
      rw [if_neg hl, e]
      rfl
    · have hl : Op.bytesLess y.1.toList n.toList = true := by rw [lessT_eq]; exact decide_eq_true (h1 _ e)
      rw [if_pos hl, List.length_cons, List.getElem?_cons_succ]
      exact ih h2 e
end
end Go.Proofs.YtajpfkenhchafaaGreatDoor
