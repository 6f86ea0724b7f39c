/- Places: their order, and what is sorted; which place two words are. -/
import Derived.Test.YtfbpjdjajecajaaFloatMath
namespace Go.Proofs.Ytfbpjdjajecajaa
open Go Ieee

/-- A place: a round and an author. -/
structure PlD where
  r : Nat
  a : Nat
deriving DecidableEq

def ltP (p q : PlD) : Prop := p.r < q.r ∨ p.r = q.r ∧ p.a < q.a
instance (p q : PlD) : Decidable (ltP p q) := by unfold ltP; infer_instance

theorem ltP_irrefl (p : PlD) : ¬ ltP p p := by unfold ltP; omega
theorem ltP_trans {p q s : PlD} (h1 : ltP p q) (h2 : ltP q s) : ltP p s := by unfold ltP at *; omega
theorem ltP_total (p q : PlD) : ltP p q ∨ p = q ∨ ltP q p := by
  obtain ⟨a, b⟩ := p
  obtain ⟨c, d⟩ := q
  unfold ltP
  simp only [PlD.mk.injEq]
  omega
theorem ltP_asymm {p q : PlD} (h : ltP p q) : ¬ ltP q p := by unfold ltP at *; omega

abbrev RiseP (l : List PlD) : Prop := l.Pairwise ltP

/-- Two that rise and have the same members are one. -/
theorem riseP_ext : ∀ {l m : List PlD}, RiseP l → RiseP m → (∀ p, p ∈ l ↔ p ∈ m) → l = m
  | [], [], _, _, _ => rfl
  | [], y :: m, _, _, h => by have := (h y).2 (List.mem_cons_self ..); cases this
  | x :: l, [], _, _, h => by have := (h x).1 (List.mem_cons_self ..); cases this
  | x :: l, y :: m, hl, hm, h => by
    obtain ⟨hl1, hl2⟩ := List.pairwise_cons.1 hl
    obtain ⟨hm1, hm2⟩ := List.pairwise_cons.1 hm
    have hxy : x = y := by
      rcases List.mem_cons.1 ((h x).1 (List.mem_cons_self ..)) with e | e
      · exact e
      · rcases List.mem_cons.1 ((h y).2 (List.mem_cons_self ..)) with e2 | e2
        · exact e2.symm
        · exact (ltP_asymm (hm1 x e) (hl1 y e2)).elim
    subst hxy
    congr 1
    refine riseP_ext hl2 hm2 (fun p => ⟨fun hp => ?_, fun hp => ?_⟩)
    · rcases List.mem_cons.1 ((h p).1 (List.mem_cons_of_mem _ hp)) with e | e
      · subst e; exact (ltP_irrefl _ (hl1 _ hp)).elim
      · exact e
    · rcases List.mem_cons.1 ((h p).2 (List.mem_cons_of_mem _ hp)) with e | e
      · subst e; exact (ltP_irrefl _ (hm1 _ hp)).elim
      · exact e

/-- Where a place goes. -/
def atP : List PlD → PlD → Nat
  | [], _ => 0
  | x :: l, p => if ltP x p then atP l p + 1 else 0

theorem atP_le (l : List PlD) (p : PlD) : atP l p ≤ l.length := by
  induction l with
  | nil => exact Nat.le_refl _
  | cons x l ih => unfold atP; split <;> simp <;> omega

theorem atP_below {l : List PlD} {p x : PlD} {i : Nat} (hi : i < atP l p) (hx : l[i]? = some x) : ltP x p := by
  induction l generalizing i with
  | nil => cases hx
  | cons y l ih =>
    unfold atP at hi
    split at hi
    · rename_i h
      cases i with
      | zero => simp at hx; rw [← hx]; exact h
      | succ i => exact ih (i := i) (by omega) (by simpa using hx)
    · omega

theorem atP_stop {l : List PlD} {p x : PlD} (hx : l[atP l p]? = some x) : ¬ ltP x p := by
  induction l with
  | nil => cases hx
  | cons y l ih =>
    unfold atP at hx
    split at hx
    · exact ih (by simpa using hx)
    · rename_i h
      simp at hx
      rw [← hx]; exact h

theorem atP_eq {l : List PlD} {p : PlD} {k : Nat} (h1 : ∀ i x, i < k → l[i]? = some x → ltP x p) (hk : k ≤ l.length) (h2 : ∀ x, l[k]? = some x → ¬ ltP x p) : atP l p = k := by
  have g1 := atP_le l p
  rcases Nat.lt_trichotomy (atP l p) k with h | h | h
  · obtain ⟨x, hx⟩ : ∃ x, l[atP l p]? = some x := ⟨_, List.getElem?_eq_getElem (by omega)⟩
    exact (atP_stop hx (h1 _ _ h hx)).elim
  · exact h
  · obtain ⟨x, hx⟩ : ∃ x, l[k]? = some x := ⟨_, List.getElem?_eq_getElem (by omega)⟩
    exact (h2 x hx (atP_below h hx)).elim

/-- A place is put in, if it is not in. -/
def insP (l : List PlD) (p : PlD) : List PlD :=
  match l[atP l p]? with
  | none => l.take (atP l p) ++ p :: l.drop (atP l p)
  | some x => if ltP p x then l.take (atP l p) ++ p :: l.drop (atP l p) else l

theorem insP_cons (x : PlD) (l : List PlD) (p : PlD) : insP (x :: l) p = if ltP x p then x :: insP l p else if ltP p x then p :: x :: l else x :: l := by
  by_cases h : ltP x p
  · have e : atP (x :: l) p = atP l p + 1 := by rw [atP, if_pos h]
    rw [if_pos h]
    unfold insP
    rw [e]
    simp only [List.getElem?_cons_succ, List.take_succ_cons, List.drop_succ_cons, List.cons_append]
    split
    · rfl
    · split <;> rfl
  · have e : atP (x :: l) p = 0 := by rw [atP, if_neg h]
    rw [if_neg h]
    unfold insP
    rw [e]
    simp only [List.getElem?_cons_zero, List.take_zero, List.drop_zero, List.nil_append]

theorem insP_mem (l : List PlD) (p q : PlD) : q ∈ insP l p ↔ q = p ∨ q ∈ l := by
  induction l with
  | nil => simp [insP]
  | cons x l ih =>
    rw [insP_cons]
    by_cases h : ltP x p
    · rw [if_pos h, List.mem_cons, ih, List.mem_cons]
      constructor
      · rintro (h | h | h) <;> simp [h]
      · rintro (h | h | h) <;> simp [h]
    · rw [if_neg h]
      by_cases h2 : ltP p x
      · rw [if_pos h2]; simp
      · rw [if_neg h2]
        have : p = x := by rcases ltP_total p x with e | e | e; exact (h2 e).elim; exact e; exact (h e).elim
        subst this
        simp

theorem insP_rise {l : List PlD} (p : PlD) (h : RiseP l) : RiseP (insP l p) := by
  induction l with
  | nil => simp [insP, RiseP]
  | cons x l ih =>
    obtain ⟨h1, h2⟩ := List.pairwise_cons.1 h
    rw [insP_cons]
    by_cases hx : ltP x p
    · rw [if_pos hx]
      refine List.pairwise_cons.2 ⟨fun q hq => ?_, ih h2⟩
      rcases (insP_mem l p q).1 hq with e | e
      · rw [e]; exact hx
      · exact h1 q e
    · rw [if_neg hx]
      by_cases hp : ltP p x
      · rw [if_pos hp]
        refine List.pairwise_cons.2 ⟨fun q hq => ?_, h⟩
        rcases List.mem_cons.1 hq with e | e
        · rw [e]; exact hp
        · exact ltP_trans hp (h1 q e)
      · rw [if_neg hp]; exact h

/-- The place that two words are. -/
def plC (x : Nat × Nat) : Option PlD :=
  match wholeN x.1 1125899906842624, wholeN x.2 6 with
  | some r, some a => some ⟨r, a⟩
  | _, _ => none

def sortP (l : List (Nat × Nat)) : List PlD := (l.filterMap plC).foldl insP []

theorem foldP_mem (l m : List PlD) (q : PlD) : q ∈ l.foldl insP m ↔ q ∈ l ∨ q ∈ m := by
  induction l generalizing m with
  | nil => simp
  | cons x l ih =>
    rw [List.foldl_cons, ih, insP_mem, List.mem_cons]
    constructor
    · rintro (h | h | h) <;> simp [h]
    · rintro ((h | h) | h) <;> simp [h]

theorem foldP_rise (l : List PlD) {m : List PlD} (h : RiseP m) : RiseP (l.foldl insP m) := by
  induction l generalizing m with
  | nil => exact h
  | cons x l ih => exact ih (insP_rise x h)

theorem sortP_rise (l : List (Nat × Nat)) : RiseP (sortP l) := foldP_rise _ List.Pairwise.nil
theorem sortP_mem (l : List (Nat × Nat)) (q : PlD) : q ∈ sortP l ↔ ∃ x ∈ l, plC x = some q := by
  unfold sortP
  rw [foldP_mem, List.mem_filterMap]
  simp

/-- What rises and has just these members is it. -/
theorem sortP_of {l : List (Nat × Nat)} {m : List PlD} (h1 : RiseP m) (h2 : ∀ q, q ∈ m ↔ ∃ x ∈ l, plC x = some q) : m = sortP l :=
  riseP_ext h1 (sortP_rise l) (fun q => by rw [h2, sortP_mem])

theorem sortP_same {l m : List (Nat × Nat)} (h : ∀ x, x ∈ l ↔ x ∈ m) : sortP l = sortP m :=
  riseP_ext (sortP_rise l) (sortP_rise m) (fun q => by simp only [sortP_mem, h])

/-- Sorted again. -/
theorem sortP_again {l : List (Nat × Nat)} {m : List PlD} (h1 : RiseP m) (h2 : l.map plC = m.map some) : sortP l = m := by
  refine (sortP_of h1 (fun q => ?_)).symm
  have : q ∈ m ↔ some q ∈ m.map some := by simp
  rw [this, ← h2, List.mem_map]

theorem plC_val {x : Nat × Nat} {p : PlD} (h : plC x = some p) : val x.1 = some ((p.r : Int) * one64) ∧ p.r ≤ 1125899906842624 ∧ val x.2 = some ((p.a : Int) * one64) ∧ p.a ≤ 6 := by
  unfold plC at h
  split at h
  · rename_i r a h1 h2
    simp only [Option.some.injEq] at h
    subst h
    obtain ⟨g1, g2⟩ := wholeN_val h1
    obtain ⟨g3, g4⟩ := wholeN_val h2
    exact ⟨g1, g2, g3, g4⟩
  · cases h

theorem plC_of {x : Nat × Nat} {p : PlD} (h1 : val x.1 = some ((p.r : Int) * one64)) (h2 : p.r ≤ 1125899906842624) (h3 : val x.2 = some ((p.a : Int) * one64)) (h4 : p.a ≤ 6) : plC x = some p := by
  unfold plC
  rw [wholeN_of h1 h2, wholeN_of h3 h4]

theorem mul_one64_inj {a b : Int} (h : a * one64 = b * one64) : a = b := Int.eq_of_mul_eq_mul_right (Int.ne_of_gt one64_pos) h

/-- Two places' words are equal if and only if they are one place. -/
theorem plC_eq {x y : Nat × Nat} {p q : PlD} (hx : plC x = some p) (hy : plC y = some q) : ((double.order x.1 y.1 == some .eq) && (double.order x.2 y.2 == some .eq)) = decide (p = q) := by
  obtain ⟨x1, _, x2, _⟩ := plC_val hx
  obtain ⟨y1, _, y2, _⟩ := plC_val hy
  rw [eqF x1 y1, eqF x2 y2]
  obtain ⟨pr, pa⟩ := p
  obtain ⟨qr, qa⟩ := q
  rw [Bool.eq_iff_iff]
  simp only [Bool.and_eq_true, decide_eq_true_eq, PlD.mk.injEq]
  constructor
  · rintro ⟨h1, h2⟩
    have := mul_one64_inj h1
    have := mul_one64_inj h2
    omega
  · rintro ⟨rfl, rfl⟩
    exact ⟨rfl, rfl⟩
end Go.Proofs.Ytfbpjdjajecajaa
