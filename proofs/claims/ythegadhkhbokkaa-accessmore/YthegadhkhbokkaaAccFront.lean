/- Layer 20's mathematics: the pairs of a beginning; more that is declared. -/
import Derived.Test.YthegadhkhbokkaaAccMath
namespace Go.Proofs.Ythegadhkhbokkaa
open Go.RowKit
set_option linter.unusedVariables false

theorem range_filter_lt {n : Nat} : ∀ {N : Nat}, n ≤ N → (List.range N).filter (fun k => decide (k < n)) = List.range n
  | 0, h => by
    obtain rfl : n = 0 := by omega
    rfl
  | N + 1, h => by
    rw [List.range_succ, List.filter_append]
    by_cases e : n = N + 1
    · subst e
      rw [List.range_succ]
      congr 1
      · rw [List.filter_eq_self]
        intro k hk
        rw [List.mem_range] at hk
        exact decide_eq_true (by omega)
      · rw [List.filter_cons_of_pos (by simp)]; rfl
    · rw [range_filter_lt (N := N) (by omega), List.filter_cons_of_neg (by simp; omega)]
      simp

theorem adjB_take {l : List RwD} {n i k : Nat} (hi : i < n) (hk : k < n) : adjB (l.take n) i k = adjB l i k := by
  unfold adjB
  rw [List.getElem?_take_of_lt hi, List.getElem?_take_of_lt hk]

theorem wayL_front {l : List RwD} {n i : Nat} (hn : n ≤ l.length) (hi : i < n) : (wayL l i l.length).filter (fun k => decide (k < n)) = wayL (l.take n) i (l.take n).length := by
  have hl : (l.take n).length = n := by rw [List.length_take]; omega
  rw [hl]
  unfold wayL
  rw [List.filter_filter]
  have h1 : (List.range l.length).filter (fun a => decide (a < n) && (decide (i < a) && adjB l i a)) = ((List.range l.length).filter (fun a => decide (a < n))).filter (fun a => decide (i < a) && adjB l i a) := by
    rw [List.filter_filter]
    refine List.filter_congr (fun a _ => ?_)
    cases decide (a < n) <;> simp
  rw [h1, range_filter_lt hn]
  refine List.filter_congr (fun a ha => ?_)
  rw [List.mem_range] at ha
  rw [adjB_take hi ha]

theorem wayL_past {l : List RwD} {n i : Nat} (hi : n ≤ i) : (wayL l i l.length).filter (fun k => decide (k < n)) = [] := by
  rw [List.filter_eq_nil_iff]
  intro k hk
  obtain ⟨_, h, _⟩ := wayL_mem.1 hk
  simp
  omega

theorem edges_front {l : List RwD} {n : Nat} (hn : n ≤ l.length) : (edgesL l).filter (fun e => decide (e.2 < n)) = edgesL (l.take n) := by
  have hl : (l.take n).length = n := by rw [List.length_take]; omega
  have key : ∀ m, (edgesN l m).filter (fun e => decide (e.2 < n)) = edgesN (l.take n) (min m n) := by
    intro m
    induction m with
    | zero =>
      rw [Nat.zero_min]
      rfl
    | succ m ih =>
      rw [edgesN_succ, List.filter_append, ih, List.filter_map]
      by_cases h : m < n
      · rw [show min (m + 1) n = m + 1 by omega, show min m n = m by omega, edgesN_succ, ← wayL_front hn h]
        rfl
      · rw [show min (m + 1) n = n by omega, show min m n = n by omega]
        have := wayL_past (l := l) (n := n) (i := m) (by omega)
        have e : (wayL l m l.length).filter ((fun e : Nat × Nat => decide (e.2 < n)) ∘ fun k => (m, k)) = [] := this
        rw [e]
        simp
  unfold edgesL
  rw [key, hl, show min l.length n = n by omega]

theorem filter_get {α : Type} {p : α → Bool} : ∀ {l : List α} {i : Nat} {x : α}, l[i]? = some x → p x = true → (l.filter p)[(l.take i).countP p]? = some x
  | [], i, x, h, _ => by simp at h
  | y :: l, 0, x, h, hp => by
    simp only [List.getElem?_cons_zero, Option.some.injEq] at h
    subst h
    rw [List.filter_cons_of_pos hp]
    rfl
  | y :: l, i + 1, x, h, hp => by
    rw [List.getElem?_cons_succ] at h
    have ih := filter_get h hp
    by_cases hy : p y = true
    · rw [List.filter_cons_of_pos hy, List.take_succ_cons, List.countP_cons_of_pos hy, List.getElem?_cons_succ]
      exact ih
    · rw [List.filter_cons_of_neg hy, List.take_succ_cons, List.countP_cons_of_neg hy]
      exact ih

theorem count_next {α : Type} {p : α → Bool} {l : List α} {i : Nat} {x : α} (h : l[i]? = some x) : (l.take (i + 1)).countP p = (l.take i).countP p + (if p x = true then 1 else 0) := by
  rw [List.take_add_one, h, List.countP_append, Option.toList_some, List.countP_singleton]

theorem clash_more {a b : RwD} {k : ByteArray} (h : clashB a b = true) : clashB ⟨a.rs, a.ws ++ [k]⟩ b = true := by
  rw [clashB_iff] at h ⊢
  rcases h with ⟨q, h1, h2⟩ | h
  · exact Or.inl ⟨q, List.mem_append_left _ h1, h2⟩
  · exact Or.inr h
end Go.Proofs.Ythegadhkhbokkaa
