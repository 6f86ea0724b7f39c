/- Layer 21's mathematics: the wave of each member, and the plan. -/
import Derived.Test.YtkgidmifgfoeiaaAccMath
namespace Go.Proofs.Ytkgidmifgfoeiaa
open Go.RowKit
set_option linter.unusedVariables false

/-- The greatest wave behind those of the first k that are in member i's way, the waves of all ahead being ws. -/
def nxK (l : List RwD) (ws : List Nat) (i : Nat) : Nat → Nat
  | 0 => 0
  | k + 1 => if adjB l k i = true then max (nxK l ws i k) (ws.getD k 0 + 1) else nxK l ws i k

/-- The waves of the first m. -/
def wvN (l : List RwD) : Nat → List Nat
  | 0 => []
  | m + 1 => wvN l m ++ [nxK l (wvN l m) m m]

theorem wvN_length (l : List RwD) : ∀ m, (wvN l m).length = m
  | 0 => rfl
  | m + 1 => by
    show (wvN l m ++ [_]).length = _
    rw [List.length_append, List.length_singleton, wvN_length l m]

/-- The wave of member i. -/
def wv (l : List RwD) (i : Nat) : Nat := nxK l (wvN l i) i i

theorem wvN_get (l : List RwD) : ∀ {m i : Nat}, i < m → (wvN l m)[i]? = some (wv l i)
  | 0, i, h => by omega
  | m + 1, i, h => by
    show (wvN l m ++ [_])[i]? = _
    by_cases e : i = m
    · subst e
      rw [List.getElem?_append_right (by rw [wvN_length]; exact Nat.le_refl _), wvN_length, Nat.sub_self]
      rfl
    · rw [List.getElem?_append_left (by rw [wvN_length]; omega)]
      exact wvN_get l (by omega)

theorem wvN_getD (l : List RwD) {m i : Nat} (h : i < m) : (wvN l m).getD i 0 = wv l i := by
  rw [List.getD_eq_getElem?_getD, wvN_get l h]
  rfl

theorem wvN_take (l : List RwD) : ∀ {m k : Nat}, k ≤ m → (wvN l m).take k = wvN l k
  | 0, k, h => by
    obtain rfl : k = 0 := by omega
    rfl
  | m + 1, k, h => by
    by_cases e : k = m + 1
    · subst e
      rw [List.take_of_length_le (by rw [wvN_length]; exact Nat.le_refl _)]
    · show (wvN l m ++ [_]).take k = _
      rw [List.take_append_of_le_length (by rw [wvN_length]; omega), wvN_take l (by omega)]

theorem nxK_ge {l : List RwD} {ws : List Nat} {i : Nat} : ∀ {m k : Nat}, k < m → adjB l k i = true → ws.getD k 0 + 1 ≤ nxK l ws i m
  | 0, k, h, _ => by omega
  | m + 1, k, h, ha => by
    unfold nxK
    by_cases e : k = m
    · subst e
      rw [if_pos ha]
      omega
    · have := nxK_ge (ws := ws) (show k < m by omega) ha
      split
      · omega
      · exact this

theorem nxK_ex {l : List RwD} {ws : List Nat} {i : Nat} : ∀ {m : Nat}, nxK l ws i m = 0 ∨ ∃ k, k < m ∧ adjB l k i = true ∧ ws.getD k 0 + 1 = nxK l ws i m
  | 0 => Or.inl rfl
  | m + 1 => by
    unfold nxK
    by_cases ha : adjB l m i = true
    · rw [if_pos ha]
      rcases Nat.le_total (nxK l ws i m) (ws.getD m 0 + 1) with h | h
      · rw [Nat.max_eq_right h]
        exact Or.inr ⟨m, by omega, ha, rfl⟩
      · rw [Nat.max_eq_left h]
        rcases nxK_ex (l := l) (ws := ws) (i := i) (m := m) with h2 | ⟨k, h2, h3, h4⟩
        · exact Or.inl h2
        · exact Or.inr ⟨k, by omega, h3, h4⟩
    · rw [if_neg ha]
      rcases nxK_ex (l := l) (ws := ws) (i := i) (m := m) with h2 | ⟨k, h2, h3, h4⟩
      · exact Or.inl h2
      · exact Or.inr ⟨k, by omega, h3, h4⟩

/-- Of two in each other's way the later one has the later wave. -/
theorem wv_lt {l : List RwD} {k i : Nat} (h : k < i) (ha : adjB l k i = true) : wv l k < wv l i := by
  have h1 := nxK_ge (ws := wvN l i) h ha
  rw [wvN_getD l h] at h1
  exact h1

/-- Each wave but the first has one of the wave ahead in its way. -/
theorem wv_ex {l : List RwD} {i : Nat} (h : 0 < wv l i) : ∃ k, k < i ∧ adjB l k i = true ∧ wv l k + 1 = wv l i := by
  rcases nxK_ex (l := l) (ws := wvN l i) (i := i) (m := i) with h1 | ⟨k, h1, h2, h3⟩
  · have e : wv l i = 0 := h1
    omega
  · rw [wvN_getD l h1] at h3
    exact ⟨k, h1, h2, h3⟩

theorem wv_le (l : List RwD) (i : Nat) : wv l i ≤ i := by
  induction i using Nat.strongRecOn with
  | ind i ih =>
    rcases Nat.eq_zero_or_pos (wv l i) with h | h
    · omega
    · obtain ⟨k, h1, _, h3⟩ := wv_ex h
      have := ih k h1
      omega

/-- Members of one wave are not in each other's way. -/
theorem wv_apart {l : List RwD} {k i : Nat} (h : k < i) (e : wv l k = wv l i) : adjB l k i = false := by
  cases ha : adjB l k i with
  | false => rfl
  | true => have := wv_lt h ha; omega

/-- The waves of a beginning are those of the whole. -/
theorem wv_front {l : List RwD} {n : Nat} : ∀ i, i < n → wv (l.take n) i = wv l i := by
  intro i
  induction i using Nat.strongRecOn with
  | ind i ih =>
    intro hi
    have hadj : ∀ k, k < n → adjB (l.take n) k i = adjB l k i := fun k hk => by
      unfold adjB
      rw [List.getElem?_take_of_lt hi, List.getElem?_take_of_lt hk]
    have key : ∀ m, m ≤ i → nxK (l.take n) (wvN (l.take n) i) i m = nxK l (wvN l i) i m := by
      intro m
      induction m with
      | zero => intro _; rfl
      | succ m ihm =>
        intro hm
        unfold nxK
        rw [hadj m (by omega), ihm (by omega), wvN_getD _ (show m < i by omega), wvN_getD _ (show m < i by omega), ih m (by omega) (by omega)]
    exact key i (Nat.le_refl _)

/-- How many waves the first m have. -/
def nwN (l : List RwD) : Nat → Nat
  | 0 => 0
  | m + 1 => max (nwN l m) (wv l m + 1)

theorem nwN_gt {l : List RwD} : ∀ {m i : Nat}, i < m → wv l i < nwN l m
  | 0, i, h => by omega
  | m + 1, i, h => by
    unfold nwN
    by_cases e : i = m
    · subst e; omega
    · have := nwN_gt (l := l) (show i < m by omega)
      omega

theorem nwN_le (l : List RwD) : ∀ m, nwN l m ≤ m
  | 0 => Nat.le_refl _
  | m + 1 => by
    unfold nwN
    have := nwN_le l m
    have := wv_le l m
    omega

/-- Each wave has a member. -/
theorem nwN_ex {l : List RwD} : ∀ {m w : Nat}, w < nwN l m → ∃ i, i < m ∧ wv l i = w
  | 0, w, h => by simp [nwN] at h
  | m + 1, w, h => by
    unfold nwN at h
    by_cases h1 : w < nwN l m
    · obtain ⟨i, h2, h3⟩ := nwN_ex h1
      exact ⟨i, by omega, h3⟩
    · by_cases h2 : w = wv l m
      · exact ⟨m, by omega, h2.symm⟩
      · have h3 : w < wv l m := by omega
        obtain ⟨k, q1, _, q3⟩ := wv_ex (show 0 < wv l m by omega)
        have := nwN_gt (l := l) q1
        omega

/-- A wave's members among the first m. -/
def waveL (l : List RwD) (m w : Nat) : List Nat := (List.range m).filter (fun i => decide (wv l i = w))

theorem waveL_succ (l : List RwD) (m w : Nat) : waveL l (m + 1) w = waveL l m w ++ (if wv l m = w then [m] else []) := by
  unfold waveL
  rw [List.range_succ, List.filter_append]
  congr 1
  by_cases h : wv l m = w
  · rw [if_pos h, List.filter_cons_of_pos (by simpa using h)]; rfl
  · rw [if_neg h, List.filter_cons_of_neg (by simpa using h)]; rfl

theorem waveL_mem {l : List RwD} {m w i : Nat} : i ∈ waveL l m w ↔ i < m ∧ wv l i = w := by
  unfold waveL
  rw [List.mem_filter, List.mem_range, decide_eq_true_iff]

/-- The plan of the first m. -/
def planN (l : List RwD) (m : Nat) : List (List Nat) := (List.range (nwN l m)).map (waveL l m)

theorem planN_length (l : List RwD) (m : Nat) : (planN l m).length = nwN l m := by simp [planN]

theorem planN_get {l : List RwD} {m w : Nat} (h : w < nwN l m) : (planN l m)[w]? = some (waveL l m w) := by
  unfold planN
  rw [List.getElem?_map, List.getElem?_range h]
  rfl

/-- One more member is put to its wave: first there is made room. -/
def roomTo (p : List (List Nat)) (n : Nat) : List (List Nat) := p ++ List.replicate (n - p.length) []

theorem planN_succ (l : List RwD) (m : Nat) : planN l (m + 1) = (roomTo (planN l m) (wv l m + 1)).set (wv l m) (waveL l m (wv l m) ++ [m]) := by
  have hl : (roomTo (planN l m) (wv l m + 1)).length = nwN l (m + 1) := by
    unfold roomTo
    rw [List.length_append, List.length_replicate, planN_length]
    show _ = max (nwN l m) (wv l m + 1)
    omega
  apply List.ext_getElem?
  intro w
  by_cases hw : w < nwN l (m + 1)
  · rw [planN_get hw, waveL_succ, List.getElem?_set]
    by_cases e : wv l m = w
    · rw [if_pos e, if_pos e, if_pos (by rw [hl, e]; exact hw), e]
    · rw [if_neg e, if_neg e, List.append_nil]
      unfold roomTo
      by_cases h1 : w < nwN l m
      · rw [List.getElem?_append_left (by rw [planN_length]; exact h1), planN_get h1]
      · have h2 : w < wv l m := by
          have : w < max (nwN l m) (wv l m + 1) := hw
          omega
        have h3 := nwN_ex (l := l) (m := m + 1) (w := w) hw
        obtain ⟨i, h4, h5⟩ := h3
        by_cases e2 : i = m
        · subst e2; exact absurd h5 e
        · have := nwN_gt (l := l) (show i < m by omega)
          omega
  · rw [List.getElem?_eq_none (by rw [planN_length]; omega), List.getElem?_eq_none (by rw [List.length_set, hl]; omega)]
end Go.Proofs.Ytkgidmifgfoeiaa
