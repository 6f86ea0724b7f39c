/- Layer 21's mathematics: the first wave behind those that are in, key by key. -/
import Derived.Test.YtkgidmifgfoeiaaWavMath
namespace Go.Proofs.Ytkgidmifgfoeiaa
open Go.RowKit
set_option linter.unusedVariables false

/-- Those that are in, with their waves, the last one first. -/
abbrev InW := List (RwD × Nat)

/-- The first wave in which a key may be read. -/
def rdF : InW → ByteArray → Nat
  | [], _ => 0
  | (u, v) :: L, k => if inK u.ws k = true then max (rdF L k) (v + 1) else rdF L k

/-- The first wave in which it may be written. -/
def wrF : InW → ByteArray → Nat
  | [], _ => 0
  | (u, v) :: L, k => if (inK u.ws k || inK u.rs k) = true then max (wrF L k) (v + 1) else wrF L k

/-- The first wave of a transaction. -/
def fsF : InW → RwD → Nat
  | [], _ => 0
  | (u, v) :: L, t => if clashB u t = true then max (fsF L t) (v + 1) else fsF L t

theorem rdF_le {k : ByteArray} {n : Nat} : ∀ {L : InW}, rdF L k ≤ n ↔ ∀ p ∈ L, k ∈ p.1.ws → p.2 + 1 ≤ n
  | [] => by simp [rdF]
  | (u, v) :: L => by
    unfold rdF
    rw [List.forall_mem_cons, ← rdF_le]
    by_cases h : inK u.ws k = true
    · rw [if_pos h, Nat.max_le]
      have := inK_iff.1 h
      constructor
      · exact fun q => ⟨fun _ => q.2, q.1⟩
      · exact fun q => ⟨q.2, q.1 this⟩
    · rw [if_neg h]
      have : k ∉ u.ws := fun e => h (inK_iff.2 e)
      exact ⟨fun q => ⟨fun e => absurd e this, q⟩, fun q => q.2⟩

theorem wrF_le {k : ByteArray} {n : Nat} : ∀ {L : InW}, wrF L k ≤ n ↔ ∀ p ∈ L, (k ∈ p.1.ws ∨ k ∈ p.1.rs) → p.2 + 1 ≤ n
  | [] => by simp [wrF]
  | (u, v) :: L => by
    unfold wrF
    rw [List.forall_mem_cons, ← wrF_le]
    by_cases h : (inK u.ws k || inK u.rs k) = true
    · rw [if_pos h, Nat.max_le]
      have : k ∈ u.ws ∨ k ∈ u.rs := by rw [Bool.or_eq_true, inK_iff, inK_iff] at h; exact h
      constructor
      · exact fun q => ⟨fun _ => q.2, q.1⟩
      · exact fun q => ⟨q.2, q.1 this⟩
    · rw [if_neg h]
      have : ¬ (k ∈ u.ws ∨ k ∈ u.rs) := fun e => h (by rw [Bool.or_eq_true, inK_iff, inK_iff]; exact e)
      exact ⟨fun q => ⟨fun e => absurd e this, q⟩, fun q => q.2⟩

theorem fsF_le {t : RwD} {n : Nat} : ∀ {L : InW}, fsF L t ≤ n ↔ ∀ p ∈ L, clashB p.1 t = true → p.2 + 1 ≤ n
  | [] => by simp [fsF]
  | (u, v) :: L => by
    unfold fsF
    rw [List.forall_mem_cons, ← fsF_le]
    by_cases h : clashB u t = true
    · rw [if_pos h, Nat.max_le]
      constructor
      · exact fun q => ⟨fun _ => q.2, q.1⟩
      · exact fun q => ⟨q.2, q.1 h⟩
    · rw [if_neg h]
      exact ⟨fun q => ⟨fun e => absurd e h, q⟩, fun q => q.2⟩

theorem rd_wr (L : InW) (k : ByteArray) : rdF L k ≤ wrF L k :=
  rdF_le.2 (fun p hp h => wrF_le.1 (Nat.le_refl _) p hp (Or.inl h))

/-- What first reckons: over the keys that are read, then over those that are written. -/
def foldM (f : ByteArray → Nat) : List ByteArray → Nat → Nat
  | [], a => a
  | k :: r, a => foldM f r (max a (f k))

theorem foldM_append (f : ByteArray → Nat) : ∀ (l m : List ByteArray) (a : Nat), foldM f (l ++ m) a = foldM f m (foldM f l a)
  | [], _, _ => rfl
  | k :: l, m, a => foldM_append f l m _

theorem foldM_step {f : ByteArray → Nat} {l : List ByteArray} {i a : Nat} {k : ByteArray} (h : l[i]? = some k) : foldM f (l.take (i + 1)) a = max (foldM f (l.take i) a) (f k) := by
  rw [List.take_add_one, h, foldM_append]
  rfl

theorem foldM_le {f : ByteArray → Nat} {n : Nat} : ∀ {l : List ByteArray} {a : Nat}, foldM f l a ≤ n ↔ a ≤ n ∧ ∀ k ∈ l, f k ≤ n
  | [], a => by simp [foldM]
  | k :: r, a => by
    unfold foldM
    rw [foldM_le, List.forall_mem_cons, Nat.max_le, and_assoc]

def firstN (g : ByteArray → Nat × Nat) (t : RwD) : Nat := foldM (fun k => (g k).2) t.ws (foldM (fun k => (g k).1) t.rs 0)

/-- What put does with each key. -/
def putR (g : ByteArray → Nat × Nat) (ks : List ByteArray) (n : Nat) (k : ByteArray) : Nat × Nat := if inK ks k = true then ((g k).1, max (g k).2 n) else g k
def putW (g : ByteArray → Nat × Nat) (ks : List ByteArray) (n : Nat) (k : ByteArray) : Nat × Nat := if inK ks k = true then (n, n) else g k
def putG (g : ByteArray → Nat × Nat) (t : RwD) (v : Nat) : ByteArray → Nat × Nat := putW (putR g t.rs (v + 1)) t.ws (v + 1)

def turnF (L : InW) (k : ByteArray) : Nat × Nat := (rdF L k, wrF L k)

theorem first_eq (L : InW) (t : RwD) : firstN (turnF L) t = fsF L t := by
  have key : ∀ n, firstN (turnF L) t ≤ n ↔ fsF L t ≤ n := fun n => by
    unfold firstN
    rw [foldM_le, foldM_le, fsF_le]
    constructor
    · rintro ⟨⟨_, h1⟩, h2⟩ p hp hc
      rcases clashB_iff.1 hc with ⟨k, q1, q2 | q2⟩ | ⟨k, q1, q2⟩
      · exact wrF_le.1 (h2 k q2) p hp (Or.inl q1)
      · exact rdF_le.1 (h1 k q2) p hp q1
      · exact wrF_le.1 (h2 k q1) p hp (Or.inr q2)
    · intro h
      refine ⟨⟨Nat.zero_le _, fun k hk => rdF_le.2 (fun p hp q => h p hp (clashB_iff.2 (Or.inl ⟨k, q, Or.inr hk⟩)))⟩, fun k hk => wrF_le.2 (fun p hp q => h p hp ?_)⟩
      rcases q with q | q
      · exact clashB_iff.2 (Or.inl ⟨k, q, Or.inl hk⟩)
      · exact clashB_iff.2 (Or.inr ⟨k, hk, q⟩)
  exact Nat.le_antisymm ((key _).2 (Nat.le_refl _)) ((key _).1 (Nat.le_refl _))

theorem rdF_cons (t : RwD) (v : Nat) (L : InW) (k : ByteArray) : rdF ((t, v) :: L) k = if inK t.ws k = true then max (rdF L k) (v + 1) else rdF L k := rfl
theorem wrF_cons (t : RwD) (v : Nat) (L : InW) (k : ByteArray) : wrF ((t, v) :: L) k = if (inK t.ws k || inK t.rs k) = true then max (wrF L k) (v + 1) else wrF L k := rfl

theorem put_eq {L : InW} {t : RwD} {v : Nat} (h : fsF L t ≤ v) : ∀ k, turnF ((t, v) :: L) k = putG (turnF L) t v k := by
  intro k
  rw [← first_eq] at h
  unfold firstN at h
  rw [foldM_le] at h
  obtain ⟨_, h2⟩ := h
  unfold putG putW putR turnF
  rw [rdF_cons, wrF_cons]
  by_cases hw : inK t.ws k = true
  · have h3 : wrF L k ≤ v := h2 k (inK_iff.1 hw)
    have h4 := rd_wr L k
    rw [if_pos hw, if_pos hw, if_pos (by rw [hw]; rfl), Nat.max_eq_right (by omega), Nat.max_eq_right (by omega)]
  · rw [if_neg hw, if_neg hw]
    by_cases hr : inK t.rs k = true
    · rw [if_pos hr, if_pos (by rw [hr, Bool.or_true])]
    · rw [if_neg hr, if_neg (by rw [Bool.or_eq_true]; exact fun e => e.elim hw hr)]

theorem turn_nil (k : ByteArray) : turnF [] k = (0, 0) := rfl

theorem putR_nil (g : ByteArray → Nat × Nat) (n : Nat) (k : ByteArray) : putR g [] n k = g k := rfl
theorem putW_nil (g : ByteArray → Nat × Nat) (n : Nat) (k : ByteArray) : putW g [] n k = g k := rfl

theorem inK_next {ks : List ByteArray} {j : Nat} {y : ByteArray} (hy : ks[j]? = some y) (k : ByteArray) : inK (ks.take (j + 1)) k = (inK (ks.take j) k || decide (y = k)) := by
  rw [List.take_add_one, hy]
  unfold inK
  rw [List.any_append]
  simp

theorem putR_next {g : ByteArray → Nat × Nat} {ks : List ByteArray} {n j : Nat} {y : ByteArray} (hy : ks[j]? = some y) (k : ByteArray) :
    putR g (ks.take (j + 1)) n k = if k = y then ((putR g (ks.take j) n y).1, max (putR g (ks.take j) n y).2 n) else putR g (ks.take j) n k := by
  unfold putR
  rw [inK_next hy]
  by_cases e : k = y
  · subst e
    rw [if_pos rfl, if_pos (by simp)]
    split
    · simp
    · rfl
  · rw [if_neg e, decide_eq_false (fun e' => e e'.symm), Bool.or_false]

theorem putW_next {g : ByteArray → Nat × Nat} {ks : List ByteArray} {n j : Nat} {y : ByteArray} (hy : ks[j]? = some y) (k : ByteArray) :
    putW g (ks.take (j + 1)) n k = if k = y then (n, n) else putW g (ks.take j) n k := by
  unfold putW
  rw [inK_next hy]
  by_cases e : k = y
  · subst e
    rw [if_pos rfl, if_pos (by simp)]
  · rw [if_neg e, decide_eq_false (fun e' => e e'.symm), Bool.or_false]

/-- The first m of a list, with waves. -/
def putL (l : List RwD) (vs : Nat → Nat) : Nat → InW
  | 0 => []
  | m + 1 => ((l[m]?).getD ⟨[], []⟩, vs m) :: putL l vs m

theorem putL_mem {l : List RwD} {vs : Nat → Nat} : ∀ {m : Nat} {p : RwD × Nat}, p ∈ putL l vs m ↔ ∃ k, k < m ∧ p = ((l[k]?).getD ⟨[], []⟩, vs k)
  | 0, p => by simp [putL]
  | m + 1, p => by
    unfold putL
    rw [List.mem_cons, putL_mem]
    constructor
    · rintro (rfl | ⟨k, h1, h2⟩)
      · exact ⟨m, by omega, rfl⟩
      · exact ⟨k, by omega, h2⟩
    · rintro ⟨k, h1, h2⟩
      by_cases e : k = m
      · subst e; exact Or.inl h2
      · exact Or.inr ⟨k, by omega, h2⟩

theorem putL_ext {l : List RwD} {vs us : Nat → Nat} : ∀ {m : Nat}, (∀ k, k < m → vs k = us k) → putL l vs m = putL l us m
  | 0, _ => rfl
  | m + 1, h => by
    unfold putL
    rw [h m (by omega), putL_ext (fun k hk => h k (by omega))]

/-- The first wave behind the first m, by their pairs. -/
theorem fsF_putL {l : List RwD} {vs : Nat → Nat} {t : RwD} {i m n : Nat} (ht : l[i]? = some t) (hm : m ≤ l.length) : fsF (putL l vs m) t ≤ n ↔ ∀ k, k < m → adjB l k i = true → vs k + 1 ≤ n := by
  have key : ∀ k, k < m → adjB l k i = clashB ((l[k]?).getD ⟨[], []⟩) t := fun k hk => by
    have : k < l.length := by omega
    rw [adjB_some (List.getElem?_eq_getElem this) ht, List.getElem?_eq_getElem this]
    rfl
  rw [fsF_le]
  constructor
  · intro h k hk ha
    rw [key k hk] at ha
    exact h _ (putL_mem.2 ⟨k, hk, rfl⟩) ha
  · rintro h p hp hc
    obtain ⟨k, hk, rfl⟩ := putL_mem.1 hp
    exact h k hk (by rw [key k hk]; exact hc)

/-- Of's waves. -/
theorem first_wave {l : List RwD} {t : RwD} {i : Nat} (ht : l[i]? = some t) : fsF (putL l (wv l) i) t = wv l i := by
  have hi : i < l.length := (List.getElem?_eq_some_iff.1 ht).1
  refine Nat.le_antisymm ((fsF_putL ht (by omega)).2 (fun k hk ha => ?_)) ?_
  · have := wv_lt hk ha; omega
  · rcases Nat.eq_zero_or_pos (wv l i) with h | h
    · omega
    · obtain ⟨k, h1, h2, h3⟩ := wv_ex h
      have := (fsF_putL (vs := wv l) (n := fsF (putL l (wv l) i) t) ht (by omega)).1 (Nat.le_refl _) k h1 h2
      omega
end Go.Proofs.Ytkgidmifgfoeiaa
