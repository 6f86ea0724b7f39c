/- Texts as one: AccMath, KindsCopy, KindsSet, KindsOwn, RegionLast, RowsMore. -/
import Derived.Test.YtcjmeaikdfgapaaDoorSd02
import Derived.Test.YtcjmeaikdfgapaaDoorSd06
import Derived.Deep.RegionHeld
import Derived.StillTail
/- Layer 20's mathematics: what is in each other's way, all pairs of it, and what hangs together. -/
namespace Go.Proofs.YtcjmeaikdfgapaaDoor
open Go.RowKit
set_option linter.unusedVariables false

/-- What a transaction declares. -/
structure RwD where
  rs : List ByteArray
  ws : List ByteArray

def inK (l : List ByteArray) (k : ByteArray) : Bool := l.any (fun x => decide (x = k))

theorem inK_iff {l : List ByteArray} {k : ByteArray} : inK l k = true ↔ k ∈ l := by
  unfold inK
  rw [List.any_eq_true]
  constructor
  · rintro ⟨x, hx, h⟩
    rw [of_decide_eq_true h] at hx
    exact hx
  · exact fun h => ⟨k, h, decide_eq_true rfl⟩

theorem inK_not {l : List ByteArray} {k : ByteArray} : inK l k = false ↔ k ∉ l := by
  rw [← inK_iff]
  simp

/-- Are two in each other's way? -/
def clashB (a b : RwD) : Bool := a.ws.any (fun k => inK b.ws k || inK b.rs k) || b.ws.any (fun k => inK a.rs k)

theorem clashB_iff {a b : RwD} : clashB a b = true ↔ (∃ k, k ∈ a.ws ∧ (k ∈ b.ws ∨ k ∈ b.rs)) ∨ ∃ k, k ∈ b.ws ∧ k ∈ a.rs := by
  unfold clashB
  simp only [Bool.or_eq_true, List.any_eq_true, inK_iff]

theorem clashB_comm (a b : RwD) : clashB a b = clashB b a := by
  rw [Bool.eq_iff_iff, clashB_iff, clashB_iff]
  constructor
  · rintro (⟨k, h1, h2 | h2⟩ | ⟨k, h1, h2⟩)
    · exact Or.inl ⟨k, h2, Or.inl h1⟩
    · exact Or.inr ⟨k, h1, h2⟩
    · exact Or.inl ⟨k, h1, Or.inr h2⟩
  · rintro (⟨k, h1, h2 | h2⟩ | ⟨k, h1, h2⟩)
    · exact Or.inl ⟨k, h2, Or.inl h1⟩
    · exact Or.inr ⟨k, h1, h2⟩
    · exact Or.inl ⟨k, h1, Or.inr h2⟩

/-- Are member i and member k in each other's way? -/
def adjB (l : List RwD) (i k : Nat) : Bool := match l[i]?, l[k]? with | some a, some b => clashB a b | _, _ => false

theorem adjB_comm (l : List RwD) (i k : Nat) : adjB l i k = adjB l k i := by
  unfold adjB
  cases l[i]? <;> cases l[k]? <;> simp [clashB_comm]

theorem adjB_some {l : List RwD} {i k : Nat} {a b : RwD} (h1 : l[i]? = some a) (h2 : l[k]? = some b) : adjB l i k = clashB a b := by
  unfold adjB
  rw [h1, h2]

theorem adjB_lt {l : List RwD} {i k : Nat} (h : adjB l i k = true) : i < l.length ∧ k < l.length := by
  unfold adjB at h
  cases h1 : l[i]? with
  | none => rw [h1] at h; cases h
  | some a =>
    cases h2 : l[k]? with
    | none => rw [h1, h2] at h; cases h
    | some b => exact ⟨(List.getElem?_eq_some_iff.1 h1).1, (List.getElem?_eq_some_iff.1 h2).1⟩

/-- Those behind i, below m, that are in its way. -/
def wayL (l : List RwD) (i m : Nat) : List Nat := (List.range m).filter (fun k => decide (i < k) && adjB l i k)

theorem wayL_mem {l : List RwD} {i m k : Nat} : k ∈ wayL l i m ↔ k < m ∧ i < k ∧ adjB l i k = true := by
  unfold wayL
  rw [List.mem_filter, List.mem_range, Bool.and_eq_true, decide_eq_true_iff]

theorem wayL_succ (l : List RwD) (i m : Nat) : wayL l i (m + 1) = wayL l i m ++ (if (decide (i < m) && adjB l i m) = true then [m] else []) := by
  unfold wayL
  rw [List.range_succ, List.filter_append]
  congr 1
  by_cases h : (decide (i < m) && adjB l i m) = true
  · rw [if_pos h, List.filter_cons_of_pos (p := fun k => decide (i < k) && adjB l i k) h]; rfl
  · rw [if_neg h, List.filter_cons_of_neg (p := fun k => decide (i < k) && adjB l i k) h]; rfl

theorem wayL_le (l : List RwD) (i m : Nat) (h : m ≤ i + 1) : wayL l i m = [] := by
  unfold wayL
  rw [List.filter_eq_nil_iff]
  intro k hk
  rw [List.mem_range] at hk
  rw [decide_eq_false (by omega)]
  simp

theorem wayL_length (l : List RwD) (i m : Nat) : (wayL l i m).length ≤ m := by
  unfold wayL
  exact Nat.le_trans (List.length_filter_le _ _) (by rw [List.length_range]; exact Nat.le_refl _)

theorem wayL_rise (l : List RwD) (i m : Nat) : (wayL l i m).Pairwise (· < ·) := List.Pairwise.filter _ List.pairwise_lt_range

theorem wayL_nodup (l : List RwD) (i m : Nat) : (wayL l i m).Nodup := List.Pairwise.filter _ List.nodup_range

/-- All pairs of the first so many. -/
def edgesN (l : List RwD) (m : Nat) : List (Nat × Nat) := (List.range m).flatMap (fun i => (wayL l i l.length).map (fun k => (i, k)))

def edgesL (l : List RwD) : List (Nat × Nat) := edgesN l l.length

theorem edgesN_succ (l : List RwD) (m : Nat) : edgesN l (m + 1) = edgesN l m ++ (wayL l m l.length).map (fun k => (m, k)) := by
  unfold edgesN
  rw [List.range_succ, List.flatMap_append]
  simp

theorem edgesN_length (l : List RwD) : ∀ m, (edgesN l m).length ≤ m * l.length
  | 0 => by simp [edgesN]
  | m + 1 => by
    rw [edgesN_succ, List.length_append, List.length_map, Nat.add_mul]
    have h1 := edgesN_length l m
    have h2 := wayL_length l m l.length
    omega

theorem edgesN_mem {l : List RwD} {m i k : Nat} : (i, k) ∈ edgesN l m ↔ i < m ∧ i < k ∧ adjB l i k = true := by
  unfold edgesN
  rw [List.mem_flatMap]
  constructor
  · rintro ⟨j, hj, h⟩
    rw [List.mem_range] at hj
    obtain ⟨q, hq, e⟩ := List.mem_map.1 h
    simp only [Prod.mk.injEq] at e
    obtain ⟨rfl, rfl⟩ := e
    obtain ⟨_, h2, h3⟩ := wayL_mem.1 hq
    exact ⟨hj, h2, h3⟩
  · rintro ⟨h1, h2, h3⟩
    exact ⟨i, List.mem_range.2 h1, List.mem_map.2 ⟨k, wayL_mem.2 ⟨(adjB_lt h3).2, h2, h3⟩, rfl⟩⟩

theorem edgesL_mem {l : List RwD} {i k : Nat} : (i, k) ∈ edgesL l ↔ i < k ∧ adjB l i k = true := by
  unfold edgesL
  rw [edgesN_mem]
  exact ⟨fun h => h.2, fun h => ⟨(adjB_lt h.2).1, h⟩⟩

/-- Two hang together. -/
inductive Conn (l : List RwD) (i : Nat) : Nat → Prop
  | refl : Conn l i i
  | step {j k : Nat} : Conn l i j → adjB l j k = true → Conn l i k

theorem Conn.trans {l : List RwD} {i j k : Nat} (h : Conn l i j) (g : Conn l j k) : Conn l i k := by
  induction g with
  | refl => exact h
  | step _ a ih => exact ih.step a

theorem Conn.one {l : List RwD} {i k : Nat} (h : adjB l i k = true) : Conn l i k := Conn.refl.step h

theorem Conn.symm {l : List RwD} {i k : Nat} (h : Conn l i k) : Conn l k i := by
  induction h with
  | refl => exact Conn.refl
  | step _ a ih => exact (Conn.one (by rw [adjB_comm]; exact a)).trans ih

theorem Conn.lt {l : List RwD} {i k : Nat} (h : Conn l i k) (hi : i < l.length) : k < l.length := by
  induction h with
  | refl => exact hi
  | step _ a ih => exact (adjB_lt a).2

/-- g tells of each member the least that it hangs together with. -/
structure GSpec (l : List RwD) (g : List Nat) : Prop where
  len : g.length = l.length
  conn : ∀ i, i < l.length → Conn l i (g.getD i 0)
  least : ∀ i j, i < l.length → Conn l i j → g.getD i 0 ≤ j

theorem GSpec.uniq {l : List RwD} {g h : List Nat} (a : GSpec l g) (b : GSpec l h) : g = h := by
  apply List.ext_getElem
  · rw [a.len, b.len]
  · intro i h1 h2
    have hi : i < l.length := by rw [← a.len]; exact h1
    have e1 : g.getD i 0 = g[i] := by rw [List.getD_eq_getElem?_getD, List.getElem?_eq_getElem h1]; rfl
    have e2 : h.getD i 0 = h[i] := by rw [List.getD_eq_getElem?_getD, List.getElem?_eq_getElem h2]; rfl
    have x1 := a.least i _ hi (b.conn i hi)
    have x2 := b.least i _ hi (a.conn i hi)
    omega

theorem GSpec.le {l : List RwD} {g : List Nat} (a : GSpec l g) {i : Nat} (hi : i < l.length) : g.getD i 0 ≤ i := a.least i i hi Conn.refl

theorem GSpec.again {l : List RwD} {g : List Nat} (a : GSpec l g) {i : Nat} (hi : i < l.length) : g.getD (g.getD i 0) 0 = g.getD i 0 := by
  have hc := a.conn i hi
  have hl := hc.lt hi
  have h1 := a.least _ _ hl Conn.refl
  have h2 := a.least i _ hi (hc.trans (a.conn _ hl))
  omega

theorem GSpec.apart {l : List RwD} {g : List Nat} (a : GSpec l g) {i k : Nat} (hi : i < l.length) (hk : k < l.length) (hne : g.getD i 0 ≠ g.getD k 0) : adjB l i k = false := by
  cases h : adjB l i k with
  | false => rfl
  | true =>
    exfalso
    have hc := Conn.one h
    have h1 := a.least i _ hi (hc.trans (a.conn k hk))
    have h2 := a.least k _ hk (hc.symm.trans (a.conn i hi))
    omega

/-- Along one pair the least goes on. -/
def relaxE (g : List Nat) (e : Nat × Nat) : List Nat := (g.set e.1 (min (g.getD e.1 0) (g.getD e.2 0))).set e.2 (min (g.getD e.1 0) (g.getD e.2 0))

def relaxL (g : List Nat) (es : List (Nat × Nat)) : List Nat := es.foldl relaxE g

def relaxN (es : List (Nat × Nat)) : Nat → List Nat → List Nat
  | 0, g => g
  | t + 1, g => relaxL (relaxN es t g) es

theorem relaxE_length (g : List Nat) (e : Nat × Nat) : (relaxE g e).length = g.length := by simp [relaxE]

theorem relaxL_length : ∀ (es : List (Nat × Nat)) (g : List Nat), (relaxL g es).length = g.length
  | [], g => rfl
  | e :: es, g => by
    show (relaxL (relaxE g e) es).length = _
    rw [relaxL_length es, relaxE_length]

theorem relaxN_length (es : List (Nat × Nat)) (g : List Nat) : ∀ t, (relaxN es t g).length = g.length
  | 0 => rfl
  | t + 1 => by
    show (relaxL _ es).length = _
    rw [relaxL_length, relaxN_length es g t]

theorem relaxE_get (g : List Nat) (e : Nat × Nat) (h1 : e.1 < g.length) (h2 : e.2 < g.length) (v : Nat) : (relaxE g e).getD v 0 = if v = e.1 ∨ v = e.2 then min (g.getD e.1 0) (g.getD e.2 0) else g.getD v 0 := by
  unfold relaxE
  simp only [List.getD_eq_getElem?_getD, List.getElem?_set, List.length_set]
  by_cases a1 : e.2 = v
  · subst a1; simp [h2]
  · rw [if_neg a1]
    by_cases a2 : e.1 = v
    · subst a2; simp [h1]
    · rw [if_neg a2, if_neg (fun h => h.elim (fun h => a2 h.symm) (fun h => a1 h.symm))]

section
variable {l : List RwD}

/-- What is told of each member hangs together with it. -/
def Snd (l : List RwD) (g : List Nat) : Prop := g.length = l.length ∧ ∀ v, v < l.length → Conn l v (g.getD v 0)

theorem Snd.relaxE {g : List Nat} (h : Snd l g) {e : Nat × Nat} (he : adjB l e.1 e.2 = true) : Snd l (relaxE g e) := by
  obtain ⟨h1, h2⟩ := adjB_lt he
  refine ⟨by rw [relaxE_length]; exact h.1, fun v hv => ?_⟩
  rw [relaxE_get g e (by rw [h.1]; exact h1) (by rw [h.1]; exact h2)]
  have c1 := h.2 e.1 h1
  have c2 := h.2 e.2 h2
  have ce := Conn.one he
  split
  · rename_i hv2
    rcases Nat.le_total (g.getD e.1 0) (g.getD e.2 0) with hm | hm
    · rw [Nat.min_eq_left hm]
      rcases hv2 with rfl | rfl
      · exact c1
      · exact ce.symm.trans c1
    · rw [Nat.min_eq_right hm]
      rcases hv2 with rfl | rfl
      · exact ce.trans c2
      · exact c2
  · exact h.2 v hv

theorem Snd.relaxL {es : List (Nat × Nat)} : ∀ {g : List Nat}, Snd l g → (∀ e ∈ es, adjB l e.1 e.2 = true) → Snd l (relaxL g es) := by
  induction es with
  | nil => exact fun h _ => h
  | cons e es ih => exact fun h he => ih (h.relaxE (he e List.mem_cons_self)) (fun x hx => he x (List.mem_cons_of_mem _ hx))

theorem relaxE_keep {g : List Nat} (h : Snd l g) {e : Nat × Nat} (he : adjB l e.1 e.2 = true) {m : Nat} (hm : ∀ j, Conn l m j → m ≤ j) {v : Nat} (hv : v < l.length) (hg : g.getD v 0 = m) (hc : Conn l m v) : (relaxE g e).getD v 0 = m := by
  obtain ⟨h1, h2⟩ := adjB_lt he
  rw [relaxE_get g e (by rw [h.1]; exact h1) (by rw [h.1]; exact h2)]
  have ce := Conn.one he
  split
  · rename_i hv2
    have q1 : m ≤ g.getD e.1 0 := by
      refine hm _ (hc.trans ?_)
      rcases hv2 with rfl | rfl
      · exact h.2 _ h1
      · exact ce.symm.trans (h.2 _ h1)
    have q2 : m ≤ g.getD e.2 0 := by
      refine hm _ (hc.trans ?_)
      rcases hv2 with rfl | rfl
      · exact ce.trans (h.2 _ h2)
      · exact h.2 _ h2
    rcases hv2 with rfl | rfl
    · rw [hg]; rw [hg] at q1; omega
    · rw [hg]; rw [hg] at q2; omega
  · exact hg

theorem relaxL_keep {es : List (Nat × Nat)} {m : Nat} (hm : ∀ j, Conn l m j → m ≤ j) {v : Nat} (hv : v < l.length) (hc : Conn l m v) : ∀ {g : List Nat}, Snd l g → (∀ e ∈ es, adjB l e.1 e.2 = true) → g.getD v 0 = m → (relaxL g es).getD v 0 = m := by
  induction es with
  | nil => exact fun _ _ h => h
  | cons e es ih => exact fun h he hg => ih (h.relaxE (he e List.mem_cons_self)) (fun x hx => he x (List.mem_cons_of_mem _ hx)) (relaxE_keep h (he e List.mem_cons_self) hm hv hg hc)

/-- A pair one of which has the least already: both have it behind the round. -/
theorem relaxL_gets {m : Nat} (hm : ∀ j, Conn l m j → m ≤ j) {u v : Nat} (hu : u < l.length) (hv : v < l.length) (hcu : Conn l m u) (hcv : Conn l m v) : ∀ {es : List (Nat × Nat)} {g : List Nat}, Snd l g → (∀ e ∈ es, adjB l e.1 e.2 = true) → ((u, v) ∈ es ∨ (v, u) ∈ es) → g.getD u 0 = m → (relaxL g es).getD v 0 = m := by
  intro es
  induction es with
  | nil => intro g _ _ h; rcases h with h | h <;> cases h
  | cons e es ih =>
    intro g h he hin hg
    have hS := h.relaxE (he e List.mem_cons_self)
    have hE := fun x hx => he x (List.mem_cons_of_mem e hx)
    by_cases hx : e = (u, v) ∨ e = (v, u)
    · show (relaxL (relaxE g e) es).getD v 0 = m
      refine relaxL_keep hm hv hcv hS hE ?_
      have hadj := he e List.mem_cons_self
      obtain ⟨h1, h2⟩ := adjB_lt hadj
      rw [relaxE_get g e (by rw [h.1]; exact h1) (by rw [h.1]; exact h2), if_pos (by rcases hx with rfl | rfl <;> simp)]
      have q := hm _ (hcv.trans (h.2 v hv))
      rcases hx with rfl | rfl
      · show min (g.getD u 0) (g.getD v 0) = m
        omega
      · show min (g.getD v 0) (g.getD u 0) = m
        omega
    · show (relaxL (relaxE g e) es).getD v 0 = m
      refine ih hS hE ?_ (relaxE_keep h (he e List.mem_cons_self) hm hu hg hcu)
      rcases hin with hin | hin
      · rcases List.mem_cons.1 hin with h0 | h0
        · exact absurd (Or.inl h0.symm) hx
        · exact Or.inl h0
      · rcases List.mem_cons.1 hin with h0 | h0
        · exact absurd (Or.inr h0.symm) hx
        · exact Or.inr h0

theorem count_lt {P Q : Nat → Bool} : ∀ (n : Nat), (∀ v, v < n → P v = true → Q v = true) → (∃ v, v < n ∧ P v = false ∧ Q v = true) → (List.range n).countP P < (List.range n).countP Q
  | 0, _, h => by obtain ⟨v, h, _⟩ := h; omega
  | n + 1, hs, hw => by
    rw [List.range_succ, List.countP_append, List.countP_append]
    have hle : (List.range n).countP P ≤ (List.range n).countP Q := List.countP_mono_left (fun v hv h => hs v (by rw [List.mem_range] at hv; omega) h)
    obtain ⟨v, hv, h1, h2⟩ := hw
    by_cases hvn : v = n
    · subst hvn
      simp only [List.countP_cons, List.countP_nil, h1, h2]
      simp
      omega
    · have ih := count_lt n (fun v hv h => hs v (by omega) h) ⟨v, by omega, h1, h2⟩
      have hp := hs n (by omega)
      simp only [List.countP_cons, List.countP_nil]
      by_cases hq : P n = true
      · rw [hq, hp hq]; simp; omega
      · rw [Bool.not_eq_true] at hq
        rw [hq]
        simp
        split <;> omega

theorem edges_all : ∀ e ∈ edgesL l, adjB l e.1 e.2 = true := fun e he => (edgesL_mem.1 (show (e.1, e.2) ∈ edgesL l from he)).2

theorem Snd.relaxN {g : List Nat} (h : Snd l g) : ∀ t, Snd l (relaxN (edgesL l) t g)
  | 0 => h
  | t + 1 => (Snd.relaxN h t).relaxL edges_all

theorem snd_start : Snd l (List.range l.length) := by
  refine ⟨List.length_range, fun v hv => ?_⟩
  have : (List.range l.length).getD v 0 = v := by rw [List.getD_eq_getElem?_getD, List.getElem?_range hv]; rfl
  rw [this]
  exact Conn.refl

/-- If not all that hang together with m have it, there is a pair one of which has it. -/
theorem conn_edge {P : Nat → Prop} {m v : Nat} (h : Conn l m v) (h0 : P m) (hv : ¬ P v) : ∃ a b, Conn l m a ∧ adjB l a b = true ∧ P a ∧ ¬ P b := by
  induction h with
  | refl => exact absurd h0 hv
  | step hc ha ih =>
    rename_i j k
    by_cases hj : P j
    · exact ⟨j, k, hc, ha, hj, hv⟩
    · exact ih hj

theorem grows {m : Nat} (hml : m < l.length) (hm : ∀ j, Conn l m j → m ≤ j) : ∀ t, (∀ v, Conn l m v → (relaxN (edgesL l) t (List.range l.length)).getD v 0 = m) ∨ t + 1 ≤ (List.range l.length).countP (fun v => decide ((relaxN (edgesL l) t (List.range l.length)).getD v 0 = m))
  | 0 => by
    right
    have h1 : (List.range l.length).countP (fun _ => false) < (List.range l.length).countP (fun v => decide ((List.range l.length).getD v 0 = m)) :=
      count_lt l.length (fun _ _ h => by cases h) ⟨m, hml, rfl, by rw [List.getD_eq_getElem?_getD, List.getElem?_range hml]; simp⟩
    show 0 + 1 ≤ (List.range l.length).countP (fun v => decide ((List.range l.length).getD v 0 = m))
    omega
  | t + 1 => by
    have hS := Snd.relaxN (snd_start (l := l)) t
    have hcm : ∀ v, v < l.length → (relaxN (edgesL l) t (List.range l.length)).getD v 0 = m → Conn l m v := fun v hv h => by
      have := hS.2 v hv
      rw [h] at this
      exact this.symm
    have hkeep : ∀ v, v < l.length → (relaxN (edgesL l) t (List.range l.length)).getD v 0 = m → (relaxN (edgesL l) (t + 1) (List.range l.length)).getD v 0 = m := fun v hv h => relaxL_keep hm hv (hcm v hv h) hS edges_all h
    rcases grows hml hm t with h | h
    · left
      intro v hv
      exact hkeep v (hv.lt hml) (h v hv)
    · by_cases hall : ∀ v, Conn l m v → (relaxN (edgesL l) t (List.range l.length)).getD v 0 = m
      · left
        intro v hv
        exact hkeep v (hv.lt hml) (hall v hv)
      · right
        obtain ⟨v, hv, hne⟩ : ∃ v, Conn l m v ∧ ¬ (relaxN (edgesL l) t (List.range l.length)).getD v 0 = m := by
          apply Classical.byContradiction
          intro hno
          exact hall (fun v hv => Classical.byContradiction fun h => hno ⟨v, hv, h⟩)
        have hmm : (relaxN (edgesL l) t (List.range l.length)).getD m 0 = m := by
          have hpos : 0 < (List.range l.length).countP (fun v => decide ((relaxN (edgesL l) t (List.range l.length)).getD v 0 = m)) := by omega
          obtain ⟨a, ha, hd⟩ := List.countP_pos_iff.1 hpos
          rw [List.mem_range] at ha
          have hd' := of_decide_eq_true hd
          clear hpos hd
          have key : ∀ t, (relaxN (edgesL l) t (List.range l.length)).getD m 0 = m := by
            intro t
            induction t with
            | zero =>
              show (List.range l.length).getD m 0 = m
              rw [List.getD_eq_getElem?_getD, List.getElem?_range hml]; rfl
            | succ t ih => exact relaxL_keep hm hml Conn.refl (Snd.relaxN snd_start t) edges_all ih
          exact key t
        obtain ⟨a, b, hca, hab, hpa, hpb⟩ := conn_edge (P := fun v => (relaxN (edgesL l) t (List.range l.length)).getD v 0 = m) hv hmm hne
        have hal := (adjB_lt hab).1
        have hbl := (adjB_lt hab).2
        have hne' : a ≠ b := fun e => hpb (e ▸ hpa)
        have hin : (a, b) ∈ edgesL l ∨ (b, a) ∈ edgesL l := by
          rcases Nat.lt_or_gt_of_ne hne' with hlt | hlt
          · exact Or.inl (edgesL_mem.2 ⟨hlt, hab⟩)
          · exact Or.inr (edgesL_mem.2 ⟨hlt, by rw [adjB_comm]; exact hab⟩)
        have hgb := relaxL_gets hm hal hbl hca (hca.step hab) hS edges_all hin hpa
        have := count_lt (P := fun v => decide ((relaxN (edgesL l) t (List.range l.length)).getD v 0 = m)) (Q := fun v => decide ((relaxN (edgesL l) (t + 1) (List.range l.length)).getD v 0 = m)) l.length
          (fun v hv h => decide_eq_true (hkeep v hv (of_decide_eq_true h))) ⟨b, hbl, decide_eq_false hpb, decide_eq_true hgb⟩
        omega

/-- Every member hangs together with a least one. -/
theorem least_ex (P : Nat → Prop) {i : Nat} (h : P i) : ∃ m, P m ∧ ∀ j, P j → m ≤ j := by
  induction i using Nat.strongRecOn with
  | ind i ih =>
    by_cases hx : ∃ j, j < i ∧ P j
    · obtain ⟨j, h1, h2⟩ := hx
      exact ih j h1 h2
    · exact ⟨i, h, fun j hj => Nat.le_of_not_lt (fun hl => hx ⟨j, hl, hj⟩)⟩

/-- The reference's groups are right. -/
theorem ref_groups : GSpec l (relaxN (edgesL l) l.length (List.range l.length)) := by
  have hS := Snd.relaxN (snd_start (l := l)) l.length
  refine ⟨hS.1, hS.2, fun i j hi hj => ?_⟩
  obtain ⟨m, hm1, hm2⟩ := least_ex (Conn l i) (Conn.refl (i := i))
  have hml := hm1.lt hi
  have hm : ∀ j, Conn l m j → m ≤ j := fun j h => hm2 j (hm1.trans h)
  rcases grows hml hm l.length with h | h
  · rw [h i hm1.symm]
    exact hm2 j hj
  · have := List.countP_le_length (p := fun v => decide ((relaxN (edgesL l) l.length (List.range l.length)).getD v 0 = m)) (l := List.range l.length)
    rw [List.length_range] at this
    omega
end
end Go.Proofs.YtcjmeaikdfgapaaDoor

/- append(q, xs...) of a row's elements, q an empty row of the call's own: nothing but q's block and new ones is turned. -/
namespace Go.Proofs.YtcjmeaikdfgapaaDoor
open Go.RowKit
set_option linter.unusedVariables false

section
variable {α : Type} {K : Kind α}

/-- As an equation of the run. -/
theorem run_copyK {P : Program} (w : World) (t ty : TypeId) (base : Nat) (e : TypeId) (i : TypeInfo) (z : Value) (bytes : Nat) (ht : P.underlying t = some (.slice e)) (hi : P.info? e = some i) (hz : i.zero = some z)
    (hsize : i.size = K.n) (hby : i.bytes = bytes) (hzs : z.cells.size = K.n)
    (v : Value) (hown : w.ownsRow base e K.n v 0 []) (ao : Option Addr) (cap : Nat) (l : List α)
    (hS : RowAt K w ao l) (hf : ∀ x b, ¬ K.foot x b) (hnil : ao = none → cap = 0) (hm : l.length ≤ maxLen) (hlen : l.length * bytes ≤ 140737488355328) (hbase : base ≤ w.heap.size) :
    ∃ ao' cap' w', (Builtin.append_ #[t, t] ty #[v, .slice ao l.length cap]).run P w = .ok (.slice ao' l.length cap') w' ∧ KQ K e w' base (.slice ao' l.length cap') l ∧ Kept (fun k => v.ownBlock = some k) w w' := by
  cases ao with
  | none =>
    have hc0 := hnil rfl
    subst hc0
    have hss : l = [] := by
      cases l with
      | nil => rfl
      | cons y r => obtain ⟨_, _, e, _⟩ := hS.cell 0 y rfl; cases e
    subst hss
    have hrun := run_append_owned_none (P := P) (w := w) base t ty e i K.n ht hi v 0 [] hown
    have hq := QRow.of_own hown
    rcases hown.2 with ⟨hv, _⟩ | ⟨g, c, cur, hv, _⟩
    · rw [hv] at hrun ⊢
      exact ⟨none, 0, w, hrun, KQ.empty K e w base, Kept.refl _ _⟩
    · rw [hv] at hrun hq hown ⊢
      exact ⟨_, c, w, hrun, ⟨hq, (fun x hx => by cases hx), (fun x hx => by cases hx), (fun k hk => ⟨(hown.lt k hk).1, (hown.lt k hk).2⟩), (fun n cap e => by cases e)⟩, Kept.refl _ _⟩
  | some ad =>
    obtain ⟨v', w', hrun, hown', hgrow, _⟩ := run_append_own (P := P) w base t ty e i z K.n bytes ht hi hz hsize hby hzs K.pos v 0 [] hown ad l.length cap (flatK K l) (flatK_length K l) hS.news (flatK_one K l) (by omega) (by rw [Nat.zero_add]; exact hlen) hbase
    rw [Nat.zero_add, List.nil_append] at hown'
    have hk := Kept.of_grown hgrow
    have hA : ∀ x ∈ l, K.At w' x := fun x hx => K.kept (hS.at_ x hx) hk (fun b hb' => absurd hb' (hf x b))
    have hq := QRow.of_own hown'
    obtain ⟨ao', cap', rfl, hlc, _⟩ := hq.form
    refine ⟨ao', cap', w', hrun, ⟨hq, hA, fun x hx b hb => absurd hb (hf x b), fun k hk => ⟨(hown'.lt k hk).1, (hown'.lt k hk).2⟩, ?_⟩, hk⟩
    intro n c he
    rcases hown'.2 with ⟨hv, _⟩ | ⟨g, c', cur, hv, _⟩
    · rw [hv] at he
      simp at he
      omega
    · rw [hv] at he
      cases he

/-- The same, at a step of a region that draws its order. -/
theorem step_copyK {P : Program} (w : World) {ops : Array Oper} {o : Oper} {a : Act} {C : Act → World → Prop} {Q : Exit → Act → World → Prop} {E : Prop} (hgd : o.guard = none) (s x : Operand) (t : TypeId)
    (ho : o.op = .call { callee := .builtin .append, args := #[s, x], argTypes := #[t, t] })
    (base : Nat) (e : TypeId) (i : TypeInfo) (z : Value) (bytes : Nat) (ht : P.underlying t = some (.slice e)) (hi : P.info? e = some i) (hz : i.zero = some z)
    (hsize : i.size = K.n) (hby : i.bytes = bytes) (hzs : z.cells.size = K.n)
    (v : Value) (hs : a.eval s = v) (hown : w.ownsRow base e K.n v 0 []) (ao : Option Addr) (cap : Nat) (l : List α) (hx : a.eval x = .slice ao l.length cap)
    (hS : RowAt K w ao l) (hf : ∀ x b, ¬ K.foot x b) (hnil : ao = none → cap = 0) (hm : l.length ≤ maxLen) (hlen : l.length * bytes ≤ 140737488355328) (hbase : base ≤ w.heap.size)
    (h : ∀ ao' cap' w', KQ K e w' base (.slice ao' l.length cap') l → Kept (fun k => v.ownBlock = some k) w w' → C (a.put o.dst (.slice ao' l.length cap')) w') : if Region.wanted o (yielded ops a.tmps) = true then Oper.wp P o a w C Q else E := by
  rw [if_pos (by simp [Region.wanted, hgd])]
  obtain ⟨ao', cap', w', hrun, r1, r2⟩ := run_copyK (K := K) (P := P) w t o.type base e i z bytes ht hi hz hsize hby hzs v hown ao cap l hS hf hnil hm hlen hbase
  unfold Oper.wp
  simp [execOp, ho, resolve, invoke, builtin, hs, hx, hrun, Result.andThen]
  exact h ao' cap' w' r1 r2
end
end Go.Proofs.YtcjmeaikdfgapaaDoor

/- A cell of a row of the call's own is written. -/
namespace Go.Proofs.YtcjmeaikdfgapaaDoor
open Go.RowKit
set_option linter.unusedVariables false

section
variable {α : Type} {K : Kind α}

theorem flatK_set : ∀ (l : List α) (i : Nat) (x y : α) (k : Nat) (v : Value), l[i]? = some x → k < K.n → K.c y = (K.c x).set k v → flatK K (l.set i y) = (flatK K l).set (i * K.n + k) v
  | [], _, _, _, _, _, h, _, _ => by simp at h
  | z :: r, 0, x, y, k, v, h, hk, hc => by
    simp at h
    subst h
    have e : ∀ q : α, flatK K (q :: r) = K.c q ++ flatK K r := fun q => by simp [flatK]
    rw [List.set_cons_zero, e, e, hc, List.set_append_left _ _ (by rw [K.len]; omega), Nat.zero_mul, Nat.zero_add]
  | z :: r, i + 1, x, y, k, v, h, hk, hc => by
    have ih := flatK_set r i x y k v (by simpa using h) hk hc
    have e : ∀ m : List α, flatK K (z :: m) = K.c z ++ flatK K m := fun m => by simp [flatK]
    rw [List.set_cons_succ, e, e, ih, List.set_append_right _ _ (by rw [K.len, Nat.add_mul]; omega), K.len]
    congr 2
    rw [Nat.add_mul]
    omega

/-- Where an element of a row of the call's own lies; what becomes of the row when a cell of it is written. -/
theorem KQ.set {T : TypeId} {w : World} {base : Nat} {ao : Option Addr} {n cap : Nat} {l : List α} (h : KQ K T w base (.slice ao n cap) l) {i : Nat} {x : α} (hx : l[i]? = some x) :
    ∃ g off, ao = some ⟨g, off, none⟩ ∧ base ≤ g ∧ g < w.heap.size ∧ (∀ k v, (K.c x)[k]? = some v → w.cell? ⟨g, off + i * K.n + k, none⟩ = some v) ∧ (∀ o, w.frozen? ⟨g, o, none⟩ = false) ∧
      ∀ (y : α) (k : Nat) (v : Value), k < K.n → K.c y = (K.c x).set k v → K.At w y → (∀ b, K.foot y b → K.foot x b) → KQ K T (w.setCell ⟨g, off + i * K.n + k, none⟩ v) base (.slice ao n cap) (l.set i y) := by
  have hi := (List.getElem?_eq_some_iff.1 hx).1
  rcases h.row.2 with ⟨ao', hv, hn⟩ | ⟨g, pre, post, cap', hv, hb, hg, hnc, hcm, hpl⟩
  · simp at hv
    omega
  · simp only [Value.slice.injEq] at hv
    obtain ⟨rfl, rfl, rfl⟩ := hv
    have hlen := h.row.1
    have hin : ∀ k, k < K.n → i * K.n + k < (flatK K l).length := by
      intro k hk
      rw [flatK_length]
      have : (i + 1) * K.n ≤ l.length * K.n := Nat.mul_le_mul_right _ hi
      rw [Nat.add_mul] at this
      omega
    refine ⟨g, pre.length, rfl, hb, hg.lt, fun k v hk => ?_, fun o => hg.frozen o, fun y k v hk hc hy hf => ?_⟩
    · have hk' : k < K.n := by have := (List.getElem?_eq_some_iff.1 hk).1; rw [K.len] at this; exact this
      refine hg.cell ?_
      have := hin k hk'
      rw [List.getElem?_append_left (by rw [List.length_append]; omega), List.getElem?_append_right (by omega)]
      have e : pre.length + i * K.n + k - pre.length = i * K.n + k := by omega
      rw [e, flatK_get K l i x hx k hk']
      exact hk
    · have hA := hg.set (pre.length + i * K.n + k) v
      have e1 : (pre ++ flatK K l ++ post).set (pre.length + i * K.n + k) v = pre ++ flatK K (l.set i y) ++ post := by
        have := hin k hk
        rw [flatK_set l i x y k v hx hk hc, List.set_append_left _ _ (by rw [List.length_append]; omega), List.set_append_right _ _ (by omega)]
        congr 3
        omega
      rw [e1] at hA
      have kk := Kept.setCell w ⟨g, pre.length + i * K.n + k, none⟩ v
      have hown : (Value.slice (some ⟨g, pre.length, none⟩) l.length cap).ownBlock = some g := rfl
      refine ⟨⟨by rw [flatK_length, List.length_set], Or.inr ⟨g, pre, post, cap, by rw [List.length_set], hb, hA, by rw [List.length_set]; exact hnc, hcm, by rw [List.length_set]; exact hpl⟩⟩, ?_, ?_, ?_, ?_⟩
      · intro z hz
        rcases List.mem_or_eq_of_mem_set hz with hz | rfl
        · exact K.kept (h.at_ z hz) kk (fun b hb' e => h.off z hz b hb' (by rw [hown]; have e' : b = g := e; rw [e']))
        · exact K.kept hy kk (fun b hb' e => h.off x (List.mem_of_getElem? hx) b (hf b hb') (by rw [hown]; have e' : b = g := e; rw [e']))
      · intro z hz b hb'
        rcases List.mem_or_eq_of_mem_set hz with hz | rfl
        · exact h.off z hz b hb'
        · exact h.off x (List.mem_of_getElem? hx) b (hf b hb')
      · intro q hq
        have := h.lt q hq
        exact ⟨this.1, Nat.lt_of_lt_of_le this.2 kk.size⟩
      · exact h.nil
end
end Go.Proofs.YtcjmeaikdfgapaaDoor

/- append(q, xs...) upon a row of the call's own, whatever is appended; a copy at an operation that is guarded. -/
namespace Go.Proofs.YtcjmeaikdfgapaaDoor
open Go.RowKit
set_option linter.unusedVariables false

section
variable {α : Type} {K : Kind α}

/-- append(q, xs...), q of the call's own, xs at an address. -/
theorem step_ownO {P : Program} (w : World) {ops : Array Oper} {o : Oper} {a : Act} {C : Act → World → Prop} {Q : Exit → Act → World → Prop} {E : Prop} (hgd : o.guard = none) (s x : Operand) (t : TypeId)
    (ho : o.op = .call { callee := .builtin .append, args := #[s, x], argTypes := #[t, t] })
    (base : Nat) (e : TypeId) (i : TypeInfo) (z : Value) (bytes : Nat) (ht : P.underlying t = some (.slice e)) (hi : P.info? e = some i) (hz : i.zero = some z)
    (hsize : i.size = K.n) (hby : i.bytes = bytes) (hzs : z.cells.size = K.n)
    (v : Value) (n : Nat) (xs : List Value) (hs : a.eval s = v) (hown : w.ownsRow base e K.n v n xs) (ad : Addr) (cap : Nat) (l : List α) (hx : a.eval x = .slice (some ad) l.length cap)
    (hS : RowAt K w (some ad) l) (hm : n + l.length ≤ maxLen) (hlen : (n + l.length) * bytes ≤ 140737488355328) (hbase : base ≤ w.heap.size)
    (h : ∀ ao' cap' w', w'.ownsRow base e K.n (.slice ao' (n + l.length) cap') (n + l.length) (xs ++ flatK K l) → Kept (fun k => v.ownBlock = some k) w w' → C (a.put o.dst (.slice ao' (n + l.length) cap')) w') : if Region.wanted o (yielded ops a.tmps) = true then Oper.wp P o a w C Q else E := by
  rw [if_pos (by simp [Region.wanted, hgd])]
  obtain ⟨v', w', hrun, hown', hgrow, _⟩ := run_append_own (P := P) w base t o.type e i z K.n bytes ht hi hz hsize hby hzs K.pos v n xs hown ad l.length cap (flatK K l) (flatK_length K l) hS.news (flatK_one K l) hm hlen hbase
  obtain ⟨ao', cap', rfl, _, _⟩ := (QRow.of_own hown').form
  unfold Oper.wp
  simp [execOp, ho, resolve, invoke, builtin, hs, hx, hrun, Result.andThen]
  exact h ao' cap' w' hown' (Kept.of_grown hgrow)

/-- The same, the lengths under letters. -/
theorem step_ownM {P : Program} (w : World) {ops : Array Oper} {o : Oper} {a : Act} {C : Act → World → Prop} {Q : Exit → Act → World → Prop} {E : Prop} (hgd : o.guard = none) (s x : Operand) (t : TypeId)
    (ho : o.op = .call { callee := .builtin .append, args := #[s, x], argTypes := #[t, t] })
    (base : Nat) (e : TypeId) (i : TypeInfo) (z : Value) (bytes : Nat) (ht : P.underlying t = some (.slice e)) (hi : P.info? e = some i) (hz : i.zero = some z)
    (hsize : i.size = K.n) (hby : i.bytes = bytes) (hzs : z.cells.size = K.n)
    (v : Value) (n m N : Nat) (xs : List Value) (hs : a.eval s = v) (hown : w.ownsRow base e K.n v n xs) (ad : Addr) (cap : Nat) (l : List α) (hl : l.length = m) (hN : n + m = N) (hx : a.eval x = .slice (some ad) m cap)
    (hS : RowAt K w (some ad) l) (hm : N ≤ maxLen) (hlen : N * bytes ≤ 140737488355328) (hbase : base ≤ w.heap.size)
    (h : ∀ ao' cap' w', w'.ownsRow base e K.n (.slice ao' N cap') N (xs ++ flatK K l) → Kept (fun k => v.ownBlock = some k) w w' → C (a.put o.dst (.slice ao' N cap')) w') : if Region.wanted o (yielded ops a.tmps) = true then Oper.wp P o a w C Q else E := by
  subst hl
  subst hN
  exact step_ownO w hgd s x t ho base e i z bytes ht hi hz hsize hby hzs v n xs hs hown ad cap l hx hS hm hlen hbase h

/-- append(q, xs...), q of the call's own, xs whatever row. -/
theorem step_ownR {P : Program} (w : World) {ops : Array Oper} {o : Oper} {a : Act} {C : Act → World → Prop} {Q : Exit → Act → World → Prop} {E : Prop} (hgd : o.guard = none) (s x : Operand) (t : TypeId)
    (ho : o.op = .call { callee := .builtin .append, args := #[s, x], argTypes := #[t, t] })
    (base : Nat) (e : TypeId) (i : TypeInfo) (z : Value) (bytes : Nat) (ht : P.underlying t = some (.slice e)) (hi : P.info? e = some i) (hz : i.zero = some z)
    (hsize : i.size = K.n) (hby : i.bytes = bytes) (hzs : z.cells.size = K.n)
    (v : Value) (n m N : Nat) (xs : List Value) (hs : a.eval s = v) (hown : w.ownsRow base e K.n v n xs) (ao : Option Addr) (cap : Nat) (l : List α) (hl : l.length = m) (hN : n + m = N) (hx : a.eval x = .slice ao m cap)
    (hS : RowAt K w ao l) (hnil : ao = none → cap = 0) (hm : N ≤ maxLen) (hlen : N * bytes ≤ 140737488355328) (hbase : base ≤ w.heap.size)
    (h : ∀ ao' cap' w', w'.ownsRow base e K.n (.slice ao' N cap') N (xs ++ flatK K l) → Kept (fun k => v.ownBlock = some k) w w' → C (a.put o.dst (.slice ao' N cap')) w') : if Region.wanted o (yielded ops a.tmps) = true then Oper.wp P o a w C Q else E := by
  cases ao with
  | some ad => exact step_ownM w hgd s x t ho base e i z bytes ht hi hz hsize hby hzs v n m N xs hs hown ad cap l hl hN hx hS hm hlen hbase h
  | none =>
    have hc0 := hnil rfl
    subst hc0
    have hss : l = [] := by
      cases l with
      | nil => rfl
      | cons y r => obtain ⟨_, _, e, _⟩ := hS.cell 0 y rfl; cases e
    subst hss
    have hm0 : m = 0 := by simpa using hl.symm
    subst hm0
    have hNn : N = n := by omega
    subst hNn
    rw [if_pos (by simp [Region.wanted, hgd])]
    have hrun := run_append_owned_none (P := P) (w := w) base t o.type e i K.n ht hi v N xs hown
    obtain ⟨ao', cap', rfl, _, _⟩ := (QRow.of_own hown).form
    have e0 : xs ++ flatK K ([] : List α) = xs := by simp [flatK]
    rw [e0] at h
    unfold Oper.wp
    simp [execOp, ho, resolve, invoke, builtin, hs, hx, hrun, Result.andThen]
    exact h ao' cap' w hown (Kept.refl _ _)

/-- A row of the call's own, flat elements. -/
theorem KQ.of_own {T : TypeId} {w : World} {base : Nat} {ao : Option Addr} {n cap : Nat} {l : List α} (hf : ∀ x b, ¬ K.foot x b) (hA : ∀ x ∈ l, K.At w x) (hn : n = l.length) (h : w.ownsRow base T K.n (.slice ao n cap) n (flatK K l)) : KQ K T w base (.slice ao n cap) l := by
  subst hn
  refine ⟨QRow.of_own h, hA, fun x hx b hb => absurd hb (hf x b), fun k hk => ⟨(h.lt k hk).1, (h.lt k hk).2⟩, ?_⟩
  intro n c he
  rcases h.2 with ⟨hv, _⟩ | ⟨g, c', cur, hv, _⟩
  · rw [hv] at he
    simp at he
    omega
  · rw [hv] at he
    cases he

/-- append(q, xs...), q an empty row of the call's own, at an operation that is wanted. -/
theorem wpList_copyW {P : Program} {w : World} {ops : Array Oper} {rest : List Oper} {o : Oper} {a : Act} {Q : Exit → Act → World → Prop} (hw : Region.wanted o (yielded ops a.tmps) = true) (s x : Operand) (t : TypeId)
    (ho : o.op = .call { callee := .builtin .append, args := #[s, x], argTypes := #[t, t] })
    (base : Nat) (e : TypeId) (i : TypeInfo) (z : Value) (bytes : Nat) (ht : P.underlying t = some (.slice e)) (hi : P.info? e = some i) (hz : i.zero = some z)
    (hsize : i.size = K.n) (hby : i.bytes = bytes) (hzs : z.cells.size = K.n)
    (v : Value) (hs : a.eval s = v) (hown : w.ownsRow base e K.n v 0 []) (ao : Option Addr) (cap : Nat) (l : List α) (hx : a.eval x = .slice ao l.length cap)
    (hS : RowAt K w ao l) (hf : ∀ x b, ¬ K.foot x b) (hnil : ao = none → cap = 0) (hm : l.length ≤ maxLen) (hlen : l.length * bytes ≤ 140737488355328) (hbase : base ≤ w.heap.size)
    (h : ∀ ao' cap' w', KQ K e w' base (.slice ao' l.length cap') l → Kept (fun k => v.ownBlock = some k) w w' → wpList P ops Q rest (a.put o.dst (.slice ao' l.length cap')) w') : wpList P ops Q (o :: rest) a w := by
  refine wpList_step fun K' hK' => ?_
  rw [if_pos hw]
  obtain ⟨ao', cap', w', hrun, r1, r2⟩ := run_copyK (K := K) (P := P) w t o.type base e i z bytes ht hi hz hsize hby hzs v hown ao cap l hS hf hnil hm hlen hbase
  unfold Oper.wp
  simp [execOp, ho, resolve, invoke, builtin, hs, hx, hrun, Result.andThen]
  exact hK' _ _ (h ao' cap' w' r1 r2)
end
end Go.Proofs.YtcjmeaikdfgapaaDoor

/- A region that draws its order and ends with one store that all others stand ahead of: loads are taken first under a condition on the world that need not hold behind that store. -/
namespace Go.Proofs.YtcjmeaikdfgapaaDoor
open Go

section
variable {P : Program} {ops : Array Oper} {Q : Exit → Act → World → Prop} {md : Region.Mode} {S : World → Prop} {z : Nat}

/-- Whatever order is picked from here on, and S holds behind every operation but number z. -/
def wpAnyK (P : Program) (md : Region.Mode) (ops : Array Oper) (Q : Exit → Act → World → Prop) (S : World → Prop) (z : Nat) : Nat → Array Bool → Act → World → Prop
  | 0, listed, a, w => Region.ready md ops listed = [] ∧ Q .normal a w
  | fuel + 1, listed, a, w =>
    (Region.ready md ops listed = [] → Q .normal a w) ∧
    ∀ i ∈ Region.ready md ops listed, wpOp P ops Q i (fun a' w' => (i ≠ z → S w') ∧ wpAnyK P md ops Q S z fuel (listed.setIfInBounds i true) a' w') a w

theorem wpAny_of_K : ∀ (fuel : Nat) (listed : Array Bool) (a : Act) (w : World), wpAnyK P md ops Q S z fuel listed a w → wpAny P md ops Q fuel listed a w
  | 0, _, _, _, h => h
  | fuel + 1, _, _, _, h => ⟨h.1, fun i hi => wpOp_mono (fun a' w' h' => wpAny_of_K fuel _ a' w' h'.2) (h.2 i hi)⟩

/-- Number z does not come up while one that it waits for has not. -/
theorem not_ready_of {i : Nat} {listed : Array Bool} (hz : Region.waitsFor md ops z i = true) (hun : listed.getD i true = false) : z ∉ Region.ready md ops listed := by
  intro hr
  obtain ⟨_, oz, hoz, hall⟩ := mem_ready.1 hr
  obtain ⟨o', ho', e, he, hb, hon⟩ := Region.waitsFor_spec hz
  have : o' = oz := Option.some.inj (ho'.symm.trans hoz)
  subst this
  have h3 := hall e he hb
  rw [hon, getD_both hun] at h3
  cases h3

theorem wpAnyK_first {i : Nat} {oi : Oper} {v : Value} (hi : ops[i]? = some oi) (hsel : ∀ (j : Nat) (o : Oper) cs b, ops[j]? = some o → o.op ≠ .select cs b)
    (hQ : ∀ c a w, Q (.panic c) (a.put oi.dst v) w → Q (.panic c) a w) (hz : Region.waitsFor md ops z i = true) (hiz : i ≠ z) :
    ∀ (fuel : Nat) (listed : Array Bool) (a : Act) (w : World),
      (∀ j oj, ops[j]? = some oj → j ≠ i → listed.getD j true = false → (∀ e ∈ oj.after, Region.binds md e = true → e.on ≠ i) → oi.apart ops oj = true) →
      i ∈ Region.ready md ops listed → YieldsIf P ops S oi v a → S w →
      wpAnyK P md ops Q S z fuel (listed.setIfInBounds i true) (a.put oi.dst v) w → wpAnyK P md ops Q S z (fuel + 1) listed a w := by
  intro fuel
  induction fuel with
  | zero =>
    intro listed a w _ hr hy hS H
    refine ⟨fun h => (by rw [h] at hr; cases hr), fun j hj => ?_⟩
    by_cases hji : j = i
    · subst hji; exact hy.wpOp hi hS ⟨fun _ => hS, H⟩
    · have := ready_mono hj hji
      rw [H.1] at this
      cases this
  | succ fuel ih =>
    intro listed a w hfree hr hy hS H
    have hun := (mem_ready.1 hr).1
    refine ⟨fun h => (by rw [h] at hr; cases hr), fun j hj => ?_⟩
    by_cases hji : j = i
    · subst hji; exact hy.wpOp hi hS ⟨fun _ => hS, H⟩
    · have hjz : j ≠ z := fun e => by subst e; exact not_ready_of hz hun hj
      have h1 := H.2 j (ready_mono hj hji)
      obtain ⟨hjun, oj, hoj, hall⟩ := mem_ready.1 hj
      have hnot : ∀ e ∈ oj.after, Region.binds md e = true → e.on ≠ i := fun e he hb heq => by
        have h1 := hall e he hb
        rw [heq, getD_both hun] at h1
        cases h1
      have h2 := wpOp_putIf hoj (hfree j oj hoj hji hjun hnot) (fun cs b => hsel i oi cs b hi) (fun cs b => hsel j oj cs b hoj) hQ hy h1
      have hfree' : ∀ k ok, ops[k]? = some ok → k ≠ i → (listed.setIfInBounds j true).getD k true = false →
          (∀ e ∈ ok.after, Region.binds md e = true → e.on ≠ i) → oi.apart ops ok = true := fun k ok hk hki hun hno => by
        refine hfree k ok hk hki ?_ hno
        by_cases hjk : j = k
        · subst hjk; exact hjun
        · rw [getD_set_ne true hjk] at hun; exact hun
      refine wpOp_mono (fun a' w' h3 => ⟨h3.2.1, ih (listed.setIfInBounds j true) a' w' hfree' (ready_mono hr (Ne.symm hji)) h3.1 (h3.2.1 hjz) ?_⟩) h2
      rw [Array.setIfInBounds_comm _ _ hji]
      exact h3.2.2

/-- Take number i first. -/
theorem wpAnyK_take {i : Nat} {oi : Oper} {v : Value} {fuel : Nat} {listed : Array Bool} {a : Act} {w : World} (hi : ops[i]? = some oi)
    (hs : Region.noSelect ops = true) (hf : Region.free md ops listed i = true) (hr : (Region.ready md ops listed).contains i = true) (hz : Region.waitsFor md ops z i = true) (hiz : i ≠ z)
    (hQ : ∀ c a w, Q (.panic c) (a.put oi.dst v) w → Q (.panic c) a w) (hS : S w) (hy : YieldsIf P ops S oi v a)
    (h : wpAnyK P md ops Q S z fuel (listed.setIfInBounds i true) (a.put oi.dst v) w) : wpAnyK P md ops Q S z (fuel + 1) listed a w :=
  wpAnyK_first hi (Region.noSelect_spec hs) hQ hz hiz fuel listed a w (Region.free_spec hi hf) (by simpa using hr) hy hS h

/-- The same, the slot under a letter. -/
theorem wpAnyK_takeD {i : Nat} {oi : Oper} {v : Value} {fuel : Nat} {listed : Array Bool} {a : Act} {w : World} (d : Option Nat) (hi : ops[i]? = some oi) (hd : oi.dst = d)
    (hs : Region.noSelect ops = true) (hf : Region.free md ops listed i = true) (hr : (Region.ready md ops listed).contains i = true) (hz : Region.waitsFor md ops z i = true) (hiz : i ≠ z)
    (hQ : ∀ c a w, Q (.panic c) (a.put d v) w → Q (.panic c) a w) (hS : S w) (hy : YieldsIf P ops S oi v a)
    (h : wpAnyK P md ops Q S z fuel (listed.setIfInBounds i true) (a.put d v) w) : wpAnyK P md ops Q S z (fuel + 1) listed a w := by
  subst hd
  exact wpAnyK_take hi hs hf hr hz hiz hQ hS hy h

/-- Each of the operations rs comes up next. -/
def AllReadyK (P : Program) (md : Region.Mode) (ops : Array Oper) (Q : Exit → Act → World → Prop) (S : World → Prop) (z : Nat) (fuel : Nat) (listed : Array Bool) (a : Act) (w : World) (rs : List Nat) : Prop :=
  ∀ i ∈ rs, wpOp P ops Q i (fun a' w' => (i ≠ z → S w') ∧ wpAnyK P md ops Q S z fuel (listed.setIfInBounds i true) a' w') a w

theorem AllReadyK.nil {fuel : Nat} {listed : Array Bool} {a : Act} {w : World} : AllReadyK P md ops Q S z fuel listed a w [] := fun _ h => by cases h

theorem AllReadyK.cons {fuel : Nat} {listed : Array Bool} {a : Act} {w : World} {i : Nat} {o : Oper} {rs : List Nat} (ho : ops[i]? = some o)
    (h : ∀ K' : Act → World → Prop, Shut (∀ a w, (i ≠ z → S w) → wpAnyK P md ops Q S z fuel (listed.setIfInBounds i true) a w → K' a w) → if Region.wanted o (yielded ops a.tmps) = true then Oper.wp P o a w K' Q else K' (a.put o.dst undef) w)
    (hs : AllReadyK P md ops Q S z fuel listed a w rs) : AllReadyK P md ops Q S z fuel listed a w (i :: rs) := fun j hj => by
  rcases List.mem_cons.1 hj with rfl | hj
  · exact wpOp_step ho (fun K' hK => h K' (fun a w hS hW => hK a w ⟨hS, hW⟩))
  · exact hs j hj

/-- The same, what is handed on laid into slot d. -/
theorem AllReadyK.consD {fuel : Nat} {listed : Array Bool} {a : Act} {w : World} {i : Nat} {o : Oper} {rs : List Nat} (d : Option Nat) (ho : ops[i]? = some o) (hd : o.dst = d)
    (h : ∀ K' : Act → World → Prop, Shut (∀ v w, (i ≠ z → S w) → wpAnyK P md ops Q S z fuel (listed.setIfInBounds i true) (a.put d v) w → K' (a.put o.dst v) w) → if Region.wanted o (yielded ops a.tmps) = true then Oper.wp P o a w K' Q else K' (a.put o.dst undef) w)
    (hs : AllReadyK P md ops Q S z fuel listed a w rs) : AllReadyK P md ops Q S z fuel listed a w (i :: rs) := by
  subst hd
  exact AllReadyK.cons ho (fun K' hK => h K' (fun v w hS hW => hK.out _ w hS hW)) hs

theorem wpAnyK_ready {rs : List Nat} {fuel : Nat} {listed : Array Bool} {a : Act} {w : World} (hr : Region.ready md ops listed = rs) (hne : rs ≠ [])
    (h : AllReadyK P md ops Q S z fuel listed a w rs) : wpAnyK P md ops Q S z (fuel + 1) listed a w :=
  ⟨fun h0 => absurd (hr ▸ h0) hne, hr ▸ h⟩

theorem wpAnyK_done {listed : Array Bool} {a : Act} {w : World} (hr : Region.ready md ops listed = []) (h : Q .normal a w) :
    ∀ fuel, wpAnyK P md ops Q S z fuel listed a w
  | 0 => ⟨hr, h⟩
  | _ + 1 => ⟨fun _ => h, by rw [hr]; simp⟩

/-- The beginning. -/
theorem wp_region_K {id : Nat} {a : Act} {w : World} (S : World → Prop) (z : Nat) (hm : P.follows .mixedOrders = true)
    (h : wpAnyK P .any ops Q S z ops.size (Array.replicate ops.size false) a w.drew) : (Code.region id ops true).wp P Q a w :=
  wp_region_any hm (wpAny_of_K _ _ _ _ h)
end
end Go.Proofs.YtcjmeaikdfgapaaDoor

/- More on rows of the call's own: where they lie, joined rows, rows of texts. -/
namespace Go.Proofs.YtcjmeaikdfgapaaDoor
open Go Go.RowKit
set_option linter.unusedVariables false

/-- A row's block is an old one's, or new. -/
def Fresh (w : World) (q q' : Value) : Prop := ∀ g, q'.ownBlock = some g → q.ownBlock = some g ∨ w.heap.size ≤ g

theorem Fresh.refl (w : World) (q : Value) : Fresh w q q := fun _ h => Or.inl h

/-- append(q, y), at a step of a region that draws its order: where the new row lies. -/
theorem step_pushF {α : Type} {K : Kind α} {P : Program} (w : World) {ops : Array Oper} {o : Oper} {a : Act} {C : Act → World → Prop} {Q : Exit → Act → World → Prop} {E : Prop} (hgd : o.guard = none) (s x : Operand) (t : TypeId)
    (ho : o.op = .call { callee := .builtin .append, args := #[s, x], argTypes := #[t, t] })
    (base : Nat) (e : TypeId) (i : TypeInfo) (z : Value) (bytes : Nat) (ht : P.underlying t = some (.slice e)) (hi : P.info? e = some i) (hz : i.zero = some z)
    (hsize : i.size = K.n) (hby : i.bytes = bytes) (hzs : z.cells.size = K.n)
    (q : Value) (l : List α) (hs : a.eval s = q) (hq : KQ K e w base q l) (y : α) (hy : K.At w y) (hyo : ∀ b, K.foot y b → q.ownBlock ≠ some b)
    (ad : Addr) (c : Nat) (hx : a.eval x = .slice (some ad) 1 c) (hnews : ∀ j u, (K.c y)[j]? = some u → w.cell? (ad.add j) = some u)
    (h63 : l.length + 1 ≤ maxLen) (hbytes : (l.length + 1) * bytes ≤ 140737488355328) (hbase : base ≤ w.heap.size)
    (h : ∀ ao' cap' w', KQ K e w' base (.slice ao' (l.length + 1) cap') (l ++ [y]) → Kept (fun k => q.ownBlock = some k) w w' → Fresh w q (.slice ao' (l.length + 1) cap') → C (a.put o.dst (.slice ao' (l.length + 1) cap')) w') : if Region.wanted o (yielded ops a.tmps) = true then Oper.wp P o a w C Q else E := by
  refine step_append_q w hgd s x t ho e i z K.n bytes ht hi hz hsize hby hzs K.pos base q l.length (flatK K l) hs hq.row ad 1 c (K.c y) hx (by decide) (by rw [K.len]; omega) hnews (K.one y) h63 hbytes hbase ?_
  intro v' w' hrow hgr hfr
  obtain ⟨ao', cap', rfl, _, _⟩ := hrow.form
  refine h ao' cap' w' (hq.push (m := [y]) ?_ ?_ (by simp) (by rw [flatK_single]; exact hrow) hgr hfr) (Kept.of_grown hgr) hfr
  · intro x hx; simp at hx; rw [hx]; exact hy
  · intro x hx; simp at hx; rw [hx]; exact hyo

/-- A row's block lies behind whatever lies ahead of its base. -/
theorem KQ.rebase {α : Type} {K : Kind α} {T : TypeId} {w : World} {B B' : Nat} {q : Value} {l : List α} (h : KQ K T w B q l) (hB : B' ≤ B) : KQ K T w B' q l := by
  refine ⟨⟨h.row.1, h.row.2.imp id ?_⟩, h.at_, h.off, fun k hk => ⟨Nat.le_trans hB (h.lt k hk).1, (h.lt k hk).2⟩, h.nil⟩
  rintro ⟨g, pre, post, cap, e, hb, r⟩
  exact ⟨g, pre, post, cap, e, Nat.le_trans hB hb, r⟩

theorem own_belowT {B : Nat} {e : TypeId} {k : Nat} {v : Value} {n : Nat} {xs : List Value} {w w' : World} (h : w.ownsRow B e k v n xs) (hb : Below w.heap.size w w') : w'.ownsRow B e k v n xs := by
  refine ⟨h.1, h.2.imp id ?_⟩
  rintro ⟨g, cap, cur, e1, e2, e3, e4⟩
  have hg : g < w.heap.size := (Array.getElem?_eq_some_iff.1 e3).1
  exact ⟨g, cap, cur, e1, e2, (hb.block g hg).trans e3, e4⟩

theorem RowAt.dropG {α : Type} {K : Kind α} {w : World} {b off : Nat} {l : List α} (h : RowAt K w (some ⟨b, off, none⟩) l) (i : Nat) : RowAt K w (some ⟨b, off + i * K.n, none⟩) (l.drop i) := by
  refine ⟨fun k t ht => ?_, fun x hx => h.at_ x (List.mem_of_mem_drop hx)⟩
  rw [List.getElem?_drop] at ht
  obtain ⟨b', off', e', h1, h2⟩ := h.cell _ t ht
  simp only [Option.some.injEq, Addr.mk.injEq, and_true] at e'
  obtain ⟨rfl, rfl⟩ := e'
  refine ⟨_, _, rfl, h1, fun q v hv => ?_⟩
  have := h2 q v hv
  have ea : off + (i + k) * K.n + q = off + i * K.n + k * K.n + q := by rw [Nat.add_mul]; omega
  rw [ea] at this
  exact this

/-- Behind three appends. -/
theorem KQ.joined {α : Type} {K : Kind α} {T : TypeId} {w : World} {B : Nat} {ao : Option Addr} {N cap : Nat} {LT LD lo : List α} {x : α} (hf : ∀ x b, ¬ K.foot x b) (hA : ∀ x, K.At w x) (h : w.ownsRow B T K.n (.slice ao N cap) N ([] ++ flatK K LT ++ flatK K [x] ++ flatK K LD)) (hl : lo = LT ++ x :: LD) (hN : N = lo.length) : KQ K T w B (.slice ao N cap) lo := by
  have e : [] ++ flatK K LT ++ flatK K [x] ++ flatK K LD = flatK K lo := by
    rw [hl, List.nil_append, ← flatK_append, ← flatK_append, List.append_assoc]
    rfl
  rw [e] at h
  exact KQ.of_own hf (fun x _ => hA x) hN h

theorem infoStrT : (Tryd.prog.info? 9).any (fun i => i.size == 1 && i.bytes == 16 && (match i.zero with | some z => z.cells.size == 1 | none => false)) = true := by kernel_rfl

theorem strInfoT : ∃ i z, Tryd.prog.info? 9 = some i ∧ i.zero = some z ∧ i.size = 1 ∧ i.bytes = 16 ∧ z.cells.size = 1 := by
  have h := infoStrT
  cases hi : Tryd.prog.info? 9 with
  | none => rw [hi] at h; cases h
  | some i =>
    rw [hi] at h
    simp only [Option.any_some, Bool.and_eq_true, beq_iff_eq] at h
    cases hz : i.zero with
    | none => rw [hz] at h; simp at h
    | some z =>
      rw [hz] at h
      exact ⟨i, z, rfl, hz, h.1.1, h.1.2, by simpa using h.2⟩

/-- Texts. -/
def textK : Kind ByteArray where
  n := 1
  c x := [.string x]
  foot _ _ := False
  At _ _ := True
  pos := by decide
  len _ := rfl
  one x u hu := by
    simp only [List.mem_cons, List.not_mem_nil, or_false] at hu
    rcases hu with rfl; rfl
  lt _ h := h.elim
  keep _ _ := trivial

theorem new_text (w : World) (x : ByteArray) : ∀ j u, (textK.c x)[j]? = some u → (w.alloc (.cells #[.string x] 9)).cell? ((⟨w.heap.size, 0, none⟩ : Addr).add j) = some u := by
  intro j u hu
  rw [Go.WideShapes.add_plain, Nat.zero_add]
  exact (Arr.new w 9 [.string x]).cell hu

/-- What a table has behind an act: what it had, or new. -/
def FreshS (w : World) (S S' : Nat → Prop) : Prop := ∀ k, S' k → S k ∨ w.heap.size ≤ k

/-- Where a row that is not empty lies. -/
theorem KQ.spot {α : Type} {K : Kind α} {T : TypeId} {w : World} {base : Nat} {ao : Option Addr} {n cap : Nat} {l : List α} (h : KQ K T w base (.slice ao n cap) l) (hl : 0 < l.length) : ∃ g off, ao = some ⟨g, off, none⟩ ∧ base ≤ g ∧ g < w.heap.size ∧ n = l.length ∧ n ≤ cap := by
  rcases h.row.2 with ⟨ao', hv, hn⟩ | ⟨g, pre, post, cap', hv, hb, hg, hnc, hcm, hpl⟩
  · omega
  · simp only [Value.slice.injEq] at hv
    obtain ⟨rfl, rfl, rfl⟩ := hv
    exact ⟨g, pre.length, rfl, hb, hg.lt, rfl, hnc⟩
end Go.Proofs.YtcjmeaikdfgapaaDoor
