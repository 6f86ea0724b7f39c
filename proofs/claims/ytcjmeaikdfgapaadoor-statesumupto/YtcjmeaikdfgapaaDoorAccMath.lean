/- Layer 20's mathematics: what is in each other's way, all pairs of it, and what hangs together. -/
import Derived.Test.YtcjmeaikdfgapaaDoorSlimBase
namespace Go.Proofs.YtcjmeaikdfgapaaDoor
open Go.RowKit
set_option linter.unusedVariables false

/-- What a transaction declares. -/
structure RwD where
  rs : List ByteArray
  ws : List ByteArray

def inK (l : List ByteArray) (k : ByteArray) : Bool := l.any (fun x => decide (x = k))

theorem inK_iff {l : List ByteArray} {k : ByteArray} : inK l k = true ↔ k ∈ l := by
  unfold inK
  rw [List.any_eq_true]
  constructor
  · rintro ⟨x, hx, h⟩
    rw [of_decide_eq_true h] at hx
    exact hx
  · exact fun h => ⟨k, h, decide_eq_true rfl⟩

theorem inK_not {l : List ByteArray} {k : ByteArray} : inK l k = false ↔ k ∉ l := by
  rw [← inK_iff]
  simp

/-- Are two in each other's way? -/
def clashB (a b : RwD) : Bool := a.ws.any (fun k => inK b.ws k || inK b.rs k) || b.ws.any (fun k => inK a.rs k)

theorem clashB_iff {a b : RwD} : clashB a b = true ↔ (∃ k, k ∈ a.ws ∧ (k ∈ b.ws ∨ k ∈ b.rs)) ∨ ∃ k, k ∈ b.ws ∧ k ∈ a.rs := by
  unfold clashB
  simp only [Bool.or_eq_true, List.any_eq_true, inK_iff]

theorem clashB_comm (a b : RwD) : clashB a b = clashB b a := by
  rw [Bool.eq_iff_iff, clashB_iff, clashB_iff]
  constructor
  · rintro (⟨k, h1, h2 | h2⟩ | ⟨k, h1, h2⟩)
    · exact Or.inl ⟨k, h2, Or.inl h1⟩
    · exact Or.inr ⟨k, h1, h2⟩
    · exact Or.inl ⟨k, h1, Or.inr h2⟩
  · rintro (⟨k, h1, h2 | h2⟩ | ⟨k, h1, h2⟩)
    · exact Or.inl ⟨k, h2, Or.inl h1⟩
    · exact Or.inr ⟨k, h1, h2⟩
    · exact Or.inl ⟨k, h1, Or.inr h2⟩

/-- Are member i and member k in each other's way? -/
def adjB (l : List RwD) (i k : Nat) : Bool := match l[i]?, l[k]? with | some a, some b => clashB a b | _, _ => false

theorem adjB_comm (l : List RwD) (i k : Nat) : adjB l i k = adjB l k i := by
  unfold adjB
  cases l[i]? <;> cases l[k]? <;> simp [clashB_comm]

theorem adjB_some {l : List RwD} {i k : Nat} {a b : RwD} (h1 : l[i]? = some a) (h2 : l[k]? = some b) : adjB l i k = clashB a b := by
  unfold adjB
  rw [h1, h2]

theorem adjB_lt {l : List RwD} {i k : Nat} (h : adjB l i k = true) : i < l.length ∧ k < l.length := by
  unfold adjB at h
  cases h1 : l[i]? with
  | none => rw [h1] at h; cases h
  | some a =>
    cases h2 : l[k]? with
    | none => rw [h1, h2] at h; cases h
    | some b => exact ⟨(List.getElem?_eq_some_iff.1 h1).1, (List.getElem?_eq_some_iff.1 h2).1⟩

/-- Those behind i, below m, that are in its way. -/
def wayL (l : List RwD) (i m : Nat) : List Nat := (List.range m).filter (fun k => decide (i < k) && adjB l i k)

theorem wayL_mem {l : List RwD} {i m k : Nat} : k ∈ wayL l i m ↔ k < m ∧ i < k ∧ adjB l i k = true := by
  unfold wayL
  rw [List.mem_filter, List.mem_range, Bool.and_eq_true, decide_eq_true_iff]

theorem wayL_succ (l : List RwD) (i m : Nat) : wayL l i (m + 1) = wayL l i m ++ (if (decide (i < m) && adjB l i m) = true then [m] else []) := by
  unfold wayL
  rw [List.range_succ, List.filter_append]
  congr 1
  by_cases h : (decide (i < m) && adjB l i m) = true
  · rw [if_pos h, List.filter_cons_of_pos (p := fun k => decide (i < k) && adjB l i k) h]; rfl
  · rw [if_neg h, List.filter_cons_of_neg (p := fun k => decide (i < k) && adjB l i k) h]; rfl

theorem wayL_le (l : List RwD) (i m : Nat) (h : m ≤ i + 1) : wayL l i m = [] := by
  unfold wayL
  rw [List.filter_eq_nil_iff]
  intro k hk
  rw [List.mem_range] at hk
  rw [decide_eq_false (by omega)]
  simp

theorem wayL_length (l : List RwD) (i m : Nat) : (wayL l i m).length ≤ m := by
  unfold wayL
  exact Nat.le_trans (List.length_filter_le _ _) (by rw [List.length_range]; exact Nat.le_refl _)

theorem wayL_rise (l : List RwD) (i m : Nat) : (wayL l i m).Pairwise (· < ·) := List.Pairwise.filter _ List.pairwise_lt_range

theorem wayL_nodup (l : List RwD) (i m : Nat) : (wayL l i m).Nodup := List.Pairwise.filter _ List.nodup_range

/-- All pairs of the first so many. -/
def edgesN (l : List RwD) (m : Nat) : List (Nat × Nat) := (List.range m).flatMap (fun i => (wayL l i l.length).map (fun k => (i, k)))

def edgesL (l : List RwD) : List (Nat × Nat) := edgesN l l.length

theorem edgesN_succ (l : List RwD) (m : Nat) : edgesN l (m + 1) = edgesN l m ++ (wayL l m l.length).map (fun k => (m, k)) := by
  unfold edgesN
  rw [List.range_succ, List.flatMap_append]
  simp

theorem edgesN_length (l : List RwD) : ∀ m, (edgesN l m).length ≤ m * l.length
  | 0 => by simp [edgesN]
  | m + 1 => by
    rw [edgesN_succ, List.length_append, List.length_map, Nat.add_mul]
    have h1 := edgesN_length l m
    have h2 := wayL_length l m l.length
    omega

theorem edgesN_mem {l : List RwD} {m i k : Nat} : (i, k) ∈ edgesN l m ↔ i < m ∧ i < k ∧ adjB l i k = true := by
  unfold edgesN
  rw [List.mem_flatMap]
  constructor
  · rintro ⟨j, hj, h⟩
    rw [List.mem_range] at hj
    obtain ⟨q, hq, e⟩ := List.mem_map.1 h
    simp only [Prod.mk.injEq] at e
    obtain ⟨rfl, rfl⟩ := e
    obtain ⟨_, h2, h3⟩ := wayL_mem.1 hq
    exact ⟨hj, h2, h3⟩
  · rintro ⟨h1, h2, h3⟩
    exact ⟨i, List.mem_range.2 h1, List.mem_map.2 ⟨k, wayL_mem.2 ⟨(adjB_lt h3).2, h2, h3⟩, rfl⟩⟩

theorem edgesL_mem {l : List RwD} {i k : Nat} : (i, k) ∈ edgesL l ↔ i < k ∧ adjB l i k = true := by
  unfold edgesL
  rw [edgesN_mem]
  exact ⟨fun h => h.2, fun h => ⟨(adjB_lt h.2).1, h⟩⟩

/-- Two hang together. -/
inductive Conn (l : List RwD) (i : Nat) : Nat → Prop
  | refl : Conn l i i
  | step {j k : Nat} : Conn l i j → adjB l j k = true → Conn l i k

theorem Conn.trans {l : List RwD} {i j k : Nat} (h : Conn l i j) (g : Conn l j k) : Conn l i k := by
  induction g with
  | refl => exact h
  | step _ a ih => exact ih.step a

theorem Conn.one {l : List RwD} {i k : Nat} (h : adjB l i k = true) : Conn l i k := Conn.refl.step h

theorem Conn.symm {l : List RwD} {i k : Nat} (h : Conn l i k) : Conn l k i := by
  induction h with
  | refl => exact Conn.refl
  | step _ a ih => exact (Conn.one (by rw [adjB_comm]; exact a)).trans ih

theorem Conn.lt {l : List RwD} {i k : Nat} (h : Conn l i k) (hi : i < l.length) : k < l.length := by
  induction h with
  | refl => exact hi
  | step _ a ih => exact (adjB_lt a).2

/-- g tells of each member the least that it hangs together with. -/
structure GSpec (l : List RwD) (g : List Nat) : Prop where
  len : g.length = l.length
  conn : ∀ i, i < l.length → Conn l i (g.getD i 0)
  least : ∀ i j, i < l.length → Conn l i j → g.getD i 0 ≤ j

theorem GSpec.uniq {l : List RwD} {g h : List Nat} (a : GSpec l g) (b : GSpec l h) : g = h := by
  apply List.ext_getElem
  · rw [a.len, b.len]
  · intro i h1 h2
    have hi : i < l.length := by rw [← a.len]; exact h1
    have e1 : g.getD i 0 = g[i] := by rw [List.getD_eq_getElem?_getD, List.getElem?_eq_getElem h1]; rfl
    have e2 : h.getD i 0 = h[i] := by rw [List.getD_eq_getElem?_getD, List.getElem?_eq_getElem h2]; rfl
    have x1 := a.least i _ hi (b.conn i hi)
    have x2 := b.least i _ hi (a.conn i hi)
    omega

theorem GSpec.le {l : List RwD} {g : List Nat} (a : GSpec l g) {i : Nat} (hi : i < l.length) : g.getD i 0 ≤ i := a.least i i hi Conn.refl

theorem GSpec.again {l : List RwD} {g : List Nat} (a : GSpec l g) {i : Nat} (hi : i < l.length) : g.getD (g.getD i 0) 0 = g.getD i 0 := by
  have hc := a.conn i hi
  have hl := hc.lt hi
  have h1 := a.least _ _ hl Conn.refl
  have h2 := a.least i _ hi (hc.trans (a.conn _ hl))
  omega

theorem GSpec.apart {l : List RwD} {g : List Nat} (a : GSpec l g) {i k : Nat} (hi : i < l.length) (hk : k < l.length) (hne : g.getD i 0 ≠ g.getD k 0) : adjB l i k = false := by
  cases h : adjB l i k with
  | false => rfl
  | true =>
    exfalso
    have hc := Conn.one h
    have h1 := a.least i _ hi (hc.trans (a.conn k hk))
    have h2 := a.least k _ hk (hc.symm.trans (a.conn i hi))
    omega

/-- Along one pair the least goes on. -/
def relaxE (g : List Nat) (e : Nat × Nat) : List Nat := (g.set e.1 (min (g.getD e.1 0) (g.getD e.2 0))).set e.2 (min (g.getD e.1 0) (g.getD e.2 0))

def relaxL (g : List Nat) (es : List (Nat × Nat)) : List Nat := es.foldl relaxE g

def relaxN (es : List (Nat × Nat)) : Nat → List Nat → List Nat
  | 0, g => g
  | t + 1, g => relaxL (relaxN es t g) es

theorem relaxE_length (g : List Nat) (e : Nat × Nat) : (relaxE g e).length = g.length := by simp [relaxE]

theorem relaxL_length : ∀ (es : List (Nat × Nat)) (g : List Nat), (relaxL g es).length = g.length
  | [], g => rfl
  | e :: es, g => by
    show (relaxL (relaxE g e) es).length = _
    rw [relaxL_length es, relaxE_length]

theorem relaxN_length (es : List (Nat × Nat)) (g : List Nat) : ∀ t, (relaxN es t g).length = g.length
  | 0 => rfl
  | t + 1 => by
    show (relaxL _ es).length = _
    rw [relaxL_length, relaxN_length es g t]

theorem relaxE_get (g : List Nat) (e : Nat × Nat) (h1 : e.1 < g.length) (h2 : e.2 < g.length) (v : Nat) : (relaxE g e).getD v 0 = if v = e.1 ∨ v = e.2 then min (g.getD e.1 0) (g.getD e.2 0) else g.getD v 0 := by
  unfold relaxE
  simp only [List.getD_eq_getElem?_getD, List.getElem?_set, List.length_set]
  by_cases a1 : e.2 = v
  · subst a1; simp [h2]
  · rw [if_neg a1]
    by_cases a2 : e.1 = v
    · subst a2; simp [h1]
    · rw [if_neg a2, if_neg (fun h => h.elim (fun h => a2 h.symm) (fun h => a1 h.symm))]

section
variable {l : List RwD}

/-- What is told of each member hangs together with it. -/
def Snd (l : List RwD) (g : List Nat) : Prop := g.length = l.length ∧ ∀ v, v < l.length → Conn l v (g.getD v 0)

theorem Snd.relaxE {g : List Nat} (h : Snd l g) {e : Nat × Nat} (he : adjB l e.1 e.2 = true) : Snd l (relaxE g e) := by
  obtain ⟨h1, h2⟩ := adjB_lt he
  refine ⟨by rw [relaxE_length]; exact h.1, fun v hv => ?_⟩
  rw [relaxE_get g e (by rw [h.1]; exact h1) (by rw [h.1]; exact h2)]
  have c1 := h.2 e.1 h1
  have c2 := h.2 e.2 h2
  have ce := Conn.one he
  split
  · rename_i hv2
    rcases Nat.le_total (g.getD e.1 0) (g.getD e.2 0) with hm | hm
    · rw [Nat.min_eq_left hm]
      rcases hv2 with rfl | rfl
      · exact c1
      · exact ce.symm.trans c1
    · rw [Nat.min_eq_right hm]
      rcases hv2 with rfl | rfl
      · exact ce.trans c2
      · exact c2
  · exact h.2 v hv

theorem Snd.relaxL {es : List (Nat × Nat)} : ∀ {g : List Nat}, Snd l g → (∀ e ∈ es, adjB l e.1 e.2 = true) → Snd l (relaxL g es) := by
  induction es with
  | nil => exact fun h _ => h
  | cons e es ih => exact fun h he => ih (h.relaxE (he e List.mem_cons_self)) (fun x hx => he x (List.mem_cons_of_mem _ hx))

theorem relaxE_keep {g : List Nat} (h : Snd l g) {e : Nat × Nat} (he : adjB l e.1 e.2 = true) {m : Nat} (hm : ∀ j, Conn l m j → m ≤ j) {v : Nat} (hv : v < l.length) (hg : g.getD v 0 = m) (hc : Conn l m v) : (relaxE g e).getD v 0 = m := by
  obtain ⟨h1, h2⟩ := adjB_lt he
  rw [relaxE_get g e (by rw [h.1]; exact h1) (by rw [h.1]; exact h2)]
  have ce := Conn.one he
  split
  · rename_i hv2
    have q1 : m ≤ g.getD e.1 0 := by
      refine hm _ (hc.trans ?_)
      rcases hv2 with rfl | rfl
      · exact h.2 _ h1
      · exact ce.symm.trans (h.2 _ h1)
    have q2 : m ≤ g.getD e.2 0 := by
      refine hm _ (hc.trans ?_)
      rcases hv2 with rfl | rfl
      · exact ce.trans (h.2 _ h2)
      · exact h.2 _ h2
    rcases hv2 with rfl | rfl
    · rw [hg]; rw [hg] at q1; omega
    · rw [hg]; rw [hg] at q2; omega
  · exact hg

theorem relaxL_keep {es : List (Nat × Nat)} {m : Nat} (hm : ∀ j, Conn l m j → m ≤ j) {v : Nat} (hv : v < l.length) (hc : Conn l m v) : ∀ {g : List Nat}, Snd l g → (∀ e ∈ es, adjB l e.1 e.2 = true) → g.getD v 0 = m → (relaxL g es).getD v 0 = m := by
  induction es with
  | nil => exact fun _ _ h => h
  | cons e es ih => exact fun h he hg => ih (h.relaxE (he e List.mem_cons_self)) (fun x hx => he x (List.mem_cons_of_mem _ hx)) (relaxE_keep h (he e List.mem_cons_self) hm hv hg hc)

/-- A pair one of which has the least already: both have it behind the round. -/
theorem relaxL_gets {m : Nat} (hm : ∀ j, Conn l m j → m ≤ j) {u v : Nat} (hu : u < l.length) (hv : v < l.length) (hcu : Conn l m u) (hcv : Conn l m v) : ∀ {es : List (Nat × Nat)} {g : List Nat}, Snd l g → (∀ e ∈ es, adjB l e.1 e.2 = true) → ((u, v) ∈ es ∨ (v, u) ∈ es) → g.getD u 0 = m → (relaxL g es).getD v 0 = m := by
  intro es
  induction es with
  | nil => intro g _ _ h; rcases h with h | h <;> cases h
  | cons e es ih =>
    intro g h he hin hg
    have hS := h.relaxE (he e List.mem_cons_self)
    have hE := fun x hx => he x (List.mem_cons_of_mem e hx)
    by_cases hx : e = (u, v) ∨ e = (v, u)
    · show (relaxL (relaxE g e) es).getD v 0 = m
      refine relaxL_keep hm hv hcv hS hE ?_
      have hadj := he e List.mem_cons_self
      obtain ⟨h1, h2⟩ := adjB_lt hadj
      rw [relaxE_get g e (by rw [h.1]; exact h1) (by rw [h.1]; exact h2), if_pos (by rcases hx with rfl | rfl <;> simp)]
      have q := hm _ (hcv.trans (h.2 v hv))
      rcases hx with rfl | rfl
      · show min (g.getD u 0) (g.getD v 0) = m
        omega
      · show min (g.getD v 0) (g.getD u 0) = m
        omega
    · show (relaxL (relaxE g e) es).getD v 0 = m
      refine ih hS hE ?_ (relaxE_keep h (he e List.mem_cons_self) hm hu hg hcu)
      rcases hin with hin | hin
      · rcases List.mem_cons.1 hin with h0 | h0
        · exact absurd (Or.inl h0.symm) hx
        · exact Or.inl h0
      · rcases List.mem_cons.1 hin with h0 | h0
        · exact absurd (Or.inr h0.symm) hx
        · exact Or.inr h0

theorem count_lt {P Q : Nat → Bool} : ∀ (n : Nat), (∀ v, v < n → P v = true → Q v = true) → (∃ v, v < n ∧ P v = false ∧ Q v = true) → (List.range n).countP P < (List.range n).countP Q
  | 0, _, h => by obtain ⟨v, h, _⟩ := h; omega
  | n + 1, hs, hw => by
    rw [List.range_succ, List.countP_append, List.countP_append]
    have hle : (List.range n).countP P ≤ (List.range n).countP Q := List.countP_mono_left (fun v hv h => hs v (by rw [List.mem_range] at hv; omega) h)
    obtain ⟨v, hv, h1, h2⟩ := hw
    by_cases hvn : v = n
    · subst hvn
      simp only [List.countP_cons, List.countP_nil, h1, h2]
      simp
      omega
    · have ih := count_lt n (fun v hv h => hs v (by omega) h) ⟨v, by omega, h1, h2⟩
      have hp := hs n (by omega)
      simp only [List.countP_cons, List.countP_nil]
      by_cases hq : P n = true
      · rw [hq, hp hq]; simp; omega
      · rw [Bool.not_eq_true] at hq
        rw [hq]
        simp
        split <;> omega

theorem edges_all : ∀ e ∈ edgesL l, adjB l e.1 e.2 = true := fun e he => (edgesL_mem.1 (show (e.1, e.2) ∈ edgesL l from he)).2

theorem Snd.relaxN {g : List Nat} (h : Snd l g) : ∀ t, Snd l (relaxN (edgesL l) t g)
  | 0 => h
  | t + 1 => (Snd.relaxN h t).relaxL edges_all

theorem snd_start : Snd l (List.range l.length) := by
  refine ⟨List.length_range, fun v hv => ?_⟩
  have : (List.range l.length).getD v 0 = v := by rw [List.getD_eq_getElem?_getD, List.getElem?_range hv]; rfl
  rw [this]
  exact Conn.refl

/-- If not all that hang together with m have it, there is a pair one of which has it. -/
theorem conn_edge {P : Nat → Prop} {m v : Nat} (h : Conn l m v) (h0 : P m) (hv : ¬ P v) : ∃ a b, Conn l m a ∧ adjB l a b = true ∧ P a ∧ ¬ P b := by
  induction h with
  | refl => exact absurd h0 hv
  | step hc ha ih =>
    rename_i j k
    by_cases hj : P j
    · exact ⟨j, k, hc, ha, hj, hv⟩
    · exact ih hj

theorem grows {m : Nat} (hml : m < l.length) (hm : ∀ j, Conn l m j → m ≤ j) : ∀ t, (∀ v, Conn l m v → (relaxN (edgesL l) t (List.range l.length)).getD v 0 = m) ∨ t + 1 ≤ (List.range l.length).countP (fun v => decide ((relaxN (edgesL l) t (List.range l.length)).getD v 0 = m))
  | 0 => by
    right
    have h1 : (List.range l.length).countP (fun _ => false) < (List.range l.length).countP (fun v => decide ((List.range l.length).getD v 0 = m)) :=
      count_lt l.length (fun _ _ h => by cases h) ⟨m, hml, rfl, by rw [List.getD_eq_getElem?_getD, List.getElem?_range hml]; simp⟩
    show 0 + 1 ≤ (List.range l.length).countP (fun v => decide ((List.range l.length).getD v 0 = m))
    omega
  | t + 1 => by
    have hS := Snd.relaxN (snd_start (l := l)) t
    have hcm : ∀ v, v < l.length → (relaxN (edgesL l) t (List.range l.length)).getD v 0 = m → Conn l m v := fun v hv h => by
      have := hS.2 v hv
      rw [h] at this
      exact this.symm
    have hkeep : ∀ v, v < l.length → (relaxN (edgesL l) t (List.range l.length)).getD v 0 = m → (relaxN (edgesL l) (t + 1) (List.range l.length)).getD v 0 = m := fun v hv h => relaxL_keep hm hv (hcm v hv h) hS edges_all h
    rcases grows hml hm t with h | h
    · left
      intro v hv
      exact hkeep v (hv.lt hml) (h v hv)
    · by_cases hall : ∀ v, Conn l m v → (relaxN (edgesL l) t (List.range l.length)).getD v 0 = m
      · left
        intro v hv
        exact hkeep v (hv.lt hml) (hall v hv)
      · right
        obtain ⟨v, hv, hne⟩ : ∃ v, Conn l m v ∧ ¬ (relaxN (edgesL l) t (List.range l.length)).getD v 0 = m := by
          apply Classical.byContradiction
          intro hno
          exact hall (fun v hv => Classical.byContradiction fun h => hno ⟨v, hv, h⟩)
        have hmm : (relaxN (edgesL l) t (List.range l.length)).getD m 0 = m := by
          have hpos : 0 < (List.range l.length).countP (fun v => decide ((relaxN (edgesL l) t (List.range l.length)).getD v 0 = m)) := by omega
          obtain ⟨a, ha, hd⟩ := List.countP_pos_iff.1 hpos
          rw [List.mem_range] at ha
          have hd' := of_decide_eq_true hd
          clear hpos hd
          have key : ∀ t, (relaxN (edgesL l) t (List.range l.length)).getD m 0 = m := by
            intro t
            induction t with
            | zero =>
              show (List.range l.length).getD m 0 = m
              rw [List.getD_eq_getElem?_getD, List.getElem?_range hml]; rfl
            | succ t ih => exact relaxL_keep hm hml Conn.refl (Snd.relaxN snd_start t) edges_all ih
          exact key t
        obtain ⟨a, b, hca, hab, hpa, hpb⟩ := conn_edge (P := fun v => (relaxN (edgesL l) t (List.range l.length)).getD v 0 = m) hv hmm hne
        have hal := (adjB_lt hab).1
        have hbl := (adjB_lt hab).2
        have hne' : a ≠ b := fun e => hpb (e ▸ hpa)
        have hin : (a, b) ∈ edgesL l ∨ (b, a) ∈ edgesL l := by
          rcases Nat.lt_or_gt_of_ne hne' with hlt | hlt
          · exact Or.inl (edgesL_mem.2 ⟨hlt, hab⟩)
          · exact Or.inr (edgesL_mem.2 ⟨hlt, by rw [adjB_comm]; exact hab⟩)
        have hgb := relaxL_gets hm hal hbl hca (hca.step hab) hS edges_all hin hpa
        have := count_lt (P := fun v => decide ((relaxN (edgesL l) t (List.range l.length)).getD v 0 = m)) (Q := fun v => decide ((relaxN (edgesL l) (t + 1) (List.range l.length)).getD v 0 = m)) l.length
          (fun v hv h => decide_eq_true (hkeep v hv (of_decide_eq_true h))) ⟨b, hbl, decide_eq_false hpb, decide_eq_true hgb⟩
        omega

/-- Every member hangs together with a least one. -/
theorem least_ex (P : Nat → Prop) {i : Nat} (h : P i) : ∃ m, P m ∧ ∀ j, P j → m ≤ j := by
  induction i using Nat.strongRecOn with
  | ind i ih =>
    by_cases hx : ∃ j, j < i ∧ P j
    · obtain ⟨j, h1, h2⟩ := hx
      exact ih j h1 h2
    · exact ⟨i, h, fun j hj => Nat.le_of_not_lt (fun hl => hx ⟨j, hl, hj⟩)⟩

/-- The reference's groups are right. -/
theorem ref_groups : GSpec l (relaxN (edgesL l) l.length (List.range l.length)) := by
  have hS := Snd.relaxN (snd_start (l := l)) l.length
  refine ⟨hS.1, hS.2, fun i j hi hj => ?_⟩
  obtain ⟨m, hm1, hm2⟩ := least_ex (Conn l i) (Conn.refl (i := i))
  have hml := hm1.lt hi
  have hm : ∀ j, Conn l m j → m ≤ j := fun j h => hm2 j (hm1.trans h)
  rcases grows hml hm l.length with h | h
  · rw [h i hm1.symm]
    exact hm2 j hj
  · have := List.countP_le_length (p := fun v => decide ((relaxN (edgesL l) l.length (List.range l.length)).getD v 0 = m)) (l := List.range l.length)
    rw [List.length_range] at this
    omega
end
end Go.Proofs.YtcjmeaikdfgapaaDoor
