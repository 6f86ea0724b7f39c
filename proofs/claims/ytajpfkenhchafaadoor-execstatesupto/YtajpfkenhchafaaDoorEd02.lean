/- Texts as one: AccMath, WavMath, WavChk, WavInv, WireMath, WireInt, WireGetInt, WireText, WireBuilder, Strs. -/
import Derived.Test.YtajpfkenhchafaaDoorEd01
import Derived.Test.YtajpfkenhchafaaDoorRows
import Derived.WalkKit
import Derived.WalkSpells
import Derived.WalkLawsBesides
import Derived.ScopeJumps
import Derived.WalkMore
import Derived.Lib.Builder
import Derived.Lib.AppendStr
import Derived.Lib.UnsafeStr
import Derived.Lib.Strings
import Derived.Laws.Externs
import Derived.RegionTactic
/- Layer 20's mathematics: what is in each other's way, all pairs of it, and what hangs together. -/
namespace Go.Proofs.YtajpfkenhchafaaDoor
open Go.RowKit
set_option linter.unusedVariables false

/-- What a transaction declares. -/
structure RwD where
  rs : List ByteArray
  ws : List ByteArray

def inK (l : List ByteArray) (k : ByteArray) : Bool := l.any (fun x => decide (x = k))

theorem inK_iff {l : List ByteArray} {k : ByteArray} : inK l k = true ↔ k ∈ l := by
  unfold inK
  rw [List.any_eq_true]
  constructor
  · rintro ⟨x, hx, h⟩
    rw [of_decide_eq_true h] at hx
    exact hx
  · exact fun h => ⟨k, h, decide_eq_true rfl⟩

theorem inK_not {l : List ByteArray} {k : ByteArray} : inK l k = false ↔ k ∉ l := by
  rw [← inK_iff]
  simp

/-- Are two in each other's way? -/
def clashB (a b : RwD) : Bool := a.ws.any (fun k => inK b.ws k || inK b.rs k) || b.ws.any (fun k => inK a.rs k)

theorem clashB_iff {a b : RwD} : clashB a b = true ↔ (∃ k, k ∈ a.ws ∧ (k ∈ b.ws ∨ k ∈ b.rs)) ∨ ∃ k, k ∈ b.ws ∧ k ∈ a.rs := by
  unfold clashB
  simp only [Bool.or_eq_true, List.any_eq_true, inK_iff]

theorem clashB_comm (a b : RwD) : clashB a b = clashB b a := by
  rw [Bool.eq_iff_iff, clashB_iff, clashB_iff]
  constructor
  · rintro (⟨k, h1, h2 | h2⟩ | ⟨k, h1, h2⟩)
    · exact Or.inl ⟨k, h2, Or.inl h1⟩
    · exact Or.inr ⟨k, h1, h2⟩
    · exact Or.inl ⟨k, h1, Or.inr h2⟩
  · rintro (⟨k, h1, h2 | h2⟩ | ⟨k, h1, h2⟩)
    · exact Or.inl ⟨k, h2, Or.inl h1⟩
    · exact Or.inr ⟨k, h1, h2⟩
    · exact Or.inl ⟨k, h1, Or.inr h2⟩

/-- Are member i and member k in each other's way? -/
def adjB (l : List RwD) (i k : Nat) : Bool := match l[i]?, l[k]? with | some a, some b => clashB a b | _, _ => false

theorem adjB_comm (l : List RwD) (i k : Nat) : adjB l i k = adjB l k i := by
  unfold adjB
  cases l[i]? <;> cases l[k]? <;> simp [clashB_comm]

theorem adjB_some {l : List RwD} {i k : Nat} {a b : RwD} (h1 : l[i]? = some a) (h2 : l[k]? = some b) : adjB l i k = clashB a b := by
  unfold adjB
  rw [h1, h2]

theorem adjB_lt {l : List RwD} {i k : Nat} (h : adjB l i k = true) : i < l.length ∧ k < l.length := by
  unfold adjB at h
  cases h1 : l[i]? with
  | none => rw [h1] at h; cases h
  | some a =>
    cases h2 : l[k]? with
    | none => rw [h1, h2] at h; cases h
    | some b => exact ⟨(List.getElem?_eq_some_iff.1 h1).1, (List.getElem?_eq_some_iff.1 h2).1⟩

/-- Those behind i, below m, that are in its way. -/
def wayL (l : List RwD) (i m : Nat) : List Nat := (List.range m).filter (fun k => decide (i < k) && adjB l i k)

theorem wayL_mem {l : List RwD} {i m k : Nat} : k ∈ wayL l i m ↔ k < m ∧ i < k ∧ adjB l i k = true := by
  unfold wayL
  rw [List.mem_filter, List.mem_range, Bool.and_eq_true, decide_eq_true_iff]

theorem wayL_succ (l : List RwD) (i m : Nat) : wayL l i (m + 1) = wayL l i m ++ (if (decide (i < m) && adjB l i m) = true then [m] else []) := by
  unfold wayL
  rw [List.range_succ, List.filter_append]
  congr 1
  by_cases h : (decide (i < m) && adjB l i m) = true
  · rw [if_pos h, List.filter_cons_of_pos (p := fun k => decide (i < k) && adjB l i k) h]; rfl
  · rw [if_neg h, List.filter_cons_of_neg (p := fun k => decide (i < k) && adjB l i k) h]; rfl

theorem wayL_le (l : List RwD) (i m : Nat) (h : m ≤ i + 1) : wayL l i m = [] := by
  unfold wayL
  rw [List.filter_eq_nil_iff]
  intro k hk
  rw [List.mem_range] at hk
  rw [decide_eq_false (by omega)]
  simp

theorem wayL_length (l : List RwD) (i m : Nat) : (wayL l i m).length ≤ m := by
  unfold wayL
  exact Nat.le_trans (List.length_filter_le _ _) (by rw [List.length_range]; exact Nat.le_refl _)

theorem wayL_rise (l : List RwD) (i m : Nat) : (wayL l i m).Pairwise (· < ·) := List.Pairwise.filter _ List.pairwise_lt_range

theorem wayL_nodup (l : List RwD) (i m : Nat) : (wayL l i m).Nodup := List.Pairwise.filter _ List.nodup_range

/-- All pairs of the first so many. -/
def edgesN (l : List RwD) (m : Nat) : List (Nat × Nat) := (List.range m).flatMap (fun i => (wayL l i l.length).map (fun k => (i, k)))

def edgesL (l : List RwD) : List (Nat × Nat) := edgesN l l.length

theorem edgesN_succ (l : List RwD) (m : Nat) : edgesN l (m + 1) = edgesN l m ++ (wayL l m l.length).map (fun k => (m, k)) := by
  unfold edgesN
  rw [List.range_succ, List.flatMap_append]
  simp

theorem edgesN_length (l : List RwD) : ∀ m, (edgesN l m).length ≤ m * l.length
  | 0 => by simp [edgesN]
  | m + 1 => by
    rw [edgesN_succ, List.length_append, List.length_map, Nat.add_mul]
    have h1 := edgesN_length l m
    have h2 := wayL_length l m l.length
    omega

theorem edgesN_mem {l : List RwD} {m i k : Nat} : (i, k) ∈ edgesN l m ↔ i < m ∧ i < k ∧ adjB l i k = true := by
  unfold edgesN
  rw [List.mem_flatMap]
  constructor
  · rintro ⟨j, hj, h⟩
    rw [List.mem_range] at hj
    obtain ⟨q, hq, e⟩ := List.mem_map.1 h
    simp only [Prod.mk.injEq] at e
    obtain ⟨rfl, rfl⟩ := e
    obtain ⟨_, h2, h3⟩ := wayL_mem.1 hq
    exact ⟨hj, h2, h3⟩
  · rintro ⟨h1, h2, h3⟩
    exact ⟨i, List.mem_range.2 h1, List.mem_map.2 ⟨k, wayL_mem.2 ⟨(adjB_lt h3).2, h2, h3⟩, rfl⟩⟩

theorem edgesL_mem {l : List RwD} {i k : Nat} : (i, k) ∈ edgesL l ↔ i < k ∧ adjB l i k = true := by
  unfold edgesL
  rw [edgesN_mem]
  exact ⟨fun h => h.2, fun h => ⟨(adjB_lt h.2).1, h⟩⟩

/-- Two hang together. -/
inductive Conn (l : List RwD) (i : Nat) : Nat → Prop
  | refl : Conn l i i
  | step {j k : Nat} : Conn l i j → adjB l j k = true → Conn l i k

theorem Conn.trans {l : List RwD} {i j k : Nat} (h : Conn l i j) (g : Conn l j k) : Conn l i k := by
  induction g with
  | refl => exact h
  | step _ a ih => exact ih.step a

theorem Conn.one {l : List RwD} {i k : Nat} (h : adjB l i k = true) : Conn l i k := Conn.refl.step h

theorem Conn.symm {l : List RwD} {i k : Nat} (h : Conn l i k) : Conn l k i := by
  induction h with
  | refl => exact Conn.refl
  | step _ a ih => exact (Conn.one (by rw [adjB_comm]; exact a)).trans ih

theorem Conn.lt {l : List RwD} {i k : Nat} (h : Conn l i k) (hi : i < l.length) : k < l.length := by
  induction h with
  | refl => exact hi
  | step _ a ih => exact (adjB_lt a).2

/-- g tells of each member the least that it hangs together with. -/
structure GSpec (l : List RwD) (g : List Nat) : Prop where
  len : g.length = l.length
  conn : ∀ i, i < l.length → Conn l i (g.getD i 0)
  least : ∀ i j, i < l.length → Conn l i j → g.getD i 0 ≤ j

theorem GSpec.uniq {l : List RwD} {g h : List Nat} (a : GSpec l g) (b : GSpec l h) : g = h := by
  apply List.ext_getElem
  · rw [a.len, b.len]
  · intro i h1 h2
    have hi : i < l.length := by rw [← a.len]; exact h1
    have e1 : g.getD i 0 = g[i] := by rw [List.getD_eq_getElem?_getD, List.getElem?_eq_getElem h1]; rfl
    have e2 : h.getD i 0 = h[i] := by rw [List.getD_eq_getElem?_getD, List.getElem?_eq_getElem h2]; rfl
    have x1 := a.least i _ hi (b.conn i hi)
    have x2 := b.least i _ hi (a.conn i hi)
    omega

theorem GSpec.le {l : List RwD} {g : List Nat} (a : GSpec l g) {i : Nat} (hi : i < l.length) : g.getD i 0 ≤ i := a.least i i hi Conn.refl

theorem GSpec.again {l : List RwD} {g : List Nat} (a : GSpec l g) {i : Nat} (hi : i < l.length) : g.getD (g.getD i 0) 0 = g.getD i 0 := by
  have hc := a.conn i hi
  have hl := hc.lt hi
  have h1 := a.least _ _ hl Conn.refl
  have h2 := a.least i _ hi (hc.trans (a.conn _ hl))
  omega

theorem GSpec.apart {l : List RwD} {g : List Nat} (a : GSpec l g) {i k : Nat} (hi : i < l.length) (hk : k < l.length) (hne : g.getD i 0 ≠ g.getD k 0) : adjB l i k = false := by
  cases h : adjB l i k with
  | false => rfl
  | true =>
    exfalso
    have hc := Conn.one h
    have h1 := a.least i _ hi (hc.trans (a.conn k hk))
    have h2 := a.least k _ hk (hc.symm.trans (a.conn i hi))
    omega

/-- Along one pair the least goes on. -/
def relaxE (g : List Nat) (e : Nat × Nat) : List Nat := (g.set e.1 (min (g.getD e.1 0) (g.getD e.2 0))).set e.2 (min (g.getD e.1 0) (g.getD e.2 0))

def relaxL (g : List Nat) (es : List (Nat × Nat)) : List Nat := es.foldl relaxE g

def relaxN (es : List (Nat × Nat)) : Nat → List Nat → List Nat
  | 0, g => g
  | t + 1, g => relaxL (relaxN es t g) es

theorem relaxE_length (g : List Nat) (e : Nat × Nat) : (relaxE g e).length = g.length := by simp [relaxE]

theorem relaxL_length : ∀ (es : List (Nat × Nat)) (g : List Nat), (relaxL g es).length = g.length
  | [], g => rfl
  | e :: es, g => by
    show (relaxL (relaxE g e) es).length = _
    rw [relaxL_length es, relaxE_length]

theorem relaxN_length (es : List (Nat × Nat)) (g : List Nat) : ∀ t, (relaxN es t g).length = g.length
  | 0 => rfl
  | t + 1 => by
    show (relaxL _ es).length = _
    rw [relaxL_length, relaxN_length es g t]

theorem relaxE_get (g : List Nat) (e : Nat × Nat) (h1 : e.1 < g.length) (h2 : e.2 < g.length) (v : Nat) : (relaxE g e).getD v 0 = if v = e.1 ∨ v = e.2 then min (g.getD e.1 0) (g.getD e.2 0) else g.getD v 0 := by
  unfold relaxE
  simp only [List.getD_eq_getElem?_getD, List.getElem?_set, List.length_set]
  by_cases a1 : e.2 = v
  · subst a1; simp [h2]
  · rw [if_neg a1]
    by_cases a2 : e.1 = v
    · subst a2; simp [h1]
    · rw [if_neg a2, if_neg (fun h => h.elim (fun h => a2 h.symm) (fun h => a1 h.symm))]

section
variable {l : List RwD}

/-- What is told of each member hangs together with it. -/
def Snd (l : List RwD) (g : List Nat) : Prop := g.length = l.length ∧ ∀ v, v < l.length → Conn l v (g.getD v 0)

theorem Snd.relaxE {g : List Nat} (h : Snd l g) {e : Nat × Nat} (he : adjB l e.1 e.2 = true) : Snd l (relaxE g e) := by
  obtain ⟨h1, h2⟩ := adjB_lt he
  refine ⟨by rw [relaxE_length]; exact h.1, fun v hv => ?_⟩
  rw [relaxE_get g e (by rw [h.1]; exact h1) (by rw [h.1]; exact h2)]
  have c1 := h.2 e.1 h1
  have c2 := h.2 e.2 h2
  have ce := Conn.one he
  split
  · rename_i hv2
    rcases Nat.le_total (g.getD e.1 0) (g.getD e.2 0) with hm | hm
    · rw [Nat.min_eq_left hm]
      rcases hv2 with rfl | rfl
      · exact c1
      · exact ce.symm.trans c1
    · rw [Nat.min_eq_right hm]
      rcases hv2 with rfl | rfl
      · exact ce.trans c2
      · exact c2
  · exact h.2 v hv

theorem Snd.relaxL {es : List (Nat × Nat)} : ∀ {g : List Nat}, Snd l g → (∀ e ∈ es, adjB l e.1 e.2 = true) → Snd l (relaxL g es) := by
  induction es with
  | nil => exact fun h _ => h
  | cons e es ih => exact fun h he => ih (h.relaxE (he e List.mem_cons_self)) (fun x hx => he x (List.mem_cons_of_mem _ hx))

theorem relaxE_keep {g : List Nat} (h : Snd l g) {e : Nat × Nat} (he : adjB l e.1 e.2 = true) {m : Nat} (hm : ∀ j, Conn l m j → m ≤ j) {v : Nat} (hv : v < l.length) (hg : g.getD v 0 = m) (hc : Conn l m v) : (relaxE g e).getD v 0 = m := by
  obtain ⟨h1, h2⟩ := adjB_lt he
  rw [relaxE_get g e (by rw [h.1]; exact h1) (by rw [h.1]; exact h2)]
  have ce := Conn.one he
  split
  · rename_i hv2
    have q1 : m ≤ g.getD e.1 0 := by
      refine hm _ (hc.trans ?_)
      rcases hv2 with rfl | rfl
      · exact h.2 _ h1
      · exact ce.symm.trans (h.2 _ h1)
    have q2 : m ≤ g.getD e.2 0 := by
      refine hm _ (hc.trans ?_)
      rcases hv2 with rfl | rfl
      · exact ce.trans (h.2 _ h2)
      · exact h.2 _ h2
    rcases hv2 with rfl | rfl
    · rw [hg]; rw [hg] at q1; omega
    · rw [hg]; rw [hg] at q2; omega
  · exact hg

theorem relaxL_keep {es : List (Nat × Nat)} {m : Nat} (hm : ∀ j, Conn l m j → m ≤ j) {v : Nat} (hv : v < l.length) (hc : Conn l m v) : ∀ {g : List Nat}, Snd l g → (∀ e ∈ es, adjB l e.1 e.2 = true) → g.getD v 0 = m → (relaxL g es).getD v 0 = m := by
  induction es with
  | nil => exact fun _ _ h => h
  | cons e es ih => exact fun h he hg => ih (h.relaxE (he e List.mem_cons_self)) (fun x hx => he x (List.mem_cons_of_mem _ hx)) (relaxE_keep h (he e List.mem_cons_self) hm hv hg hc)

/-- A pair one of which has the least already: both have it behind the round. -/
theorem relaxL_gets {m : Nat} (hm : ∀ j, Conn l m j → m ≤ j) {u v : Nat} (hu : u < l.length) (hv : v < l.length) (hcu : Conn l m u) (hcv : Conn l m v) : ∀ {es : List (Nat × Nat)} {g : List Nat}, Snd l g → (∀ e ∈ es, adjB l e.1 e.2 = true) → ((u, v) ∈ es ∨ (v, u) ∈ es) → g.getD u 0 = m → (relaxL g es).getD v 0 = m := by
  intro es
  induction es with
  | nil => intro g _ _ h; rcases h with h | h <;> cases h
  | cons e es ih =>
    intro g h he hin hg
    have hS := h.relaxE (he e List.mem_cons_self)
    have hE := fun x hx => he x (List.mem_cons_of_mem e hx)
    by_cases hx : e = (u, v) ∨ e = (v, u)
    · show (relaxL (relaxE g e) es).getD v 0 = m
      refine relaxL_keep hm hv hcv hS hE ?_
      have hadj := he e List.mem_cons_self
      obtain ⟨h1, h2⟩ := adjB_lt hadj
      rw [relaxE_get g e (by rw [h.1]; exact h1) (by rw [h.1]; exact h2), if_pos (by rcases hx with rfl | rfl <;> simp)]
      have q := hm _ (hcv.trans (h.2 v hv))
      rcases hx with rfl | rfl
      · show min (g.getD u 0) (g.getD v 0) = m
        omega
      · show min (g.getD v 0) (g.getD u 0) = m
        omega
    · show (relaxL (relaxE g e) es).getD v 0 = m
      refine ih hS hE ?_ (relaxE_keep h (he e List.mem_cons_self) hm hu hg hcu)
      rcases hin with hin | hin
      · rcases List.mem_cons.1 hin with h0 | h0
        · exact absurd (Or.inl h0.symm) hx
        · exact Or.inl h0
      · rcases List.mem_cons.1 hin with h0 | h0
        · exact absurd (Or.inr h0.symm) hx
        · exact Or.inr h0

theorem count_lt {P Q : Nat → Bool} : ∀ (n : Nat), (∀ v, v < n → P v = true → Q v = true) → (∃ v, v < n ∧ P v = false ∧ Q v = true) → (List.range n).countP P < (List.range n).countP Q
  | 0, _, h => by obtain ⟨v, h, _⟩ := h; omega
  | n + 1, hs, hw => by
    rw [List.range_succ, List.countP_append, List.countP_append]
    have hle : (List.range n).countP P ≤ (List.range n).countP Q := List.countP_mono_left (fun v hv h => hs v (by rw [List.mem_range] at hv; omega) h)
    obtain ⟨v, hv, h1, h2⟩ := hw
    by_cases hvn : v = n
    · subst hvn
      simp only [List.countP_cons, List.countP_nil, h1, h2]
      simp
      omega
    · have ih := count_lt n (fun v hv h => hs v (by omega) h) ⟨v, by omega, h1, h2⟩
      have hp := hs n (by omega)
      simp only [List.countP_cons, List.countP_nil]
      by_cases hq : P n = true
      · rw [hq, hp hq]; simp; omega
      · rw [Bool.not_eq_true] at hq
        rw [hq]
        simp
        split <;> omega

theorem edges_all : ∀ e ∈ edgesL l, adjB l e.1 e.2 = true := fun e he => (edgesL_mem.1 (show (e.1, e.2) ∈ edgesL l from he)).2

theorem Snd.relaxN {g : List Nat} (h : Snd l g) : ∀ t, Snd l (relaxN (edgesL l) t g)
  | 0 => h
  | t + 1 => (Snd.relaxN h t).relaxL edges_all

theorem snd_start : Snd l (List.range l.length) := by
  refine ⟨List.length_range, fun v hv => ?_⟩
  have : (List.range l.length).getD v 0 = v := by rw [List.getD_eq_getElem?_getD, List.getElem?_range hv]; rfl
  rw [this]
  exact Conn.refl

/-- If not all that hang together with m have it, there is a pair one of which has it. -/
theorem conn_edge {P : Nat → Prop} {m v : Nat} (h : Conn l m v) (h0 : P m) (hv : ¬ P v) : ∃ a b, Conn l m a ∧ adjB l a b = true ∧ P a ∧ ¬ P b := by
  induction h with
  | refl => exact absurd h0 hv
  | step hc ha ih =>
    rename_i j k
    by_cases hj : P j
    · exact ⟨j, k, hc, ha, hj, hv⟩
    · exact ih hj

theorem grows {m : Nat} (hml : m < l.length) (hm : ∀ j, Conn l m j → m ≤ j) : ∀ t, (∀ v, Conn l m v → (relaxN (edgesL l) t (List.range l.length)).getD v 0 = m) ∨ t + 1 ≤ (List.range l.length).countP (fun v => decide ((relaxN (edgesL l) t (List.range l.length)).getD v 0 = m))
  | 0 => by
    right
    have h1 : (List.range l.length).countP (fun _ => false) < (List.range l.length).countP (fun v => decide ((List.range l.length).getD v 0 = m)) :=
      count_lt l.length (fun _ _ h => by cases h) ⟨m, hml, rfl, by rw [List.getD_eq_getElem?_getD, List.getElem?_range hml]; simp⟩
    show 0 + 1 ≤ (List.range l.length).countP (fun v => decide ((List.range l.length).getD v 0 = m))
    omega
  | t + 1 => by
    have hS := Snd.relaxN (snd_start (l := l)) t
    have hcm : ∀ v, v < l.length → (relaxN (edgesL l) t (List.range l.length)).getD v 0 = m → Conn l m v := fun v hv h => by
      have := hS.2 v hv
      rw [h] at this
      exact this.symm
    have hkeep : ∀ v, v < l.length → (relaxN (edgesL l) t (List.range l.length)).getD v 0 = m → (relaxN (edgesL l) (t + 1) (List.range l.length)).getD v 0 = m := fun v hv h => relaxL_keep hm hv (hcm v hv h) hS edges_all h
    rcases grows hml hm t with h | h
    · left
      intro v hv
      exact hkeep v (hv.lt hml) (h v hv)
    · by_cases hall : ∀ v, Conn l m v → (relaxN (edgesL l) t (List.range l.length)).getD v 0 = m
      · left
        intro v hv
        exact hkeep v (hv.lt hml) (hall v hv)
      · right
        obtain ⟨v, hv, hne⟩ : ∃ v, Conn l m v ∧ ¬ (relaxN (edgesL l) t (List.range l.length)).getD v 0 = m := by
          apply Classical.byContradiction
          intro hno
          exact hall (fun v hv => Classical.byContradiction fun h => hno ⟨v, hv, h⟩)
        have hmm : (relaxN (edgesL l) t (List.range l.length)).getD m 0 = m := by
          have hpos : 0 < (List.range l.length).countP (fun v => decide ((relaxN (edgesL l) t (List.range l.length)).getD v 0 = m)) := by omega
          obtain ⟨a, ha, hd⟩ := List.countP_pos_iff.1 hpos
          rw [List.mem_range] at ha
          have hd' := of_decide_eq_true hd
          clear hpos hd
          have key : ∀ t, (relaxN (edgesL l) t (List.range l.length)).getD m 0 = m := by
            intro t
            induction t with
            | zero =>
              show (List.range l.length).getD m 0 = m
              rw [List.getD_eq_getElem?_getD, List.getElem?_range hml]; rfl
            | succ t ih => exact relaxL_keep hm hml Conn.refl (Snd.relaxN snd_start t) edges_all ih
          exact key t
        obtain ⟨a, b, hca, hab, hpa, hpb⟩ := conn_edge (P := fun v => (relaxN (edgesL l) t (List.range l.length)).getD v 0 = m) hv hmm hne
        have hal := (adjB_lt hab).1
        have hbl := (adjB_lt hab).2
        have hne' : a ≠ b := fun e => hpb (e ▸ hpa)
        have hin : (a, b) ∈ edgesL l ∨ (b, a) ∈ edgesL l := by
          rcases Nat.lt_or_gt_of_ne hne' with hlt | hlt
          · exact Or.inl (edgesL_mem.2 ⟨hlt, hab⟩)
          · exact Or.inr (edgesL_mem.2 ⟨hlt, by rw [adjB_comm]; exact hab⟩)
        have hgb := relaxL_gets hm hal hbl hca (hca.step hab) hS edges_all hin hpa
        have := count_lt (P := fun v => decide ((relaxN (edgesL l) t (List.range l.length)).getD v 0 = m)) (Q := fun v => decide ((relaxN (edgesL l) (t + 1) (List.range l.length)).getD v 0 = m)) l.length
          (fun v hv h => decide_eq_true (hkeep v hv (of_decide_eq_true h))) ⟨b, hbl, decide_eq_false hpb, decide_eq_true hgb⟩
        omega

/-- Every member hangs together with a least one. -/
theorem least_ex (P : Nat → Prop) {i : Nat} (h : P i) : ∃ m, P m ∧ ∀ j, P j → m ≤ j := by
  induction i using Nat.strongRecOn with
  | ind i ih =>
    by_cases hx : ∃ j, j < i ∧ P j
    · obtain ⟨j, h1, h2⟩ := hx
      exact ih j h1 h2
    · exact ⟨i, h, fun j hj => Nat.le_of_not_lt (fun hl => hx ⟨j, hl, hj⟩)⟩

/-- The reference's groups are right. -/
theorem ref_groups : GSpec l (relaxN (edgesL l) l.length (List.range l.length)) := by
  have hS := Snd.relaxN (snd_start (l := l)) l.length
  refine ⟨hS.1, hS.2, fun i j hi hj => ?_⟩
  obtain ⟨m, hm1, hm2⟩ := least_ex (Conn l i) (Conn.refl (i := i))
  have hml := hm1.lt hi
  have hm : ∀ j, Conn l m j → m ≤ j := fun j h => hm2 j (hm1.trans h)
  rcases grows hml hm l.length with h | h
  · rw [h i hm1.symm]
    exact hm2 j hj
  · have := List.countP_le_length (p := fun v => decide ((relaxN (edgesL l) l.length (List.range l.length)).getD v 0 = m)) (l := List.range l.length)
    rw [List.length_range] at this
    omega
end
end Go.Proofs.YtajpfkenhchafaaDoor

/- Layer 21's mathematics: the wave of each member, and the plan. -/
namespace Go.Proofs.YtajpfkenhchafaaDoor
open Go.RowKit
set_option linter.unusedVariables false

/-- The greatest wave behind those of the first k that are in member i's way, the waves of all ahead being ws. -/
def nxK (l : List RwD) (ws : List Nat) (i : Nat) : Nat → Nat
  | 0 => 0
  | k + 1 => if adjB l k i = true then max (nxK l ws i k) (ws.getD k 0 + 1) else nxK l ws i k

/-- The waves of the first m. -/
def wvN (l : List RwD) : Nat → List Nat
  | 0 => []
  | m + 1 => wvN l m ++ [nxK l (wvN l m) m m]

theorem wvN_length (l : List RwD) : ∀ m, (wvN l m).length = m
  | 0 => rfl
  | m + 1 => by
    show (wvN l m ++ [_]).length = _
    rw [List.length_append, List.length_singleton, wvN_length l m]

/-- The wave of member i. -/
def wv (l : List RwD) (i : Nat) : Nat := nxK l (wvN l i) i i

theorem wvN_get (l : List RwD) : ∀ {m i : Nat}, i < m → (wvN l m)[i]? = some (wv l i)
  | 0, i, h => by omega
  | m + 1, i, h => by
    show (wvN l m ++ [_])[i]? = _
    by_cases e : i = m
    · subst e
      rw [List.getElem?_append_right (by rw [wvN_length]; exact Nat.le_refl _), wvN_length, Nat.sub_self]
      rfl
    · rw [List.getElem?_append_left (by rw [wvN_length]; omega)]
      exact wvN_get l (by omega)

theorem wvN_getD (l : List RwD) {m i : Nat} (h : i < m) : (wvN l m).getD i 0 = wv l i := by
  rw [List.getD_eq_getElem?_getD, wvN_get l h]
  rfl

theorem wvN_take (l : List RwD) : ∀ {m k : Nat}, k ≤ m → (wvN l m).take k = wvN l k
  | 0, k, h => by
    obtain rfl : k = 0 := by omega
    rfl
  | m + 1, k, h => by
    by_cases e : k = m + 1
    · subst e
      rw [List.take_of_length_le (by rw [wvN_length]; exact Nat.le_refl _)]
    · show (wvN l m ++ [_]).take k = _
      rw [List.take_append_of_le_length (by rw [wvN_length]; omega), wvN_take l (by omega)]

theorem nxK_ge {l : List RwD} {ws : List Nat} {i : Nat} : ∀ {m k : Nat}, k < m → adjB l k i = true → ws.getD k 0 + 1 ≤ nxK l ws i m
  | 0, k, h, _ => by omega
  | m + 1, k, h, ha => by
    unfold nxK
    by_cases e : k = m
    · subst e
      rw [if_pos ha]
      omega
    · have := nxK_ge (ws := ws) (show k < m by omega) ha
      split
      · omega
      · exact this

theorem nxK_ex {l : List RwD} {ws : List Nat} {i : Nat} : ∀ {m : Nat}, nxK l ws i m = 0 ∨ ∃ k, k < m ∧ adjB l k i = true ∧ ws.getD k 0 + 1 = nxK l ws i m
  | 0 => Or.inl rfl
  | m + 1 => by
    unfold nxK
    by_cases ha : adjB l m i = true
    · rw [if_pos ha]
      rcases Nat.le_total (nxK l ws i m) (ws.getD m 0 + 1) with h | h
      · rw [Nat.max_eq_right h]
        exact Or.inr ⟨m, by omega, ha, rfl⟩
      · rw [Nat.max_eq_left h]
        rcases nxK_ex (l := l) (ws := ws) (i := i) (m := m) with h2 | ⟨k, h2, h3, h4⟩
        · exact Or.inl h2
        · exact Or.inr ⟨k, by omega, h3, h4⟩
    · rw [if_neg ha]
      rcases nxK_ex (l := l) (ws := ws) (i := i) (m := m) with h2 | ⟨k, h2, h3, h4⟩
      · exact Or.inl h2
      · exact Or.inr ⟨k, by omega, h3, h4⟩

/-- Of two in each other's way the later one has the later wave. -/
theorem wv_lt {l : List RwD} {k i : Nat} (h : k < i) (ha : adjB l k i = true) : wv l k < wv l i := by
  have h1 := nxK_ge (ws := wvN l i) h ha
  rw [wvN_getD l h] at h1
  exact h1

/-- Each wave but the first has one of the wave ahead in its way. -/
theorem wv_ex {l : List RwD} {i : Nat} (h : 0 < wv l i) : ∃ k, k < i ∧ adjB l k i = true ∧ wv l k + 1 = wv l i := by
  rcases nxK_ex (l := l) (ws := wvN l i) (i := i) (m := i) with h1 | ⟨k, h1, h2, h3⟩
  · have e : wv l i = 0 := h1
    omega
  · rw [wvN_getD l h1] at h3
    exact ⟨k, h1, h2, h3⟩

theorem wv_le (l : List RwD) (i : Nat) : wv l i ≤ i := by
  induction i using Nat.strongRecOn with
  | ind i ih =>
    rcases Nat.eq_zero_or_pos (wv l i) with h | h
    · omega
    · obtain ⟨k, h1, _, h3⟩ := wv_ex h
      have := ih k h1
      omega

/-- Members of one wave are not in each other's way. -/
theorem wv_apart {l : List RwD} {k i : Nat} (h : k < i) (e : wv l k = wv l i) : adjB l k i = false := by
  cases ha : adjB l k i with
  | false => rfl
  | true => have := wv_lt h ha; omega

/-- The waves of a beginning are those of the whole. -/
theorem wv_front {l : List RwD} {n : Nat} : ∀ i, i < n → wv (l.take n) i = wv l i := by
  intro i
  induction i using Nat.strongRecOn with
  | ind i ih =>
    intro hi
    have hadj : ∀ k, k < n → adjB (l.take n) k i = adjB l k i := fun k hk => by
      unfold adjB
      rw [List.getElem?_take_of_lt hi, List.getElem?_take_of_lt hk]
    have key : ∀ m, m ≤ i → nxK (l.take n) (wvN (l.take n) i) i m = nxK l (wvN l i) i m := by
      intro m
      induction m with
      | zero => intro _; rfl
      | succ m ihm =>
        intro hm
        unfold nxK
        rw [hadj m (by omega), ihm (by omega), wvN_getD _ (show m < i by omega), wvN_getD _ (show m < i by omega), ih m (by omega) (by omega)]
    exact key i (Nat.le_refl _)

/-- How many waves the first m have. -/
def nwN (l : List RwD) : Nat → Nat
  | 0 => 0
  | m + 1 => max (nwN l m) (wv l m + 1)

theorem nwN_gt {l : List RwD} : ∀ {m i : Nat}, i < m → wv l i < nwN l m
  | 0, i, h => by omega
  | m + 1, i, h => by
    unfold nwN
    by_cases e : i = m
    · subst e; omega
    · have := nwN_gt (l := l) (show i < m by omega)
      omega

theorem nwN_le (l : List RwD) : ∀ m, nwN l m ≤ m
  | 0 => Nat.le_refl _
  | m + 1 => by
    unfold nwN
    have := nwN_le l m
    have := wv_le l m
    omega

/-- Each wave has a member. -/
theorem nwN_ex {l : List RwD} : ∀ {m w : Nat}, w < nwN l m → ∃ i, i < m ∧ wv l i = w
  | 0, w, h => by simp [nwN] at h
  | m + 1, w, h => by
    unfold nwN at h
    by_cases h1 : w < nwN l m
    · obtain ⟨i, h2, h3⟩ := nwN_ex h1
      exact ⟨i, by omega, h3⟩
    · by_cases h2 : w = wv l m
      · exact ⟨m, by omega, h2.symm⟩
      · have h3 : w < wv l m := by omega
        obtain ⟨k, q1, _, q3⟩ := wv_ex (show 0 < wv l m by omega)
        have := nwN_gt (l := l) q1
        omega

/-- A wave's members among the first m. -/
def waveL (l : List RwD) (m w : Nat) : List Nat := (List.range m).filter (fun i => decide (wv l i = w))

theorem waveL_succ (l : List RwD) (m w : Nat) : waveL l (m + 1) w = waveL l m w ++ (if wv l m = w then [m] else []) := by
  unfold waveL
  rw [List.range_succ, List.filter_append]
  congr 1
  by_cases h : wv l m = w
  · rw [if_pos h, List.filter_cons_of_pos (by simpa using h)]; rfl
  · rw [if_neg h, List.filter_cons_of_neg (by simpa using h)]; rfl

theorem waveL_mem {l : List RwD} {m w i : Nat} : i ∈ waveL l m w ↔ i < m ∧ wv l i = w := by
  unfold waveL
  rw [List.mem_filter, List.mem_range, decide_eq_true_iff]

/-- The plan of the first m. -/
def planN (l : List RwD) (m : Nat) : List (List Nat) := (List.range (nwN l m)).map (waveL l m)

theorem planN_length (l : List RwD) (m : Nat) : (planN l m).length = nwN l m := by simp [planN]

theorem planN_get {l : List RwD} {m w : Nat} (h : w < nwN l m) : (planN l m)[w]? = some (waveL l m w) := by
  unfold planN
  rw [List.getElem?_map, List.getElem?_range h]
  rfl

/-- One more member is put to its wave: first there is made room. -/
def roomTo (p : List (List Nat)) (n : Nat) : List (List Nat) := p ++ List.replicate (n - p.length) []

theorem planN_succ (l : List RwD) (m : Nat) : planN l (m + 1) = (roomTo (planN l m) (wv l m + 1)).set (wv l m) (waveL l m (wv l m) ++ [m]) := by
  have hl : (roomTo (planN l m) (wv l m + 1)).length = nwN l (m + 1) := by
    unfold roomTo
    rw [List.length_append, List.length_replicate, planN_length]
    show _ = max (nwN l m) (wv l m + 1)
    omega
  apply List.ext_getElem?
  intro w
  by_cases hw : w < nwN l (m + 1)
  · rw [planN_get hw, waveL_succ, List.getElem?_set]
    by_cases e : wv l m = w
    · rw [if_pos e, if_pos e, if_pos (by rw [hl, e]; exact hw), e]
    · rw [if_neg e, if_neg e, List.append_nil]
      unfold roomTo
      by_cases h1 : w < nwN l m
      · rw [List.getElem?_append_left (by rw [planN_length]; exact h1), planN_get h1]
      · have h2 : w < wv l m := by
          have : w < max (nwN l m) (wv l m + 1) := hw
          omega
        have h3 := nwN_ex (l := l) (m := m + 1) (w := w) hw
        obtain ⟨i, h4, h5⟩ := h3
        by_cases e2 : i = m
        · subst e2; exact absurd h5 e
        · have := nwN_gt (l := l) (show i < m by omega)
          omega
  · rw [List.getElem?_eq_none (by rw [planN_length]; omega), List.getElem?_eq_none (by rw [List.length_set, hl]; omega)]
end Go.Proofs.YtajpfkenhchafaaDoor

/- Layer 21's mathematics: what Check tells of a plan. -/
namespace Go.Proofs.YtajpfkenhchafaaDoor
open Go.RowKit
set_option linter.unusedVariables false

/-- One number is marked with its wave; or what is told of it. -/
def mark1 (n w : Nat) (m : List Nat) (x : Int) : Except Nat (List Nat) :=
  if x < 0 ∨ (n : Int) ≤ x then .error 2 else if 0 < m.getD x.toNat 0 then .error 13 else .ok (m.set x.toNat (w + 1))

def markR (n w : Nat) : List Nat → List Int → Except Nat (List Nat)
  | m, [] => .ok m
  | m, x :: r => match mark1 n w m x with
    | .error e => .error e
    | .ok m' => markR n w m' r

def markP (n : Nat) : Nat → List Nat → List (List Int) → Except Nat (List Nat)
  | _, m, [] => .ok m
  | w, m, r :: p => match markR n w m r with
    | .error e => .error e
    | .ok m' => markP n (w + 1) m' p

/-- What is told of the marks, all numbers being marked. -/
def chkM (l : List RwD) (m : List Nat) : Nat :=
  if m.any (fun x => decide (x = 0)) = true then 12
  else if (edgesL l).any (fun e => decide (m.getD e.1 0 = m.getD e.2 0)) = true then 15
  else if (edgesL l).any (fun e => decide (m.getD e.2 0 < m.getD e.1 0)) = true then 9 else 0

/-- What is told of a plan. -/
def chkN (l : List RwD) (p : List (List Int)) : Nat := match markP l.length 0 (List.replicate l.length 0) p with
  | .error e => e
  | .ok m => chkM l m

theorem markR_cons (n w : Nat) (m : List Nat) (x : Int) (r : List Int) : markR n w m (x :: r) = (match mark1 n w m x with
    | .error e => .error e
    | .ok m' => markR n w m' r) := rfl

theorem markP_cons (n w : Nat) (m : List Nat) (r : List Int) (p : List (List Int)) : markP n w m (r :: p) = (match markR n w m r with
    | .error e => .error e
    | .ok m' => markP n (w + 1) m' p) := rfl

theorem markR_append {n w : Nat} : ∀ {a b : List Int} {m : List Nat}, markR n w m (a ++ b) = (match markR n w m a with | .error e => .error e | .ok m' => markR n w m' b)
  | [], b, m => rfl
  | x :: a, b, m => by
    rw [List.cons_append, markR_cons, markR_cons]
    cases mark1 n w m x with
    | error e => rfl
    | ok m' => exact markR_append

theorem markP_append {n : Nat} : ∀ {a b : List (List Int)} {w : Nat} {m : List Nat}, markP n w m (a ++ b) = (match markP n w m a with | .error e => .error e | .ok m' => markP n (w + a.length) m' b)
  | [], b, w, m => rfl
  | r :: a, b, w, m => by
    rw [List.cons_append, markP_cons, markP_cons]
    cases markR n w m r with
    | error e => rfl
    | ok m' =>
      show markP n (w + 1) m' (a ++ b) = _
      rw [markP_append, List.length_cons, show w + 1 + a.length = w + (a.length + 1) by omega]

theorem markR_step {n w i : Nat} {r : List Int} {m m1 : List Nat} {x : Int} (h : markR n w m (r.take i) = .ok m1) (hx : r[i]? = some x) : markR n w m (r.take (i + 1)) = mark1 n w m1 x := by
  rw [List.take_add_one, hx, markR_append, h]
  show markR n w m1 [x] = _
  rw [markR_cons]
  cases mark1 n w m1 x <;> rfl

theorem markR_err {n w i : Nat} {r : List Int} {m : List Nat} {e : Nat} (h : markR n w m (r.take i) = .error e) : markR n w m r = .error e := by
  rw [← List.take_append_drop i r, markR_append, h]

theorem markP_step {n i : Nat} {p : List (List Int)} {m m1 : List Nat} {r : List Int} (h : markP n 0 m (p.take i) = .ok m1) (hx : p[i]? = some r) : markP n 0 m (p.take (i + 1)) = markR n i m1 r := by
  have hi : i < p.length := (List.getElem?_eq_some_iff.1 hx).1
  rw [List.take_add_one, hx, markP_append, h]
  show markP n (0 + (p.take i).length) m1 [r] = _
  rw [List.length_take, Nat.min_eq_left (by omega), Nat.zero_add]
  rw [markP_cons]
  cases markR n i m1 r <;> rfl

theorem markP_err {n i : Nat} {p : List (List Int)} {m : List Nat} {e : Nat} (h : markP n 0 m (p.take i) = .error e) : markP n 0 m p = .error e := by
  rw [← List.take_append_drop i p, markP_append, h]

theorem mark1_length {n w : Nat} {m m1 : List Nat} {x : Int} (h : mark1 n w m x = .ok m1) : m1.length = m.length := by
  unfold mark1 at h
  split at h
  · cases h
  · split at h
    · cases h
    · injection h with h
      rw [← h, List.length_set]

theorem markR_length {n w : Nat} : ∀ {r : List Int} {m m1 : List Nat}, markR n w m r = .ok m1 → m1.length = m.length
  | [], m, m1, h => by
    unfold markR at h
    injection h with h
    rw [h]
  | x :: r, m, m1, h => by
    unfold markR at h
    cases h2 : mark1 n w m x with
    | error e => rw [h2] at h; cases h
    | ok m' =>
      rw [h2] at h
      rw [markR_length h, mark1_length h2]

theorem markP_length {n : Nat} : ∀ {p : List (List Int)} {w : Nat} {m m1 : List Nat}, markP n w m p = .ok m1 → m1.length = m.length
  | [], w, m, m1, h => by
    unfold markP at h
    injection h with h
    rw [h]
  | r :: p, w, m, m1, h => by
    unfold markP at h
    cases h2 : markR n w m r with
    | error e => rw [h2] at h; cases h
    | ok m' =>
      rw [h2] at h
      rw [markP_length h, markR_length h2]

theorem mark1_ok {n w x : Nat} {m : List Nat} (hx : x < n) (h0 : m.getD x 0 = 0) : mark1 n w m (x : Int) = .ok (m.set x (w + 1)) := by
  unfold mark1
  rw [if_neg (by omega), Int.toNat_natCast, if_neg (by rw [h0]; omega)]

theorem mark1_twice {n w x : Nat} {m : List Nat} (hx : x < n) (h0 : 0 < m.getD x 0) : mark1 n w m (x : Int) = .error 13 := by
  unfold mark1
  rw [if_neg (by omega), Int.toNat_natCast, if_pos h0]

theorem getD_set_same {m : List Nat} {x v : Nat} (h : x < m.length) : (m.set x v).getD x 0 = v := by
  rw [List.getD_eq_getElem?_getD, List.getElem?_set_self h]
  rfl

theorem getD_set_else {m : List Nat} {x y v : Nat} (h : x ≠ y) : (m.set x v).getD y 0 = m.getD y 0 := by
  rw [List.getD_eq_getElem?_getD, List.getElem?_set_ne h, List.getD_eq_getElem?_getD]

def rowI (q : List Nat) : List Int := q.map Int.ofNat

/-- Numbers that stand in no wave yet, each once, are marked. -/
theorem markR_ok {n w : Nat} : ∀ {q m : List Nat}, m.length = n → q.Nodup → (∀ x ∈ q, x < n) → (∀ x ∈ q, m.getD x 0 = 0) →
    ∃ m', markR n w m (rowI q) = .ok m' ∧ m'.length = n ∧ (∀ x ∈ q, m'.getD x 0 = w + 1) ∧ ∀ x, x ∉ q → m'.getD x 0 = m.getD x 0
  | [], m, hm, _, _, _ => ⟨m, rfl, hm, fun x hx => (by cases hx), fun x _ => rfl⟩
  | y :: q, m, hm, hn, hr, h0 => by
    obtain ⟨hy, hn'⟩ := List.nodup_cons.1 hn
    have hyn := hr y (List.mem_cons_self ..)
    obtain ⟨m', q1, q2, q3, q4⟩ := markR_ok (w := w) (q := q) (m := m.set y (w + 1)) (by rw [List.length_set]; exact hm) hn'
      (fun x hx => hr x (List.mem_cons_of_mem _ hx))
      (fun x hx => by
        rw [getD_set_else (fun e => hy (by rw [e]; exact hx))]
        exact h0 x (List.mem_cons_of_mem _ hx))
    refine ⟨m', ?_, q2, ?_, ?_⟩
    · show markR n w m ((y : Int) :: rowI q) = _
      unfold markR
      rw [mark1_ok hyn (h0 y (List.mem_cons_self ..))]
      exact q1
    · intro x hx
      rcases List.mem_cons.1 hx with rfl | hx
      · rw [q4 _ hy, getD_set_same (by omega)]
      · exact q3 x hx
    · intro x hx
      rw [q4 x (fun h => hx (List.mem_cons_of_mem _ h)), getD_set_else (fun e => hx (by rw [e]; exact List.mem_cons_self ..))]

def planI (p : List (List Nat)) : List (List Int) := p.map rowI

/-- A plan with each number once, all in range, is marked. -/
theorem markP_ok {n : Nat} : ∀ {p : List (List Nat)} {w : Nat} {m : List Nat}, m.length = n → p.flatten.Nodup → (∀ x ∈ p.flatten, x < n) → (∀ x ∈ p.flatten, m.getD x 0 = 0) →
    ∃ m', markP n w m (planI p) = .ok m' ∧ m'.length = n ∧ (∀ k q, p[k]? = some q → ∀ x ∈ q, m'.getD x 0 = w + k + 1) ∧ ∀ x, x ∉ p.flatten → m'.getD x 0 = m.getD x 0
  | [], w, m, hm, _, _, _ => ⟨m, rfl, hm, fun k q h => (by simp at h), fun x _ => rfl⟩
  | r :: p, w, m, hm, hn, hr, h0 => by
    rw [List.flatten_cons] at hn hr h0
    obtain ⟨n1, n2, n3⟩ := List.nodup_append.1 hn
    obtain ⟨m1, a1, a2, a3, a4⟩ := markR_ok (n := n) (w := w) hm n1 (fun x hx => hr x (List.mem_append_left _ hx)) (fun x hx => h0 x (List.mem_append_left _ hx))
    obtain ⟨m2, b1, b2, b3, b4⟩ := markP_ok (n := n) (p := p) (w := w + 1) (m := m1) a2 n2 (fun x hx => hr x (List.mem_append_right _ hx))
      (fun x hx => by
        rw [a4 x (fun h => n3 x h x hx rfl)]
        exact h0 x (List.mem_append_right _ hx))
    refine ⟨m2, ?_, b2, ?_, ?_⟩
    · show markP n w m (rowI r :: planI p) = _
      unfold markP
      rw [a1]
      exact b1
    · intro k q hk x hx
      cases k with
      | zero =>
        obtain rfl : r = q := by simpa using hk
        rw [b4 x (fun h => n3 x hx x h rfl), a3 x hx]
      | succ k =>
        rw [b3 k q (by simpa using hk) x hx]
        omega
    · intro x hx
      rw [List.flatten_cons, List.mem_append, not_or] at hx
      rw [b4 x hx.2, a4 x hx.1]

theorem getD_zeros (n x : Nat) : (List.replicate n 0).getD x 0 = 0 := by
  rw [List.getD_eq_getElem?_getD, List.getElem?_replicate]
  split <;> rfl

/-- The plan's members. -/
theorem plan_flat {l : List RwD} {m x : Nat} : x ∈ (planN l m).flatten ↔ x < m := by
  rw [List.mem_flatten]
  constructor
  · rintro ⟨q, hq, hx⟩
    obtain ⟨w, _, rfl⟩ := List.mem_map.1 hq
    exact (waveL_mem.1 hx).1
  · intro h
    exact ⟨waveL l m (wv l x), List.mem_map.2 ⟨wv l x, List.mem_range.2 (nwN_gt h), rfl⟩, waveL_mem.2 ⟨h, rfl⟩⟩

theorem waveL_nodup (l : List RwD) (m w : Nat) : (waveL l m w).Nodup := List.Pairwise.filter _ List.nodup_range

theorem plan_apart (l : List RwD) (m : Nat) : (planN l m).Pairwise (fun a b => ∀ x ∈ a, ∀ y ∈ b, x ≠ y) := by
  unfold planN
  rw [List.pairwise_map]
  refine List.Pairwise.imp ?_ List.pairwise_lt_range
  intro a b hab x hx y hy e
  subst e
  have := (waveL_mem.1 hx).2
  have := (waveL_mem.1 hy).2
  omega

theorem plan_nodup (l : List RwD) (m : Nat) : (planN l m).flatten.Nodup := by
  refine List.pairwise_flatten.2 ⟨?_, plan_apart l m⟩
  intro q hq
  obtain ⟨w, _, rfl⟩ := List.mem_map.1 hq
  exact waveL_nodup l m w

/-- All that chkM asks. -/
theorem chkM_ok {l : List RwD} {m : List Nat} (hm : m.length = l.length) (h1 : ∀ x, x < l.length → m.getD x 0 ≠ 0) (h2 : ∀ i k, i < k → adjB l i k = true → m.getD i 0 < m.getD k 0) : chkM l m = 0 := by
  unfold chkM
  rw [if_neg, if_neg, if_neg]
  · intro h
    obtain ⟨⟨i, k⟩, he, h⟩ := List.any_eq_true.1 h
    obtain ⟨q1, q2⟩ := edgesL_mem.1 he
    have := h2 i k q1 q2
    have : m.getD k 0 < m.getD i 0 := of_decide_eq_true h
    omega
  · intro h
    obtain ⟨⟨i, k⟩, he, h⟩ := List.any_eq_true.1 h
    obtain ⟨q1, q2⟩ := edgesL_mem.1 he
    have := h2 i k q1 q2
    have : m.getD i 0 = m.getD k 0 := of_decide_eq_true h
    omega
  · intro h
    obtain ⟨v, hv, h⟩ := List.any_eq_true.1 h
    obtain ⟨x, hx, e⟩ := List.mem_iff_getElem.1 hv
    refine h1 x (by omega) ?_
    rw [List.getD_eq_getElem?_getD, List.getElem?_eq_getElem hx, e]
    exact of_decide_eq_true h

theorem chkM_few {l : List RwD} {m : List Nat} {x : Nat} (hx : x < m.length) (h : m.getD x 0 = 0) : chkM l m = 12 := by
  unfold chkM
  rw [if_pos]
  refine List.any_eq_true.2 ⟨m[x], List.getElem_mem hx, decide_eq_true ?_⟩
  rw [List.getD_eq_getElem?_getD, List.getElem?_eq_getElem hx] at h
  exact h

theorem chkM_order {l : List RwD} {m : List Nat} (hm : m.length = l.length) (h1 : ∀ x, x < l.length → m.getD x 0 ≠ 0) (h2 : ∀ i k, i < k → adjB l i k = true → m.getD i 0 ≠ m.getD k 0) {i k : Nat} (hik : i < k) (ha : adjB l i k = true) (hb : m.getD k 0 < m.getD i 0) : chkM l m = 9 := by
  unfold chkM
  rw [if_neg, if_neg, if_pos]
  · exact List.any_eq_true.2 ⟨(i, k), edgesL_mem.2 ⟨hik, ha⟩, decide_eq_true hb⟩
  · intro h
    obtain ⟨⟨i, k⟩, he, h⟩ := List.any_eq_true.1 h
    obtain ⟨q1, q2⟩ := edgesL_mem.1 he
    exact h2 i k q1 q2 (of_decide_eq_true h)
  · intro h
    obtain ⟨v, hv, h⟩ := List.any_eq_true.1 h
    obtain ⟨x, hx, e⟩ := List.mem_iff_getElem.1 hv
    refine h1 x (by omega) ?_
    rw [List.getD_eq_getElem?_getD, List.getElem?_eq_getElem hx, e]
    exact of_decide_eq_true h

/-- 21.3: the plan is right. -/
theorem chk_plan (l : List RwD) : chkN l (planI (planN l l.length)) = 0 := by
  obtain ⟨m, h1, h2, h3, _⟩ := markP_ok (n := l.length) (p := planN l l.length) (w := 0) (m := List.replicate l.length 0) (by rw [List.length_replicate]) (plan_nodup ..)
    (fun x hx => plan_flat.1 hx) (fun x _ => getD_zeros _ _)
  have hat : ∀ x, x < l.length → m.getD x 0 = wv l x + 1 := fun x hx => by
    rw [h3 (wv l x) _ (planN_get (nwN_gt hx)) x (waveL_mem.2 ⟨hx, rfl⟩)]
    omega
  unfold chkN
  rw [h1]
  refine chkM_ok h2 (fun x hx => by rw [hat x hx]; omega) (fun i k hik ha => ?_)
  obtain ⟨q1, q2⟩ := adjB_lt ha
  rw [hat i q1, hat k q2]
  have := wv_lt hik ha
  omega

/-- A wave's first member taken away: too few. -/
theorem chk_few {l : List RwD} {i y : Nat} {q : List Nat} (h : (planN l l.length)[i]? = some (y :: q)) : chkN l (planI ((planN l l.length).set i q)) = 12 := by
  have hi : i < (planN l l.length).length := (List.getElem?_eq_some_iff.1 h).1
  have hspl : planN l l.length = (planN l l.length).take i ++ (y :: q) :: (planN l l.length).drop (i + 1) := by
    rw [← (List.getElem?_eq_some_iff.1 h).2, ← List.drop_eq_getElem_cons hi, List.take_append_drop]
  have hset : (planN l l.length).set i q = (planN l l.length).take i ++ q :: (planN l l.length).drop (i + 1) := by
    rw [List.set_eq_take_append_cons_drop, if_pos hi]
  have hnd := plan_nodup l l.length
  rw [hspl, List.flatten_append, List.flatten_cons, List.cons_append] at hnd
  obtain ⟨n1, n2, n3⟩ := List.nodup_append.1 hnd
  obtain ⟨hy2, n4⟩ := List.nodup_cons.1 n2
  have hnd3 : (((planN l l.length).take i).flatten ++ (q ++ ((planN l l.length).drop (i + 1)).flatten)).Nodup :=
    List.nodup_append.2 ⟨n1, n4, fun a ha b hb => n3 a ha b (List.mem_cons_of_mem _ hb)⟩
  have hy : y ∉ ((planN l l.length).take i).flatten ++ (q ++ ((planN l l.length).drop (i + 1)).flatten) := fun h => by
    rcases List.mem_append.1 h with h | h
    · exact n3 y h y (List.mem_cons_self ..) rfl
    · exact hy2 h
  have hfl : ((planN l l.length).set i q).flatten = ((planN l l.length).take i).flatten ++ (q ++ ((planN l l.length).drop (i + 1)).flatten) := by
    rw [hset, List.flatten_append, List.flatten_cons]
  rw [← hfl] at hy hnd3
  have hyn : y < l.length := plan_flat.1 (List.mem_flatten.2 ⟨_, List.mem_of_getElem? h, List.mem_cons_self ..⟩)
  obtain ⟨m, h1, h2, h3, h4⟩ := markP_ok (n := l.length) (p := (planN l l.length).set i q) (w := 0) (m := List.replicate l.length 0) (by rw [List.length_replicate]) hnd3
    (fun x hx => by
      refine plan_flat.1 (?_ : x ∈ (planN l l.length).flatten)
      rw [hspl, List.flatten_append, List.flatten_cons, List.cons_append]
      rw [hfl, List.mem_append] at hx
      rw [List.mem_append]
      exact hx.imp id (List.mem_cons_of_mem _))
    (fun x _ => getD_zeros _ _)
  unfold chkN
  rw [h1]
  exact chkM_few (by rw [h2]; exact hyn) (by rw [h4 y hy, getD_zeros])

/-- A number twice in its wave is told. -/
theorem chk_twice {l : List RwD} {i y : Nat} {q : List Nat} (h : (planN l l.length)[i]? = some (y :: q)) : chkN l (planI ((planN l l.length).set i (y :: q ++ [y]))) = 13 := by
  have hi : i < (planN l l.length).length := (List.getElem?_eq_some_iff.1 h).1
  have hspl : planN l l.length = (planN l l.length).take i ++ (y :: q) :: (planN l l.length).drop (i + 1) := by
    rw [← (List.getElem?_eq_some_iff.1 h).2, ← List.drop_eq_getElem_cons hi, List.take_append_drop]
  have hset : (planN l l.length).set i (y :: q ++ [y]) = (planN l l.length).take i ++ (y :: q ++ [y]) :: (planN l l.length).drop (i + 1) := by
    rw [List.set_eq_take_append_cons_drop, if_pos hi]
  have hnd := plan_nodup l l.length
  have hall := fun x => (plan_flat (l := l) (m := l.length) (x := x)).1
  rw [hspl, List.flatten_append, List.flatten_cons] at hnd hall
  obtain ⟨n1, n2, n3⟩ := List.nodup_append.1 hnd
  obtain ⟨n4, n5, n6⟩ := List.nodup_append.1 n2
  obtain ⟨m1, a1, a2, a3, a4⟩ := markP_ok (n := l.length) (p := (planN l l.length).take i) (w := 0) (m := List.replicate l.length 0) (by rw [List.length_replicate]) n1
    (fun x hx => hall x (List.mem_append_left _ hx)) (fun x _ => getD_zeros _ _)
  obtain ⟨m2, b1, b2, b3, b4⟩ := markR_ok (n := l.length) (w := i) (q := y :: q) (m := m1) a2 n4
    (fun x hx => hall x (List.mem_append_right _ (List.mem_append_left _ hx)))
    (fun x hx => by
      rw [a4 x (fun h => n3 x h x (List.mem_append_left _ hx) rfl), getD_zeros])
  have key : markP l.length 0 (List.replicate l.length 0) (planI ((planN l l.length).set i (y :: q ++ [y]))) = .error 13 := by
    rw [hset]
    unfold planI at a1 ⊢
    rw [List.map_append, markP_append, a1, List.map_cons, List.length_map, List.length_take, Nat.min_eq_left (by omega), Nat.zero_add]
    show markP l.length i m1 (rowI (y :: q ++ [y]) :: _) = _
    unfold markP
    have e : markR l.length i m1 (rowI (y :: q ++ [y])) = .error 13 := by
      unfold rowI at b1 ⊢
      rw [List.map_append, markR_append, b1]
      show markR l.length i m2 [(y : Int)] = _
      unfold markR
      rw [mark1_twice (hall y (List.mem_append_right _ (List.mem_append_left _ (List.mem_cons_self ..)))) (by rw [b3 y (List.mem_cons_self ..)]; omega)]
    rw [e]
  unfold chkN
  rw [key]

/-- The waves turned: right if there is one only, else not in order. -/
theorem chk_turned (l : List RwD) : chkN l (planI (planN l l.length).reverse) = if nwN l l.length ≤ 1 then 0 else 9 := by
  have hnd : ((planN l l.length).reverse).flatten.Nodup := by
    refine List.pairwise_flatten.2 ⟨?_, ?_⟩
    · intro q hq
      obtain ⟨w, _, rfl⟩ := List.mem_map.1 (List.mem_reverse.1 hq)
      exact waveL_nodup l _ w
    · rw [List.pairwise_reverse]
      exact List.Pairwise.imp (fun h x hx y hy e => h y hy x hx e.symm) (plan_apart l l.length)
  have hfl : ∀ x, x ∈ ((planN l l.length).reverse).flatten → x < l.length := fun x hx => by
    obtain ⟨q, hq, h⟩ := List.mem_flatten.1 hx
    exact plan_flat.1 (List.mem_flatten.2 ⟨q, List.mem_reverse.1 hq, h⟩)
  obtain ⟨m, h1, h2, h3, _⟩ := markP_ok (n := l.length) (p := (planN l l.length).reverse) (w := 0) (m := List.replicate l.length 0) (by rw [List.length_replicate]) hnd
    hfl (fun x _ => getD_zeros _ _)
  have hat : ∀ x, x < l.length → m.getD x 0 + wv l x = nwN l l.length := fun x hx => by
    have hw := nwN_gt (l := l) hx
    have hg : (planN l l.length).reverse[nwN l l.length - 1 - wv l x]? = some (waveL l l.length (wv l x)) := by
      rw [List.getElem?_reverse (by rw [planN_length]; omega), planN_length, show nwN l l.length - 1 - (nwN l l.length - 1 - wv l x) = wv l x by omega, planN_get hw]
    rw [h3 _ _ hg x (waveL_mem.2 ⟨hx, rfl⟩)]
    omega
  have hnz : ∀ x, x < l.length → m.getD x 0 ≠ 0 := fun x hx => by
    have := hat x hx
    have := nwN_gt (l := l) hx
    omega
  unfold chkN
  rw [h1]
  by_cases hn : nwN l l.length ≤ 1
  · rw [if_pos hn]
    refine chkM_ok h2 hnz (fun i k hik ha => ?_)
    have := wv_lt hik ha
    have := nwN_gt (l := l) (adjB_lt ha).2
    omega
  · rw [if_neg hn]
    obtain ⟨k, hk, e⟩ := nwN_ex (l := l) (m := l.length) (w := 1) (by omega)
    obtain ⟨i, hik, ha, e2⟩ := wv_ex (l := l) (i := k) (by omega)
    refine chkM_order h2 hnz (fun i k hik ha => ?_) hik ha ?_
    · have := wv_lt hik ha
      have := hat i (adjB_lt ha).1
      have := hat k (adjB_lt ha).2
      omega
    · have := hat i (adjB_lt ha).1
      have := hat k (adjB_lt ha).2
      omega

/-- Where none is in another's way there is one wave. -/
theorem wv_free {l : List RwD} (h : ∀ i k, adjB l i k = false) (i : Nat) : wv l i = 0 := by
  rcases Nat.eq_zero_or_pos (wv l i) with e | e
  · exact e
  · obtain ⟨k, _, h2, _⟩ := wv_ex e
    rw [h] at h2
    cases h2

/-- Where each is in each other's way each has its own. -/
theorem wv_each {l : List RwD} (h : ∀ k, k + 1 < l.length → adjB l k (k + 1) = true) : ∀ i, i < l.length → wv l i = i
  | 0, _ => by have := wv_le l 0; omega
  | i + 1, hi => by
    have h1 := wv_each h i (by omega)
    have h2 := wv_lt (show i < i + 1 by omega) (h i hi)
    have := wv_le l (i + 1)
    omega

theorem adjB_same {n i k : Nat} {a : RwD} (hi : i < n) (hk : k < n) : adjB (List.replicate n a) i k = clashB a a :=
  adjB_some (by rw [List.getElem?_replicate, if_pos hi]) (by rw [List.getElem?_replicate, if_pos hk])

/-- Any number of one transaction that only reads. -/
theorem wv_reads {n i : Nat} {a : RwD} (h : clashB a a = false) : wv (List.replicate n a) i = 0 :=
  wv_free (fun i k => by
    cases e : adjB (List.replicate n a) i k with
    | false => rfl
    | true =>
      obtain ⟨q1, q2⟩ := adjB_lt e
      rw [List.length_replicate] at q1 q2
      rw [adjB_same q1 q2, h] at e
      cases e) i

/-- Any number of one transaction that writes. -/
theorem wv_writes {n i : Nat} {a : RwD} (h : clashB a a = true) (hi : i < n) : wv (List.replicate n a) i = i :=
  wv_each (fun k hk => by
    rw [List.length_replicate] at hk
    rw [adjB_same (by omega) hk, h]) i (by rw [List.length_replicate]; exact hi)

/-- Each wave of the plan has a member. -/
theorem plan_full {l : List RwD} {w : Nat} (h : w < nwN l l.length) : ∃ y q, (planN l l.length)[w]? = some (y :: q) := by
  obtain ⟨i, h1, h2⟩ := nwN_ex h
  have hm : i ∈ waveL l l.length w := waveL_mem.2 ⟨h1, h2⟩
  rw [planN_get h]
  cases e : waveL l l.length w with
  | nil => rw [e] at hm; cases hm
  | cons y q => exact ⟨y, q, rfl⟩

theorem nwN_pos {l : List RwD} {m : Nat} (h : 0 < m) : 0 < nwN l m := Nat.lt_of_le_of_lt (Nat.zero_le _) (nwN_gt (l := l) h)
end Go.Proofs.YtajpfkenhchafaaDoor

/- Layer 21's mathematics: what marks say of a plan. -/
namespace Go.Proofs.YtajpfkenhchafaaDoor
open Go.RowKit
set_option linter.unusedVariables false

theorem mark1_inv {n w : Nat} {m m1 : List Nat} {x : Int} (h : mark1 n w m x = .ok m1) : 0 ≤ x ∧ x < n ∧ m.getD x.toNat 0 = 0 ∧ m1 = m.set x.toNat (w + 1) := by
  unfold mark1 at h
  split at h
  · cases h
  · split at h
    · cases h
    · injection h with h
      exact ⟨by omega, by omega, by omega, h.symm⟩

theorem markR_inv {n w : Nat} : ∀ {r : List Int} {m m1 : List Nat}, m.length = n → markR n w m r = .ok m1 →
    (∀ x : Int, x ∈ r → 0 ≤ x ∧ x < n ∧ m.getD x.toNat 0 = 0 ∧ m1.getD x.toNat 0 = w + 1) ∧ r.Nodup ∧ ∀ y : Nat, (y : Int) ∉ r → m1.getD y 0 = m.getD y 0
  | [], m, m1, hm, h => by
    unfold markR at h
    injection h with h
    subst h
    exact ⟨fun x hx => (by cases hx), List.nodup_nil, fun y _ => rfl⟩
  | x :: r, m, m1, hm, h => by
    rw [markR_cons] at h
    cases h2 : mark1 n w m x with
    | error e => rw [h2] at h; cases h
    | ok m' =>
      rw [h2] at h
      obtain ⟨a1, a2, a3, rfl⟩ := mark1_inv h2
      obtain ⟨q1, q2, q3⟩ := markR_inv (by rw [List.length_set]; exact hm) h
      have hxl : x.toNat < m.length := by omega
      have hxr : x ∉ r := fun hx => by
        have := (q1 x hx).2.2.1
        rw [getD_set_same hxl] at this
        omega
      refine ⟨fun z hz => ?_, List.nodup_cons.2 ⟨hxr, q2⟩, fun y hy => ?_⟩
      · rcases List.mem_cons.1 hz with rfl | hz
        · refine ⟨a1, a2, a3, ?_⟩
          rw [q3 z.toNat (by rw [Int.toNat_of_nonneg a1]; exact hxr), getD_set_same hxl]
        · obtain ⟨b1, b2, b3, b4⟩ := q1 z hz
          refine ⟨b1, b2, ?_, b4⟩
          rw [getD_set_else (fun e => hxr (by have : x = z := by omega
                                              rw [this]; exact hz))] at b3
          exact b3
      · rw [List.mem_cons, not_or] at hy
        rw [q3 y hy.2, getD_set_else (fun e => hy.1 (by omega))]

theorem markP_inv {n : Nat} : ∀ {p : List (List Int)} {w : Nat} {m m1 : List Nat}, m.length = n → markP n w m p = .ok m1 →
    (∀ (k : Nat) (r : List Int), p[k]? = some r → (∀ x : Int, x ∈ r → 0 ≤ x ∧ x < n ∧ m1.getD x.toNat 0 = w + k + 1) ∧ r.Nodup) ∧
    (∀ y : Nat, m1.getD y 0 = m.getD y 0 ∨ (m.getD y 0 = 0 ∧ ∃ (k : Nat) (r : List Int), p[k]? = some r ∧ (y : Int) ∈ r ∧ m1.getD y 0 = w + k + 1))
  | [], w, m, m1, hm, h => by
    unfold markP at h
    injection h with h
    subst h
    exact ⟨fun k r hk => (by simp at hk), fun y => Or.inl rfl⟩
  | r :: p, w, m, m1, hm, h => by
    rw [markP_cons] at h
    cases h2 : markR n w m r with
    | error e => rw [h2] at h; cases h
    | ok m' =>
      rw [h2] at h
      obtain ⟨q1, q2, q3⟩ := markR_inv hm h2
      obtain ⟨p1, p2⟩ := markP_inv (by rw [markR_length h2]; exact hm) h
      refine ⟨fun k s hk => ?_, fun y => ?_⟩
      · cases k with
        | zero =>
          obtain rfl : r = s := by simpa using hk
          refine ⟨fun x hx => ?_, q2⟩
          obtain ⟨b1, b2, b3, b4⟩ := q1 x hx
          refine ⟨b1, b2, ?_⟩
          rcases p2 x.toNat with e | ⟨e, _⟩
          · rw [e, b4]
          · omega
        | succ k =>
          obtain ⟨c1, c2⟩ := p1 k s (by simpa using hk)
          refine ⟨fun x hx => ?_, c2⟩
          obtain ⟨b1, b2, b3⟩ := c1 x hx
          exact ⟨b1, b2, by rw [b3]; omega⟩
      · rcases p2 y with e | ⟨e, k, s, e1, e2, e3⟩
        · by_cases hy : (y : Int) ∈ r
          · obtain ⟨b1, b2, b3, b4⟩ := q1 _ hy
            rw [Int.toNat_natCast] at b3 b4
            exact Or.inr ⟨b3, 0, r, rfl, hy, by rw [e, b4]⟩
          · exact Or.inl (by rw [e, q3 y hy])
        · by_cases hy : (y : Int) ∈ r
          · obtain ⟨b1, b2, b3, b4⟩ := q1 _ hy
            rw [Int.toNat_natCast] at b4
            omega
          · rw [q3 y hy] at e
            exact Or.inr ⟨e, k + 1, s, by simpa using e1, e2, by rw [e3]; omega⟩

/-- What look found: each number stands in the row of its mark. -/
structure Marked (n : Nat) (P : List (List Int)) (m : List Nat) : Prop where
  len : m.length = n
  row : ∀ (k : Nat) (r : List Int), P[k]? = some r → (∀ x : Int, x ∈ r → 0 ≤ x ∧ x < n ∧ m.getD x.toNat 0 = k + 1) ∧ r.Nodup
  mem : ∀ y, y < n → ∃ (k : Nat) (r : List Int), P[k]? = some r ∧ (y : Int) ∈ r ∧ m.getD y 0 = k + 1

end Go.Proofs.YtajpfkenhchafaaDoor

/- The plain mathematics of layer wire: what a number's bytes are ('enc'), and that there are at most nine. No program is named here. -/
namespace Go.Proofs.YtajpfkenhchafaaDoor

def encF : Nat → Nat → List UInt8
  | 0, n => [UInt8.ofNat n]
  | k + 1, n => if n < 128 then [UInt8.ofNat n] else UInt8.ofNat (128 + n % 128) :: encF k (n / 128)

def enc (n : Nat) : List UInt8 := encF n n

theorem encF_fuel : ∀ (k j n : Nat), n ≤ k → n ≤ j → encF k n = encF j n
  | 0, 0, _, _, _ => rfl
  | 0, j + 1, n, h, _ => by
    have : n = 0 := by omega
    subst this
    simp [encF]
  | k + 1, 0, n, _, h => by
    have : n = 0 := by omega
    subst this
    simp [encF]
  | k + 1, j + 1, n, h1, h2 => by
    rw [encF, encF]
    by_cases h : n < 128
    · rw [if_pos h, if_pos h]
    · rw [if_neg h, if_neg h, encF_fuel k j (n / 128) (by omega) (by omega)]

def goInt (n : Int) : List UInt8 := if 0 ≤ n ∧ n ≤ 4611686018427387903 then enc n.toNat else []

theorem enc_small (n : Nat) (h : n < 128) : enc n = [UInt8.ofNat n] := by
  unfold enc
  cases n with
  | zero => rfl
  | succ m => rw [encF, if_pos h]
theorem enc_big (n : Nat) (h : 128 ≤ n) : enc n = UInt8.ofNat (128 + n % 128) :: enc (n / 128) := by
  unfold enc
  cases n with
  | zero => omega
  | succ m => rw [encF, if_neg (by omega), encF_fuel m ((m + 1) / 128) ((m + 1) / 128) (by omega) (by omega)]

theorem enc_length_le : ∀ (k n : Nat), n < 128 ^ (k + 1) → (enc n).length ≤ k + 1
  | 0, n, h => by rw [enc_small n (by simpa using h)]; simp
  | k + 1, n, h => by
    by_cases h1 : n < 128
    · rw [enc_small n h1]; simp
    · rw [enc_big n (by omega)]
      have : n / 128 < 128 ^ (k + 1) := by rw [Nat.pow_succ] at h; omega
      have := enc_length_le k (n / 128) this
      simp; omega

theorem enc_length_nine (n : Nat) (h : n ≤ 4611686018427387903) : (enc n).length ≤ 9 := enc_length_le 8 n (by omega)

theorem enc_length_pos (n : Nat) : 0 < (enc n).length := by
  by_cases h1 : n < 128
  · rw [enc_small n h1]; simp
  · rw [enc_big n (by omega)]; simp

theorem enc_mono : ∀ (a b : Nat), a ≤ b → (enc a).length ≤ (enc b).length := by
  intro a
  induction a using Nat.strongRecOn with
  | _ a ih =>
    intro b h
    by_cases h1 : a < 128
    · rw [enc_small a h1]
      exact enc_length_pos b
    · rw [enc_big a (by omega), enc_big b (by omega)]
      have := ih (a / 128) (by omega) (b / 128) (by omega)
      simp
      omega

theorem goInt_nat (n : Nat) (h : n ≤ 4611686018427387903) : goInt n = enc n := by
  rw [goInt, if_pos (by omega)]; simp

/-- The number at the front of bytes: what has been gathered, at which byte; the answer: the number, in how many bytes, the error. -/
def giGo : List UInt8 → Nat → Nat → Nat × Nat × Nat
  | [], _, _ => (0, 0, 1)
  | c :: r, acc, i =>
    if 128 ≤ c.toNat then (if i + 1 = 9 then (0, 0, 2) else giGo r (acc + c.toNat % 128 * 128 ^ i) (i + 1))
    else if 4611686018427387903 < acc + c.toNat % 128 * 128 ^ i then (0, 0, 2)
    else if c.toNat = 0 ∧ 1 < i + 1 then (0, 0, 3)
    else (acc + c.toNat % 128 * 128 ^ i, i + 1, 0)

def getInt (l : List UInt8) : Nat × Nat × Nat := giGo l 0 0

theorem pow_le_nine (i : Nat) (h : i ≤ 8) : 128 ^ i ≤ 72057594037927936 := by
  have : 128 ^ i ≤ 128 ^ 8 := Nat.pow_le_pow_right (by omega) h
  omega

theorem step_lt (acc i c : Nat) (h : acc < 128 ^ i) : acc + c % 128 * 128 ^ i < 128 ^ (i + 1) := by
  have h1 : c % 128 * 128 ^ i ≤ 127 * 128 ^ i := Nat.mul_le_mul_right _ (by omega)
  rw [Nat.pow_succ]
  omega

theorem step_lt63 (acc i c : Nat) (hi : i ≤ 8) (h : acc < 128 ^ i) : acc + c % 128 * 128 ^ i < 9223372036854775808 := by
  have h1 := step_lt acc i c h
  have h2 : 128 ^ (i + 1) ≤ 128 ^ 9 := Nat.pow_le_pow_right (by omega) (by omega)
  omega

theorem giGo_bounds : ∀ (l : List UInt8) (acc i : Nat), (giGo l acc i).2.2 = 0 → (giGo l acc i).1 ≤ 4611686018427387903 ∧ i + 1 ≤ (giGo l acc i).2.1 ∧ (giGo l acc i).2.1 ≤ i + l.length
  | [], _, _ => by intro h; simp [giGo] at h
  | c :: r, acc, i => by
    intro h
    rw [giGo] at h ⊢
    by_cases h1 : 128 ≤ c.toNat
    · rw [if_pos h1] at h ⊢
      by_cases h2 : i + 1 = 9
      · rw [if_pos h2] at h; simp at h
      · rw [if_neg h2] at h ⊢
        have := giGo_bounds r _ _ h
        simp only [List.length_cons]
        omega
    · rw [if_neg h1] at h ⊢
      by_cases h2 : 4611686018427387903 < acc + c.toNat % 128 * 128 ^ i
      · rw [if_pos h2] at h; simp at h
      · rw [if_neg h2] at h ⊢
        by_cases h3 : c.toNat = 0 ∧ 1 < i + 1
        · rw [if_pos h3] at h; simp at h
        · rw [if_neg h3]
          simp only [List.length_cons]
          omega

theorem getInt_bounds (l : List UInt8) (n k : Nat) (h : getInt l = (n, k, 0)) : n ≤ 4611686018427387903 ∧ 1 ≤ k ∧ k ≤ l.length := by
  have := giGo_bounds l 0 0 (by rw [← getInt, h])
  rw [← getInt, h] at this
  simpa using this

theorem giGo_err : ∀ (l : List UInt8) (acc i : Nat), (giGo l acc i).2.2 ≤ 3
  | [], _, _ => by simp [giGo]
  | c :: r, acc, i => by
    rw [giGo]
    have := giGo_err r (acc + c.toNat % 128 * 128 ^ i) (i + 1)
    split <;> (try split) <;> (try split) <;> simp_all

theorem getInt_err (l : List UInt8) : (getInt l).2.2 ≤ 3 := giGo_err l 0 0

/-- A text's bytes. -/
def txt (l : List UInt8) : List UInt8 := goInt l.length ++ l

/-- The text at the front of bytes: the text, in how many bytes, the error. -/
def getText (l : List UInt8) : List UInt8 × Nat × Nat :=
  if (getInt l).2.2 ≠ 0 then ([], 0, (getInt l).2.2)
  else if 65536 < (getInt l).1 then ([], 0, 8)
  else if l.length - (getInt l).2.1 < (getInt l).1 then ([], 0, 1)
  else ((l.drop (getInt l).2.1).take (getInt l).1, (getInt l).2.1 + (getInt l).1, 0)

theorem getText_bounds (l t : List UInt8) (k : Nat) (h : getText l = (t, k, 0)) : 1 ≤ k ∧ k ≤ l.length ∧ t.length ≤ 65536 ∧ t.length + 1 ≤ k := by
  unfold getText at h
  rcases hr : getInt l with ⟨n, j, e⟩
  rw [hr] at h
  simp only at h
  by_cases h1 : e ≠ 0
  · rw [if_pos h1] at h; simp at h; omega
  · have h1 : e = 0 := by omega
    subst h1
    have hb := getInt_bounds l n j hr
    rw [if_neg (by simp)] at h
    by_cases h2 : 65536 < n
    · rw [if_pos h2] at h; simp at h
    · rw [if_neg h2] at h
      by_cases h3 : l.length - j < n
      · rw [if_pos h3] at h; simp at h
      · rw [if_neg h3] at h
        simp only [Prod.mk.injEq] at h
        obtain ⟨rfl, rfl, _⟩ := h
        simp only [List.length_take, List.length_drop]
        omega

end Go.Proofs.YtajpfkenhchafaaDoor

/- What wire.Int does: the bytes of a number, or nothing; nothing old in memory is turned. -/
namespace Go.Proofs.YtajpfkenhchafaaDoor
open Go.RowKit

theorem infoByte : (Tryd.prog.info? 5).map (fun i => (i.zero, i.size, i.bytes)) = some (some (.int .u8 0), 1, 1) := by kernel_rfl

def byteVal (b : UInt8) : Value := .int .u8 (b.toNat : Int)

theorem byteVal_one (l : List UInt8) : ∀ u ∈ l.map byteVal, u.oneCell' = true := by
  intro u hu
  obtain ⟨b, _, rfl⟩ := List.mem_map.1 hu
  rfl

theorem or_128 : ∀ a : Nat, a < 256 → a ||| 128 = 128 + a % 128 := by decide +kernel

theorem byte_more (m : Nat) : Value.int .u8 (bits .or .u8 ((m : Int) % 256) 128) = byteVal (UInt8.ofNat (128 + m % 128)) := by
  have h := u8_or_nat (m % 256) 128 (by omega) (by omega)
  have e : ((m : Int) % 256) = ((m % 256 : Nat) : Int) := by omega
  unfold byteVal
  rw [e]
  rw [show ((128 : Int)) = ((128 : Nat) : Int) from rfl, h, or_128 _ (by omega)]
  congr 1
  simp
  omega

theorem byte_last (m : Nat) (h : m < 128) : Value.int .u8 (m : Int) = byteVal (UInt8.ofNat m) := by
  unfold byteVal
  congr 1
  simp
  omega

/-- An owned row of bytes, made a string. -/
theorem own_string {w : World} {B : Nat} {v : Value} {l : List UInt8} (h : w.ownsRow B 5 1 v l.length (l.map byteVal)) :
    (convert 62 9 v).run Tryd.prog w = .ok (.string ⟨l.toArray⟩) w := by
  rcases h.2 with ⟨rfl, hn⟩ | ⟨g, cap, cur, rfl, _⟩
  · rw [List.length_eq_zero_iff] at hn
    subst hn
    exact run_convert_bytes_nil w 62 5 Tryd.underlying62 Tryd.underlying5 0 0 9 Tryd.underlying9
  · refine run_convert_bytes_back w 62 9 5 ⟨g, 0, none⟩ cap l Tryd.underlying62 Tryd.underlying5 Tryd.underlying9 (fun j hj => ?_)
    exact h.cells rfl j _ (by simp [List.getElem?_eq_getElem hj, byteVal])

set_option maxRecDepth 100000 in
set_option maxHeartbeats 400000 in
theorem int_yes (n : Nat) (w : World) (hn : n ≤ 4611686018427387903) :
    Calls Tryd.prog 34 #[.int .i64 n] w fun e w' => e = .returned (.string ⟨(enc n).toArray⟩) ∧ Below w.heap.size w w' := by
  obtain ⟨i0, hi, hz0, hz1, hz2⟩ := info_parts infoByte
  have h0 : ¬ ((n : Int) < 0) := by omega
  have h1 : ¬ ((4611686018427387903 : Int) < n) := by omega
  go_enter Tryd.func34, Tryd.ntmps34
  go_wp2
  go_loopw [0, 3] (fun v0 v3 wr => ∃ (m : Nat) (pre : List UInt8), m ≤ n ∧ v0 = .int .i64 m ∧ wr.ownsRow w.heap.size 5 1 v3 pre.length (pre.map byteVal) ∧ Below w.heap.size w wr ∧ Hid (pre ++ enc m = enc n)) (fun v0 _ _ => (intOf v0).toNat)
  case atStart => exact ⟨n, [], Nat.le_refl _, rfl, World.ownsRow_nil _ _ _ _, Below.refl _ _, rfl⟩
  case round =>
    obtain ⟨m, pre, hm, rfl, hown, hb, hpre⟩ := hrel
    have hlen : pre.length ≤ 9 := by
      have h9 := enc_length_nine n hn
      have h8 := congrArg List.length hpre.out
      simp at h8; omega
    have hsz := hb.size
    by_cases hlt : 128 ≤ m
    · go_wp2_with (at_builtin; refine wpList_append_own _ rfl _ _ 62 rfl w.heap.size 5 i0 (.int .u8 0) 1 1 Tryd.underlying62 hi hz0 hz1 hz2 rfl (by decide) _ _ _ rfl (hown.alloc _) ⟨wr.heap.size, 0, none⟩ 1 1 [byteVal (UInt8.ofNat (128 + m % 128))] rfl rfl ?c1 ?c2 ?c3 ?c4 ?c5 ?_)
      case c1 =>
        intro j u hj
        match j, hj with
        | 0, hj => simp at hj; subst hj; simp [Addr.add, byte_more]
      case c2 => intro u hu; simp at hu; subst hu; rfl
      case c3 => unfold maxLen; omega
      case c4 => omega
      case c5 => simp; omega
      · intro v' w1 hown' hgrow _
        have hb1 : Below w.heap.size w w1 := (hb.alloc hsz _).grown hgrow (by simp; omega) (fun k hk => (hown.lt k hk).1)
        have hown1 : w1.ownsRow w.heap.size 5 1 v' (pre ++ [UInt8.ofNat (128 + m % 128)]).length ((pre ++ [UInt8.ofNat (128 + m % 128)]).map byteVal) := by
          simpa using hown'
        have hp1 : Hid ((pre ++ [UInt8.ofNat (128 + m % 128)]) ++ enc (m / 128) = enc n) := by
          have := hpre.out
          rw [enc_big m hlt] at this
          show _ = _
          simpa using this
        clear hown' hgrow hown hpre hb
        go_wp2
        go_roundw
        case rel => exact ⟨m / 128, _, by omega, by go_num, hown1, hb1, hp1⟩
        case measure => simp [intOf]; omega
    · go_wp2_with (at_builtin; refine wpList_append_own _ rfl _ _ 62 rfl w.heap.size 5 i0 (.int .u8 0) 1 1 Tryd.underlying62 hi hz0 hz1 hz2 rfl (by decide) _ _ _ rfl (hown.alloc _) ⟨wr.heap.size, 0, none⟩ 1 1 [byteVal (UInt8.ofNat m)] rfl rfl ?d1 ?d2 ?d3 ?d4 ?d5 ?_)
      case d1 =>
        intro j u hj
        match j, hj with
        | 0, hj => simp at hj; subst hj; simp [Addr.add, byte_last m (by omega)]
      case d2 => intro u hu; simp at hu; subst hu; rfl
      case d3 => unfold maxLen; omega
      case d4 => omega
      case d5 => simp; omega
      · intro v' w1 hown' hgrow _
        have hb1 : Below w.heap.size w w1 := (hb.alloc hsz _).grown hgrow (by simp; omega) (fun k hk => (hown.lt k hk).1)
        have hown1 : w1.ownsRow w.heap.size 5 1 v' (pre ++ [UInt8.ofNat m]).length ((pre ++ [UInt8.ofNat m]).map byteVal) := by
          simpa using hown'
        have hp1 : pre ++ [UInt8.ofNat m] = enc n := by
          have := hpre.out
          rw [enc_small m (by omega)] at this
          exact this
        rw [hp1] at hown1
        have hcv := own_string hown1
        clear hown' hgrow hown hpre hb hp1 hown1
        go_wp2
        go_ret
        exact ⟨rfl, hb1⟩

set_option maxRecDepth 100000 in
set_option maxHeartbeats 400000 in
theorem int_no (n : Int) (w : World) (h : n < 0 ∨ 4611686018427387903 < n) :
    Calls Tryd.prog 34 #[.int .i64 n] w fun e w' => e = .returned (.string ⟨#[]⟩) ∧ w' = w := by
  rcases h with h | h
  · go_enter Tryd.func34, Tryd.ntmps34
    go_wp2
    go_ret
    exact ⟨rfl, rfl⟩
  · have h0 : ¬ n < 0 := by omega
    go_enter Tryd.func34, Tryd.ntmps34
    go_wp2
    go_ret
    exact ⟨rfl, rfl⟩

theorem int_any (n : Int) (w : World) :
    Calls Tryd.prog 34 #[.int .i64 n] w fun e w' => e = .returned (.string ⟨(goInt n).toArray⟩) ∧ Below w.heap.size w w' := by
  by_cases h : 0 ≤ n ∧ n ≤ 4611686018427387903
  · obtain ⟨m, rfl⟩ := Int.eq_ofNat_of_zero_le h.1
    have e : goInt (m : Int) = enc m := by rw [goInt, if_pos h]; simp
    rw [e]
    exact int_yes m w (by omega)
  · have e : goInt n = [] := by rw [goInt, if_neg h]
    rw [e]
    refine (int_no n w (by omega)).mono ?_
    rintro e w' ⟨rfl, rfl⟩
    exact ⟨rfl, Below.refl _ _⟩
end Go.Proofs.YtajpfkenhchafaaDoor

/- What wire.GetInt does: it reads a string's bytes and answers the number at their front, in how many bytes, and the error; memory stands. -/
namespace Go.Proofs.YtajpfkenhchafaaDoor
open Go.RowKit

theorem i64_or_nat (a b : Nat) (ha : a < 9223372036854775808) (hb : b < 9223372036854775808) : bits .or .i64 (a : Int) (b : Int) = ((a ||| b : Nat) : Int) := by
  have hx : a ||| b < 2 ^ 63 := Nat.or_lt_two_pow (by omega) (by omega)
  show IntKind.i64.wrap ((BitVec.ofInt 64 (a : Int) ||| BitVec.ofInt 64 (b : Int)).toNat : Int) = _
  rw [BitVec.toNat_or, ofInt_u64 a (by omega), ofInt_u64 b (by omega)]
  simp [IntKind.wrap, IntKind.bits, IntKind.signed]
  omega

theorem wrap64_id (n : Nat) (h : n < 9223372036854775808) : wrap64 (n : Int) = (n : Int) := by
  unfold wrap64
  omega

theorem or_step (acc i c : Nat) (hi : i ≤ 8) (ha : acc < 128 ^ i) : bits .or .i64 (acc : Int) (wrap64 ((c : Int) % 128 * 2 ^ (7 * i))) = ((acc + c % 128 * 128 ^ i : Nat) : Int) := by
  have hp : (2 : Nat) ^ (7 * i) = 128 ^ i := by rw [Nat.pow_mul]
  have h63 := step_lt63 acc i c hi ha
  have e : ((c : Int) % 128 * 2 ^ (7 * i)) = ((c % 128 * 128 ^ i : Nat) : Int) := by
    rw [← hp]; simp
  rw [e, wrap64_id _ (by omega), i64_or_nat _ _ (by omega) (by omega)]
  congr 1
  rw [Nat.or_comm, ← hp, nat_join (7 * i) _ _ (by simp) (by rw [hp]; exact ha)]
  omega

theorem or_first (c : Nat) : bits .or .i64 0 ((c : Int) % 128) = ((c % 128 : Nat) : Int) := by
  have h := i64_or_nat 0 (c % 128) (by omega) (by omega)
  rw [Nat.zero_or] at h
  rw [show ((0 : Int)) = ((0 : Nat) : Int) from rfl, show ((c : Int) % 128) = ((c % 128 : Nat) : Int) from by omega]
  exact h

theorem andNot_byte (c : Nat) (h : c < 256) : bits .andNot .u8 (c : Int) 128 = ((c % 128 : Nat) : Int) := by
  have h1 := u8_andNot_nat c 128 h (by omega)
  rw [show ((128 : Int)) = ((128 : Nat) : Int) from rfl, h1]
  congr 1
  exact nat_mask7 c

theorem drop_cons (s : ByteArray) (i : Nat) (h : i < s.size) : s.data.toList.drop i = s[i] :: s.data.toList.drop (i + 1) := by
  rw [List.drop_eq_getElem_cons (by simpa using h)]; rfl

def giVal (r : Nat × Nat × Nat) : Value := .tuple #[.int .i64 r.1, .int .i64 r.2.1, .int .i64 r.2.2]

theorem giEnd {r : Nat × Nat × Nat} {a b c : Nat} (h : r = (a, b, c)) : Ending.returned (.tuple #[.int .i64 (a : Int), .int .i64 (b : Int), .int .i64 (c : Int)]) = .returned (giVal r) := by
  rw [h]; rfl
end Go.Proofs.YtajpfkenhchafaaDoor

/- What wire.Text and wire.GetText do. -/
namespace Go.Proofs.YtajpfkenhchafaaDoor
open Go.RowKit

theorem mk_list (s : ByteArray) : (⟨s.data.toList.toArray⟩ : ByteArray) = s := by simp

theorem append_list (l : List UInt8) (s : ByteArray) : (⟨l.toArray⟩ ++ s : ByteArray) = ⟨(l ++ s.data.toList).toArray⟩ := by
  have := ByteArray.mk_append_mk l s.data.toList
  rw [mk_list] at this
  exact this

theorem goInt_length (n : Int) : (goInt n).length ≤ 9 := by
  unfold goInt
  split
  · exact enc_length_nine _ (by omega)
  · simp

theorem extract_list (s : ByteArray) (a b : Nat) : s.extract a b = ⟨((s.data.toList.drop a).take (b - a)).toArray⟩ := by
  apply ByteArray.ext
  rw [ByteArray.data_extract]
  apply Array.ext'
  simp [List.extract]

set_option maxRecDepth 100000 in
set_option maxHeartbeats 400000 in
theorem text_any (s : ByteArray) (w : World) (hs : s.size ≤ 140737488351232000) :
    Calls Tryd.prog 33 #[.string s] w fun e w' => e = .returned (.string ⟨(txt s.data.toList).toArray⟩) ∧ Below w.heap.size w w' := by
  have hg := goInt_length s.size
  have e1 : ∀ l : List UInt8, l = goInt s.size → Value.string (⟨l.toArray⟩ ++ s) = Value.string ⟨(txt s.data.toList).toArray⟩ := by
    rintro l rfl
    rw [append_list, txt]
    simp
  go_enter Tryd.func33, Tryd.ntmps33
  go_wp2_with fail
  refine (int_any _ _).mono ?_
  rintro e w' ⟨rfl, hb⟩
  obtain ⟨l, hl⟩ : ∃ l, l = goInt s.size := ⟨_, rfl⟩
  rw [← hl] at hg ⊢
  have E := e1 l hl
  clear e1 hl
  go_wp2
  go_ret
  exact ⟨rfl, hb⟩

def gtVal (r : List UInt8 × Nat × Nat) : Value := .tuple #[.string ⟨r.1.toArray⟩, .int .i64 r.2.1, .int .i64 r.2.2]
end Go.Proofs.YtajpfkenhchafaaDoor

/- What a strings.Builder that the call itself has made does at WriteString and at String, over this program. -/
namespace Go.Proofs.YtajpfkenhchafaaDoor
open Go.RowKit

theorem sizeBuilder : (Tryd.prog.info? 64).map (·.size) = some 2 := by kernel_rfl
theorem liesBuilder : liesAt Tryd.prog Tryd.prog.depth 64 (2 / Tryd.prog.cellsOf 64) 0 64 1 = true := by kernel_rfl
theorem cellsByte : Tryd.prog.cellsOf 5 = 1 := by kernel_rfl

set_option maxRecDepth 100000 in
set_option maxHeartbeats 400000 in
theorem copyCheck_used (b : Nat) (w : World) (h0 : w.cell? ⟨b, 0, none⟩ = some (.pointer (some ⟨b, 0, none⟩))) :
    Calls Tryd.prog 53 #[.pointer (some ⟨b, 0, none⟩)] w fun e w' => e = .returned (.tuple #[]) ∧ w' = w := by
  obtain ⟨j, hj, _⟩ := Option.map_eq_some_iff.1 sizeBuilder
  go_enter Tryd.func53, Tryd.ntmps53
  go_wp2
  rw [Lib.run_neq_ptr_same w _ Tryd.underlying61 hj]
  go_wp2
  go_end0
  exact ⟨rfl, rfl⟩

set_option maxRecDepth 100000 in
set_option maxHeartbeats 400000 in
theorem copyCheck_fresh (b : Nat) (w : World) (h0 : w.cell? ⟨b, 0, none⟩ = some (.pointer none)) (hsh : w.shape? b = some (64, 2)) (hfz : w.frozen? ⟨b, 0, none⟩ = false) :
    Calls Tryd.prog 53 #[.pointer (some ⟨b, 0, none⟩)] w fun e w' => e = .returned (.tuple #[]) ∧ w' = w.setCell ⟨b, 0, none⟩ (.pointer (some ⟨b, 0, none⟩)) := by
  obtain ⟨j, hj, hjs⟩ := Option.map_eq_some_iff.1 sizeBuilder
  go_enter Tryd.func53, Tryd.ntmps53
  go_wp2
  rw [Lib.run_to_unsafe w ⟨b, 0, none⟩ Tryd.underlying61 Tryd.underlying111 hj (by rw [hjs]; decide) hsh (Nat.zero_lt_succ 1)]
  simp only [Result.andThen]
  rw [Oper.upon_value]
  go_wp2
  rw [run_callFunc_extern Tryd.func64 (by kernel_rfl) (by kernel_rfl) (by kernel_rfl) (e := Extern.AbiNoEscape.same) (by kernel_rfl)]
  rw [Lib.run_noEscape]
  simp only [Result.andThen]
  rw [Oper.upon_value]
  go_wp2
  rw [Lib.run_from_unsafe w ⟨b, 0, none⟩ Tryd.underlying111 Tryd.underlying61 hj hsh liesBuilder]
  simp only [Result.andThen]
  rw [Oper.upon_value]
  go_wp2
  go_end0
  exact ⟨rfl, rfl⟩

theorem copyCheck_any (B b : Nat) (bs : List Value) (w : World) (h : Lib.IsBuilder 64 5 B b bs w) :
    Calls Tryd.prog 53 #[.pointer (some ⟨b, 0, none⟩)] w fun e w' => e = .returned (.tuple #[]) ∧ (Lib.BuilderAt 64 5 B b (.pointer (some ⟨b, 0, none⟩)) bs w' ∧ Below B w w') := by
  rcases h with h | h
  · refine (copyCheck_fresh b w h.cell0 h.shape h.frozen0).mono ?_
    rintro e w' ⟨rfl, rfl⟩
    exact ⟨rfl, h.used _, (Below.refl B w).setCell (p := ⟨b, 0, none⟩) h.1 _⟩
  · refine (copyCheck_used b w h.cell0).mono ?_
    rintro e w' ⟨rfl, rfl⟩
    exact ⟨rfl, h, Below.refl B _⟩

set_option maxRecDepth 100000 in
set_option maxHeartbeats 400000 in
theorem write_any (B b : Nat) (bs : List Value) (s : ByteArray) (w : World) (h : Lib.IsBuilder 64 5 B b bs w) (hlen : bs.length + s.size ≤ 140737488355328) (hBw : B ≤ w.heap.size) :
    Calls Tryd.prog 32 #[.pointer (some ⟨b, 0, none⟩), .string s] w fun e w' => e = .returned (.tuple #[.int .i64 s.size, .nilIface]) ∧ (Lib.BuilderAt 64 5 B b (.pointer (some ⟨b, 0, none⟩)) (bs ++ Lib.strCells s) w' ∧ Below B w w') := by
  obtain ⟨i0, hi, hz0, hz1, hz2⟩ := info_parts infoByte
  go_enter Tryd.func32, Tryd.ntmps32
  go_wp2_with fail
  refine (copyCheck_any B b bs _ h).mono ?_
  rintro e w1 ⟨rfl, h1, hb1⟩
  obtain ⟨hB, v, hbk, hown, hne⟩ := h1
  have c1 : w1.cell? ⟨b, 1, none⟩ = some v := by rw [Lib.cell_of_heap hbk]; rfl
  go_wp2_with (at_builtin; refine Lib.wpList_append_own_string _ rfl _ _ 62 9 rfl B 5 i0 Tryd.underlying62 Tryd.underlying9 hi hz0 hz1 hz2 _ _ _ rfl hown s rfl ?c3 ?c4 ?c5 ?_)
  case c3 => unfold maxLen; omega
  case c4 => omega
  case c5 => have := hb1.size; omega
  intro v' w2 hown' hgrow _
  have hlt : b < w1.heap.size := (Array.getElem?_eq_some_iff.1 hbk).1
  have hb2 : w2.heap[b]? = some (.cells #[.pointer (some ⟨b, 0, none⟩), v] 64 (0, 0)) := by
    rw [hgrow.block b hlt (fun e => hne e.symm)]
    exact hbk
  have d1 : w2.cell? ⟨b, 1, none⟩ = some v := by rw [Lib.cell_of_heap hb2]; rfl
  have f1 : w2.frozen? ⟨b, 1, none⟩ = false := Lib.frozen_of_heap hb2 1
  obtain ⟨ao, n', cap, rfl⟩ : ∃ ao n' cap, v' = .slice ao n' cap := by
    rcases hown'.2 with ⟨hv, _⟩ | ⟨g, cap, cur, hv, _⟩
    · exact ⟨_, _, _, hv⟩
    · exact ⟨_, _, _, hv⟩
  have fin1 : Lib.BuilderAt 64 5 B b (.pointer (some ⟨b, 0, none⟩)) (bs ++ Lib.strCells s) (w2.setCell ⟨b, 1, none⟩ (.slice ao n' cap)) :=
    Lib.BuilderAt.put (T := 64) (e := 5) hB hb2 (bs' := bs ++ Lib.strCells s) (by simpa [Lib.strCells_length] using hown') (by decide)
  have fin2 : Below B w (w2.setCell ⟨b, 1, none⟩ (.slice ao n' cap)) :=
    (hb1.grown hgrow (by have := hb1.size; omega) (fun k hk => (hown.lt k hk).1)).setCell (p := ⟨b, 1, none⟩) hB _
  clear hown' hgrow hown hbk hb2 hb1 h hne hlt c1
  go_wp2
  go_ret2
  exact ⟨rfl, fin1, fin2⟩

set_option maxRecDepth 100000 in
set_option maxHeartbeats 400000 in
theorem string_any (B b : Nat) (l : List UInt8) (w : World) (h : Lib.IsBuilder 64 5 B b (Lib.byteCells l) w) (h0 : l ≠ []) :
    Calls Tryd.prog 37 #[.pointer (some ⟨b, 0, none⟩)] w fun e w' => e = .returned (.string ⟨l.toArray⟩) ∧ Below B w w' := by
  obtain ⟨p, hB, v, hbk, hown, hne⟩ : ∃ p, Lib.BuilderAt 64 5 B b p (Lib.byteCells l) w := by
    rcases h with h | h
    · exact ⟨_, h⟩
    · exact ⟨_, h⟩
  have hl0 : l.length ≠ 0 := by simpa using h0
  rw [Lib.byteCells_length] at hown
  obtain ⟨g, cap, cur, rfl, hbg, hg, hnc, hcm, hcs, htake⟩ : ∃ g cap cur, v = .slice (some ⟨g, 0, none⟩) l.length cap ∧ B ≤ g ∧ w.heap[g]? = some (.cells cur 5 (0, 0)) ∧ l.length ≤ cap ∧ cap ≤ maxLen ∧ cur.size = cap * 1 ∧ cur.toList.take (l.length * 1) = Lib.byteCells l := by
    rcases hown.2 with ⟨_, hz⟩ | ⟨g, cap, cur, hv, r⟩
    · exact absurd hz hl0
    · exact ⟨g, cap, cur, hv, r⟩
  have c1 : w.cell? ⟨b, 1, none⟩ = some (.slice (some ⟨g, 0, none⟩) l.length cap) := by rw [Lib.cell_of_heap hbk]; rfl
  have hSD : (Builtin.unsafeSliceData_ #[62] 100 #[.slice (some ⟨g, 0, none⟩) l.length cap]).run Tryd.prog w.drew = .ok (.pointer (some ⟨g, 0, none⟩)) w.drew :=
    Lib.run_unsafeSliceData_row _ _ _ _ _ _ (by omega)
  have hUS : (Builtin.unsafeString_ #[100, 3] 9 #[.pointer (some ⟨g, 0, none⟩), .int .i64 l.length]).run Tryd.prog w.drew = .ok (.string ⟨l.toArray⟩) (w.drew.freeze ⟨g, 0, none⟩ l.length) := by
    refine Lib.run_unsafeString_row w.drew 100 3 9 5 Tryd.underlying100 cellsByte g cur.size (by have hg' : w.drew.heap[g]? = some (.cells cur 5 (0, 0)) := hg; simp [World.shape?, hg']) l h0 (by omega) (by unfold maxLen at hcm; omega) ?_
    intro j x hx
    have := hown.cells (g := g) rfl j (.int .u8 x.toNat) (by simp [Lib.byteCells, hx])
    exact this
  have fin := Lib.below_freeze (Below.drew (Below.refl B w)) (p := ⟨g, 0, none⟩) hbg l.length
  clear hown hbk hg htake h hne
  go_enter Tryd.func37, Tryd.ntmps37
  go_wp2
  go_region
  all_goals (go_wp2; go_ret; exact ⟨rfl, fin⟩)
end Go.Proofs.YtajpfkenhchafaaDoor

/- Rows of strings in memory, and a list's bytes. -/
namespace Go.Proofs.YtajpfkenhchafaaDoor
open Go.RowKit

/-- A row of strings lies at an address (of no strings: whatever the address). -/
def StrsAt (w : World) (ao : Option Addr) (ss : List ByteArray) : Prop :=
  ∀ j (h : j < ss.length), ∃ b off, ao = some ⟨b, off, none⟩ ∧ b < w.heap.size ∧ w.cell? ⟨b, off + j, none⟩ = some (.string ss[j])

theorem StrsAt.below {w w' : World} {ao : Option Addr} {ss : List ByteArray} (h : StrsAt w ao ss) (hb : Below w.heap.size w w') : StrsAt w' ao ss := by
  intro j hj
  obtain ⟨b, off, h1, h2, h3⟩ := h j hj
  exact ⟨b, off, h1, Nat.lt_of_lt_of_le h2 hb.size, by rw [hb.cell (p := ⟨b, off + j, none⟩) h2]; exact h3⟩

def bl (ss : List ByteArray) : List (List UInt8) := ss.map (·.data.toList)

/-- A list's bytes. -/
def lst (l : List (List UInt8)) : List UInt8 := goInt l.length ++ l.flatMap txt

theorem take_flat (l : List (List UInt8)) (k : Nat) (h : k < l.length) : (l.take (k + 1)).flatMap txt = (l.take k).flatMap txt ++ txt l[k] := by
  rw [List.take_succ_eq_append_getElem h, List.flatMap_append]; simp

theorem take_flat_le (l : List (List UInt8)) (k : Nat) : ((l.take k).flatMap txt).length ≤ (l.flatMap txt).length := by
  have h : l.flatMap txt = (l.take k).flatMap txt ++ (l.drop k).flatMap txt := by rw [← List.flatMap_append, List.take_append_drop]
  rw [h]; simp

theorem size_mk (l : List UInt8) : (⟨l.toArray⟩ : ByteArray).size = l.length := by simp [ByteArray.size_mk']

theorem ret_str {l m : List UInt8} (h : l = m) : Ending.returned (.string ⟨l.toArray⟩) = .returned (.string ⟨m.toArray⟩) := by rw [h]

theorem goInt_ne (n : Nat) (h : n ≤ 4611686018427387903) : goInt n ≠ [] := by
  unfold goInt
  rw [if_pos (by omega)]
  have := enc_length_pos n
  intro e
  simp at e
  rw [e] at this
  simp at this

end Go.Proofs.YtajpfkenhchafaaDoor
