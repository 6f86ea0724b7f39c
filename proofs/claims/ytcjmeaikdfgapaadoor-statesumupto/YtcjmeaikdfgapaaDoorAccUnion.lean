/- Layer 20's mathematics: members that point to lesser ones of their group, and what is joined. -/
import Derived.Test.YtcjmeaikdfgapaaDoorAccMath
namespace Go.Proofs.YtcjmeaikdfgapaaDoor
open Go.RowKit
set_option linter.unusedVariables false

/-- Where member i points to. -/
def up (g : List Nat) (i : Nat) : Nat := g.getD i i

theorem up_lt {g : List Nat} {i : Nat} (h : i < g.length) : up g i = g.getD i 0 := by
  unfold up
  simp only [List.getD_eq_getElem?_getD, List.getElem?_eq_getElem h]
  rfl

theorem up_get {g : List Nat} {i v : Nat} (h : g[i]? = some v) : up g i = v := by
  unfold up
  rw [List.getD_eq_getElem?_getD, h]
  rfl

theorem up_set {g : List Nat} {i : Nat} (h : i < g.length) (v x : Nat) : up (g.set i v) x = if x = i then v else up g x := by
  unfold up
  simp only [List.getD_eq_getElem?_getD, List.getElem?_set]
  by_cases hx : x = i
  · subst hx; simp [h]
  · rw [if_neg (fun e => hx e.symm), if_neg hx]

/-- The one that points to itself, at the end of the way. -/
inductive Root (g : List Nat) : Nat → Nat → Prop
  | top {r : Nat} : up g r = r → Root g r r
  | step {i r : Nat} : up g i ≠ i → Root g (up g i) r → Root g i r

def Dn (g : List Nat) : Prop := ∀ i, up g i ≤ i

theorem Root.ex {g : List Nat} (hd : Dn g) (i : Nat) : ∃ r, Root g i r := by
  induction i using Nat.strongRecOn with
  | ind i ih =>
    by_cases h : up g i = i
    · exact ⟨i, .top h⟩
    · have := hd i
      obtain ⟨r, hr⟩ := ih (up g i) (by omega)
      exact ⟨r, .step h hr⟩

theorem Root.fix {g : List Nat} {i r : Nat} (h : Root g i r) : up g r = r := by
  induction h with
  | top h => exact h
  | step _ _ ih => exact ih

theorem Root.uniq {g : List Nat} {i r s : Nat} (h : Root g i r) (k : Root g i s) : r = s := by
  induction h with
  | top h =>
    cases k with
    | top => rfl
    | step n _ => exact absurd h n
  | step n _ ih =>
    cases k with
    | top h => exact absurd h n
    | step _ k => exact ih k

theorem Root.le {g : List Nat} (hd : Dn g) {i r : Nat} (h : Root g i r) : r ≤ i := by
  induction h with
  | top => exact Nat.le_refl _
  | step _ _ ih => exact Nat.le_trans ih (hd _)

theorem Root.of_up {g : List Nat} {i r : Nat} (h : Root g i r) : Root g (up g i) r := by
  cases h with
  | top h => rw [h]; exact .top h
  | step _ h => exact h

theorem Root.at_up {g : List Nat} {i r : Nat} (h : Root g (up g i) r) : Root g i r := by
  by_cases e : up g i = i
  · rw [e] at h; exact h
  · exact .step e h

/-- A member that points to another one of its way: the ends stay. -/
theorem Root.short {g : List Nat} (hd : Dn g) {i v r0 : Nat} (hi : i < g.length) (h1 : Root g i r0) (h2 : Root g v r0) (hv : v < i ∨ (v = i ∧ up g i = i)) : ∀ x r, Root g x r → Root (g.set i v) x r := by
  intro x
  induction x using Nat.strongRecOn with
  | ind x ih =>
    intro r h
    by_cases hx : x = i
    · subst hx
      rcases hv with hv | ⟨rfl, hv⟩
      · refine .step ?_ ?_
        · rw [up_set hi, if_pos rfl]; omega
        · rw [up_set hi, if_pos rfl]
          obtain rfl := h1.uniq h
          exact ih v hv r0 h2
      · have e : up (g.set v v) v = v := by rw [up_set hi, if_pos rfl]
        have : r = v := h.uniq (.top hv)
        rw [this]
        exact .top e
    · have e : up (g.set i v) x = up g x := by rw [up_set hi, if_neg hx]
      cases h with
      | top h => exact .top (by rw [e]; exact h)
      | step n h =>
        refine .step (by rw [e]; exact n) ?_
        rw [e]
        have := hd x
        exact ih _ (by omega) r h

/-- Two ends are joined. -/
theorem Root.join {g : List Nat} (hd : Dn g) {a b : Nat} (hb : b < g.length) (hab : a < b) (ha1 : up g a = a) (hb1 : up g b = b) : ∀ x r, Root g x r → Root (g.set b a) x (if r = b then a else r) := by
  intro x
  induction x using Nat.strongRecOn with
  | ind x ih =>
    intro r h
    by_cases hx : x = b
    · subst hx
      obtain rfl := (Root.top hb1).uniq h
      rw [if_pos rfl]
      refine .step ?_ ?_
      · rw [up_set hb, if_pos rfl]; omega
      · rw [up_set hb, if_pos rfl]
        refine .top ?_
        rw [up_set hb, if_neg (by omega)]
        exact ha1
    · have e : up (g.set b a) x = up g x := by rw [up_set hb, if_neg hx]
      cases h with
      | top h =>
        rw [if_neg hx]
        exact .top (by rw [e]; exact h)
      | step n h =>
        refine .step (by rw [e]; exact n) ?_
        rw [e]
        have := hd x
        exact ih _ (by omega) r h

/-- Two have one end. -/
def Same2 (g : List Nat) (x y : Nat) : Prop := ∃ r, Root g x r ∧ Root g y r

theorem Same2.symm {g : List Nat} {x y : Nat} (h : Same2 g x y) : Same2 g y x := by
  obtain ⟨r, h1, h2⟩ := h
  exact ⟨r, h2, h1⟩

theorem Same2.trans {g : List Nat} {x y z : Nat} (h : Same2 g x y) (k : Same2 g y z) : Same2 g x z := by
  obtain ⟨r, h1, h2⟩ := h
  obtain ⟨s, k1, k2⟩ := k
  obtain rfl := h2.uniq k1
  exact ⟨r, h1, k2⟩

/-- Members that point to lesser ones of their group. -/
structure UF (l : List RwD) (g : List Nat) : Prop where
  snd : Snd l g
  dn : Dn g

theorem UF.upc {l : List RwD} {g : List Nat} (h : UF l g) {i : Nat} (hi : i < l.length) : Conn l i (up g i) := by
  rw [up_lt (by rw [h.snd.1]; exact hi)]
  exact h.snd.2 i hi

theorem UF.set {l : List RwD} {g : List Nat} (h : UF l g) {i v : Nat} (hi : i < l.length) (hv : v ≤ i) (hc : Conn l i v) : UF l (g.set i v) := by
  have hl : i < g.length := by rw [h.snd.1]; exact hi
  refine ⟨⟨by rw [List.length_set]; exact h.snd.1, fun x hx => ?_⟩, fun x => ?_⟩
  · rw [← up_lt (by rw [List.length_set, h.snd.1]; exact hx), up_set hl]
    split
    · rename_i e
      rw [e]; exact hc
    · exact h.upc hx
  · rw [up_set hl]
    split
    · rename_i e
      rw [e]; exact hv
    · exact h.dn x

theorem UF.start (l : List RwD) : UF l (List.range l.length) := by
  refine ⟨snd_start, fun i => ?_⟩
  unfold up
  rw [List.getD_eq_getElem?_getD]
  by_cases h : i < l.length
  · rw [List.getElem?_range h]; exact Nat.le_refl _
  · rw [List.getElem?_eq_none (by rw [List.length_range]; omega)]; exact Nat.le_refl _

theorem Root.conn {l : List RwD} {g : List Nat} (h : UF l g) {i r : Nat} (hr : Root g i r) (hi : i < l.length) : Conn l i r := by
  induction hr with
  | top => exact Conn.refl
  | step n _ ih =>
    have hc := h.upc hi
    exact hc.trans (ih (hc.lt hi))

/-- A step of the way is made shorter. -/
theorem UF.halve {l : List RwD} {g : List Nat} (h : UF l g) {i : Nat} (hi : i < l.length) (hne : up g i ≠ i) : UF l (g.set i (up g (up g i))) ∧ ∀ x r, Root g x r → Root (g.set i (up g (up g i))) x r := by
  have hc := h.upc hi
  have h1 := h.dn i
  have h2 := h.dn (up g i)
  obtain ⟨r, hr⟩ := Root.ex h.dn i
  refine ⟨h.set hi (by omega) (hc.trans (h.upc (hc.lt hi))), Root.short h.dn (by rw [h.snd.1]; exact hi) hr hr.of_up.of_up (Or.inl (by omega))⟩

/-- A member points to its end. -/
theorem UF.point {l : List RwD} {g : List Nat} (h : UF l g) {i r : Nat} (hi : i < l.length) (hr : Root g i r) : UF l (g.set i r) ∧ ∀ x s, Root g x s → Root (g.set i r) x s := by
  have hl := hr.le h.dn
  refine ⟨h.set hi hl (hr.conn h hi), Root.short h.dn (by rw [h.snd.1]; exact hi) hr (.top hr.fix) ?_⟩
  rcases Nat.lt_or_ge r i with e | e
  · exact Or.inl e
  · obtain rfl : r = i := by omega
    exact Or.inr ⟨rfl, hr.fix⟩

/-- Two ends become one. -/
theorem UF.join {l : List RwD} {g : List Nat} (h : UF l g) {a b : Nat} (ha : a < l.length) (hb : b < l.length) (hc : Conn l a b) (ha1 : up g a = a) (hb1 : up g b = b) :
    UF l (g.set (max a b) (min a b)) ∧ (∀ x y, Same2 g x y → Same2 (g.set (max a b) (min a b)) x y) ∧ Same2 (g.set (max a b) (min a b)) a b := by
  have key : ∀ a b : Nat, a < l.length → b < l.length → Conn l a b → up g a = a → up g b = b → a ≤ b → UF l (g.set b a) ∧ (∀ x y, Same2 g x y → Same2 (g.set b a) x y) ∧ Same2 (g.set b a) a b := by
    intro a b ha hb hc ha1 hb1 hab
    have hbl : b < g.length := by rw [h.snd.1]; exact hb
    refine ⟨h.set hb hab hc.symm, ?_⟩
    rcases Nat.lt_or_ge a b with hlt | hge
    · have hj := Root.join h.dn hbl hlt ha1 hb1
      refine ⟨fun x y ⟨r, h1, h2⟩ => ⟨_, hj x r h1, hj y r h2⟩, ?_⟩
      have q1 := hj a a (.top ha1)
      have q2 := hj b b (.top hb1)
      rw [if_neg (by omega)] at q1
      rw [if_pos rfl] at q2
      exact ⟨a, q1, q2⟩
    · obtain rfl : a = b := by omega
      have hs := Root.short h.dn hbl (.top ha1) (.top ha1) (Or.inr ⟨rfl, ha1⟩)
      exact ⟨fun x y ⟨r, h1, h2⟩ => ⟨r, hs x r h1, hs y r h2⟩, a, hs a a (.top ha1), hs a a (.top ha1)⟩
  rcases Nat.le_total a b with hab | hab
  · rw [Nat.max_eq_right hab, Nat.min_eq_left hab]
    exact key a b ha hb hc ha1 hb1 hab
  · rw [Nat.max_eq_left hab, Nat.min_eq_right hab]
    obtain ⟨q1, q2, q3⟩ := key b a hb ha hc.symm hb1 ha1 hab
    exact ⟨q1, q2, q3.symm⟩

/-- The last of the first so many that writes a key. -/
def lastN (l : List RwD) (key : ByteArray) : Nat → Option Nat
  | 0 => none
  | m + 1 => match l[m]? with | some t => if inK t.ws key = true then some m else lastN l key m | none => lastN l key m

theorem lastN_some {l : List RwD} {key : ByteArray} : ∀ {m w : Nat}, lastN l key m = some w → w < m ∧ ∃ t, l[w]? = some t ∧ key ∈ t.ws
  | 0, w, h => by cases h
  | m + 1, w, h => by
    unfold lastN at h
    cases hm : l[m]? with
    | none =>
      rw [hm] at h
      obtain ⟨h1, h2⟩ := lastN_some h
      exact ⟨by omega, h2⟩
    | some t =>
      rw [hm] at h
      simp only at h
      split at h
      · rename_i hk
        simp only [Option.some.injEq] at h
        subst h
        exact ⟨by omega, t, hm, inK_iff.1 hk⟩
      · obtain ⟨h1, h2⟩ := lastN_some h
        exact ⟨by omega, h2⟩

theorem lastN_ex {l : List RwD} {key : ByteArray} : ∀ {m i : Nat} {t : RwD}, i < m → l[i]? = some t → key ∈ t.ws → ∃ w, lastN l key m = some w
  | 0, i, t, h, _, _ => by omega
  | m + 1, i, t, h, h1, h2 => by
    unfold lastN
    cases hm : l[m]? with
    | none =>
      by_cases e : i = m
      · rw [e, hm] at h1; cases h1
      · exact lastN_ex (by omega) h1 h2
    | some u =>
      simp only
      by_cases hk : inK u.ws key = true
      · rw [if_pos hk]; exact ⟨m, rfl⟩
      · rw [if_neg hk]
        by_cases e : i = m
        · rw [e, hm] at h1
          simp only [Option.some.injEq] at h1
          subst h1
          exact absurd (inK_iff.2 h2) hk
        · exact lastN_ex (by omega) h1 h2

/-- What the first so many declare is joined with the last writers. -/
def Jn (l : List RwD) (g : List Nat) (m : Nat) : Prop := ∀ i t, i < m → l[i]? = some t → ∀ key, (key ∈ t.rs ∨ key ∈ t.ws) → ∀ w, lastN l key l.length = some w → Same2 g i w

theorem Jn.mono {l : List RwD} {g g' : List Nat} {m : Nat} (h : Jn l g m) (hs : ∀ x y, Same2 g x y → Same2 g' x y) : Jn l g' m := fun i t hi ht key hk w hw => hs _ _ (h i t hi ht key hk w hw)

theorem last_conn {l : List RwD} {i w : Nat} {t : RwD} {key : ByteArray} (ht : l[i]? = some t) (hk : key ∈ t.rs ∨ key ∈ t.ws) (hw : lastN l key l.length = some w) : Conn l i w := by
  obtain ⟨h1, u, hu, hk2⟩ := lastN_some hw
  refine Conn.one ?_
  rw [adjB_some ht hu, clashB_iff]
  rcases hk with hk | hk
  · exact Or.inr ⟨key, hk2, hk⟩
  · exact Or.inl ⟨key, hk, Or.inl hk2⟩

theorem Jn.same {l : List RwD} {g : List Nat} (h : Jn l g l.length) (hu : UF l g) {i j : Nat} (hc : Conn l i j) : Same2 g i j := by
  induction hc with
  | refl =>
    obtain ⟨r, hr⟩ := Root.ex hu.dn i
    exact ⟨r, hr, hr⟩
  | step hc ha ih =>
    rename_i j k
    refine ih.trans ?_
    obtain ⟨hj, hk⟩ := adjB_lt ha
    have ej := List.getElem?_eq_getElem hj
    have ek := List.getElem?_eq_getElem hk
    rw [adjB_some ej ek, clashB_iff] at ha
    have fin : ∀ key, (key ∈ l[j].rs ∨ key ∈ l[j].ws) → (key ∈ l[k].rs ∨ key ∈ l[k].ws) → (key ∈ l[j].ws ∨ key ∈ l[k].ws) → Same2 g j k := by
      intro key h1 h2 h3
      obtain ⟨w, hw⟩ : ∃ w, lastN l key l.length = some w := by
        rcases h3 with h3 | h3
        · exact lastN_ex hj ej h3
        · exact lastN_ex hk ek h3
      exact (h j _ hj ej key h1 w hw).trans (h k _ hk ek key h2 w hw).symm
    rcases ha with ⟨key, h1, h2 | h2⟩ | ⟨key, h1, h2⟩
    · exact fin key (Or.inr h1) (Or.inr h2) (Or.inl h1)
    · exact fin key (Or.inr h1) (Or.inl h2) (Or.inl h1)
    · exact fin key (Or.inl h2) (Or.inr h1) (Or.inr h1)

/-- The program's groups are right. -/
theorem UF.groups {l : List RwD} {g : List Nat} (h : UF l g) (hj : Jn l g l.length) (hr : ∀ i, i < l.length → Root g i (up g i)) : GSpec l g := by
  refine ⟨h.snd.1, h.snd.2, fun i j hi hc => ?_⟩
  have hl := hc.lt hi
  obtain ⟨r, h1, h2⟩ := hj.same h hc
  have e1 := (hr i hi).uniq h1
  have e2 := (hr j hl).uniq h2
  rw [← up_lt (by rw [h.snd.1]; exact hi), e1, ← e2]
  exact h.dn j
end Go.Proofs.YtcjmeaikdfgapaaDoor
