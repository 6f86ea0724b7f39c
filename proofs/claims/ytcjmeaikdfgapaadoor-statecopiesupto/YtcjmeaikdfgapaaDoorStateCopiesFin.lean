/- StateCopies: for every input the statement answers true, and each argument reads afterwards as it read before. Condition: the two tables of package mix read as the program's text lays them; and what the arguments hold is together of bulk at most 1048576. -/
import Derived.Test.YtcjmeaikdfgapaaDoorAccMath
import Derived.Test.YtcjmeaikdfgapaaDoorAccTx
import Derived.Laws.OwnMore
import Derived.Test.YtcjmeaikdfgapaaDoorMapStr
import Derived.BigQuiet
import Derived.Deep.QuietTactic
import Derived.Test.YtcjmeaikdfgapaaDoorTxRows
import Derived.Test.YtcjmeaikdfgapaaDoorKinds
import Derived.Test.YtcjmeaikdfgapaaDoorFrame
import Derived.Deep.Slices
import Derived.Lib.SmallJoins
import Derived.Test.YtcjmeaikdfgapaaDoorTxKind
import Derived.Test.YtcjmeaikdfgapaaDoorStaWorks
import Derived.Test.YtcjmeaikdfgapaaDoorStaRich
import Derived.Test.YtcjmeaikdfgapaaDoorRows
import Derived.Shelf.SlIter.Nil
import Derived.Shelf.SortM.Plain
import Derived.Shelf.SortM.SortNone
import Derived.Shelf.SlMaps.Clone
import Derived.Ground.GgzProg
import Derived.Ground.SlgmProg
import Derived.Ground.SlmcProg
import Derived.Test.YtcjmeaikdfgapaaDoorStaLie
import Derived.Test.YtcjmeaikdfgapaaDoorKindsOwn
import Derived.Test.YtcjmeaikdfgapaaDoorStaNew
import Derived.Test.YtcjmeaikdfgapaaDoorBld
import Derived.Test.YtcjmeaikdfgapaaDoorQueue
import Derived.BigRegion
import Derived.Test.YtcjmeaikdfgapaaDoorMixAll
import Derived.Deep.DeepCutAuto
import Derived.Deep.CutBlock
import Derived.JoinedCond
import Derived.Test.YtcjmeaikdfgapaaDoorCards
import Derived.Test.YtcjmeaikdfgapaaDoorTie
import Derived.SevenTiedAt
import Derived.Deep.DeepHandedRow
/- Layer 20's mathematics: members that point to lesser ones of their group, and what is joined. -/
namespace Go.Proofs.YtcjmeaikdfgapaaDoor
open Go.RowKit
set_option linter.unusedVariables false

/-- Where member i points to. -/
def up (g : List Nat) (i : Nat) : Nat := g.getD i i

theorem up_lt {g : List Nat} {i : Nat} (h : i < g.length) : up g i = g.getD i 0 := by
  unfold up
  simp only [List.getD_eq_getElem?_getD, List.getElem?_eq_getElem h]
  rfl

theorem up_get {g : List Nat} {i v : Nat} (h : g[i]? = some v) : up g i = v := by
  unfold up
  rw [List.getD_eq_getElem?_getD, h]
  rfl

theorem up_set {g : List Nat} {i : Nat} (h : i < g.length) (v x : Nat) : up (g.set i v) x = if x = i then v else up g x := by
  unfold up
  simp only [List.getD_eq_getElem?_getD, List.getElem?_set]
  by_cases hx : x = i
  · subst hx; simp [h]
  · rw [if_neg (fun e => hx e.symm), if_neg hx]

/-- The one that points to itself, at the end of the way. -/
inductive Root (g : List Nat) : Nat → Nat → Prop
  | top {r : Nat} : up g r = r → Root g r r
  | step {i r : Nat} : up g i ≠ i → Root g (up g i) r → Root g i r

def Dn (g : List Nat) : Prop := ∀ i, up g i ≤ i

theorem Root.ex {g : List Nat} (hd : Dn g) (i : Nat) : ∃ r, Root g i r := by
  induction i using Nat.strongRecOn with
  | ind i ih =>
    by_cases h : up g i = i
    · exact ⟨i, .top h⟩
    · have := hd i
      obtain ⟨r, hr⟩ := ih (up g i) (by omega)
      exact ⟨r, .step h hr⟩

theorem Root.fix {g : List Nat} {i r : Nat} (h : Root g i r) : up g r = r := by
  induction h with
  | top h => exact h
  | step _ _ ih => exact ih

theorem Root.uniq {g : List Nat} {i r s : Nat} (h : Root g i r) (k : Root g i s) : r = s := by
  induction h with
  | top h =>
    cases k with
    | top => rfl
    | step n _ => exact absurd h n
  | step n _ ih =>
    cases k with
    | top h => exact absurd h n
    | step _ k => exact ih k

theorem Root.le {g : List Nat} (hd : Dn g) {i r : Nat} (h : Root g i r) : r ≤ i := by
  induction h with
  | top => exact Nat.le_refl _
  | step _ _ ih => exact Nat.le_trans ih (hd _)

theorem Root.of_up {g : List Nat} {i r : Nat} (h : Root g i r) : Root g (up g i) r := by
  cases h with
  | top h => rw [h]; exact .top h
  | step _ h => exact h

theorem Root.at_up {g : List Nat} {i r : Nat} (h : Root g (up g i) r) : Root g i r := by
  by_cases e : up g i = i
  · rw [e] at h; exact h
  · exact .step e h

/-- A member that points to another one of its way: the ends stay. -/
theorem Root.short {g : List Nat} (hd : Dn g) {i v r0 : Nat} (hi : i < g.length) (h1 : Root g i r0) (h2 : Root g v r0) (hv : v < i ∨ (v = i ∧ up g i = i)) : ∀ x r, Root g x r → Root (g.set i v) x r := by
  intro x
  induction x using Nat.strongRecOn with
  | ind x ih =>
    intro r h
    by_cases hx : x = i
    · subst hx
      rcases hv with hv | ⟨rfl, hv⟩
      · refine .step ?_ ?_
        · rw [up_set hi, if_pos rfl]; omega
        · rw [up_set hi, if_pos rfl]
          obtain rfl := h1.uniq h
          exact ih v hv r0 h2
      · have e : up (g.set v v) v = v := by rw [up_set hi, if_pos rfl]
        have : r = v := h.uniq (.top hv)
        rw [this]
        exact .top e
    · have e : up (g.set i v) x = up g x := by rw [up_set hi, if_neg hx]
      cases h with
      | top h => exact .top (by rw [e]; exact h)
      | step n h =>
        refine .step (by rw [e]; exact n) ?_
        rw [e]
        have := hd x
        exact ih _ (by omega) r h

/-- Two ends are joined. -/
theorem Root.join {g : List Nat} (hd : Dn g) {a b : Nat} (hb : b < g.length) (hab : a < b) (ha1 : up g a = a) (hb1 : up g b = b) : ∀ x r, Root g x r → Root (g.set b a) x (if r = b then a else r) := by
  intro x
  induction x using Nat.strongRecOn with
  | ind x ih =>
    intro r h
    by_cases hx : x = b
    · subst hx
      obtain rfl := (Root.top hb1).uniq h
      rw [if_pos rfl]
      refine .step ?_ ?_
      · rw [up_set hb, if_pos rfl]; omega
      · rw [up_set hb, if_pos rfl]
        refine .top ?_
        rw [up_set hb, if_neg (by omega)]
        exact ha1
    · have e : up (g.set b a) x = up g x := by rw [up_set hb, if_neg hx]
      cases h with
      | top h =>
        rw [if_neg hx]
        exact .top (by rw [e]; exact h)
      | step n h =>
        refine .step (by rw [e]; exact n) ?_
        rw [e]
        have := hd x
        exact ih _ (by omega) r h

/-- Two have one end. -/
def Same2 (g : List Nat) (x y : Nat) : Prop := ∃ r, Root g x r ∧ Root g y r

theorem Same2.symm {g : List Nat} {x y : Nat} (h : Same2 g x y) : Same2 g y x := by
  obtain ⟨r, h1, h2⟩ := h
  exact ⟨r, h2, h1⟩

theorem Same2.trans {g : List Nat} {x y z : Nat} (h : Same2 g x y) (k : Same2 g y z) : Same2 g x z := by
  obtain ⟨r, h1, h2⟩ := h
  obtain ⟨s, k1, k2⟩ := k
  obtain rfl := h2.uniq k1
  exact ⟨r, h1, k2⟩

/-- Members that point to lesser ones of their group. -/
structure UF (l : List RwD) (g : List Nat) : Prop where
  snd : Snd l g
  dn : Dn g

theorem UF.upc {l : List RwD} {g : List Nat} (h : UF l g) {i : Nat} (hi : i < l.length) : Conn l i (up g i) := by
  rw [up_lt (by rw [h.snd.1]; exact hi)]
  exact h.snd.2 i hi

theorem UF.set {l : List RwD} {g : List Nat} (h : UF l g) {i v : Nat} (hi : i < l.length) (hv : v ≤ i) (hc : Conn l i v) : UF l (g.set i v) := by
  have hl : i < g.length := by rw [h.snd.1]; exact hi
  refine ⟨⟨by rw [List.length_set]; exact h.snd.1, fun x hx => ?_⟩, fun x => ?_⟩
  · rw [← up_lt (by rw [List.length_set, h.snd.1]; exact hx), up_set hl]
    split
    · rename_i e
      rw [e]; exact hc
    · exact h.upc hx
  · rw [up_set hl]
    split
    · rename_i e
      rw [e]; exact hv
    · exact h.dn x

theorem UF.start (l : List RwD) : UF l (List.range l.length) := by
  refine ⟨snd_start, fun i => ?_⟩
  unfold up
  rw [List.getD_eq_getElem?_getD]
  by_cases h : i < l.length
  · rw [List.getElem?_range h]; exact Nat.le_refl _
  · rw [List.getElem?_eq_none (by rw [List.length_range]; omega)]; exact Nat.le_refl _

theorem Root.conn {l : List RwD} {g : List Nat} (h : UF l g) {i r : Nat} (hr : Root g i r) (hi : i < l.length) : Conn l i r := by
  induction hr with
  | top => exact Conn.refl
  | step n _ ih =>
    have hc := h.upc hi
    exact hc.trans (ih (hc.lt hi))

/-- A step of the way is made shorter. -/
theorem UF.halve {l : List RwD} {g : List Nat} (h : UF l g) {i : Nat} (hi : i < l.length) (hne : up g i ≠ i) : UF l (g.set i (up g (up g i))) ∧ ∀ x r, Root g x r → Root (g.set i (up g (up g i))) x r := by
  have hc := h.upc hi
  have h1 := h.dn i
  have h2 := h.dn (up g i)
  obtain ⟨r, hr⟩ := Root.ex h.dn i
  refine ⟨h.set hi (by omega) (hc.trans (h.upc (hc.lt hi))), Root.short h.dn (by rw [h.snd.1]; exact hi) hr hr.of_up.of_up (Or.inl (by omega))⟩

/-- A member points to its end. -/
theorem UF.point {l : List RwD} {g : List Nat} (h : UF l g) {i r : Nat} (hi : i < l.length) (hr : Root g i r) : UF l (g.set i r) ∧ ∀ x s, Root g x s → Root (g.set i r) x s := by
  have hl := hr.le h.dn
  refine ⟨h.set hi hl (hr.conn h hi), Root.short h.dn (by rw [h.snd.1]; exact hi) hr (.top hr.fix) ?_⟩
  rcases Nat.lt_or_ge r i with e | e
  · exact Or.inl e
  · obtain rfl : r = i := by omega
    exact Or.inr ⟨rfl, hr.fix⟩

/-- Two ends become one. -/
theorem UF.join {l : List RwD} {g : List Nat} (h : UF l g) {a b : Nat} (ha : a < l.length) (hb : b < l.length) (hc : Conn l a b) (ha1 : up g a = a) (hb1 : up g b = b) :
    UF l (g.set (max a b) (min a b)) ∧ (∀ x y, Same2 g x y → Same2 (g.set (max a b) (min a b)) x y) ∧ Same2 (g.set (max a b) (min a b)) a b := by
  have key : ∀ a b : Nat, a < l.length → b < l.length → Conn l a b → up g a = a → up g b = b → a ≤ b → UF l (g.set b a) ∧ (∀ x y, Same2 g x y → Same2 (g.set b a) x y) ∧ Same2 (g.set b a) a b := by
    intro a b ha hb hc ha1 hb1 hab
    have hbl : b < g.length := by rw [h.snd.1]; exact hb
    refine ⟨h.set hb hab hc.symm, ?_⟩
    rcases Nat.lt_or_ge a b with hlt | hge
    · have hj := Root.join h.dn hbl hlt ha1 hb1
      refine ⟨fun x y ⟨r, h1, h2⟩ => ⟨_, hj x r h1, hj y r h2⟩, ?_⟩
      have q1 := hj a a (.top ha1)
      have q2 := hj b b (.top hb1)
      rw [if_neg (by omega)] at q1
      rw [if_pos rfl] at q2
      exact ⟨a, q1, q2⟩
    · obtain rfl : a = b := by omega
      have hs := Root.short h.dn hbl (.top ha1) (.top ha1) (Or.inr ⟨rfl, ha1⟩)
      exact ⟨fun x y ⟨r, h1, h2⟩ => ⟨r, hs x r h1, hs y r h2⟩, a, hs a a (.top ha1), hs a a (.top ha1)⟩
  rcases Nat.le_total a b with hab | hab
  · rw [Nat.max_eq_right hab, Nat.min_eq_left hab]
    exact key a b ha hb hc ha1 hb1 hab
  · rw [Nat.max_eq_left hab, Nat.min_eq_right hab]
    obtain ⟨q1, q2, q3⟩ := key b a hb ha hc.symm hb1 ha1 hab
    exact ⟨q1, q2, q3.symm⟩

/-- The last of the first so many that writes a key. -/
def lastN (l : List RwD) (key : ByteArray) : Nat → Option Nat
  | 0 => none
  | m + 1 => match l[m]? with | some t => if inK t.ws key = true then some m else lastN l key m | none => lastN l key m

theorem lastN_some {l : List RwD} {key : ByteArray} : ∀ {m w : Nat}, lastN l key m = some w → w < m ∧ ∃ t, l[w]? = some t ∧ key ∈ t.ws
  | 0, w, h => by cases h
  | m + 1, w, h => by
    unfold lastN at h
    cases hm : l[m]? with
    | none =>
      rw [hm] at h
      obtain ⟨h1, h2⟩ := lastN_some h
      exact ⟨by omega, h2⟩
    | some t =>
      rw [hm] at h
      simp only at h
      split at h
      · rename_i hk
        simp only [Option.some.injEq] at h
        subst h
        exact ⟨by omega, t, hm, inK_iff.1 hk⟩
      · obtain ⟨h1, h2⟩ := lastN_some h
        exact ⟨by omega, h2⟩

theorem lastN_ex {l : List RwD} {key : ByteArray} : ∀ {m i : Nat} {t : RwD}, i < m → l[i]? = some t → key ∈ t.ws → ∃ w, lastN l key m = some w
  | 0, i, t, h, _, _ => by omega
  | m + 1, i, t, h, h1, h2 => by
    unfold lastN
    cases hm : l[m]? with
    | none =>
      by_cases e : i = m
      · rw [e, hm] at h1; cases h1
      · exact lastN_ex (by omega) h1 h2
    | some u =>
      simp only
      by_cases hk : inK u.ws key = true
      · rw [if_pos hk]; exact ⟨m, rfl⟩
      · rw [if_neg hk]
        by_cases e : i = m
        · rw [e, hm] at h1
          simp only [Option.some.injEq] at h1
          subst h1
          exact absurd (inK_iff.2 h2) hk
        · exact lastN_ex (by omega) h1 h2

/-- What the first so many declare is joined with the last writers. -/
def Jn (l : List RwD) (g : List Nat) (m : Nat) : Prop := ∀ i t, i < m → l[i]? = some t → ∀ key, (key ∈ t.rs ∨ key ∈ t.ws) → ∀ w, lastN l key l.length = some w → Same2 g i w

theorem Jn.mono {l : List RwD} {g g' : List Nat} {m : Nat} (h : Jn l g m) (hs : ∀ x y, Same2 g x y → Same2 g' x y) : Jn l g' m := fun i t hi ht key hk w hw => hs _ _ (h i t hi ht key hk w hw)

theorem last_conn {l : List RwD} {i w : Nat} {t : RwD} {key : ByteArray} (ht : l[i]? = some t) (hk : key ∈ t.rs ∨ key ∈ t.ws) (hw : lastN l key l.length = some w) : Conn l i w := by
  obtain ⟨h1, u, hu, hk2⟩ := lastN_some hw
  refine Conn.one ?_
  rw [adjB_some ht hu, clashB_iff]
  rcases hk with hk | hk
  · exact Or.inr ⟨key, hk2, hk⟩
  · exact Or.inl ⟨key, hk, Or.inl hk2⟩

theorem Jn.same {l : List RwD} {g : List Nat} (h : Jn l g l.length) (hu : UF l g) {i j : Nat} (hc : Conn l i j) : Same2 g i j := by
  induction hc with
  | refl =>
    obtain ⟨r, hr⟩ := Root.ex hu.dn i
    exact ⟨r, hr, hr⟩
  | step hc ha ih =>
    rename_i j k
    refine ih.trans ?_
    obtain ⟨hj, hk⟩ := adjB_lt ha
    have ej := List.getElem?_eq_getElem hj
    have ek := List.getElem?_eq_getElem hk
    rw [adjB_some ej ek, clashB_iff] at ha
    have fin : ∀ key, (key ∈ l[j].rs ∨ key ∈ l[j].ws) → (key ∈ l[k].rs ∨ key ∈ l[k].ws) → (key ∈ l[j].ws ∨ key ∈ l[k].ws) → Same2 g j k := by
      intro key h1 h2 h3
      obtain ⟨w, hw⟩ : ∃ w, lastN l key l.length = some w := by
        rcases h3 with h3 | h3
        · exact lastN_ex hj ej h3
        · exact lastN_ex hk ek h3
      exact (h j _ hj ej key h1 w hw).trans (h k _ hk ek key h2 w hw).symm
    rcases ha with ⟨key, h1, h2 | h2⟩ | ⟨key, h1, h2⟩
    · exact fin key (Or.inr h1) (Or.inr h2) (Or.inl h1)
    · exact fin key (Or.inr h1) (Or.inl h2) (Or.inl h1)
    · exact fin key (Or.inl h2) (Or.inr h1) (Or.inr h1)

/-- The program's groups are right. -/
theorem UF.groups {l : List RwD} {g : List Nat} (h : UF l g) (hj : Jn l g l.length) (hr : ∀ i, i < l.length → Root g i (up g i)) : GSpec l g := by
  refine ⟨h.snd.1, h.snd.2, fun i j hi hc => ?_⟩
  have hl := hc.lt hi
  obtain ⟨r, h1, h2⟩ := hj.same h hc
  have e1 := (hr i hi).uniq h1
  have e2 := (hr j hl).uniq h2
  rw [← up_lt (by rw [h.snd.1]; exact hi), e1, ← e2]
  exact h.dn j
end Go.Proofs.YtcjmeaikdfgapaaDoor

/- What (access.groups).least and join do. -/
namespace Go.Proofs.YtcjmeaikdfgapaaDoor
open Go Go.RowKit
set_option linter.unusedVariables false

/-- A number of a row of the call's own, and how it is written. -/
theorem KQ.natSet {T : TypeId} {w : World} {B g off n cap : Nat} {l : List Nat} (h : KQ natK T w B (.slice (some ⟨g, off, none⟩) n cap) l) {i x : Nat} (hx : l[i]? = some x) :
    w.cell? ⟨g, off + i, none⟩ = some (.int .i64 (x : Int)) ∧ w.frozen? ⟨g, off + i, none⟩ = false ∧ B ≤ g ∧ g < w.heap.size ∧ ∀ v : Nat, KQ natK T (w.setCell ⟨g, off + i, none⟩ (.int .i64 (v : Int))) B (.slice (some ⟨g, off, none⟩) n cap) (l.set i v) := by
  obtain ⟨g', off', e', q2, q3, q4, q5, q6⟩ := h.set hx
  simp only [Option.some.injEq, Addr.mk.injEq, and_true] at e'
  obtain ⟨rfl, rfl⟩ := e'
  have e : off + i * natK.n + 0 = off + i := by show off + i * 1 + 0 = _; omega
  refine ⟨?_, q5 _, q2, q3, fun v => ?_⟩
  · have := q4 0 _ rfl
    rw [e] at this
    exact this
  · have := q6 v 0 (.int .i64 (v : Int)) (by show 0 < 1; decide) rfl trivial (fun _ h => h)
    rw [e] at this
    exact this

theorem KQ.natAt {T : TypeId} {w : World} {B n cap : Nat} {ao : Option Addr} {l : List Nat} (h : KQ natK T w B (.slice ao n cap) l) (hl : 0 < l.length) : ∃ g off, ao = some ⟨g, off, none⟩ := by
  obtain ⟨g, off, e, _⟩ := h.spot hl
  exact ⟨g, off, e⟩

/-- What points to an end stays as it is. -/
def Stay (g g' : List Nat) : Prop := ∀ x, up g (up g x) = up g x → up g' x = up g x

theorem Stay.refl (g : List Nat) : Stay g g := fun _ _ => rfl

theorem Stay.trans {g g' g'' : List Nat} (h : Stay g g') (k : Stay g' g'') : Stay g g'' := by
  intro x hx
  have h1 := h x hx
  have h2 := h (up g x) (by rw [hx, hx])
  rw [hx] at h2
  have h3 := k x (by rw [h1]; exact h2)
  rw [h3, h1]

theorem stay_halve {g : List Nat} {j : Nat} (hj : j < g.length) : Stay g (g.set j (up g (up g j))) := by
  intro x hx
  rw [up_set hj]
  split
  · rename_i e
    rw [e] at hx ⊢
    exact hx
  · rfl

/-- The least one of a group is told. -/
def GotLeast (l : List RwD) (W : World) (B g : Nat) (q : Value) (gl : List Nat) (i : Nat) (e : Ending) (w : World) : Prop :=
  ∃ r gl', e = .returned (.int .i64 ((r : Nat) : Int)) ∧ Root gl i r ∧ KQ natK 3 w B q gl' ∧ UF l gl' ∧ (∀ x s, Root gl x s → Root gl' x s) ∧ Stay gl gl' ∧ Kept (fun k => k = g) W w

/-- Two groups are joined. -/
def GotJoin (l : List RwD) (W : World) (B g : Nat) (q : Value) (gl : List Nat) (i k : Nat) (e : Ending) (w : World) : Prop :=
  e = .returned (.tuple #[]) ∧ ∃ gl', KQ natK 3 w B q gl' ∧ UF l gl' ∧ (∀ x y, Same2 gl x y → Same2 gl' x y) ∧ Same2 gl' i k ∧ Kept (fun k => k = g) W w
end Go.Proofs.YtcjmeaikdfgapaaDoor

/- What access.Clash does. -/
namespace Go.Proofs.YtcjmeaikdfgapaaDoor
open Go Go.RowKit
set_option linter.unusedVariables false

/-- What is declared of a key. -/
def usesF (rs ws : List ByteArray) (k : ByteArray) : Option Value := if inK ws k = true then some (.int .i64 2) else if inK rs k = true then some (.int .i64 1) else none

theorem inK_snoc (l : List ByteArray) (x k : ByteArray) : inK (l ++ [x]) k = (inK l k || decide (x = k)) := by
  unfold inK
  rw [List.any_append]
  simp

theorem usesF_read {rs : List ByteArray} {i : Nat} {x : ByteArray} (hx : rs[i]? = some x) (k : ByteArray) : usesF (rs.take (i + 1)) [] k = putF (usesF (rs.take i) []) x (.int .i64 1) k := by
  rw [List.take_add_one, hx]
  unfold usesF putF
  show _ = if k = x then _ else _
  have e0 : inK [] k = false := rfl
  simp only [e0, Option.toList_some, inK_snoc]
  by_cases h : k = x
  · subst h; simp
  · rw [if_neg h]
    have : decide (x = k) = false := decide_eq_false (fun e => h e.symm)
    rw [this, Bool.or_false]

theorem usesF_write {rs ws : List ByteArray} {i : Nat} {x : ByteArray} (hx : ws[i]? = some x) (k : ByteArray) : usesF rs (ws.take (i + 1)) k = putF (usesF rs (ws.take i)) x (.int .i64 2) k := by
  rw [List.take_add_one, hx]
  unfold usesF putF
  simp only [Option.toList_some, inK_snoc]
  by_cases h : k = x
  · subst h; simp
  · rw [if_neg h]
    have : decide (x = k) = false := decide_eq_false (fun e => h e.symm)
    rw [this, Bool.or_false]

theorem putN_le (f : ByteArray → Option Value) (id : ByteArray) (n : Nat) : putN f id n ≤ n + 1 := by
  unfold putN
  split <;> omega

def GotUses (W : World) (x : TxA) (e : Ending) (w : World) : Prop :=
  ∃ b n, e = .returned (.map (some b)) ∧ SMap w b (usesF x.rs x.ws) n ∧ W.heap.size ≤ b ∧ Below W.heap.size W w

set_option maxRecDepth 100000 in
set_option maxHeartbeats 1000000 in
theorem usesA_any (x : TxA) (w : World) (hA : TxA.At w x) (lr : x.rs.length ≤ 1000000) (lw : x.ws.length ≤ 1000000) :
    Calls Tryd.prog 41 #[x.v] w fun e w' => GotUses w x e w' := by
  have hX := Arr.new w 33 x.c
  have hB := belowNew w (.cells x.c.toArray 33)
  have hM := SMap.new (w.alloc (.cells x.c.toArray 33))
  have hBm := belowNew (w.alloc (.cells x.c.toArray 33)) (.map #[] 0)
  rw [alloc_size] at hM
  have hX1 := hX.below hBm (by rw [alloc_size]; omega)
  have hB1 := hB.trans (hBm.mono (by rw [alloc_size]; omega))
  obtain ⟨hrd, hwr, hnr, hnw, hzr, hzw⟩ := hA
  obtain ⟨kind, frm, dst, amt, non, key, val, rs, ws, ra, rc, wa, wc⟩ := x
  replace lr : rs.length ≤ 1000000 := lr
  replace lw : ws.length ≤ 1000000 := lw
  replace hrd : RowAt textK w ra rs := hrd
  replace hwr : RowAt textK w wa ws := hwr
  replace hzr : ∀ s ∈ rs, s.size ≤ maxLen := hzr
  replace hzw : ∀ s ∈ ws, s.size ≤ maxLen := hzw
  have k7 := hX1.cell (i := 7) rfl
  have k8 := hX1.cell (i := 8) rfl
  have k7a := hX.cell (i := 7) rfl
  have k8a := hX.cell (i := 8) rfl
  have mk : ∀ (n : Int) (w : World), (Instr.makeMap 84 (some (.int .i64 n))).run Tryd.prog w = .ok (.map (some w.heap.size)) (w.alloc (.map #[] 0)) := fun n w => rfl
  clear hX hB hBm hnr hnw
  unfold TxA.v
  go_enter Tryd.func41, Tryd.ntmps41
  go_wp2_with fail
  go_loopw [19] (fun v19 wr => ∃ i m : Nat, i ≤ rs.length ∧ v19 = .int .i64 (i : Int) ∧ SMap wr (w.heap.size + 1) (usesF (rs.take i) []) m ∧ m ≤ i ∧ wr.cell? ⟨w.heap.size, 8, none⟩ = some (.slice wa ws.length wc) ∧ w.heap.size < wr.heap.size ∧ Below w.heap.size w wr) (fun v _ => rs.length - (intOf v).toNat)
  case atStart => exact ⟨0, 0, Nat.zero_le _, rfl, hM, Nat.le_refl _, k8, hX1.lt, hB1⟩
  case round =>
    obtain ⟨i, m, hi, rfl, hm1, hm2, hk8, hlt, hb⟩ := hrel
    clear hM hX1 hB1 k7 k8 k7a k8a
    by_cases hil : i < rs.length
    · have g1 : (i : Int) < (rs.length : Int) := by omega
      obtain ⟨y, hy⟩ : ∃ p, rs[i]? = some p := ⟨_, List.getElem?_eq_getElem hil⟩
      obtain ⟨b, off, rfl, hbl, hcell⟩ := (hrd.below hb).txt hy
      have hid := hzr y (List.mem_of_getElem? hy)
      have hmx : m < maxLen := by unfold maxLen; omega
      have hnx : Hid (∀ k, usesF (rs.take (i + 1)) [] k = putF (usesF (rs.take i) []) y (.int .i64 1) k) := usesF_read hy
      go_wp2_with (at_mapUpdate; refine smap_put rfl _ _ _ 84 rfl 3 Tryd.underlying84 (w.heap.size + 1) _ _ rfl hm1 hmx y hid rfl _ rfl ?_; intro w5 hM5 hk5)
      have hp := putN_le (usesF (rs.take i) []) y m
      go_roundw
      case rel => exact ⟨i + 1, _, by omega, by go_num, hM5.congr hnx.out, by omega, by rw [hk5.cell (p := ⟨w.heap.size, 8, none⟩) hlt (fun e => by have : w.heap.size = w.heap.size + 1 := e; omega)]; exact hk8, Nat.lt_of_lt_of_le hlt hk5.size, hb.trans (hk5.below hb.size (fun k e => by have : k = w.heap.size + 1 := e; omega))⟩
      case measure => simp [intOf]; omega
    · have g1 : ¬ (i : Int) < (rs.length : Int) := by omega
      have hir : i = rs.length := by omega
      rw [hir, List.take_length] at hm1
      have hm2' : m ≤ rs.length := by omega
      clear hir hm2 hil hi hrd
      go_wp2_with fail
      go_loopw [29] (fun v29 wr => ∃ i m : Nat, i ≤ ws.length ∧ v29 = .int .i64 (i : Int) ∧ SMap wr (w.heap.size + 1) (usesF rs (ws.take i)) m ∧ m ≤ rs.length + i ∧ Below w.heap.size w wr) (fun v _ => ws.length - (intOf v).toNat)
      case atStart => exact ⟨0, m, Nat.zero_le _, rfl, hm1, by omega, hb⟩
      case round =>
        obtain ⟨i, m, hi, rfl, hm1, hm2, hb⟩ := hrel
        by_cases hil : i < ws.length
        · have g1 : (i : Int) < (ws.length : Int) := by omega
          obtain ⟨y, hy⟩ : ∃ p, ws[i]? = some p := ⟨_, List.getElem?_eq_getElem hil⟩
          obtain ⟨b, off, rfl, hbl, hcell⟩ := (hwr.below hb).txt hy
          have hid := hzw y (List.mem_of_getElem? hy)
          have hmx : m < maxLen := by unfold maxLen; omega
          have hnx : Hid (∀ k, usesF rs (ws.take (i + 1)) k = putF (usesF rs (ws.take i)) y (.int .i64 2) k) := usesF_write hy
          go_wp2_with (at_mapUpdate; refine smap_put rfl _ _ _ 84 rfl 3 Tryd.underlying84 (w.heap.size + 1) _ _ rfl hm1 hmx y hid rfl _ rfl ?_; intro w5 hM5 hk5)
          have hp := putN_le (usesF rs (ws.take i)) y m
          go_roundw
          case rel => exact ⟨i + 1, _, by omega, by go_num, hM5.congr hnx.out, by omega, hb.trans (hk5.below hb.size (fun k e => by have : k = w.heap.size + 1 := e; omega))⟩
          case measure => simp [intOf]; omega
        · have g1 : ¬ (i : Int) < (ws.length : Int) := by omega
          have hir : i = ws.length := by omega
          rw [hir, List.take_length] at hm1
          clear hir hm2 hil hi
          go_wp2
          go_ret
          exact ⟨_, _, rfl, hm1, by omega, hb⟩

set_option maxRecDepth 100000 in
theorem zeroIntA (w : World) : (zeroValue 3).run Tryd.prog w = .ok (.int .i64 0) w := by rfl

theorem clash_uses (a b : RwD) : clashB a b = (b.ws.any (fun y => inK a.ws y || inK a.rs y) || b.rs.any (fun y => inK a.ws y)) := by
  rw [Bool.eq_iff_iff, clashB_iff]
  simp only [Bool.or_eq_true, List.any_eq_true, inK_iff]
  constructor
  · rintro (⟨k, h1, h2 | h2⟩ | ⟨k, h1, h2⟩)
    · exact Or.inl ⟨k, h2, Or.inl h1⟩
    · exact Or.inr ⟨k, h2, h1⟩
    · exact Or.inl ⟨k, h1, Or.inr h2⟩
  · rintro (⟨k, h1, h2 | h2⟩ | ⟨k, h1, h2⟩)
    · exact Or.inl ⟨k, h2, Or.inl h1⟩
    · exact Or.inr ⟨k, h1, h2⟩
    · exact Or.inl ⟨k, h2, Or.inr h1⟩

theorem two_newA (w : World) (x y : TxA) : ∃ w2, w2 = (w.alloc (.cells x.c.toArray 33)).alloc (.cells y.c.toArray 33) ∧ Arr w2 w.heap.size 33 x.c ∧ Arr w2 (w.heap.size + 1) 33 y.c ∧ Below w.heap.size w w2 := by
  obtain ⟨h1, h2, h3⟩ := two_new w 33 33 x.c y.c
  exact ⟨_, rfl, h1, h2, h3⟩

theorem take_any {α : Type} {l : List α} {p : α → Bool} {i : Nat} {x : α} (hx : l[i]? = some x) (h : (l.take i).any p = false) (hp : p x = false) : (l.take (i + 1)).any p = false := by
  rw [List.take_add_one, hx, List.any_append, h]
  simp [hp]

theorem any_hit {α : Type} {l : List α} {p : α → Bool} {i : Nat} {x : α} (hx : l[i]? = some x) (hp : p x = true) : l.any p = true := List.any_eq_true.2 ⟨x, List.mem_of_getElem? hx, hp⟩

set_option maxRecDepth 100000 in
set_option maxHeartbeats 1000000 in
theorem clashA_any (x y : TxA) (w : World) (hA : TxA.At w x) (hB : TxA.At w y) (xr : x.rs.length ≤ 1000000) (xw : x.ws.length ≤ 1000000) (yr : y.rs.length ≤ 1000000) (yw : y.ws.length ≤ 1000000) :
    Calls Tryd.prog 23 #[x.v, y.v] w fun e w' => e = .returned (.bool (clashB x.rw y.rw)) ∧ Below w.heap.size w w' := by
  obtain ⟨w2, hw2, hX, hY, hb2⟩ := two_newA w x y
  have hU := usesA_any x w2 (hA.below hb2) xr xw
  have hrd := hB.rd
  have hwr := hB.wr
  have hzr := hB.zr
  have hzw := hB.zw
  rw [clash_uses]
  obtain ⟨kind, frm, dst, amt, non, key, val, rs, ws, ra, rc, wa, wc⟩ := x
  obtain ⟨kind', frm', dst', amt', non', key', val', rs', ws', ra', rc', wa', wc'⟩ := y
  show Calls _ _ _ _ fun e w' => e = .returned (.bool (ws'.any (fun y => inK ws y || inK rs y) || rs'.any (fun y => inK ws y))) ∧ _
  replace hw2 : (w.alloc (.cells #[.int .i64 kind, .string frm, .string dst, .int .u64 amt, .int .u64 non, .string key, .string val, .slice ra rs.length rc, .slice wa ws.length wc] 33)).alloc (.cells #[.int .i64 kind', .string frm', .string dst', .int .u64 amt', .int .u64 non', .string key', .string val', .slice ra' rs'.length rc', .slice wa' ws'.length wc'] 33) = w2 := hw2.symm
  replace hrd : RowAt textK w ra' rs' := hrd
  replace hwr : RowAt textK w wa' ws' := hwr
  replace hzr : ∀ s ∈ rs', s.size ≤ maxLen := hzr
  replace hzw : ∀ s ∈ ws', s.size ≤ maxLen := hzw
  replace yr : rs'.length ≤ 1000000 := yr
  replace yw : ws'.length ≤ 1000000 := yw
  have x0 := hX.cell (i := 0) rfl
  have x1 := hX.cell (i := 1) rfl
  have x2 := hX.cell (i := 2) rfl
  have x3 := hX.cell (i := 3) rfl
  have x4 := hX.cell (i := 4) rfl
  have x5 := hX.cell (i := 5) rfl
  have x6 := hX.cell (i := 6) rfl
  have x7 := hX.cell (i := 7) rfl
  have x8 := hX.cell (i := 8) rfl
  clear hA hB
  unfold TxA.v at hU ⊢
  go_enter Tryd.func23, Tryd.ntmps23
  go_wp2_with (go_at_call 41; refine hU.mono ?_; rintro _ w3 ⟨mb, mn, rfl, hM, hmb, hb3⟩; have hY3 := hY.below hb3 hY.lt; have y7 := hY3.cell (i := 7) rfl; have y8 := hY3.cell (i := 8) rfl; clear x0 x1 x2 x3 x4 x5 x6 x7 x8 hX hY hU hw2)
  replace hM : SMap w3 mb (usesF rs ws) mn := hM
  have hbw := hb2.trans (hb3.mono hb2.size)
  have hrd3 := hrd.below hbw
  have hwr3 := hwr.below hbw
  clear hb2 hb3 hrd hwr hmb
  go_loopw [15] (fun v15 wr => ∃ i : Nat, i ≤ ws'.length ∧ v15 = .int .i64 (i : Int) ∧ Hid ((ws'.take i).any (fun y => inK ws y || inK rs y) = false) ∧ wr = w3) (fun v _ => ws'.length - (intOf v).toNat)
  case atStart => exact ⟨0, Nat.zero_le _, rfl, rfl, rfl⟩
  case round =>
    obtain ⟨i, hi, rfl, hno, rfl⟩ := hrel
    by_cases hil : i < ws'.length
    · have g1 : (i : Int) < (ws'.length : Int) := by omega
      obtain ⟨y, hy⟩ : ∃ p, ws'[i]? = some p := ⟨_, List.getElem?_eq_getElem hil⟩
      obtain ⟨b, off, rfl, hbl, hcell⟩ := hwr3.txt hy
      have hid := hzw y (List.mem_of_getElem? hy)
      cases hu : (inK ws y || inK rs y) with
      | true =>
        have hres : Hid (ws'.any (fun y => inK ws y || inK rs y) = true) := any_hit hy hu
        obtain ⟨n, hn0, hun⟩ : ∃ n : Int, ((n == 0) = false) ∧ Hid (usesF rs ws y = some (.int .i64 n)) := by
          unfold Hid usesF
          by_cases h1 : inK ws y = true
          · exact ⟨2, rfl, by rw [if_pos h1]⟩
          · have h2 : inK rs y = true := by rw [Bool.not_eq_true] at h1; rw [h1] at hu; simpa using hu
            exact ⟨1, rfl, by rw [if_neg h1, if_pos h2]⟩
        clear hu
        go_wp2_with (at_lookup; refine smap_look (by rfl) _ _ 84 rfl 3 Tryd.underlying84 _ (zeroIntA _) mb _ _ rfl hM y hid rfl ?_; rw [hun.out]; simp only [Option.getD_some])
        go_ret
        exact ⟨by rw [hres.out]; rfl, hbw⟩
      | false =>
        have hno' : Hid ((ws'.take (i + 1)).any (fun y => inK ws y || inK rs y) = false) := take_any hy hno.out hu
        have hun : Hid (usesF rs ws y = none) := by
          unfold Hid usesF
          rw [Bool.or_eq_false_iff] at hu
          rw [hu.1, hu.2]
          rfl
        clear hu hno
        go_wp2_with (at_lookup; refine smap_look (by rfl) _ _ 84 rfl 3 Tryd.underlying84 _ (zeroIntA _) mb _ _ rfl hM y hid rfl ?_; rw [hun.out]; simp only [Option.getD_none])
        go_roundw
        case rel => exact ⟨i + 1, by omega, by go_num, hno', by trivial⟩
        case measure => simp [intOf]; omega
    · have g1 : ¬ (i : Int) < (ws'.length : Int) := by omega
      have hir : i = ws'.length := by omega
      have hN : Hid (ws'.any (fun y => inK ws y || inK rs y) = false) := by
        have := hno.out
        rw [hir, List.take_length] at this
        exact this
      clear hir hno hil hi
      go_wp2_with fail
      go_loopw [27] (fun v27 wz => ∃ i : Nat, i ≤ rs'.length ∧ v27 = .int .i64 (i : Int) ∧ Hid ((rs'.take i).any (fun y => inK ws y) = false) ∧ wz = wr) (fun v _ => rs'.length - (intOf v).toNat)
      case atStart => exact ⟨0, Nat.zero_le _, rfl, rfl, rfl⟩
      case round =>
        obtain ⟨i, hi, rfl, hno, rfl⟩ := hrel
        by_cases hil : i < rs'.length
        · have g1 : (i : Int) < (rs'.length : Int) := by omega
          obtain ⟨y, hy⟩ : ∃ p, rs'[i]? = some p := ⟨_, List.getElem?_eq_getElem hil⟩
          obtain ⟨b, off, rfl, hbl, hcell⟩ := hrd3.txt hy
          have hid := hzr y (List.mem_of_getElem? hy)
          cases hu : inK ws y with
          | true =>
            have hres : Hid (rs'.any (fun y => inK ws y) = true) := any_hit hy hu
            have hun : Hid (usesF rs ws y = some (.int .i64 2)) := by
              unfold Hid usesF
              rw [if_pos hu]
            clear hu
            go_wp2_with (at_lookup; refine smap_look (by rfl) _ _ 84 rfl 3 Tryd.underlying84 _ (zeroIntA _) mb _ _ rfl hM y hid rfl ?_; rw [hun.out]; simp only [Option.getD_some])
            go_ret
            exact ⟨by rw [hres.out, Bool.or_true]; rfl, hbw⟩
          | false =>
            have hno' : Hid ((rs'.take (i + 1)).any (fun y => inK ws y) = false) := take_any hy hno.out hu
            obtain ⟨n, hn0, hun⟩ : ∃ n : Int, ((n == 2) = false) ∧ Hid ((usesF rs ws y).getD (.int .i64 0) = .int .i64 n) := by
              unfold Hid usesF
              rw [hu]
              by_cases h2 : inK rs y = true
              · exact ⟨1, rfl, by rw [if_pos h2]; rfl⟩
              · exact ⟨0, rfl, by rw [if_neg h2]; rfl⟩
            clear hu hno
            go_wp2_with (at_lookup; refine smap_look (by rfl) _ _ 84 rfl 3 Tryd.underlying84 _ (zeroIntA _) mb _ _ rfl hM y hid rfl ?_; rw [hun.out])
            go_roundw
            case rel => exact ⟨i + 1, by omega, by go_num, hno', by trivial⟩
            case measure => simp [intOf]; omega
        · have g1 : ¬ (i : Int) < (rs'.length : Int) := by omega
          have hir : i = rs'.length := by omega
          have hN2 : Hid (rs'.any (fun y => inK ws y) = false) := by
            have := hno.out
            rw [hir, List.take_length] at this
            exact this
          clear hir hno hil hi
          go_wp2
          go_ret
          exact ⟨by rw [hN.out, hN2.out]; rfl, hbw⟩
end Go.Proofs.YtcjmeaikdfgapaaDoor

/- What (access.groups).joinBy, access.lastWriters and access.Groups do. -/
namespace Go.Proofs.YtcjmeaikdfgapaaDoor
open Go Go.RowKit
set_option linter.unusedVariables false

/-- The last writers, as a map tells them. -/
def lastF (l : List RwD) (key : ByteArray) : Option Value := (lastN l key l.length).map (fun w => .int .i64 ((w : Nat) : Int))

/-- All these keys' last writers are joined with member i. -/
def JnK (l : List RwD) (g : List Nat) (i : Nat) (ks : List ByteArray) : Prop := ∀ key ∈ ks, ∀ w, lastN l key l.length = some w → Same2 g i w

theorem JnK.mono {l : List RwD} {g g' : List Nat} {i : Nat} {ks : List ByteArray} (h : JnK l g i ks) (hs : ∀ x y, Same2 g x y → Same2 g' x y) : JnK l g' i ks := fun key hk w hw => hs _ _ (h key hk w hw)

theorem JnK.more {l : List RwD} {g : List Nat} {i j : Nat} {ks : List ByteArray} {y : ByteArray} (hy : ks[j]? = some y) (h : JnK l g i (ks.take j)) (hn : ∀ w, lastN l y l.length = some w → Same2 g i w) : JnK l g i (ks.take (j + 1)) := by
  intro key hk w hw
  rw [List.take_add_one, hy, List.mem_append] at hk
  rcases hk with hk | hk
  · exact h key hk w hw
  · simp only [Option.toList_some, List.mem_singleton] at hk
    subst hk
    exact hn w hw

/-- A member is joined with the last writers of its keys. -/
def GotJoinBy (l : List RwD) (W : World) (B g : Nat) (q : Value) (gl : List Nat) (i : Nat) (ks : List ByteArray) (e : Ending) (w : World) : Prop :=
  e = .returned (.tuple #[]) ∧ ∃ gl', KQ natK 3 w B q gl' ∧ UF l gl' ∧ (∀ x y, Same2 gl x y → Same2 gl' x y) ∧ JnK l gl' i ks ∧ Kept (fun k => k = g) W w
end Go.Proofs.YtcjmeaikdfgapaaDoor

/- What access.lastWriters does. -/
namespace Go.Proofs.YtcjmeaikdfgapaaDoor
open Go Go.RowKit
set_option linter.unusedVariables false

/-- Transactions are few, and their keys. -/
def Few (l : List TxA) : Prop := l.length ≤ 1000 ∧ ∀ x ∈ l, x.rs.length ≤ 1000 ∧ x.ws.length ≤ 1000

/-- The last writers among the first i members, and of member i's first keys. -/
def lastP (l : List RwD) (i : Nat) (ks : List ByteArray) (key : ByteArray) : Option Value :=
  if inK ks key = true then some (.int .i64 ((i : Nat) : Int)) else (lastN l key i).map (fun w => .int .i64 ((w : Nat) : Int))

theorem lastP_put {l : List RwD} {i j : Nat} {ks : List ByteArray} {y : ByteArray} (hy : ks[j]? = some y) (k : ByteArray) : lastP l i (ks.take (j + 1)) k = putF (lastP l i (ks.take j)) y (.int .i64 ((i : Nat) : Int)) k := by
  rw [List.take_add_one, hy]
  unfold lastP putF
  simp only [Option.toList_some, inK_snoc]
  by_cases h : k = y
  · subst h; simp
  · rw [if_neg h]
    have : decide (y = k) = false := decide_eq_false (fun e => h e.symm)
    rw [this, Bool.or_false]

theorem lastP_end {l : List RwD} {i : Nat} {t : RwD} (ht : l[i]? = some t) (k : ByteArray) : lastP l (i + 1) [] k = lastP l i t.ws k := by
  have h1 : lastN l k (i + 1) = match l[i]? with | some t => if inK t.ws k = true then some i else lastN l k i | none => lastN l k i := rfl
  unfold lastP
  have e0 : inK [] k = false := rfl
  rw [e0, h1, ht]
  simp only [Bool.false_eq_true, if_false]
  by_cases h : inK t.ws k = true
  · rw [if_pos h, if_pos h]; rfl
  · rw [if_neg h, if_neg h]

theorem lastP_start (l : List RwD) (k : ByteArray) : lastP l 0 [] k = none := rfl

def GotLast (W : World) (l : List RwD) (e : Ending) (w : World) : Prop :=
  ∃ b n, e = .returned (.map (some b)) ∧ SMap w b (lastF l) n ∧ W.heap.size ≤ b ∧ Below W.heap.size W w
end Go.Proofs.YtcjmeaikdfgapaaDoor

/- What tusklaw20.Great does. -/
namespace Go.Proofs.YtcjmeaikdfgapaaDoor
open Go Go.RowKit
set_option linter.unusedVariables false

/-- How much transactions are, with their keys. -/
def totA (l : List TxA) : Nat := (l.map (fun x => 1 + x.rs.length + x.ws.length)).sum

theorem totA_next {l : List TxA} {i : Nat} {x : TxA} (h : l[i]? = some x) : totA (l.take (i + 1)) = totA (l.take i) + (1 + x.rs.length + x.ws.length) := by
  unfold totA
  rw [List.take_add_one, h, Option.toList_some, List.map_append, List.sum_append]
  simp

theorem totA_le (l : List TxA) (i : Nat) : totA (l.take i) ≤ totA l := by
  have h : totA l = totA (l.take i) + totA (l.drop i) := by
    conv => lhs; rw [← List.take_append_drop i l]
    unfold totA
    rw [List.map_append, List.sum_append]
  omega

theorem totA_mem {l : List TxA} {x : TxA} (h : x ∈ l) : 1 + x.rs.length + x.ws.length ≤ totA l := by
  obtain ⟨i, hi⟩ := List.mem_iff_getElem?.1 h
  have h1 := totA_next hi
  have h2 := totA_le l (i + 1)
  omega

theorem totA_length : ∀ (l : List TxA), l.length ≤ totA l
  | [] => Nat.le_refl _
  | x :: l => by
    have := totA_length l
    have e : totA (x :: l) = (1 + x.rs.length + x.ws.length) + totA l := by simp [totA]
    rw [List.length_cons, e]
    omega

/-- Are they too many? -/
def greatA (l : List TxA) : Bool := decide (500 < totA l)

theorem few_of {l : List TxA} (h : greatA l = false) : Few l := by
  have h1 := of_decide_eq_false h
  have h2 := totA_length l
  refine ⟨by omega, fun x hx => ?_⟩
  have := totA_mem hx
  omega

/-- What a machine has at most. -/
def Wide (l : List TxA) : Prop := l.length ≤ 17592186044416 ∧ ∀ x ∈ l, x.rs.length ≤ 17592186044416 ∧ x.ws.length ≤ 17592186044416

set_option maxRecDepth 100000 in
set_option maxHeartbeats 2000000 in
theorem great_any (l : List TxA) (ao : Option Addr) (cp : Nat) (w : World) (hl : RowAt txA w ao l) (hw : Wide l) :
    Calls Tryd.prog 8 #[.slice ao l.length cp] w fun e w' => e = .returned (.bool (greatA l)) ∧ Below w.heap.size w w' := by
  obtain ⟨hn, hx⟩ := hw
  go_enter Tryd.func8, Tryd.ntmps8
  go_wp2_with fail
  go_loopw [3, 4] (fun v3 v4 wr => ∃ i n : Nat, i ≤ l.length ∧ v3 = .int .i64 (n : Int) ∧ v4 = .int .i64 (i : Int) ∧ Hid (n = totA (l.take i)) ∧ n ≤ 140737488355328 ∧ Below w.heap.size w wr) (fun _ v _ => l.length - (intOf v).toNat)
  case atStart => exact ⟨0, 0, Nat.zero_le _, rfl, rfl, rfl, by omega, Below.refl _ _⟩
  case round =>
    obtain ⟨i, n, hi, rfl, rfl, hnt, hnm, hb⟩ := hrel
    by_cases hil : i < l.length
    · have g1 : (i : Int) < (l.length : Int) := by omega
      by_cases hn5 : n ≤ 500
      · have g2 : (n : Int) ≤ 500 := by omega
        obtain ⟨x, hx1⟩ : ∃ p, l[i]? = some p := ⟨_, List.getElem?_eq_getElem hil⟩
        obtain ⟨b, off, rfl, hbl, x0, x1, x2, x3, x4, x5, x6, x7, x8, hA⟩ := (hl.below hb).tx hx1
        obtain ⟨hxr, hxw⟩ := hx x (List.mem_of_getElem? hx1)
        have hnx : Hid (n + 1 + x.rs.length + x.ws.length = totA (l.take (i + 1))) := by unfold Hid; rw [totA_next hx1, ← hnt.out]; omega
        have hx' : Hid _ := hx1
        clear hnt hx1 hA hx
        go_wp2_with fail
        go_quiet (fail)
        go_wp2
        go_roundw
        case rel => exact ⟨i + 1, n + 1 + x.rs.length + x.ws.length, by omega, by go_num, by go_num, hnx, by omega, below_drewN hb _⟩
        case measure => simp [intOf]; omega
      · have g2 : ¬ (n : Int) ≤ 500 := by omega
        have g3 : (500 : Int) < (n : Int) := by omega
        have hfin : Hid (greatA l = true) := by
          unfold Hid greatA
          refine decide_eq_true ?_
          have := totA_le l i
          rw [← hnt.out] at this
          omega
        clear hnt
        go_wp2
        go_ret
        exact ⟨by rw [hfin.out]; rfl, hb⟩
    · have g1 : ¬ (i : Int) < (l.length : Int) := by omega
      have hnt2 : n = totA l := by
        have := hnt.out
        rw [show i = l.length by omega, List.take_length] at this
        exact this
      clear hnt
      by_cases hn5 : n ≤ 500
      · have g3 : ¬ (500 : Int) < (n : Int) := by omega
        have hfin : Hid (greatA l = false) := by
          unfold Hid greatA
          exact decide_eq_false (by omega)
        clear hnt2
        go_wp2
        go_ret
        exact ⟨by rw [hfin.out]; rfl, hb⟩
      · have g3 : (500 : Int) < (n : Int) := by omega
        have hfin : Hid (greatA l = true) := by
          unfold Hid greatA
          exact decide_eq_true (by omega)
        clear hnt2
        go_wp2
        go_ret
        exact ⟨by rw [hfin.out]; rfl, hb⟩
end Go.Proofs.YtcjmeaikdfgapaaDoor

/- How a row of transactions that came in is opened. (Laid only where the dump has []api.Tx: not yet built.) -/
namespace Go.Proofs.YtcjmeaikdfgapaaDoor
open Go.ChangeShapes Go.WideShapes Go.ChangeAt Go.RowKit Go.Joins Go.Deep
set_option linter.unusedVariables false

/-- How a row of transactions reads. -/
def TxsDatum {H : Type} (d : DataW H) (l : List TxM) : Prop :=
  (d = .nil ∧ l = []) ∨ ∃ (ds rest : List (DataW H)), d = .slice ds rest ∧ ds.length = l.length ∧ ∀ (i : Nat) (y : DataW H) (x : TxM), ds[i]? = some y → l[i]? = some x → TxDatum y x.d

set_option maxRecDepth 100000 in
/-- A row of transactions that came in. -/
theorem open_txs {H : Type} {enc : TypeId × Value → H} {W : World} {fuel : Nat} {a : Option Addr} {len cap : Nat} {y : DataW H × List MemPlace}
    (hf : DataW.trod enc Tryd.prog W 0 (fun _ => true) true fuel 24 [.slice a len cap] = some y) :
    ∃ l : List TxM, l.length = len ∧ TxsAt W a l ∧ (∀ x ∈ l, TxSizes x.d) ∧ (a = none → cap = 0) ∧ len ≤ maxLen ∧ TxsDatum y.1 l := by
  rcases open_slice Tryd.underlying24 hf with ⟨hcs, hx⟩ | ⟨x, l, c, m, n, D, Pl, hcs, _, hl, hm, hmm, hx, hc⟩
  · simp at hcs
    obtain ⟨rfl, rfl, rfl⟩ := hcs
    exact ⟨[], rfl, nil_txs _ _, by simp, fun _ => rfl, Nat.zero_le _, Or.inl ⟨by rw [hx], rfl⟩⟩
  · simp at hcs
    obtain ⟨rfl, rfl, rfl⟩ := hcs
    simp at hmm
    subst hmm
    have hall : ∀ i : Nat, ∃ q : TxM, i < len → (∀ j v, q.c[j]? = some v → W.cell? (x.add (i * 9 + j)) = some v) ∧ q.At W ∧ TxSizes q.d ∧ TxDatum (D i) q.d := by
      intro i
      by_cases hi : i < len
      · obtain ⟨cs', h1, h2⟩ := hc i (by omega)
        rw [cellsTx] at h1
        obtain ⟨_, hlen, hcell⟩ := World.cells?_some h1
        obtain ⟨q, rfl, q2, q3, q4⟩ := open_tx_cells h2
        refine ⟨q, fun _ => ⟨fun j v hv => ?_, q2, q3, q4⟩⟩
        have hj : j < q.c.length := (List.getElem?_eq_some_iff.1 hv).1
        have := hcell j (by rw [TxM.c_length] at hj; exact hj)
        rw [add_add] at this
        rw [this, hv]
      · exact ⟨⟨.none, none, 0, none, 0⟩, fun h => absurd h hi⟩
    obtain ⟨Y, hY⟩ := Classical.axiomOfChoice hall
    refine ⟨(List.range len).map Y, by simp, ?_, ?_, (fun h => by cases h), by omega, Or.inr ⟨_, _, by rw [hx], by simp, ?_⟩⟩
    · intro i q hq
      have hi : i < len := by
        by_cases hi : i < len
        · exact hi
        · rw [List.getElem?_eq_none (by simp; omega)] at hq
          cases hq
      obtain rfl : Y i = q := by simpa [hi] using hq
      obtain ⟨c0, q2, _, _⟩ := hY i hi
      obtain ⟨b, off, spot⟩ := x
      have hz := (hY 0 (by omega)).1 0 _ rfl
      have hspot : spot = none := by simpa [Addr.add] using World.cell?_spot hz
      subst hspot
      have hb0 := c0 0 _ rfl
      rw [Go.WideShapes.add_plain] at hb0
      refine ⟨⟨b, off, rfl, World.block_lt_of_cell? W _ hb0, fun j v hv => ?_⟩, q2⟩
      have := c0 j v hv
      rw [Go.WideShapes.add_plain] at this
      rw [← this, Nat.add_assoc]
    · intro q hq
      obtain ⟨i, hi, rfl⟩ := List.mem_map.1 hq
      exact (hY i (by simpa using hi)).2.2.1
    · intro i y' q hy hq
      have hi : i < len := by
        by_cases hi : i < len
        · exact hi
        · rw [List.getElem?_eq_none (by simp; omega)] at hq
          cases hq
      obtain rfl : Y i = q := by simpa [hi] using hq
      obtain rfl : D i = y' := by simpa [hi] using hy
      exact (hY i hi).2.2.2
end Go.Proofs.YtcjmeaikdfgapaaDoor

/- How a row of whatever elements that came in is opened. -/
namespace Go.Proofs.YtcjmeaikdfgapaaDoor
open Go.ChangeShapes Go.WideShapes Go.ChangeAt Go.RowKit Go.Joins Go.Deep
set_option linter.unusedVariables false

/-- How a row reads, its elements as Q says. -/
def RowD {H α : Type} (Q : DataW H → α → Prop) (d : DataW H) (l : List α) : Prop :=
  (d = .nil ∧ l = []) ∨ ∃ (ds rest : List (DataW H)), d = .slice ds rest ∧ ds.length = l.length ∧ ∀ (i : Nat) (y : DataW H) (x : α), ds[i]? = some y → l[i]? = some x → Q y x

set_option maxRecDepth 100000 in
theorem open_row {α : Type} [Inhabited α] (K : Kind α) {H : Type} {enc : TypeId × Value → H} {W : World} {T E : TypeId} (Q : DataW H → α → Prop) (hT : Tryd.prog.underlying T = some (.slice E)) (hE : Tryd.prog.cellsOf E = K.n)
    (opens : ∀ {fuel cs y}, DataW.trod enc Tryd.prog W 0 (fun _ => true) true fuel E cs = some y → ∃ x : α, cs = K.c x ∧ K.At W x ∧ Q y.1 x)
    {fuel : Nat} {a : Option Addr} {len cap : Nat} {y : DataW H × List MemPlace} (hf : DataW.trod enc Tryd.prog W 0 (fun _ => true) true fuel T [.slice a len cap] = some y) :
    ∃ l : List α, l.length = len ∧ RowAt K W a l ∧ (a = none → cap = 0) ∧ len ≤ maxLen ∧ RowD Q y.1 l := by
  rcases open_slice hT hf with ⟨hcs, hx⟩ | ⟨x, l, c, m, n, D, Pl, hcs, _, hl, hm, hmm, hx, hc⟩
  · simp at hcs
    obtain ⟨rfl, rfl, rfl⟩ := hcs
    exact ⟨[], rfl, nil_row _ _, fun _ => rfl, Nat.zero_le _, Or.inl ⟨by rw [hx], rfl⟩⟩
  · simp at hcs
    obtain ⟨rfl, rfl, rfl⟩ := hcs
    simp at hmm
    subst hmm
    have hall : ∀ i : Nat, ∃ q : α, i < len → (∀ j v, (K.c q)[j]? = some v → W.cell? (x.add (i * K.n + j)) = some v) ∧ K.At W q ∧ Q (D i) q := by
      intro i
      by_cases hi : i < len
      · obtain ⟨cs', h1, h2⟩ := hc i (by omega)
        rw [hE] at h1
        obtain ⟨_, hlen, hcell⟩ := World.cells?_some h1
        obtain ⟨q, rfl, q2, q3⟩ := opens h2
        refine ⟨q, fun _ => ⟨fun j v hv => ?_, q2, q3⟩⟩
        have hj : j < (K.c q).length := (List.getElem?_eq_some_iff.1 hv).1
        have := hcell j (by rw [K.len] at hj; exact hj)
        rw [add_add] at this
        rw [this, hv]
      · exact ⟨default, fun h => absurd h hi⟩
    obtain ⟨Y, hY⟩ := Classical.axiomOfChoice hall
    have hc0 : ∀ q : α, ∃ v, (K.c q)[0]? = some v := fun q => ⟨(K.c q)[0]'(by rw [K.len]; exact K.pos), List.getElem?_eq_getElem _⟩
    refine ⟨(List.range len).map Y, by simp, ⟨?_, ?_⟩, (fun h => by cases h), by omega, Or.inr ⟨_, _, by rw [hx], by simp, ?_⟩⟩
    · intro i q hq
      have hi : i < len := by
        by_cases hi : i < len
        · exact hi
        · rw [List.getElem?_eq_none (by simp; omega)] at hq
          cases hq
      obtain rfl : Y i = q := by simpa [hi] using hq
      obtain ⟨c0, q2, _⟩ := hY i hi
      obtain ⟨b, off, spot⟩ := x
      obtain ⟨v0, hv0⟩ := hc0 (Y 0)
      have hz := (hY 0 (by omega)).1 0 _ hv0
      have hspot : spot = none := by simpa [Addr.add] using World.cell?_spot hz
      subst hspot
      obtain ⟨v1, hv1⟩ := hc0 (Y i)
      have hb0 := c0 0 _ hv1
      rw [Go.WideShapes.add_plain] at hb0
      refine ⟨b, off, rfl, World.block_lt_of_cell? W _ hb0, fun j v hv => ?_⟩
      have := c0 j v hv
      rw [Go.WideShapes.add_plain] at this
      rw [← this, Nat.add_assoc]
    · intro q hq
      obtain ⟨i, hi, rfl⟩ := List.mem_map.1 hq
      exact (hY i (by simpa using hi)).2.1
    · intro i y' q hy hq
      have hi : i < len := by
        by_cases hi : i < len
        · exact hi
        · rw [List.getElem?_eq_none (by simp; omega)] at hq
          cases hq
      obtain rfl : Y i = q := by simpa [hi] using hq
      obtain rfl : D i = y' := by simpa [hi] using hy
      exact (hY i hi).2.2

theorem weightsAll_of {H : Type} {P : Program} {e : TypeId} : ∀ {l : List (DataW H)} {d : DataW H}, d ∈ l → ∀ n ∈ d.weights P e, n ∈ DataW.weightsAll P e l
  | [], d, h, _, _ => by cases h
  | x :: r, d, h, n, hn => by
    rw [List.mem_cons] at h
    rw [DataW.weightsAll, List.mem_append]
    rcases h with rfl | h
    · exact Or.inl hn
    · exact Or.inr (weightsAll_of h n hn)

theorem weights_of {H : Type} {P : Program} {ts : List TypeId} {ds : List (DataW H)} (h : (DataW.weightsEach P ts ds).all (· ≤ reachBytes) = true) {j : Nat} {t : TypeId} {d : DataW H} (ht : ts[j]? = some t) (hd : ds[j]? = some d) : ∀ n ∈ d.weights P t, n ≤ reachBytes :=
  fun n hn => by simpa using List.all_eq_true.1 h n (DataW.weights_mem_each ht hd n hn)

/-- The sizes of a row's elements, and of the row. -/
theorem RowD.fit {H α : Type} {Q : DataW H → α → Prop} {d : DataW H} {l : List α} (hd : RowD Q d l) {T E : TypeId} (hT : Tryd.prog.underlying T = some (.slice E)) (h : ∀ n ∈ d.weights Tryd.prog T, n ≤ reachBytes) :
    l.length * Tryd.prog.bytesOf E ≤ reachBytes ∧ ∀ x ∈ l, ∃ y, Q y x ∧ ∀ n ∈ y.weights Tryd.prog E, n ≤ reachBytes := by
  rcases hd with ⟨rfl, rfl⟩ | ⟨ds, rest, rfl, hl, hq⟩
  · simp
  · refine ⟨?_, fun x hx => ?_⟩
    · have := h ((ds.length + rest.length) * Tryd.prog.bytesOf E) (by simp [DataW.weights, hT])
      rw [← hl]
      exact Nat.le_trans (Nat.mul_le_mul_right _ (by omega)) this
    · obtain ⟨i, hi⟩ := List.getElem?_of_mem hx
      have hi' : i < ds.length := by have := (List.getElem?_eq_some_iff.1 hi).1; omega
      refine ⟨ds[i], hq i ds[i] x (List.getElem?_eq_getElem hi') hi, fun n hn => h n ?_⟩
      rw [DataW.weights, hT]
      simp only [List.mem_cons, List.mem_append]
      exact Or.inr (Or.inl (weightsAll_of (List.getElem_mem hi') n hn))

theorem bulk_part {H : Type} {d : DataW H} : ∀ {l : List (DataW H)}, d ∈ l → Rows.uptoBulk d ≤ Rows.uptoBulkAll l
  | [], h => by cases h
  | x :: r, h => by
    simp only [Rows.uptoBulkAll]
    rcases List.mem_cons.1 h with e | e
    · subst e; omega
    · have := bulk_part e; omega

theorem bulk_all {H α : Type} {Q : DataW H → α → Prop} {size : α → Nat} (hq : ∀ y x, Q y x → size x ≤ Rows.uptoBulk y) : ∀ (ds : List (DataW H)) (l : List α), ds.length = l.length → (∀ (i : Nat) (y : DataW H) (x : α), ds[i]? = some y → l[i]? = some x → Q y x) → (l.map size).sum ≤ Rows.uptoBulkAll ds
  | [], [], _, _ => by simp
  | [], x :: l, h, _ => by simp at h
  | d :: ds, [], h, _ => by simp at h
  | d :: ds, x :: l, h, hQ => by
    have ih := bulk_all hq ds l (by simpa using h) (fun i y z hy hz => hQ (i + 1) y z (by simpa using hy) (by simpa using hz))
    have h0 := hq d x (hQ 0 d x rfl rfl)
    simp only [List.map_cons, List.sum_cons, Rows.uptoBulkAll]
    omega

/-- The bulk of a row. -/
theorem RowD.bulk {H α : Type} {Q : DataW H → α → Prop} {d : DataW H} {l : List α} (hd : RowD Q d l) {size : α → Nat} (hq : ∀ y x, Q y x → size x ≤ Rows.uptoBulk y) : (l.map size).sum + 1 ≤ Rows.uptoBulk d := by
  rcases hd with ⟨rfl, rfl⟩ | ⟨ds, rest, rfl, hl, hQ⟩
  · simp [Rows.uptoBulk]
  · have := bulk_all hq ds l hl hQ
    simp only [Rows.uptoBulk]
    omega
end Go.Proofs.YtcjmeaikdfgapaaDoor

/- How rows of transactions that came in are opened, with what they weigh. -/
namespace Go.Proofs.YtcjmeaikdfgapaaDoor
open Go.ChangeShapes Go.WideShapes Go.ChangeAt Go.RowKit Go.Joins Go.Deep
set_option linter.unusedVariables false

def TxQs {H : Type} (d : DataW H) (x : TxM) : Prop := TxSizes x.d ∧ TxDatum d x.d

theorem open_txk_cells {H : Type} {enc : TypeId × Value → H} {W : World} {fuel : Nat} {cs : List Value} {y : DataW H × List MemPlace}
    (hf : DataW.trod enc Tryd.prog W 0 (fun _ => true) true fuel 33 cs = some y) : ∃ x : TxM, cs = txK.c x ∧ txK.At W x ∧ TxQs y.1 x := by
  obtain ⟨x, h1, h2, h3, h4⟩ := open_tx_cells hf
  exact ⟨x, h1, h2, h3, h4⟩

theorem open_txs22 {H : Type} {enc : TypeId × Value → H} {W : World} {a : Option Addr} {len cap : Nat} {d : DataW H} {p : List MemPlace}
    (h : DataW.Trod enc Tryd.prog W 0 (fun _ => true) true 24 (.slice a len cap) d p) :
    ∃ l : List TxM, l.length = len ∧ RowAt txK W a l ∧ len ≤ maxLen ∧ RowD TxQs d l := by
  obtain ⟨fuel, hf⟩ := h
  haveI : Inhabited TxM := ⟨⟨.none, none, 0, none, 0⟩⟩
  obtain ⟨l, h1, h2, _, h4, h5⟩ := open_row txK TxQs Tryd.underlying24 cellsTx open_txk_cells hf
  exact ⟨l, h1, h2, h4, h5⟩

theorem bytesTx22 : Tryd.prog.bytesOf 33 = 136 := by kernel_rfl

/-- What a machine has at most. -/
def Wide22 (l : List TxM) : Prop := l.length ≤ 17592186044416 ∧ ∀ x ∈ l, TxSizes x.d ∧ x.d.rs.length * 16 ≤ 140737488351232 ∧ x.d.ws.length * 16 ≤ 140737488351232

theorem weights_mem_all22 {H : Type} {P : Program} {e : TypeId} : ∀ {ds : List (DataW H)} {d : DataW H}, d ∈ ds → ∀ n ∈ d.weights P e, n ∈ DataW.weightsAll P e ds
  | [], _, h, _, _ => by cases h
  | d0 :: ds, d, h, n, hn => by
    simp only [DataW.weightsAll, List.mem_append]
    rcases List.mem_cons.1 h with rfl | h
    · exact Or.inl hn
    · exact Or.inr (weights_mem_all22 h n hn)

theorem txs22_sized {H : Type} {ts : List TypeId} {ds : List (DataW H)} (h : (DataW.weightsEach Tryd.prog ts ds).all (· ≤ reachBytes) = true) {j : Nat} {d : DataW H} {l : List TxM} (ht : ts[j]? = some 24) (hd : ds[j]? = some d) (hs : RowD TxQs d l) : Wide22 l := by
  rcases hs with ⟨rfl, rfl⟩ | ⟨es, rest, rfl, hl, ha⟩
  · exact ⟨Nat.zero_le _, fun x hx => by cases hx⟩
  · refine ⟨?_, fun x hx => ?_⟩
    · have := sized_slice h ht hd Tryd.underlying24
      rw [bytesTx22] at this
      simp [reachBytes] at this
      omega
    · obtain ⟨i, hi⟩ := List.getElem?_of_mem hx
      have hil := (List.getElem?_eq_some_iff.1 hi).1
      obtain ⟨q1, q2⟩ := ha i _ x (List.getElem?_eq_getElem (by omega)) hi
      refine ⟨q1, tx_sized (ts := [33]) (ds := [es[i]'(by omega)]) (j := 0) ?_ rfl rfl q2⟩
      rw [List.all_eq_true]
      intro n hn
      have h0 : n ∈ DataW.weights Tryd.prog 33 (es[i]'(by omega)) := by simpa [DataW.weightsEach] using hn
      have h1 : n ∈ DataW.weights Tryd.prog 24 (.slice es rest) := by
        simp only [DataW.weights, Tryd.underlying24]
        exact List.mem_cons_of_mem _ (List.mem_append.2 (Or.inl (weights_mem_all22 (List.getElem_mem _) n h0)))
      exact List.all_eq_true.1 h _ (DataW.weights_mem_each ht hd n h1)
end Go.Proofs.YtcjmeaikdfgapaaDoor

/- Transactions as layer 20's texts have them: too many? in each other's way? Their own copies. -/
namespace Go.Proofs.YtcjmeaikdfgapaaDoor
open Go Go.RowKit
set_option linter.unusedVariables false

def TxM.a (x : TxM) : TxA := ⟨x.d.kind, x.d.frm, x.d.to, x.d.amt, x.d.non, x.d.key, x.d.val, x.d.rs, x.d.ws, x.ra, x.rc, x.wa, x.wc⟩

theorem TxM.a_v (x : TxM) : x.a.v = x.v := rfl
theorem TxM.a_c (x : TxM) : x.a.c = x.c := rfl

theorem TxM.At.a {w : World} {x : TxM} (h : x.At w) (hs : TxSizes x.d) : TxA.At w x.a := ⟨h.at_.rd.row, h.at_.wr.row, h.nr, h.nw, hs.rs, hs.ws⟩

theorem rows_a {w : World} {ao : Option Addr} {l : List TxM} (h : RowAt txK w ao l) (hs : ∀ x ∈ l, TxSizes x.d) : RowAt txA w ao (l.map TxM.a) := by
  refine ⟨fun i y hy => ?_, fun y hy => ?_⟩
  · rw [List.getElem?_map] at hy
    obtain ⟨x, hx, rfl⟩ := Option.map_eq_some_iff.1 hy
    exact h.cell i x hx
  · obtain ⟨x, hx, rfl⟩ := List.mem_map.1 hy
    exact TxM.At.a (h.at_ x hx) (hs x hx)

/-- Are they too many? -/
def greatM (l : List TxM) : Bool := greatA (l.map TxM.a)

theorem greatM_any (l : List TxM) (ao : Option Addr) (cp : Nat) (w : World) (hl : RowAt txK w ao l) (hw : Wide22 l) :
    Calls Tryd.prog 8 #[.slice ao l.length cp] w fun e w' => e = .returned (.bool (greatM l)) ∧ Below w.heap.size w w' := by
  have h := great_any (l.map TxM.a) ao cp w (rows_a hl (fun x hx => (hw.2 x hx).1)) ⟨by rw [List.length_map]; exact hw.1, fun y hy => by
    obtain ⟨x, hx, rfl⟩ := List.mem_map.1 hy
    have := (hw.2 x hx).2
    show x.d.rs.length ≤ _ ∧ x.d.ws.length ≤ _
    omega⟩
  rw [List.length_map] at h
  exact h

theorem fewM_of {l : List TxM} (h : greatM l = false) : l.length ≤ 500 ∧ ∀ x ∈ l, x.d.rs.length ≤ 500 ∧ x.d.ws.length ≤ 500 := by
  have h0 := of_decide_eq_false h
  refine ⟨?_, fun x hx => ?_⟩
  · have := totA_length (l.map TxM.a)
    rw [List.length_map] at this
    omega
  · have := totA_mem (List.mem_map_of_mem (f := TxM.a) hx)
    have h3 : 1 + x.d.rs.length + x.d.ws.length ≤ totA (l.map TxM.a) := this
    omega

theorem clashM_any (x y : TxM) (w : World) (hA : x.At w) (hB : y.At w) (sx : TxSizes x.d) (sy : TxSizes y.d) (xr : x.d.rs.length ≤ 500 ∧ x.d.ws.length ≤ 500) (yr : y.d.rs.length ≤ 500 ∧ y.d.ws.length ≤ 500) :
    Calls Tryd.prog 23 #[x.v, y.v] w fun e w' => e = .returned (.bool (clashB ⟨x.d.rs, x.d.ws⟩ ⟨y.d.rs, y.d.ws⟩)) ∧ Below w.heap.size w w' :=
  clashA_any x.a y.a w (hA.a sx) (hB.a sy) (Nat.le_trans xr.1 (by decide)) (Nat.le_trans xr.2 (by decide)) (Nat.le_trans yr.1 (by decide)) (Nat.le_trans yr.2 (by decide))

/-- A transaction of the call's own is handed back. -/
def GotOwn22 (W : World) (d : TxD) (e : Ending) (w : World) : Prop := ∃ y : TxM, e = .returned y.v ∧ y.d = d ∧ y.At w ∧ Below W.heap.size W w

theorem own22_any (x : TxM) (w : World) (hA : x.At w) (lr : x.d.rs.length ≤ 500 ∧ x.d.ws.length ≤ 500) :
    Calls Tryd.prog 14 #[x.v] w fun e w' => GotOwn22 w x.d e w' := by
  refine (own_any x.d x.ra x.rc x.wa x.wc w hA.at_ hA.nr hA.nw (by omega) (by omega)).mono ?_
  rintro e w' ⟨ra, rc, wa, wc, rfl, h1, h2, h3, hb⟩
  exact ⟨⟨x.d, ra, rc, wa, wc⟩, rfl, rfl, ⟨h1, h2, h3⟩, hb⟩

/-- The nine cells of one of a row. -/
theorem RowAt.tx22 {w : World} {ao : Option Addr} {l : List TxM} (h : RowAt txK w ao l) {i : Nat} {x : TxM} (hx : l[i]? = some x) :
    ∃ b off, ao = some ⟨b, off, none⟩ ∧ b < w.heap.size ∧ w.cell? ⟨b, off + i * 9, none⟩ = some (.int .i64 x.d.kind) ∧ w.cell? ⟨b, off + i * 9 + 1, none⟩ = some (.string x.d.frm) ∧ w.cell? ⟨b, off + i * 9 + 2, none⟩ = some (.string x.d.to) ∧ w.cell? ⟨b, off + i * 9 + 3, none⟩ = some (.int .u64 (x.d.amt : Int)) ∧ w.cell? ⟨b, off + i * 9 + 4, none⟩ = some (.int .u64 (x.d.non : Int)) ∧
      w.cell? ⟨b, off + i * 9 + 5, none⟩ = some (.string x.d.key) ∧ w.cell? ⟨b, off + i * 9 + 6, none⟩ = some (.string x.d.val) ∧ w.cell? ⟨b, off + i * 9 + 7, none⟩ = some (.slice x.ra x.d.rs.length x.rc) ∧ w.cell? ⟨b, off + i * 9 + 8, none⟩ = some (.slice x.wa x.d.ws.length x.wc) ∧ x.At w := by
  obtain ⟨b, off, h1, h2, h3⟩ := h.cell i x hx
  exact ⟨b, off, h1, h2, h3 0 _ rfl, h3 1 _ rfl, h3 2 _ rfl, h3 3 _ rfl, h3 4 _ rfl, h3 5 _ rfl, h3 6 _ rfl, h3 7 _ rfl, h3 8 _ rfl, h.at_ x (List.mem_of_getElem? hx)⟩
end Go.Proofs.YtcjmeaikdfgapaaDoor

/- Transactions done one behind the other; what the statements' rows give at each. -/
namespace Go.Proofs.YtcjmeaikdfgapaaDoor
open Go Go.RowKit
set_option linter.unusedVariables false

/-- The state behind the first i. -/
def runF (s : StF) (l : List TxM) (i : Nat) : StF := (l.take i).foldl (fun s x => applyF s x.d) s

theorem runF_zero (s : StF) (l : List TxM) : runF s l 0 = s := rfl

theorem runF_step (s : StF) {l : List TxM} {i : Nat} {x : TxM} (hx : l[i]? = some x) : runF s l (i + 1) = applyF (runF s l i) x.d := by
  unfold runF
  rw [List.take_add_one, hx, List.foldl_append]
  rfl

/-- What the statements' rows are, where they are not too many. -/
structure RowsM (W : World) (lo : Option Addr) (l : List TxM) : Prop where
  row : RowAt txK W lo l
  len : l.length ≤ 500
  fit : ∀ x ∈ l, TxSizes x.d ∧ x.d.rs.length ≤ 500 ∧ x.d.ws.length ≤ 500

theorem RowsM.of {W : World} {lo : Option Addr} {l : List TxM} (h : RowAt txK W lo l) (hw : Wide22 l) (hg : greatM l = false) : RowsM W lo l := by
  obtain ⟨h1, h2⟩ := fewM_of hg
  exact ⟨h, h1, fun x hx => ⟨(hw.2 x hx).1, h2 x hx⟩⟩

theorem RowsM.below {W w : World} {lo : Option Addr} {l : List TxM} (h : RowsM W lo l) (hb : Below W.heap.size W w) : RowsM w lo l := ⟨h.row.below hb, h.len, h.fit⟩

/-- The beginning's names, copied. -/
theorem copied22 {W w : World} {ao : Option Addr} {l : List ByteArray} (h : OwnStrs W.heap.size w ao l) : RowAt strK w ao l := StrsAt.row h.at
end Go.Proofs.YtcjmeaikdfgapaaDoor

/- The library's contracts on maps.Keys, slices.Sorted, slices.Sort and maps.Clone, laid over this program in plain words. -/
namespace Go.Proofs.YtcjmeaikdfgapaaDoor
open Go Go.Shelf
set_option linter.unusedVariables false

def keysA_ren : Go.Shelf.Ren := ⟨fun | 7 => 29 | 10 => 48 | n => n, fun | 23 => 50 | 26 => 9 | 3 => 55 | 28 => 69 | 0 => 0 | 27 => 68 | 33 => 43 | 4 => 4 | n => n, fun | n => n⟩

theorem keysA : Go.Proofs.SlLaysZ.n7 Tryd.prog keysA_ren := {
  mixed := by kernel_rfl
  f7 := ⟨Tryd.f29.name, by decide, Tryd.func29.trans (congrArg some (by kernel_rfl))⟩
  f10 := ⟨Tryd.f48.name, by decide, Tryd.func48.trans (congrArg some (by kernel_rfl))⟩
  t0 := Tryd.underlying0
  a0 := Tryd.isAgg0
  z0 := Tryd.sizeOf0
  v0 := Tryd.zeroValue0
  t4 := Tryd.underlying4
  a4 := Tryd.isAgg4
  z4 := Tryd.sizeOf4
  v4 := Tryd.zeroValue4
  t23 := Tryd.underlying50
  a23 := Tryd.isAgg50
  z23 := Tryd.sizeOf50
  v23 := Tryd.zeroValue50
  t26 := Tryd.underlying9
  a26 := Tryd.isAgg9
  z26 := Tryd.sizeOf9
  v26 := Tryd.zeroValue9
  t27 := Tryd.underlying68
  a27 := Tryd.isAgg68
  z27 := Tryd.sizeOf68
  v27 := Tryd.zeroValue68
  t28 := Tryd.underlying69
  a28 := Tryd.isAgg69
  z28 := Tryd.sizeOf69
  v28 := Tryd.zeroValue69
  t33 := Tryd.underlying43
  a33 := Tryd.isAgg43
  z33 := Tryd.sizeOf43
  v33 := Tryd.zeroValue43 }

def keysV_ren : Go.Shelf.Ren := ⟨fun | 7 => 33 | 10 => 50 | n => n, fun | 23 => 51 | 26 => 9 | 3 => 79 | 28 => 69 | 0 => 0 | 27 => 68 | 33 => 43 | 4 => 4 | n => n, fun | n => n⟩

theorem keysV : Go.Proofs.SlLaysZ.n7 Tryd.prog keysV_ren := {
  mixed := by kernel_rfl
  f7 := ⟨Tryd.f33.name, by decide, Tryd.func33.trans (congrArg some (by kernel_rfl))⟩
  f10 := ⟨Tryd.f50.name, by decide, Tryd.func50.trans (congrArg some (by kernel_rfl))⟩
  t0 := Tryd.underlying0
  a0 := Tryd.isAgg0
  z0 := Tryd.sizeOf0
  v0 := Tryd.zeroValue0
  t4 := Tryd.underlying4
  a4 := Tryd.isAgg4
  z4 := Tryd.sizeOf4
  v4 := Tryd.zeroValue4
  t23 := Tryd.underlying51
  a23 := Tryd.isAgg51
  z23 := Tryd.sizeOf51
  v23 := Tryd.zeroValue51
  t26 := Tryd.underlying9
  a26 := Tryd.isAgg9
  z26 := Tryd.sizeOf9
  v26 := Tryd.zeroValue9
  t27 := Tryd.underlying68
  a27 := Tryd.isAgg68
  z27 := Tryd.sizeOf68
  v27 := Tryd.zeroValue68
  t28 := Tryd.underlying69
  a28 := Tryd.isAgg69
  z28 := Tryd.sizeOf69
  v28 := Tryd.zeroValue69
  t33 := Tryd.underlying43
  a33 := Tryd.isAgg43
  z33 := Tryd.sizeOf43
  v33 := Tryd.zeroValue43 }

def sortedS_ren : Go.Shelf.Ren := ⟨fun | 6 => 28 | 8 => 46 | 9 => 47 | 11 => 58 | 13 => 60 | 12 => 59 | 23 => 84 | 24 => 85 | 14 => 75 | 15 => 76 | 16 => 77 | 17 => 78 | 18 => 79 | 19 => 80 | 20 => 81 | 21 => 82 | 22 => 83 | 25 => 92 | 26 => 93 | 27 => 94 | 28 => 95 | 29 => 96 | 30 => 97 | 31 => 101 | n => n, fun | 26 => 9 | 28 => 69 | 24 => 22 | 0 => 0 | 3 => 3 | 37 => 92 | 48 => 103 | 50 => 23 | 4 => 4 | 40 => 120 | 39 => 119 | 45 => 125 | 5 => 5 | 9 => 9 | 51 => 138 | 55 => 142 | 57 => 145 | 58 => 146 | 33 => 43 | n => n, fun | n => n⟩

theorem sortedS : Go.Proofs.SlLaysZ.n6 Tryd.prog sortedS_ren := {
  mixed := by kernel_rfl
  f6 := ⟨Tryd.f28.name, by decide, Tryd.func28.trans (congrArg some (by kernel_rfl))⟩
  f8 := ⟨Tryd.f46.name, by decide, Tryd.func46.trans (congrArg some (by kernel_rfl))⟩
  f11 := ⟨Tryd.f58.name, by decide, Tryd.func58.trans (congrArg some (by kernel_rfl))⟩
  t0 := Tryd.underlying0
  a0 := Tryd.isAgg0
  z0 := Tryd.sizeOf0
  v0 := Tryd.zeroValue0
  t24 := Tryd.underlying22
  a24 := Tryd.isAgg22
  z24 := Tryd.sizeOf22
  v24 := Tryd.zeroValue22
  t26 := Tryd.underlying9
  a26 := Tryd.isAgg9
  z26 := Tryd.sizeOf9
  v26 := Tryd.zeroValue9
  t28 := Tryd.underlying69
  a28 := Tryd.isAgg69
  z28 := Tryd.sizeOf69
  v28 := Tryd.zeroValue69
  i26 := by kernel_rfl }

def sortS_ren : Go.Shelf.Ren := ⟨fun | 6 => 47 | 8 => 60 | 9 => 59 | 19 => 84 | 20 => 85 | 21 => 75 | 22 => 76 | 23 => 77 | 24 => 78 | 25 => 79 | 26 => 80 | 27 => 81 | 28 => 82 | 29 => 83 | 36 => 92 | 31 => 93 | 32 => 94 | 37 => 95 | 38 => 96 | 39 => 97 | 41 => 101 | n => n, fun | 27 => 22 | 29 => 9 | 3 => 3 | 32 => 92 | 26 => 22 | 0 => 0 | 44 => 103 | 46 => 23 | 4 => 4 | 36 => 120 | 35 => 119 | 41 => 125 | 5 => 5 | 9 => 9 | 53 => 138 | 57 => 142 | 63 => 145 | 64 => 146 | n => n, fun | n => n⟩

theorem sortS : Go.Proofs.SlLaysM.n6 Tryd.prog sortS_ren := {
  mixed := by kernel_rfl
  f6 := ⟨Tryd.f47.name, by decide, Tryd.func47.trans (congrArg some (by kernel_rfl))⟩
  f8 := Tryd.func60.trans (congrArg some (by kernel_rfl))
  f9 := ⟨Tryd.f59.name, by decide, Tryd.func59.trans (congrArg some (by kernel_rfl))⟩
  f19 := Tryd.func84.trans (congrArg some (by kernel_rfl))
  f20 := Tryd.func85.trans (congrArg some (by kernel_rfl))
  f21 := ⟨Tryd.f75.name, by decide, Tryd.func75.trans (congrArg some (by kernel_rfl))⟩
  f22 := ⟨Tryd.f76.name, by decide, Tryd.func76.trans (congrArg some (by kernel_rfl))⟩
  f23 := ⟨Tryd.f77.name, by decide, Tryd.func77.trans (congrArg some (by kernel_rfl))⟩
  f24 := ⟨Tryd.f78.name, by decide, Tryd.func78.trans (congrArg some (by kernel_rfl))⟩
  f25 := ⟨Tryd.f79.name, by decide, Tryd.func79.trans (congrArg some (by kernel_rfl))⟩
  f26 := ⟨Tryd.f80.name, by decide, Tryd.func80.trans (congrArg some (by kernel_rfl))⟩
  f27 := ⟨Tryd.f81.name, by decide, Tryd.func81.trans (congrArg some (by kernel_rfl))⟩
  f28 := ⟨Tryd.f82.name, by decide, Tryd.func82.trans (congrArg some (by kernel_rfl))⟩
  f29 := ⟨Tryd.f83.name, by decide, Tryd.func83.trans (congrArg some (by kernel_rfl))⟩
  f31 := Tryd.func93.trans (congrArg some (by kernel_rfl))
  f32 := Tryd.func94.trans (congrArg some (by kernel_rfl))
  f36 := ⟨Tryd.f92.name, by decide, Tryd.func92.trans (congrArg some (by kernel_rfl))⟩
  f37 := ⟨Tryd.f95.name, by decide, Tryd.func95.trans (congrArg some (by kernel_rfl))⟩
  f38 := ⟨Tryd.f96.name, by decide, Tryd.func96.trans (congrArg some (by kernel_rfl))⟩
  f39 := ⟨Tryd.f97.name, by decide, Tryd.func97.trans (congrArg some (by kernel_rfl))⟩
  f41 := ⟨Tryd.f101.name, by decide, Tryd.func101.trans (congrArg some (by kernel_rfl))⟩
  t0 := Tryd.underlying0
  a0 := Tryd.isAgg0
  z0 := Tryd.sizeOf0
  v0 := Tryd.zeroValue0
  t3 := Tryd.underlying3
  a3 := Tryd.isAgg3
  z3 := Tryd.sizeOf3
  v3 := Tryd.zeroValue3
  t4 := Tryd.underlying4
  a4 := Tryd.isAgg4
  z4 := Tryd.sizeOf4
  v4 := Tryd.zeroValue4
  t5 := Tryd.underlying5
  a5 := Tryd.isAgg5
  z5 := Tryd.sizeOf5
  v5 := Tryd.zeroValue5
  t9 := Tryd.underlying9
  a9 := Tryd.isAgg9
  z9 := Tryd.sizeOf9
  v9 := Tryd.zeroValue9
  t26 := Tryd.underlying22
  a26 := Tryd.isAgg22
  z26 := Tryd.sizeOf22
  v26 := Tryd.zeroValue22
  t27 := Tryd.underlying22
  a27 := Tryd.isAgg22
  z27 := Tryd.sizeOf22
  v27 := Tryd.zeroValue22
  t29 := Tryd.underlying9
  a29 := Tryd.isAgg9
  z29 := Tryd.sizeOf9
  v29 := Tryd.zeroValue9
  t32 := Tryd.underlying92
  a32 := Tryd.isAgg92
  z32 := Tryd.sizeOf92
  v32 := Tryd.zeroValue92
  t35 := Tryd.underlying119
  a35 := Tryd.isAgg119
  z35 := Tryd.sizeOf119
  v35 := Tryd.zeroValue119
  t36 := Tryd.underlying120
  a36 := Tryd.isAgg120
  z36 := Tryd.sizeOf120
  v36 := Tryd.zeroValue120
  t41 := Tryd.underlying125
  a41 := Tryd.isAgg125
  z41 := Tryd.sizeOf125
  v41 := Tryd.zeroValue125
  t44 := Tryd.underlying103
  a44 := Tryd.isAgg103
  z44 := Tryd.sizeOf103
  v44 := Tryd.zeroValue103
  t46 := Tryd.underlying23
  a46 := Tryd.isAgg23
  z46 := Tryd.sizeOf23
  v46 := Tryd.zeroValue23
  t53 := Tryd.underlying138
  a53 := Tryd.isAgg138
  z53 := Tryd.sizeOf138
  v53 := Tryd.zeroValue138
  t57 := Tryd.underlying142
  a57 := Tryd.isAgg142
  z57 := Tryd.sizeOf142
  v57 := Tryd.zeroValue142
  t63 := Tryd.underlying145
  a63 := Tryd.isAgg145
  z63 := Tryd.sizeOf145
  v63 := Tryd.zeroValue145
  t64 := Tryd.underlying146
  a64 := Tryd.isAgg146
  z64 := Tryd.sizeOf146
  v64 := Tryd.zeroValue146 }

def cloneA_ren : Go.Shelf.Ren := ⟨fun | 5 => 43 | 7 => 55 | n => n, fun | 23 => 50 | 25 => 9 | 3 => 55 | 4 => 4 | 20 => 20 | n => n, fun | n => n⟩

theorem cloneA : Go.Proofs.SlLaysW.n5 Tryd.prog cloneA_ren := {
  mixed := by kernel_rfl
  f5 := ⟨Tryd.f43.name, by decide, Tryd.func43.trans (congrArg some (by kernel_rfl))⟩
  f7 := Tryd.func55.trans (congrArg some (by kernel_rfl))
  t4 := Tryd.underlying4
  a4 := Tryd.isAgg4
  z4 := Tryd.sizeOf4
  v4 := Tryd.zeroValue4
  t20 := Tryd.underlying20
  a20 := Tryd.isAgg20
  z20 := Tryd.sizeOf20
  v20 := Tryd.zeroValue20
  t23 := Tryd.underlying50
  a23 := Tryd.isAgg50
  z23 := Tryd.sizeOf50
  v23 := Tryd.zeroValue50 }

def cloneV_ren : Go.Shelf.Ren := ⟨fun | 5 => 44 | 7 => 55 | n => n, fun | 23 => 51 | 25 => 9 | 3 => 79 | 4 => 4 | 20 => 20 | n => n, fun | n => n⟩

theorem cloneV : Go.Proofs.SlLaysW.n5 Tryd.prog cloneV_ren := {
  mixed := by kernel_rfl
  f5 := ⟨Tryd.f44.name, by decide, Tryd.func44.trans (congrArg some (by kernel_rfl))⟩
  f7 := Tryd.func55.trans (congrArg some (by kernel_rfl))
  t4 := Tryd.underlying4
  a4 := Tryd.isAgg4
  z4 := Tryd.sizeOf4
  v4 := Tryd.zeroValue4
  t20 := Tryd.underlying20
  a20 := Tryd.isAgg20
  z20 := Tryd.sizeOf20
  v20 := Tryd.zeroValue20
  t23 := Tryd.underlying51
  a23 := Tryd.isAgg51
  z23 := Tryd.sizeOf51
  v23 := Tryd.zeroValue51 }
end Go.Proofs.YtcjmeaikdfgapaaDoor

/- slices.Sorted(maps.Keys(m)) of the state's two maps: all their names, rising; maps.Clone of them. -/
namespace Go.Proofs.YtcjmeaikdfgapaaDoor
open Go Go.RowKit Go.Maps Go.Sort
set_option linter.unusedVariables false

theorem keysA_any (mb : Option Nat) (W : World) : Calls Tryd.prog 29 #[.map mb] W fun e w' => e = .returned (.func (.func 48) #[] #[.pointer (some ⟨W.heap.size, 0, none⟩)]) ∧ w' = W.alloc (.cells #[.map mb] 50) :=
  callsIn_wide.1 (AnyZ.keys_in keysA Fence.wide 5 trivial rfl mb W)

theorem keysV_any (mb : Option Nat) (W : World) : Calls Tryd.prog 33 #[.map mb] W fun e w' => e = .returned (.func (.func 50) #[] #[.pointer (some ⟨W.heap.size, 0, none⟩)]) ∧ w' = W.alloc (.cells #[.map mb] 51) :=
  callsIn_wide.1 (AnyZ.keys_in keysV Fence.wide 5 trivial rfl mb W)

theorem sortsS (m : Nat) : AnyZ.SortsIn Tryd.prog sortedS_ren Fence.wide m :=
  ⟨fun blk off cap ss W hH hblk hsz => callsIn_wide.2 (AnyM.slices_Sort_string sortS blk off cap ss W hH hblk hsz),
   fun p cap W => callsIn_wide.2 (AnyM.slices_Sort_string_none sortS p cap W)⟩

/-- A row of texts of the call's own. -/
def NamesAt (w : World) (ao : Option Addr) (cap : Nat) (L : List ByteArray) : Prop := ∃ B, w.ownsRow B 9 1 (.slice ao L.length cap) L.length (flatK strK L)

theorem NamesAt.kept {S : Nat → Prop} {w w' : World} {ao : Option Addr} {cap : Nat} {L : List ByteArray} (h : NamesAt w ao cap L) (hk : Kept S w w') (hn : ∀ k cur, w.heap[k]? = some (.cells cur 9 (0, 0)) → ¬ S k) : NamesAt w' ao cap L := by
  obtain ⟨B, h1, h2⟩ := h
  refine ⟨B, h1, h2.imp id ?_⟩
  rintro ⟨g, c, cur, e1, e2, e3, e4⟩
  exact ⟨g, c, cur, e1, e2, (hk.block g (Array.getElem?_eq_some_iff.1 e3).1 (hn g cur e3)).trans e3, e4⟩

theorem NamesAt.below {w w' : World} {ao : Option Addr} {cap : Nat} {L : List ByteArray} (h : NamesAt w ao cap L) (hb : Below w.heap.size w w') : NamesAt w' ao cap L :=
  h.kept (S := fun _ => False) (Kept.of_below hb) (fun _ _ _ => id)

theorem NamesAt.row {w : World} {ao : Option Addr} {cap : Nat} {L : List ByteArray} (h : NamesAt w ao cap L) : RowAt strK w ao L := by
  obtain ⟨B, h1⟩ := h
  have hQ : KQ strK 9 w B (.slice ao L.length cap) L := KQ.of_own (K := strK) (T := 9) (fun x b h => h.elim) (fun x _ => trivial) rfl h1
  obtain ⟨ao', cap', e1, _, hr⟩ := hQ.form
  simp only [Value.slice.injEq, true_and] at e1
  rw [e1.1]
  exact hr

theorem NamesAt.few {w : World} {ao : Option Addr} {cap : Nat} {L : List ByteArray} (h : NamesAt w ao cap L) : L.length ≤ cap := by
  obtain ⟨B, _, h2⟩ := h
  rcases h2 with ⟨_, hz⟩ | ⟨g, c, cur, e1, e2, e3, e4, _⟩
  · omega
  · simp only [Value.slice.injEq] at e1
    omega

/-- What is handed back: all names of the map, rising. -/
def GotNames (f : ByteArray → Option Value) (n : Nat) (W : World) (e : Ending) (w : World) : Prop :=
  ∃ (L : List ByteArray) (ao : Option Addr) (cap : Nat), e = .returned (.slice ao L.length cap) ∧ NamesAt w ao cap L ∧ L.length = n ∧ RiseN L ∧ (∀ k, k ∈ L ↔ (f k).isSome = true) ∧ Below W.heap.size W w

theorem names_of {w W w' : World} {b n : Nat} {f : ByteArray → Option Value} (D : DataW Value) (hown : w.ownsMap Tryd.prog 9 heldElem b n D) (hsz : Maps.size D = n) (hf : ∀ id, Maps.has D (keyS id) = (f id).isSome) {v : Value} {ss : List (List UInt8)} (hp : ss.Perm (strKeys D))
    (hrow : w'.ownsRow W.heap.size 9 1 v ss.length ((ss.mergeSort (fun x y => decide (x ≤ y))).map encStr)) (hb : Below W.heap.size W w') : GotNames f n W (.returned v) w' := by
  obtain ⟨es, hD, hpw, _⟩ := hown.entries lawStr
  obtain ⟨es', hD', hko⟩ := hown.keysOf
  obtain rfl : es = es' := by rw [hD] at hD'; simpa using hD'
  subst hD
  have hk : ∀ p ∈ es, ∃ x, p.1 = .string x := fun p hp => by
    obtain ⟨v, hv⟩ := hko p hp
    obtain ⟨x, _, hx, _⟩ := Maps.keyOf_str Tryd.underlying9 hv
    exact ⟨x, hx⟩
  have hnd : (strKeys (.map es)).Nodup := by
    show (es.map fun p => strOf p.1).Nodup
    refine List.pairwise_map.2 (hpw.imp_of_mem fun {p q} hp' hq' hne e => hne ?_)
    obtain ⟨a, ha⟩ := hk p hp'
    obtain ⟨b, hb⟩ := hk q hq'
    rw [ha, hb] at e ⊢
    exact congrArg _ e
  have hmem : ∀ x, x ∈ strKeys (.map es) ↔ has (.map es) (.string x) = true := fun x => by
    rw [has_eq, List.any_eq_true]
    show x ∈ es.map (fun p => strOf p.1) ↔ _
    rw [List.mem_map]
    constructor
    · rintro ⟨p, hp', rfl⟩
      obtain ⟨a, ha⟩ := hk p hp'
      exact ⟨p, hp', by rw [ha]; simp [Lit.sameKey, strOf]⟩
    · rintro ⟨p, hp', hs⟩
      obtain ⟨a, ha⟩ := hk p hp'
      rw [ha] at hs
      exact ⟨p, hp', by rw [ha]; simpa [Lit.sameKey, strOf] using hs⟩
  have hP2 : (ss.mergeSort (fun x y => decide (x ≤ y))).Perm (strKeys (.map es)) := (List.mergeSort_perm ss _).trans hp
  have hlen : ss.length = n := by
    rw [hp.length_eq, ← hsz, size_eq]
    show (es.map _).length = _
    rw [List.length_map]
  have hsort : (ss.mergeSort (fun x y => decide (x ≤ y))).Pairwise (fun a b => decide (a ≤ b) = true) :=
    List.pairwise_mergeSort (fun a b c h1 h2 => by simp only [decide_eq_true_eq] at *; exact List.le_trans h1 h2) (fun a b => by simp only [Bool.or_eq_true, decide_eq_true_eq]; exact List.le_total a b) ss
  have hnd2 : (ss.mergeSort (fun x y => decide (x ≤ y))).Nodup := hP2.nodup_iff.2 hnd
  generalize hm : ss.mergeSort (fun x y => decide (x ≤ y)) = m at *
  have hml : m.length = ss.length := by rw [← hm, List.length_mergeSort]
  have hstrict : m.Pairwise (fun a b => a < b) := by
    refine (hsort.and hnd2).imp (fun {a b} h => ?_)
    have h1 : a ≤ b := of_decide_eq_true h.1
    rcases List.le_iff_lt_or_eq.1 h1 with h2 | h2
    · exact h2
    · exact absurd h2 h.2
  have tl : ∀ x : List UInt8, (⟨x.toArray⟩ : ByteArray).toList = x := fun x => by rw [ByteArray.toList_eq]
  have eF : m.map encStr = flatK strK (m.map (fun x => (⟨x.toArray⟩ : ByteArray))) := by
    clear hm hsort hnd2 hstrict hml hP2 hrow
    induction m with
    | nil => rfl
    | cons x r ih =>
      rw [List.map_cons, List.map_cons, ih]
      rfl
  rw [eF] at hrow
  obtain ⟨ao, cap, rfl⟩ : ∃ ao cap, v = .slice ao ss.length cap := by
    rcases hrow.2 with ⟨rfl, hz⟩ | ⟨g, cap, cur, rfl, _⟩
    · exact ⟨none, 0, by rw [hz]⟩
    · exact ⟨_, _, rfl⟩
  have hl2 : ss.length = (m.map (fun x => (⟨x.toArray⟩ : ByteArray))).length := by rw [List.length_map, hml]
  rw [hl2] at hrow
  refine ⟨m.map (fun x => (⟨x.toArray⟩ : ByteArray)), ao, cap, by rw [← hl2], ⟨W.heap.size, hrow⟩, by rw [← hl2]; exact hlen, ?_, ?_, hb⟩
  · refine List.pairwise_map.2 (hstrict.imp (fun {a b} h => ?_))
    rw [tl, tl]
    exact h
  · intro k
    rw [← hf k, List.mem_map]
    have : Maps.has (DataW.map es) (keyS k) = true ↔ k.data.toList ∈ m := by
      rw [hP2.mem_iff, hmem]
      rfl
    rw [this]
    constructor
    · rintro ⟨x, hx, rfl⟩
      simpa using hx
    · intro h
      exact ⟨k.data.toList, h, by simp⟩

set_option maxHeartbeats 1000000 in
theorem sortedA_any (b n : Nat) (f : ByteArray → Option Value) (w : World) (h : SMap w b f n) (hn : n ≤ 1000000) :
    Calls Tryd.prog 28 #[.func (.func 48) #[] #[.pointer (some ⟨w.heap.size, 0, none⟩)]] (w.alloc (.cells #[.map (some b)] 50)) fun e w' => GotNames f n (w.alloc (.cells #[.map (some b)] 50)) e w' := by
  obtain ⟨D, hown, hsz, hf, _⟩ := h
  have hbl := hown.lt
  have hmax : Maps.size D ≤ maxLen := by rw [hsz]; unfold maxLen; omega
  have hbytes : Maps.size D * 16 ≤ 140737488355328 := by rw [hsz]; omega
  have hseq : SeqGives Fence.wide 2 Tryd.prog 48 #[.pointer (some ⟨w.heap.size, 0, none⟩)] encStr (fun ss => ss.Perm (strKeys D)) (Maps.size D) (w.alloc (.cells #[.map (some b)] 50)) :=
    AnyZ.keys_gives (ρ := keysA_ren) { keysA with } Fence.wide _ trivial rfl (by omega) w.heap.size b n D _ (by simp) (by simp) (by
      obtain ⟨es, clock, hb, Ft, hs, hD⟩ := hown
      exact ⟨es, clock, (Below.heap_alloc _ _ b hbl).trans hb, Ft, hs, hD⟩)
  have cS := AnyZ.sorted_in sortedS Fence.wide 5 trivial trivial trivial trivial rfl (by omega) (sortsS _) (enters_of Tryd.func47 (by kernel_rfl) rfl) 48 #[.pointer (some ⟨w.heap.size, 0, none⟩)] trivial (enters_of Tryd.func48 (by kernel_rfl) rfl) _ _ hmax hbytes _ hseq
  refine (callsIn_wide.1 cS).mono ?_
  rintro e w' ⟨v, ss, rfl, hp, hrow, _, hb⟩
  exact names_of D hown hsz hf hp hrow hb

set_option maxHeartbeats 1000000 in
theorem sortedV_any (b n : Nat) (f : ByteArray → Option Value) (w : World) (h : SMap w b f n) (hn : n ≤ 1000000) :
    Calls Tryd.prog 28 #[.func (.func 50) #[] #[.pointer (some ⟨w.heap.size, 0, none⟩)]] (w.alloc (.cells #[.map (some b)] 51)) fun e w' => GotNames f n (w.alloc (.cells #[.map (some b)] 51)) e w' := by
  obtain ⟨D, hown, hsz, hf, _⟩ := h
  have hbl := hown.lt
  have hmax : Maps.size D ≤ maxLen := by rw [hsz]; unfold maxLen; omega
  have hbytes : Maps.size D * 16 ≤ 140737488355328 := by rw [hsz]; omega
  have hseq : SeqGives Fence.wide 2 Tryd.prog 50 #[.pointer (some ⟨w.heap.size, 0, none⟩)] encStr (fun ss => ss.Perm (strKeys D)) (Maps.size D) (w.alloc (.cells #[.map (some b)] 51)) :=
    AnyZ.keys_gives (ρ := keysV_ren) { keysV with } Fence.wide _ trivial rfl (by omega) w.heap.size b n D _ (by simp) (by simp) (by
      obtain ⟨es, clock, hb, Ft, hs, hD⟩ := hown
      exact ⟨es, clock, (Below.heap_alloc _ _ b hbl).trans hb, Ft, hs, hD⟩)
  have cS := AnyZ.sorted_in sortedS Fence.wide 5 trivial trivial trivial trivial rfl (by omega) (sortsS _) (enters_of Tryd.func47 (by kernel_rfl) rfl) 50 #[.pointer (some ⟨w.heap.size, 0, none⟩)] trivial (enters_of Tryd.func50 (by kernel_rfl) rfl) _ _ hmax hbytes _ hseq
  refine (callsIn_wide.1 cS).mono ?_
  rintro e w' ⟨v, ss, rfl, hp, hrow, _, hb⟩
  exact names_of D hown hsz hf hp hrow hb

/-- A map copied: a new block that holds the same. -/
theorem cloneA_any (b n : Nat) (f : ByteArray → Option Value) (w : World) (h : SMap w b f n) :
    Calls Tryd.prog 43 #[.map (some b)] w fun e w' => e = .returned (.map (some w.heap.size)) ∧ SMap w' w.heap.size f n ∧ Below w.heap.size w w' := by
  obtain ⟨D, hown, hsz, hf, hg⟩ := h
  refine (AnyW.maps_Clone_owns cloneA 9 heldElem b n D w hown).mono ?_
  rintro e w' ⟨h1, h2, _, h4⟩
  exact ⟨h1, ⟨D, h2, hsz, hf, hg⟩, h4⟩

theorem cloneV_any (b n : Nat) (f : ByteArray → Option Value) (w : World) (h : SMap w b f n) :
    Calls Tryd.prog 44 #[.map (some b)] w fun e w' => e = .returned (.map (some w.heap.size)) ∧ SMap w' w.heap.size f n ∧ Below w.heap.size w w' := by
  obtain ⟨D, hown, hsz, hf, hg⟩ := h
  refine (AnyW.maps_Clone_owns cloneV 9 heldElem b n D w hown).mono ?_
  rintro e w' ⟨h1, h2, _, h4⟩
  exact ⟨h1, ⟨D, h2, hsz, hf, hg⟩, h4⟩
end Go.Proofs.YtcjmeaikdfgapaaDoor

/- What Copy does. -/
namespace Go.Proofs.YtcjmeaikdfgapaaDoor
open Go Go.RowKit
set_option linter.unusedVariables false

set_option maxRecDepth 100000 in
set_option maxHeartbeats 1000000 in
theorem copy22_any (w : World) (p : Nat) (S : Nat → Prop) (s : StF) (N : Nat) (h : PS w p S s N) :
    Calls Tryd.prog 25 #[.pointer (some ⟨p, 0, none⟩)] w fun e w' => GotState w s N e w' := by
  obtain ⟨a, v, -, hP⟩ := h
  obtain ⟨n1, hn1, hM⟩ := hP.acc
  obtain ⟨n2, hn2, hV⟩ := hP.val
  have hok := hP.ok
  have c0 := hP.box.cell (i := 0) rfl
  have c1 := hP.box.cell (i := 1) rfl
  have lp := hP.box.lt
  have hbd : Below w.heap.size w w.drew := below_drewN (Below.refl _ w) 1
  have cA := fun w1 (hb : Below w.heap.size w w1) => cloneA_any a n1 _ w1 (hM.below hb)
  have cV := fun w1 (hb : Below w.heap.size w w1) => cloneV_any v n2 _ w1 (hV.below hb)
  have hc := fun w1 (hb : Below w.heap.size w w1) => cell_same (hb.block _ lp)
  have hG : ∀ (w1 : World) (a' v' : Nat), Below w.heap.size w w1 → SMap w1 a' (accM s.acc) n1 → SMap w1 v' (valM s.val) n2 → w.heap.size ≤ a' → w.heap.size ≤ v' → a' ≠ v' → GotState w s N (.returned (.pointer (some ⟨w1.heap.size, 0, none⟩))) (w1.alloc (.cells #[.map (some a'), .map (some v')] 53)) := by
    intro w1 a' v' hb hA hV' e1 e2 e3
    have l1 := hA.lt
    have l2 := hV'.lt
    have hb2 := belowNew w1 (.cells #[.map (some a'), .map (some v')] 53)
    exact ⟨w1.heap.size, fun b => b = w1.heap.size ∨ b = a' ∨ b = v', rfl, ⟨a', v', fun b => Iff.rfl, ⟨Arr.new w1 53 [.map (some a'), .map (some v')], ⟨n1, hn1, hA.below hb2⟩, ⟨n2, hn2, hV'.below hb2⟩, by omega, by omega, e3, hok⟩⟩, fun b hb' => by have := hb.size; omega, hb.alloc hb.size _⟩
  have hd0 := hc _ hbd 0
  have hd1 := hc _ hbd 1
  rw [c0] at hd0
  rw [c1] at hd1
  clear hM hV hok hP
  generalize accM s.acc = f at *
  generalize valM s.val = g at *
  generalize hGG : GotState w s N = GG at *
  clear hGG
  go_enter Tryd.func25, Tryd.ntmps25
  go_wp2_with fail
  go_region_law (first
    | (go_simp; go_at_call 43; refine (cA _ hbd).mono ?_; rintro e wA ⟨rfl, hA, hbA⟩; have hbA2 := hbd.trans (hbA.mono hbd.size); have kA1 := (hc _ hbA2 1).trans c1; have lA := hA.lt)
    | (go_simp; go_at_call 44; refine (cV _ hbA2).mono ?_; rintro e wV ⟨rfl, hV, hbV⟩; have hbV2 := hbA2.trans (hbV.mono hbA2.size); have hA2 := hA.below hbV; have hfin := hG wV _ _ hbV2 hA2 hV))
  all_goals (
    have lA' : w.heap.size < wA.heap.size := lA
    have hfin' := hfin (Nat.le_refl _) (Nat.le_of_lt lA') (Nat.ne_of_lt lA')
    clear hfin hA2 hA hV hbV hbA hG cA cV hc kA1 lA hd0 hd1
    rename_i K hK
    refine hK _ _ ?_
    clear hK
    go_wp2
    go_ret
    exact hfin')
end Go.Proofs.YtcjmeaikdfgapaaDoor

/- A strings.Builder of the call's own: what WriteString turns is told block by block; String of nothing. -/
namespace Go.Proofs.YtcjmeaikdfgapaaDoor
open Go.RowKit
set_option linter.unusedVariables false

theorem copyCheck_kept (B b : Nat) (bs : List Value) (w : World) (h : Lib.IsBuilder 66 5 B b bs w) :
    Calls Tryd.prog 49 #[.pointer (some ⟨b, 0, none⟩)] w fun e w' => e = .returned (.tuple #[]) ∧ (Lib.BuilderAt 66 5 B b (.pointer (some ⟨b, 0, none⟩)) bs w' ∧ Kept (fun k => k = b) w w' ∧ w'.heap.size = w.heap.size) := by
  rcases h with h | h
  · refine (copyCheck_fresh b w h.cell0 h.shape h.frozen0).mono ?_
    rintro e w' ⟨rfl, rfl⟩
    exact ⟨rfl, h.used _, Kept.setCell w ⟨b, 0, none⟩ _, by show (w.heap.modify b _).size = _; simp⟩
  · refine (copyCheck_used b w h.cell0).mono ?_
    rintro e w' ⟨rfl, rfl⟩
    exact ⟨rfl, h, Kept.refl _ _, rfl⟩

/-- What is turned: the builder, and a row of bytes behind B. -/
def ByteS (w : World) (B b k : Nat) : Prop := k = b ∨ (B ≤ k ∧ ∃ cur, w.heap[k]? = some (.cells cur 5 (0, 0)))

set_option maxRecDepth 100000 in
set_option maxHeartbeats 400000 in
theorem write_kept (B b : Nat) (bs : List Value) (s : ByteArray) (w : World) (h : Lib.IsBuilder 66 5 B b bs w) (hlen : bs.length + s.size ≤ 140737488355328) (hBw : B ≤ w.heap.size) :
    Calls Tryd.prog 30 #[.pointer (some ⟨b, 0, none⟩), .string s] w fun e w' => e = .returned (.tuple #[.int .i64 s.size, .nilIface]) ∧ (Lib.BuilderAt 66 5 B b (.pointer (some ⟨b, 0, none⟩)) (bs ++ Lib.strCells s) w' ∧ Kept (ByteS w B b) w w') := by
  obtain ⟨i0, hi, hz0, hz1, hz2⟩ := info_parts infoByte
  go_enter Tryd.func30, Tryd.ntmps30
  go_wp2_with fail
  refine (copyCheck_kept B b bs _ h).mono ?_
  rintro e w1 ⟨rfl, h1, hb1, hs1⟩
  obtain ⟨hB, v, hbk, hown, hne⟩ := h1
  have c1 : w1.cell? ⟨b, 1, none⟩ = some v := by rw [Lib.cell_of_heap hbk]; rfl
  have hv : ∀ k, v.ownBlock = some k → ByteS w B b k := by
    intro k hk
    rcases hown.2 with ⟨rfl, _⟩ | ⟨g, cap, cur, rfl, e2, e3, _⟩
    · cases hk
    · have e : g = k := by simpa [Value.ownBlock] using hk
      subst e
      have hgb : ¬ g = b := fun e => hne (by rw [← e]; rfl)
      refine Or.inr ⟨e2, cur, ?_⟩
      have hlt : g < w.heap.size := by
        rcases Nat.lt_or_ge g w.heap.size with q | q
        · exact q
        · exfalso
          have := (Array.getElem?_eq_some_iff.1 e3).1
          omega
      rw [← hb1.block g hlt hgb]
      exact e3
  clear hs1
  go_wp2_with (at_builtin; refine Lib.wpList_append_own_string _ rfl _ _ 64 9 rfl B 5 i0 Tryd.underlying64 Tryd.underlying9 hi hz0 hz1 hz2 _ _ _ rfl hown s rfl ?c3 ?c4 ?c5 ?_)
  case c3 => unfold maxLen; omega
  case c4 => omega
  case c5 => have := hb1.size; omega
  intro v' w2 hown' hgrow _
  have hlt : b < w1.heap.size := (Array.getElem?_eq_some_iff.1 hbk).1
  have hb2 : w2.heap[b]? = some (.cells #[.pointer (some ⟨b, 0, none⟩), v] 66 (0, 0)) := by
    rw [hgrow.block b hlt (fun e => hne e.symm)]
    exact hbk
  have d1 : w2.cell? ⟨b, 1, none⟩ = some v := by rw [Lib.cell_of_heap hb2]; rfl
  have f1 : w2.frozen? ⟨b, 1, none⟩ = false := Lib.frozen_of_heap hb2 1
  obtain ⟨ao, n', cap, rfl⟩ : ∃ ao n' cap, v' = .slice ao n' cap := by
    rcases hown'.2 with ⟨hv, _⟩ | ⟨g, cap, cur, hv, _⟩
    · exact ⟨_, _, _, hv⟩
    · exact ⟨_, _, _, hv⟩
  have fin1 : Lib.BuilderAt 66 5 B b (.pointer (some ⟨b, 0, none⟩)) (bs ++ Lib.strCells s) (w2.setCell ⟨b, 1, none⟩ (.slice ao n' cap)) :=
    Lib.BuilderAt.put (T := 66) (e := 5) hB hb2 (bs' := bs ++ Lib.strCells s) (by simpa [Lib.strCells_length] using hown') (by decide)
  have fin2 : Kept (ByteS w B b) w (w2.setCell ⟨b, 1, none⟩ (.slice ao n' cap)) :=
    ((hb1.mono (fun k _ e => Or.inl e)).trans ((Kept.of_grown hgrow).mono (fun k _ e => hv k e))).trans ((Kept.setCell w2 ⟨b, 1, none⟩ _).mono (fun k _ e => Or.inl e))
  clear hown' hgrow hown hbk hb2 hb1 h hne hlt c1 hv
  go_wp2
  go_ret2
  exact ⟨rfl, fin1, fin2⟩

set_option maxRecDepth 100000 in
set_option maxHeartbeats 400000 in
/-- String of a builder that was never written. -/
theorem string_none (b : Nat) (w : World) (hbk : w.heap[b]? = some (.cells #[.pointer none, .slice none 0 0] 66 (0, 0))) :
    Calls Tryd.prog 35 #[.pointer (some ⟨b, 0, none⟩)] w fun e w' => e = .returned (.string ⟨#[]⟩) ∧ Below w.heap.size w w' := by
  have fin := Below.drew (Below.refl w.heap.size w)
  have hSt : (Builtin.unsafeString_ #[94, 3] 9 #[.pointer none, .int .i64 0]).run Tryd.prog w.drew = .ok (.string ⟨#[]⟩) w.drew := Lib.run_unsafeString_none _ _ _ _ _
  have hSD : (Builtin.unsafeSliceData_ #[64] 94 #[.slice none 0 0]).run Tryd.prog w.drew = .ok (.pointer none) w.drew := rfl
  have c1 : w.cell? ⟨b, 1, none⟩ = some (.slice none 0 0) := by rw [Lib.cell_of_heap hbk]; rfl
  clear hbk
  go_enter Tryd.func35, Tryd.ntmps35
  go_wp2
  go_region
  all_goals (go_wp2; go_ret; exact ⟨rfl, fin⟩)

/-- Block b is a builder of the call's own that holds l; nothing that is older than W has turned. -/
structure DgS (W : World) (b : Nat) (w : World) (l : List UInt8) : Prop where
  bld : Lib.IsBuilder 66 5 W.heap.size b (Lib.byteCells l) w
  emp : l = [] → w.heap[b]? = some (.cells #[.pointer none, .slice none 0 0] 66 (0, 0))
  bel : Below W.heap.size W w
  low : W.heap.size ≤ b

theorem DgS.new (W : World) : DgS W W.heap.size (W.alloc (.cells #[.pointer none, .slice none 0 0] 66)) [] :=
  ⟨Lib.fresh_isBuilder 66 5 W, fun _ => heap_alloc_new W _, belowNew W _, Nat.le_refl _⟩

theorem DgS.lt {W w : World} {b : Nat} {l : List UInt8} (h : DgS W b w l) : b < w.heap.size := by
  rcases h.bld with h1 | h1 <;> exact Lib.BuilderAt.lt h1

theorem DgS.call {W w w1 : World} {b : Nat} {l : List UInt8} (h : DgS W b w l) (hb : Below w.heap.size w w1) : DgS W b w1 l :=
  ⟨builder_keep h.bld hb, fun e => (hb.block b h.lt).trans (h.emp e), h.bel.trans (hb.mono h.bel.size), h.low⟩

theorem DgS.write {W w : World} {b : Nat} {l : List UInt8} (h : DgS W b w l) (m : List UInt8) (hm : l.length + m.length ≤ 140737488355328) (h0 : m ≠ []) :
    Calls Tryd.prog 30 #[.pointer (some ⟨b, 0, none⟩), .string ⟨m.toArray⟩] w fun e w' => e = .returned (.tuple #[.int .i64 m.length, .nilIface]) ∧ DgS W b w' (l ++ m) ∧ Kept (ByteS w W.heap.size b) w w' := by
  refine (write_kept W.heap.size b _ ⟨m.toArray⟩ w h.bld (by rw [Lib.byteCells_length, size_mk]; exact hm) h.bel.size).mono ?_
  rintro e w' ⟨rfl, h2, hk⟩
  have hbw : Below W.heap.size W w' := h.bel.trans (hk.below h.bel.size (fun k hk => by
    rcases hk with e | ⟨e, _⟩
    · rw [e]; exact h.low
    · exact e))
  refine ⟨by rw [size_mk], ⟨Or.inr ?_, fun e => ?_, hbw, h.low⟩, hk⟩
  · rw [Lib.byteCells_append]
    rw [Lib.strCells_eq] at h2
    exact h2
  · exact absurd (List.append_eq_nil_iff.1 e).2 h0

theorem DgS.read {W w : World} {b : Nat} {l : List UInt8} (h : DgS W b w l) :
    Calls Tryd.prog 35 #[.pointer (some ⟨b, 0, none⟩)] w fun e w' => e = .returned (.string ⟨l.toArray⟩) ∧ Below W.heap.size W w' := by
  by_cases h0 : l = []
  · refine (string_none b w (h.emp h0)).mono ?_
    rintro e w' ⟨rfl, hb⟩
    exact ⟨by rw [h0], h.bel.trans (hb.mono h.bel.size)⟩
  · refine (string_any W.heap.size b l w h.bld h0).mono ?_
    rintro e w' ⟨rfl, hb⟩
    exact ⟨rfl, h.bel.trans hb⟩

/-- A block of another type is no row of bytes, and no builder. -/
theorem DgS.other {W w : World} {b : Nat} {l : List UInt8} (h : DgS W b w l) {T : TypeId} (h1 : T ≠ 5) (h2 : T ≠ 66) (k : Nat) (cur : Array Value) (hk : w.heap[k]? = some (.cells cur T (0, 0))) : ¬ ByteS w W.heap.size b k := by
  rintro (e | ⟨_, c, e⟩)
  · subst e
    rcases h.bld with ⟨_, v, h3, _⟩ | ⟨_, v, h3, _⟩ <;> (rw [hk] at h3; simp at h3; exact h2 h3.2)
  · rw [hk] at e
    simp at e
    exact h1 e.2

theorem DgS.arr {W w w' : World} {b : Nat} {l : List UInt8} (h : DgS W b w l) (hk : Kept (ByteS w W.heap.size b) w w') {g : Nat} {T : TypeId} {cs : List Value} (hA : Arr w g T cs) (h1 : T ≠ 5) (h2 : T ≠ 66) : Arr w' g T cs :=
  hA.kept hk (h.other h1 h2 g _ hA)
end Go.Proofs.YtcjmeaikdfgapaaDoor

/- What Digest does. -/
namespace Go.Proofs.YtcjmeaikdfgapaaDoor
open Go Go.RowKit
set_option linter.unusedVariables false

/-- A state's digest is handed back. -/
def GotDig (W : World) (s : StF) (e : Ending) (w : World) : Prop := ∃ t, IsDig s t ∧ e = .returned (.string (Mx.bytes (Mx.sumL t))) ∧ Below W.heap.size W w

theorem accM_is (f : ByteArray → Nat × Nat) (n : ByteArray) : (accM f n).isSome = true ↔ f n ≠ (0, 0) := by
  unfold accM
  by_cases h : f n = (0, 0)
  · rw [if_pos h]; simp [h]
  · rw [if_neg h]; simp [h]

theorem wrap64i (n : Nat) (h : n ≤ 4611686018427387903) : IntKind.i64.wrap (n : Int) = (n : Int) := by
  simp [IntKind.wrap, IntKind.bits, IntKind.signed]
  omega

set_option maxRecDepth 100000 in
set_option maxHeartbeats 4000000 in
theorem digest22_any (w : World) (p : Nat) (S : Nat → Prop) (s : StF) (N : Nat) (h : PS w p S s N) (hN : N ≤ 100000) (hG : Mx.Glob w) :
    Calls Tryd.prog 11 #[.pointer (some ⟨p, 0, none⟩)] w fun e w' => GotDig w s e w' := by
  obtain ⟨a, v, -, hP⟩ := h
  obtain ⟨n1, hn1, hM⟩ := hP.acc
  obtain ⟨n2, hn2, hV⟩ := hP.val
  have hok := hP.ok
  have lp := hP.box.lt
  have hbx := hP.box
  clear hP
  have c0 := hbx.cell (i := 0) rfl
  have D1 := DgS.new w
  have hM1 := hM.below D1.bel
  have hV1 := hV.below D1.bel
  have cK := keysA_any (some a) (w.alloc (.cells #[.pointer none, .slice none 0 0] 66))
  have cS := sortedA_any a n1 _ _ hM1 (by omega)
  have hk2 := belowNew (w.alloc (.cells #[.pointer none, .slice none 0 0] 66)) (.cells #[.map (some a)] 50)
  obtain ⟨w1, hw1⟩ : ∃ q, w.alloc (.cells #[.pointer none, .slice none 0 0] 66) = q := ⟨_, rfl⟩
  rw [hw1] at D1 hM1 hV1 cK cS hk2
  obtain ⟨w2, hw2⟩ : ∃ q, w1.alloc (.cells #[.map (some a)] 50) = q := ⟨_, rfl⟩
  rw [hw2] at cK cS hk2
  have c01 : w1.cell? ⟨p, 0, none⟩ = some (.map (some a)) := by rw [cell_same (D1.bel.block _ lp)]; exact c0
  generalize hGG : GotDig w s = GG
  go_enter Tryd.func11, Tryd.ntmps11
  go_wp2_with fail
  refine cK.mono ?_
  rintro e w' ⟨rfl, rfl⟩
  clear cK
  go_wp2_with fail
  refine cS.mono ?_
  rintro e w3 ⟨L, ao, cap, rfl, hNm, hLn, hLr, hLm, hb3⟩
  have D3 := (D1.call hk2).call hb3
  clear cS hw1 hw2 hk2 hM1 D1 c01 hb3
  have hLs : ∀ x ∈ L, s.acc x ≠ (0, 0) := fun x hx => (accM_is _ _).1 ((hLm x).1 hx)
  have hLen : Hid (∀ i, ((L.take i).flatMap (accT s.acc)).length ≤ 10000000) := by
    intro i
    have h1 := flat_len (accT s.acc) 100 (L.take i) (fun x hx => accT_len hok (hLs x (List.mem_of_mem_take hx)))
    have h2 : (L.take i).length ≤ L.length := by rw [List.length_take]; omega
    omega
  have lL : L.length ≤ 100000 := by omega
  replace hLn : Hid _ := hLn
  go_wp2_with fail
  go_loopw [16] (fun v16 wr => ∃ i : Nat, i ≤ L.length ∧ v16 = .int .i64 (i : Int) ∧ DgS w w.heap.size wr ((L.take i).flatMap (accT s.acc)) ∧ NamesAt wr ao cap L) (fun v _ => L.length - (intOf v).toNat)
  case atStart => exact ⟨0, Nat.zero_le _, rfl, by rw [List.take_zero]; exact D3, hNm⟩
  case round =>
    obtain ⟨i, hi, rfl, D, hNr⟩ := hrel
    clear D3 hNm
    by_cases hil : i < L.length
    · have g1 : (i : Int) < (L.length : Int) := by omega
      obtain ⟨x, hx⟩ : ∃ q, L[i]? = some q := ⟨_, List.getElem?_eq_getElem hil⟩
      have hxm := List.mem_of_getElem? hx
      obtain ⟨b2, off, hao, hbl, hcell⟩ := hNr.row.cell i x hx
      subst hao
      have hc2 := hcell 0 _ rfl
      have eo : off + i * strK.n + 0 = off + i := by show off + i * 1 + 0 = _; omega
      rw [eo] at hc2
      clear hcell eo
      have hxn := hok.nm x (hLs x hxm)
      have hxz := isNm_size hxn
      have hid : x.size ≤ maxLen := by unfold maxLen; omega
      have hMr := hM.below D.bel
      have hg := accM_get s.acc x
      have ha1 := hok.amt x
      have ha2 := hok.num x
      have hnx : Hid ((L.take i).flatMap (accT s.acc) ++ txt (aP ++ x).data.toList ++ goInt ((s.acc x).1 : Nat) ++ goInt ((s.acc x).2 : Nat) = (L.take (i + 1)).flatMap (accT s.acc)) := by
        show _ = _
        rw [List.take_add_one, hx, List.flatMap_append]
        simp [accT]
      have c0r : wr.cell? ⟨p, 0, none⟩ = some (.map (some a)) := by rw [cell_same (D.bel.block _ lp)]; exact c0
      obtain ⟨x1, hx1⟩ : ∃ q, Hid ((s.acc x).1 = q) := ⟨_, rfl⟩
      obtain ⟨x2, hx2⟩ : ∃ q, Hid ((s.acc x).2 = q) := ⟨_, rfl⟩
      rw [hx1.out] at hg ha1 hnx
      rw [hx2.out] at hg ha2 hnx
      have hnb := belowNew wr (.cells #[.int .u64 (x1 : Int), .int .u64 (x2 : Int)] 55)
      have hA4 : Arr (wr.alloc (.cells #[.int .u64 (x1 : Int), .int .u64 (x2 : Int)] 55)) wr.heap.size 55 [.int .u64 (x1 : Int), .int .u64 (x2 : Int)] := Arr.new wr 55 _
      have D4 := D.call hnb
      have hN4 := hNr.below hnb
      have hsz1 : (⟨#[97, 58]⟩ : ByteArray).size + x.size ≤ 9223372036854775807 := by
        have : (⟨#[97, 58]⟩ : ByteArray).size = 2 := rfl
        omega
      have cT := fun wx => text_any (⟨#[97, 58]⟩ ++ x) wx (by have := apP_size x; unfold aP at this; omega)
      have cI1 := fun wx => int_any (x1 : Int) wx
      have cI2 := fun wx => int_any (x2 : Int) wx
      have hw1 := wrap64i x1 ha1
      have hw2 := wrap64i x2 (by omega)
      have e1 := txt_le (aP ++ x).data.toList
      have e2 := goInt_length (x1 : Int)
      have e3 := goInt_length (x2 : Int)
      have e4 := dlen (aP ++ x)
      have e5 := apP_size x
      have n1' := goInt_ne x1 (by omega)
      have n2' := goInt_ne x2 (by omega)
      have n0' : txt (aP ++ x).data.toList ≠ [] := by
        unfold txt
        intro e
        exact goInt_ne _ (by omega) (List.append_eq_nil_iff.1 e).1
      change ∀ wx, Calls _ _ _ _ (fun e w' => e = .returned (.string ⟨(txt (aP ++ x).data.toList).toArray⟩) ∧ _) at cT
      generalize txt (aP ++ x).data.toList = T0 at *
      generalize goInt (x1 : Int) = T1 at *
      generalize goInt (x2 : Int) = T2 at *
      have hl0 := hLen.out i
      generalize (L.take i).flatMap (accT s.acc) = l0 at *
      have hsz : Hid (l0.length ≤ 10000000 ∧ T0.length ≤ 100 ∧ T1.length ≤ 10 ∧ T2.length ≤ 10) := ⟨hl0, by omega, by omega, by omega⟩
      clear e1 e2 e3 e4 e5 hl0 hNr hnb
      go_wp2_with (first
        | (at_lookup; refine smap_look (by rfl) _ _ 50 rfl 55 Tryd.underlying50 _ (zeroAcc _) a _ _ rfl hMr x hid rfl ?_; rw [hg]))
      refine (cT _).mono ?_
      rintro e w5 ⟨rfl, hb5⟩
      have D5 := D4.call hb5
      have hA5 := hA4.below hb5 hA4.lt
      have hN5 := hN4.below hb5
      clear cT D4 hA4 hN4 hb5 c0r hMr hc2 hbl hsz1
      go_wp2_with fail
      refine (D5.write T0 (by have := hsz.out; omega) n0').mono ?_
      rintro e w6 ⟨rfl, D6, hk6⟩
      have hA6 := D5.arr hk6 hA5 (by decide) (by decide)
      have hN6 := hN5.kept hk6 (D5.other (by decide) (by decide))
      have k0 := hA6.cell (i := 0) rfl
      clear D5 hA5 hN5 hk6
      go_wp2_with fail
      refine (cI1 _).mono ?_
      rintro e w7 ⟨rfl, hb7⟩
      have D7 := D6.call hb7
      have hA7 := hA6.below hb7 hA6.lt
      have hN7 := hN6.below hb7
      clear cI1 D6 hA6 hN6 hb7 k0 hw1
      go_wp2_with fail
      refine (D7.write T1 (by have := hsz.out; rw [List.length_append]; omega) n1').mono ?_
      rintro e w8 ⟨rfl, D8, hk8⟩
      have hA8 := D7.arr hk8 hA7 (by decide) (by decide)
      have hN8 := hN7.kept hk8 (D7.other (by decide) (by decide))
      have k1 := hA8.cell (i := 1) rfl
      clear D7 hA7 hN7 hk8
      go_wp2_with fail
      refine (cI2 _).mono ?_
      rintro e w9 ⟨rfl, hb9⟩
      have D9 := D8.call hb9
      have hN9 := hN8.below hb9
      clear cI2 D8 hA8 hN8 hb9 k1 hw2
      go_wp2_with fail
      refine (D9.write T2 (by have := hsz.out; rw [List.length_append, List.length_append]; omega) n2').mono ?_
      rintro e w10 ⟨rfl, D10, hk10⟩
      have hN10 := hN9.kept hk10 (D9.other (by decide) (by decide))
      rw [hnx.out] at D10
      clear D9 hN9 hk10 hnx hsz
      go_wp2
      go_roundw
      case rel => exact ⟨i + 1, by omega, by go_num, D10, hN10⟩
      case measure => simp [intOf]; omega
    · have g1 : ¬ (i : Int) < (L.length : Int) := by omega
      have hir : i = L.length := by omega
      rw [hir, List.take_length] at D
      clear hir hi hil hNr
      have hV2 := hV.below D.bel
      have c1r : wr.cell? ⟨p, 1, none⟩ = some (.map (some v)) := by rw [cell_same (D.bel.block _ lp)]; exact hbx.cell (i := 1) rfl
      have cK := keysV_any (some v) wr
      have cS := sortedV_any v n2 _ _ hV2 (by omega)
      have hk2 := belowNew wr (.cells #[.map (some v)] 51)
      obtain ⟨w2, hw2⟩ : ∃ q, wr.alloc (.cells #[.map (some v)] 51) = q := ⟨_, rfl⟩
      rw [hw2] at cK cS hk2
      have hl1 := flat_len (accT s.acc) 100 L (fun x hx => accT_len hok (hLs x hx))
      obtain ⟨l1, hl1'⟩ : ∃ q, Hid (L.flatMap (accT s.acc) = q) := ⟨_, rfl⟩
      rw [hl1'.out] at D hl1
      clear hV1 hLen
      go_wp2_with fail
      refine cK.mono ?_
      rintro e w3 ⟨rfl, rfl⟩
      clear cK
      go_wp2_with fail
      refine cS.mono ?_
      rintro e w4 ⟨M, bo, bcap, rfl, hNm, hMn, hMr, hMm, hb3⟩
      have D4 := (D.call hk2).call hb3
      clear cS hw2 hk2 hV2 D c1r hb3
      have hMs : ∀ x ∈ M, s.val x ≠ none := fun x hx => by
        have := (hMm x).1 hx
        rw [valM_is] at this
        intro e
        rw [e] at this
        cases this
      have hMen : Hid (∀ i, ((M.take i).flatMap (valT s.val)).length ≤ 20000000) := by
        intro i
        have h1 := flat_len (valT s.val) 200 (M.take i) (fun x hx => valT_len hok (hMs x (List.mem_of_mem_take hx)))
        have h2 : (M.take i).length ≤ M.length := by rw [List.length_take]; omega
        omega
      have lM : M.length ≤ 100000 := by omega
      have ll1 : Hid (l1.length ≤ 10000000) := by show l1.length ≤ _; omega
      have hdig : Hid (IsDig s (l1 ++ M.flatMap (valT s.val))) := by
        refine ⟨L, M, hLr, hMr, fun n => (hLm n).trans (accM_is _ _), fun n => (hMm n).trans ?_, by rw [hl1'.out]⟩
        rw [valM_is]
        cases s.val n <;> simp
      clear hl1 hLm hLr hMm hMr hLs hl1'
      replace hMn : Hid _ := hMn
      go_wp2_with fail
      go_loopw [48] (fun v48 wr => ∃ i : Nat, i ≤ M.length ∧ v48 = .int .i64 (i : Int) ∧ DgS w w.heap.size wr (l1 ++ (M.take i).flatMap (valT s.val)) ∧ NamesAt wr bo bcap M) (fun v _ => M.length - (intOf v).toNat)
      case atStart => exact ⟨0, Nat.zero_le _, rfl, by rw [List.take_zero, List.flatMap_nil, List.append_nil]; exact D4, hNm⟩
      case round =>
        obtain ⟨i, hi, rfl, D, hNr⟩ := hrel
        clear D4 hNm
        by_cases hil : i < M.length
        · have g2 : (i : Int) < (M.length : Int) := by omega
          obtain ⟨x, hx⟩ : ∃ q, M[i]? = some q := ⟨_, List.getElem?_eq_getElem hil⟩
          have hxm := List.mem_of_getElem? hx
          obtain ⟨b3, off3, hao, hbl, hcell⟩ := hNr.row.cell i x hx
          subst hao
          have hc2 := hcell 0 _ rfl
          have eo : off3 + i * strK.n + 0 = off3 + i := by show off3 + i * 1 + 0 = _; omega
          rw [eo] at hc2
          clear hcell eo
          obtain ⟨y, hy⟩ := Option.ne_none_iff_exists'.1 (hMs x hxm)
          obtain ⟨hxn, hys⟩ := hok.vnm x y hy
          have hxz := isNm_size hxn
          have hid : x.size ≤ maxLen := by unfold maxLen; omega
          have hVr := hV.below D.bel
          have hg := valM_get s.val x
          have hnx : Hid (l1 ++ (M.take i).flatMap (valT s.val) ++ txt (kP ++ x).data.toList ++ txt ((s.val x).getD ⟨#[]⟩).data.toList = l1 ++ (M.take (i + 1)).flatMap (valT s.val)) := by
            show _ = _
            rw [List.take_add_one, hx, List.flatMap_append]
            simp [valT]
          rw [hy] at hg hnx
          simp only [Option.getD_some] at hg hnx
          have hsz1 : (⟨#[107, 58]⟩ : ByteArray).size + x.size ≤ 9223372036854775807 := by
            have : (⟨#[107, 58]⟩ : ByteArray).size = 2 := rfl
            omega
          have cT := fun wx => text_any (⟨#[107, 58]⟩ ++ x) wx (by have := kpP_size x; unfold kP at this; omega)
          have cY := fun wx => text_any y wx (by omega)
          have e1 := txt_le (kP ++ x).data.toList
          have e2 := txt_le y.data.toList
          have e4 := dlen (kP ++ x)
          have e5 := kpP_size x
          have e6 := dlen y
          have n0' : txt (kP ++ x).data.toList ≠ [] := by
            unfold txt
            intro e
            exact goInt_ne _ (by omega) (List.append_eq_nil_iff.1 e).1
          have n1' : txt y.data.toList ≠ [] := by
            unfold txt
            intro e
            exact goInt_ne _ (by omega) (List.append_eq_nil_iff.1 e).1
          change ∀ wx, Calls _ _ _ _ (fun e w' => e = .returned (.string ⟨(txt (kP ++ x).data.toList).toArray⟩) ∧ _) at cT
          generalize txt (kP ++ x).data.toList = T0 at *
          generalize txt y.data.toList = T1 at *
          have hl0 := hMen.out i
          generalize (M.take i).flatMap (valT s.val) = l0 at *
          have hsz : Hid (l0.length ≤ 20000000 ∧ T0.length ≤ 100 ∧ T1.length ≤ 100) := ⟨hl0, by omega, by omega⟩
          have hlq : Hid ((l1 ++ l0).length = l1.length + l0.length) := List.length_append
          obtain ⟨l2, hl2⟩ : ∃ q, Hid (l1 ++ l0 = q) := ⟨_, rfl⟩
          rw [hl2.out] at D hnx hlq
          clear e1 e2 e4 e5 e6 hl0 hy
          go_wp2_with fail
          refine (cT _).mono ?_
          rintro e w5 ⟨rfl, hb5⟩
          have D5 := D.call hb5
          have hN5 := hNr.below hb5
          clear cT D hNr hb5 hVr hc2 hbl hsz1
          go_wp2_with fail
          refine (D5.write T0 (by have h1 := hsz.out; have h2 := hlq.out; have h3 := ll1.out; omega) n0').mono ?_
          rintro e w6 ⟨rfl, D6, hk6⟩
          have hN6 := hN5.kept hk6 (D5.other (by decide) (by decide))
          have hV6 := hV.below D6.bel
          have c16 : w6.cell? ⟨p, 1, none⟩ = some (.map (some v)) := by rw [cell_same (D6.bel.block _ lp)]; exact hbx.cell (i := 1) rfl
          clear D5 hN5 hk6
          go_wp2_with (at_lookup; refine smap_look (by rfl) _ _ 51 rfl 79 Tryd.underlying51 _ (zeroVal _) v _ _ rfl hV6 x hid rfl ?_; rw [hg])
          rename_i K hK
          refine hK _ _ ?_
          clear hK
          go_wp2_with fail
          refine (cY _).mono ?_
          rintro e w7 ⟨rfl, hb7⟩
          have D7 := D6.call hb7
          have hN7 := hN6.below hb7
          clear cY D6 hN6 hb7 hV6 c16
          go_wp2_with fail
          refine (D7.write T1 (by have h1 := hsz.out; have h2 := hlq.out; have h3 := ll1.out; rw [List.length_append]; omega) n1').mono ?_
          rintro e w8 ⟨rfl, D8, hk8⟩
          have hN8 := hN7.kept hk8 (D7.other (by decide) (by decide))
          rw [hnx.out] at D8
          clear D7 hN7 hk8 hnx hsz hlq hl2
          go_wp2
          go_roundw
          case rel => exact ⟨i + 1, by omega, by go_num, D8, hN8⟩
          case measure => simp [intOf]; omega
        · have g2 : ¬ (i : Int) < (M.length : Int) := by omega
          have hir : i = M.length := by omega
          have hm2 := hMen.out M.length
          rw [List.take_length] at hm2
          rw [hir, List.take_length] at D
          clear hir hi hil hNr hMen hMs
          obtain ⟨t, ht⟩ : ∃ q, Hid (l1 ++ M.flatMap (valT s.val) = q) := ⟨_, rfl⟩
          have hts : Hid (t.length ≤ 30000000) := by
            show t.length ≤ _
            rw [← ht.out, List.length_append]
            have := ll1.out
            omega
          rw [ht.out] at D hdig
          clear ht hm2 ll1
          go_wp2_with fail
          refine D.read.mono ?_
          rintro e w5 ⟨rfl, hb5⟩
          have cM := Mx.sum_any ⟨t.toArray⟩ w5 (by rw [size_mk]; have := hts.out; omega) (hG.below hb5)
          go_wp2_with fail
          refine cM.mono ?_
          rintro e w6 ⟨rfl, hb6⟩
          have hfin : GG (.returned (.string (Mx.bytes (Mx.sumL t)))) w6 := by
            rw [← hGG]
            exact ⟨t, hdig.out, rfl, hb5.trans (hb6.mono hb5.size)⟩
          clear cM D hdig hGG
          go_wp2
          exact hfin
end Go.Proofs.YtcjmeaikdfgapaaDoor

/- StateCopies: the walk. -/
namespace Go.Proofs.YtcjmeaikdfgapaaDoor
open Go Go.RowKit
set_option linter.unusedVariables false

set_option maxRecDepth 100000 in
set_option maxHeartbeats 8000000 in
theorem stateCopies_walk (ro : Option Addr) (rc : Nat) (rich : List ByteArray) (funds : Nat) (lo : Option Addr) (lc : Nat) (l : List TxM) (mo : Option Addr) (mc : Nat) (m : List TxM) (W : World)
    (hR : RowAt strK W ro rich) (hrc : ro = none → rc = 0) (hrn : rich.length ≤ 1048576) (hrz : ∀ s ∈ rich, s.size ≤ 1048576) (hL : RowAt txK W lo l) (hlw : Wide22 l) (hM : RowAt txK W mo m) (hmw : Wide22 m) (hG : Mx.Glob W) :
    Calls Tryd.prog 6 #[.slice ro rich.length rc, .int .u64 (funds : Int), .slice lo l.length lc, .slice mo m.length mc] W fun e w' => e = .returned (.bool true) ∧ Below W.heap.size W w' := by
  have cW := works22_any W
  go_enter Tryd.func6, Tryd.ntmps6
  go_wp2_with fail
  refine cW.mono ?_
  rintro e w0 ⟨rfl, hb0⟩
  have cR := rich_any rich ro rc w0 (hR.below hb0) hrn hrz
  clear cW
  go_wp2_with fail
  refine cR.mono ?_
  rintro e w1 ⟨rfl, hb1⟩
  have hbA := hb0.trans (hb1.mono hb0.size)
  have cL := greatM_any l lo lc w1 (hL.below hbA) hlw
  clear cR hb0 hb1
  by_cases hri : richB rich = true
  · rw [hri]
    clear cL
    go_wp2
    go_ret
    exact ⟨rfl, hbA⟩
  obtain hri := Bool.eq_false_iff.2 hri
  have hrl := few_rich hri
  rw [hri]
  go_wp2_with fail
  refine cL.mono ?_
  rintro e w2 ⟨rfl, hb2⟩
  have hbB := hbA.trans (hb2.mono hbA.size)
  have cM := greatM_any m mo mc w2 (hM.below hbB) hmw
  clear cL hb2 hbA
  by_cases hgl : greatM l = true
  · rw [hgl]
    clear cM
    go_wp2
    go_ret
    exact ⟨rfl, hbB⟩
  obtain hgl := Bool.eq_false_iff.2 hgl
  have hLm := RowsM.of hL hlw hgl
  rw [hgl]
  go_wp2_with fail
  refine cM.mono ?_
  rintro e w3 ⟨rfl, hb3⟩
  have hbC := hbB.trans (hb3.mono hbB.size)
  clear cM hb3 hbB
  by_cases hgm : greatM m = true
  · rw [hgm]
    go_wp2
    go_ret
    exact ⟨rfl, hbC⟩
  obtain hgm := Bool.eq_false_iff.2 hgm
  have hMm := RowsM.of hM hmw hgm
  rw [hgm]
  clear hri hgl hgm hlw hmw hL hM
  have hown := own_made w3 w3.heap.size rfl
  have hbE := belowNew w3 (.cells #[] 9)
  have hS := ((hR.below hbC).below hbE).strs
  have hs3 : w3.heap.size ≤ (w3.alloc (.cells #[] 9)).heap.size := by rw [alloc_size]; omega
  go_wp2_with (at_builtin; refine wpList_append_strs rfl _ _ rfl w3.heap.size _ rfl hown ro rc rich rfl hS hrc (by omega) hs3 ?_)
  intro a1 c1 w4 h4 hn4 hb4
  have hbD := hbC.trans ((hbE.trans hb4).mono hbC.size)
  have cN := new22_any rich a1 c1 funds w4 h4.at.row (fun s hs => by have := hrz s hs; unfold maxLen; omega) (by omega)
  clear hown hbE hS hs3 h4 hn4 hb4 hR hrc hrz hbC
  generalize newF rich funds = s0 at *
  go_wp2_with fail
  refine cN.mono ?_
  rintro e w5 ⟨p, S, rfl, h5, hS5, hb5⟩
  have hge : ∀ k, S k → W.heap.size ≤ k := fun k hk => Nat.le_trans hbD.size (hS5 k hk)
  have hbF := hbD.trans (hb5.mono hbD.size)
  have hP5 := h5.mono hrl
  clear cN hb5 hbD h5 hS5
  go_wp2_with fail
  go_loopw [10] (fun v10 wr => ∃ (i : Nat) (s : StF), i ≤ l.length ∧ i ≤ 30 ∧ v10 = .int .i64 (i : Int) ∧ PS wr p S s (100 + 2 * i) ∧ Below W.heap.size W wr) (fun v _ => l.length - (intOf v).toNat)
  case atStart => exact ⟨0, s0, Nat.zero_le _, by omega, rfl, hP5, hbF⟩
  case round =>
    obtain ⟨i, s, hi, hi2, rfl, hP, hb⟩ := hrel
    clear hP5 hbF
    by_cases hlt : i < l.length ∧ i < 30
    · obtain ⟨hil, hi30⟩ := hlt
      have g1 : (i : Int) < (l.length : Int) := by omega
      have g2 : (i : Int) < 30 := by omega
      obtain ⟨x, hx⟩ : ∃ x, l[i]? = some x := ⟨_, List.getElem?_eq_getElem hil⟩
      obtain ⟨b, off, rfl, hbl, x0, x1, x2, x3, x4, x5, x6, x7, x8, hxA⟩ := (hLm.below hb).row.tx22 hx
      obtain ⟨hxs, hxr⟩ := hLm.fit x (List.mem_of_getElem? hx)
      have cO := own22_any x wr hxA hxr
      clear hx hxA
      go_wp2_with fail
      refine cO.mono ?_
      rintro e w6 ⟨y, rfl, hyd, hyA, hb6⟩
      have cA := applyD_any y hyd w6 hyA hxs hxr.2 p S (100 + 2 * i) s (hP.below hb6) (by omega) _ rfl
      have hb7 := hb.trans (hb6.mono hb.size)
      obtain ⟨s', hs'⟩ : ∃ q, Hid (applyF s x.d = q) := ⟨_, rfl⟩
      clear cO hb6 hb hP x0 x1 x2 x3 x4 x5 x6 x7 x8 hbl
      go_wp2_with fail
      refine cA.mono ?_
      rintro e w7 ⟨rfl, h7, hk7⟩
      have hb8 := hb7.trans (hk7.below hb7.size hge)
      rw [hs'.out] at h7
      clear cA hk7 hb7
      go_wp2
      go_roundw
      case rel => exact ⟨i + 1, s', by omega, by omega, by go_num, h7, hb8⟩
      case measure => simp [intOf]; omega
    · have hg : ¬ (i : Int) < (l.length : Int) ∨ ((i : Int) < (l.length : Int) ∧ ¬ (i : Int) < 30) := by omega
      have hNb : 100 + 2 * i ≤ 160 := by omega
      replace hP := hP.mono hNb
      clear hNb hlt hi hi2
      go_upto_region 7 with fail
      go_cut [39] (fun s39 wx => s39 = .bool false ∧ wx = wr)
      case first =>
        rcases hg with g1 | ⟨g1, g2⟩
        all_goals
          go_wp2_with fail
          go_meet
          exact ⟨rfl, rfl⟩
      case rest =>
        obtain ⟨rfl, rfl⟩ := hcut
        clear hg
        have cC := copy22_any wc p S s 160 hP
        have hSg := hge
        clear hge
        go_wp2_with fail
        refine cC.mono ?_
        rintro e w6 ⟨q, T, rfl, h6, hT6, hb6⟩
        have hP6 := hP.below hb6
        have hbG := hb.trans (hb6.mono hb.size)
        have hTg : ∀ k, T k → W.heap.size ≤ k := fun k hk => Nat.le_trans hb.size (hT6 k hk)
        have hST : ∀ k, S k → ¬ T k := fun k h1 h2 => by
          have := hP.lt h1
          have := hT6 k h2
          omega
        clear cC hb hb6 hP hT6
        have cD := digest22_any w6 q T s 160 h6 (by omega) (hG.below hbG)
        go_wp2_with fail
        refine cD.mono ?_
        rintro e w7 ⟨t1, hd1, rfl, hb7⟩
        have h7 := h6.below hb7
        have hP7 := hP6.below hb7
        have hbH := hbG.trans (hb7.mono hbG.size)
        clear cD h6 hP6 hb7 hbG
        have cD := digest22_any w7 p S s 160 hP7 (by omega) (hG.below hbH)
        go_wp2_with fail
        refine cD.mono ?_
        rintro e w8 ⟨t2, hd2, rfl, hb8⟩
        obtain rfl := hd1.uniq hd2
        have h8 := h7.below hb8
        have hP8 := hP7.below hb8
        have hbI := hbH.trans (hb8.mono hbH.size)
        clear cD h7 hP7 hb8 hbH hd2
        have cD := digest22_any w8 p S s 160 hP8 (by omega) (hG.below hbI)
        go_wp2_with fail
        refine cD.mono ?_
        rintro e w9 ⟨t2, hd2, rfl, hb9⟩
        obtain rfl := hd1.uniq hd2
        have h9 := h8.below hb9
        have hP9 := hP8.below hb9
        have hbJ := hbI.trans (hb9.mono hbI.size)
        clear cD h8 hP8 hb9 hbI hd2
        obtain ⟨D, hD⟩ : ∃ D, Hid (Mx.bytes (Mx.sumL t1) = D) := ⟨_, rfl⟩
        rw [hD.out]
        go_wp2_with fail
        go_loopw [13] (fun v13 wr => ∃ (i : Nat), i ≤ m.length ∧ i ≤ 30 ∧ v13 = .int .i64 (i : Int) ∧ PS wr q T (runF s m i) (160 + 2 * i) ∧ PS wr p S s 160 ∧ Below W.heap.size W wr) (fun v _ => m.length - (intOf v).toNat)
        case atStart => exact ⟨0, Nat.zero_le _, by omega, rfl, h9, hP9, hbJ⟩
        case round =>
          obtain ⟨j, hj, hj2, rfl, hQ, hP, hb⟩ := hrel
          clear h9 hP9 hbJ
          by_cases hlt : j < m.length ∧ j < 30
          · obtain ⟨hil, hi30⟩ := hlt
            have g1 : (j : Int) < (m.length : Int) := by omega
            have g2 : (j : Int) < 30 := by omega
            obtain ⟨x, hx⟩ : ∃ x, m[j]? = some x := ⟨_, List.getElem?_eq_getElem hil⟩
            obtain ⟨b, off, rfl, hbl, x0, x1, x2, x3, x4, x5, x6, x7, x8, hxA⟩ := (hMm.below hb).row.tx22 hx
            obtain ⟨hxs, hxr⟩ := hMm.fit x (List.mem_of_getElem? hx)
            have cO := own22_any x wr hxA hxr
            have hst : Hid (applyF (runF s m j) x.d = runF s m (j + 1)) := (runF_step s hx).symm
            clear hx hxA
            go_wp2_with fail
            refine cO.mono ?_
            rintro e wa ⟨y, rfl, hyd, hyA, hba⟩
            have cA := applyD_any y hyd wa hyA hxs hxr.2 q T (160 + 2 * j) _ (hQ.below hba) (by omega) _ rfl
            have hPa := hP.below hba
            have hb7 := hb.trans (hba.mono hb.size)
            clear cO hba hb hQ hP x0 x1 x2 x3 x4 x5 x6 x7 x8 hbl
            go_wp2_with fail
            refine cA.mono ?_
            rintro e wb ⟨rfl, h7, hk7⟩
            rw [hst.out] at h7
            have hPb := hPa.kept hk7 hST
            have hb8 := hb7.trans (hk7.below hb7.size hTg)
            clear cA hk7 hb7 hPa hst
            go_wp2
            go_roundw
            case rel => exact ⟨j + 1, by omega, by omega, by go_num, h7, hPb, hb8⟩
            case measure => simp [intOf]; omega
          · have hg : ¬ (j : Int) < (m.length : Int) ∨ ((j : Int) < (m.length : Int) ∧ ¬ (j : Int) < 30) := by omega
            have hNb : 160 + 2 * j ≤ 220 := by omega
            replace hQ := hQ.mono hNb
            obtain ⟨n, hn⟩ : ∃ n, Hid (min m.length 30 = n) := ⟨_, rfl⟩
            have hjn : j = n := by have := hn.out; omega
            rw [hjn] at hQ
            clear hNb hlt hj hj2 hjn
            go_upto_region 15 with fail
            go_cut [69] (fun s69 wx => s69 = .bool false ∧ wx = wr)
            case first =>
              rcases hg with g1 | ⟨g1, g2⟩
              all_goals
                go_wp2_with fail
                go_meet
                exact ⟨rfl, rfl⟩
            case rest =>
              obtain ⟨rfl, rfl⟩ := hcut
              clear hg
              have cD := digest22_any wc p S s 160 hP (by omega) (hG.below hb)
              go_wp2_with fail
              refine cD.mono ?_
              rintro e w9 ⟨t2, hd2, rfl, hb9⟩
              obtain rfl := hd1.uniq hd2
              rw [hD.out]
              have hQ9 := hQ.below hb9
              have hP9 := hP.below hb9
              have hbJ := hb.trans (hb9.mono hb.size)
              clear cD hQ hP hb9 hb hd2 hd1 hD
              go_wp2_with fail
              go_loopw [14] (fun v14 wr => ∃ (i : Nat), i ≤ m.length ∧ i ≤ 30 ∧ v14 = .int .i64 (i : Int) ∧ PS wr q T (runF s m n) 220 ∧ PS wr p S (runF s m i) (160 + 2 * i) ∧ Below W.heap.size W wr) (fun v _ => m.length - (intOf v).toNat)
              case atStart => exact ⟨0, Nat.zero_le _, by omega, rfl, hQ9, hP9, hbJ⟩
              case round =>
                obtain ⟨j, hj, hj2, rfl, hQ, hP, hb⟩ := hrel
                clear hQ9 hP9 hbJ
                by_cases hlt : j < m.length ∧ j < 30
                · obtain ⟨hil, hi30⟩ := hlt
                  have g1 : (j : Int) < (m.length : Int) := by omega
                  have g2 : (j : Int) < 30 := by omega
                  obtain ⟨x, hx⟩ : ∃ x, m[j]? = some x := ⟨_, List.getElem?_eq_getElem hil⟩
                  obtain ⟨b, off, rfl, hbl, x0, x1, x2, x3, x4, x5, x6, x7, x8, hxA⟩ := (hMm.below hb).row.tx22 hx
                  obtain ⟨hxs, hxr⟩ := hMm.fit x (List.mem_of_getElem? hx)
                  have cO := own22_any x wr hxA hxr
                  have hst : Hid (applyF (runF s m j) x.d = runF s m (j + 1)) := (runF_step s hx).symm
                  clear hx hxA
                  go_wp2_with fail
                  refine cO.mono ?_
                  rintro e wa ⟨y, rfl, hyd, hyA, hba⟩
                  have cA := applyD_any y hyd wa hyA hxs hxr.2 p S (160 + 2 * j) _ (hP.below hba) (by omega) _ rfl
                  have hQa := hQ.below hba
                  have hb7 := hb.trans (hba.mono hb.size)
                  clear cO hba hb hQ hP x0 x1 x2 x3 x4 x5 x6 x7 x8 hbl
                  go_wp2_with fail
                  refine cA.mono ?_
                  rintro e wb ⟨rfl, h7, hk7⟩
                  rw [hst.out] at h7
                  have hQb := hQa.kept hk7 (fun k h1 h2 => hST k h2 h1)
                  have hb8 := hb7.trans (hk7.below hb7.size hSg)
                  clear cA hk7 hb7 hQa hst
                  go_wp2
                  go_roundw
                  case rel => exact ⟨j + 1, by omega, by omega, by go_num, hQb, h7, hb8⟩
                  case measure => simp [intOf]; omega
                · have hg : ¬ (j : Int) < (m.length : Int) ∨ ((j : Int) < (m.length : Int) ∧ ¬ (j : Int) < 30) := by omega
                  have hNb : 160 + 2 * j ≤ 220 := by omega
                  replace hP := hP.mono hNb
                  have hjn : j = n := by have := hn.out; omega
                  rw [hjn] at hP
                  clear hNb hlt hj hj2 hjn hn
                  go_upto_region 21 with fail
                  go_cut [90] (fun s90 wx => s90 = .bool false ∧ wx = wr)
                  case first =>
                    rcases hg with g1 | ⟨g1, g2⟩
                    all_goals
                      go_wp2_with fail
                      go_meet
                      exact ⟨rfl, rfl⟩
                  case rest =>
                    obtain ⟨rfl, rfl⟩ := hcut
                    clear hg
                    have cD := digest22_any wc p S _ 220 hP (by omega) (hG.below hb)
                    go_wp2_with fail
                    refine cD.mono ?_
                    rintro e w9 ⟨t1, hd1, rfl, hb9⟩
                    have cE := digest22_any w9 q T _ 220 (hQ.below hb9) (by omega) (hG.below (hb.trans (hb9.mono hb.size)))
                    clear cD
                    go_wp2_with fail
                    refine cE.mono ?_
                    rintro e w10 ⟨t2, hd2, rfl, hb10⟩
                    obtain rfl := hd1.uniq hd2
                    have hbF := (hb.trans (hb9.mono hb.size)).trans (hb10.mono (hb.trans (hb9.mono hb.size)).size)
                    clear cE hQ hP hb hb9 hb10 hd1 hd2
                    go_wp2
                    go_ret
                    exact ⟨rfl, hbF⟩
end Go.Proofs.YtcjmeaikdfgapaaDoor

/- What the bound of the second form gives: the sizes of strings, and of slices of strings with all that they hold. -/
namespace Go.Proofs.YtcjmeaikdfgapaaDoor
open Go.ChangeShapes Go.WideShapes Go.ChangeAt Go.RowKit

theorem upto_part {H : Type} {d : DataW H} : ∀ {l : List (DataW H)}, d ∈ l → Rows.uptoBulk d ≤ Rows.uptoBulkAll l
  | [], h => by cases h
  | x :: r, h => by
    simp only [Rows.uptoBulkAll]
    rcases List.mem_cons.1 h with e | e
    · subst e; omega
    · have := upto_part e; omega

theorem upto_bound {H : Type} {l : List (DataW H)} (hk : Rows.uptoSmall H l = true) : Rows.uptoBulkAll l ≤ 1048576 := of_decide_eq_true hk

theorem upto_string {H : Type} {s : ByteArray} {d : DataW H} (hd : d = .lit (.string s.data.toList)) {l : List (DataW H)} (hk : Rows.uptoSmall H l = true) (hm : d ∈ l) : s.size ≤ 1048576 := by
  have h1 := upto_bound hk
  have h2 := upto_part hm
  subst hd
  simp only [Rows.uptoBulk] at h2
  have : s.data.toList.length = s.size := by simp
  omega

/-- How many values and letters a row of strings holds. -/
def strsBulk (ss : List ByteArray) : Nat := (ss.map (fun s => s.size + 1)).sum

theorem bulk_strs {H : Type} : ∀ (ss : List ByteArray), Rows.uptoBulkAll (strs (H := H) ss) = strsBulk ss
  | [] => by simp [strs, strsBulk, Rows.uptoBulkAll]
  | s :: ss => by
    have ih := bulk_strs (H := H) ss
    simp only [strs, strsBulk, List.map_cons, List.sum_cons, Rows.uptoBulkAll, Rows.uptoBulk] at ih ⊢
    rw [ih]
    simp

theorem upto_strs {H : Type} {ss : List ByteArray} {d : DataW H} (hd : StrsDatum d ss) {l : List (DataW H)} (hk : Rows.uptoSmall H l = true) (hm : d ∈ l) : strsBulk ss ≤ 1048576 := by
  have h1 := upto_bound hk
  have h2 := upto_part hm
  rcases hd with ⟨rfl, rfl⟩ | ⟨rest, rfl⟩
  · simp [strsBulk]
  · simp only [Rows.uptoBulk] at h2
    rw [bulk_strs] at h2
    omega

theorem strsBulk_length : ∀ (ss : List ByteArray), ss.length ≤ strsBulk ss
  | [] => by simp
  | s :: ss => by
    have := strsBulk_length ss
    simp only [strsBulk, List.map_cons, List.sum_cons, List.length_cons] at this ⊢
    omega

theorem flat_bulk : ∀ (ss : List ByteArray), ((bl ss).flatMap txt).length ≤ 10 * strsBulk ss
  | [] => by simp [bl]
  | s :: ss => by
    have ih := flat_bulk ss
    have hg := goInt_length s.size
    have e : (bl (s :: ss)).flatMap txt = txt s.data.toList ++ (bl ss).flatMap txt := by simp [bl]
    rw [e, List.length_append]
    have e2 : (txt s.data.toList).length = (goInt s.size).length + s.size := by simp [txt]
    simp only [strsBulk, List.map_cons, List.sum_cons] at ih ⊢
    omega

theorem lst_bulk (ss : List ByteArray) : (lst (bl ss)).length ≤ 9 + 10 * strsBulk ss := by
  have := flat_bulk ss
  have := goInt_length (bl ss).length
  rw [lst, List.length_append]
  omega
end Go.Proofs.YtcjmeaikdfgapaaDoor

/- What comes in, with the bound of the second form. -/
namespace Go.Proofs.YtcjmeaikdfgapaaDoor
open Go.ChangeShapes Go.WideShapes Go.ChangeAt Go.RowKit Go.Joins Go.Deep
set_option linter.unusedVariables false

theorem strs_one : ∀ {ss : List ByteArray} {s : ByteArray}, s ∈ ss → s.size ≤ strsBulk ss
  | [], _, h => by cases h
  | x :: r, s, h => by
    have e : strsBulk (x :: r) = x.size + 1 + strsBulk r := by simp [strsBulk]
    rcases List.mem_cons.1 h with q | q
    · rw [q]; omega
    · have := strs_one q; omega

theorem strs_few {ss : List ByteArray} (h : strsBulk ss ≤ 1048576) : ss.length ≤ 1048576 ∧ ∀ s ∈ ss, s.size ≤ 1048576 :=
  ⟨Nat.le_trans (strsBulk_length ss) h, fun _ hs => Nat.le_trans (strs_one hs) h⟩

theorem nat_of_u64 {n : Int} (h : (Lit.int .u64 n).wf = true) : ∃ k : Nat, n = (k : Int) := ⟨n.toNat, by have := (wf_u64 h).1; omega⟩

set_option maxRecDepth 100000 in
theorem open_tx22 {H : Type} {enc : TypeId × Value → H} {W : World} {r : Reach} {b0 : Nat} {v : Value} {d : DataW H} {p : List MemPlace} (hv : Value.okWide Tryd.prog W r b0 33 v)
    (h : DataW.Trod enc Tryd.prog W 0 (fun _ => true) true 33 v d p) : ∃ x : TxM, v = x.v ∧ x.At W ∧ TxSizes x.d ∧ TxDatum d x.d := by
  obtain ⟨D, ra, rc, wa, wc, h1, h2, h3, h4, h5, h6⟩ := open_tx hv h
  exact ⟨⟨D, ra, rc, wa, wc⟩, h1, ⟨h2, h3, h4⟩, h5, h6⟩
end Go.Proofs.YtcjmeaikdfgapaaDoor

/- StateCopies: for every input the statement answers true, and each argument reads afterwards as it read before. Condition: the two tables of package mix read as the program's text lays them; and what the arguments hold is together of bulk at most 1048576. -/
namespace Go.Proofs.YtcjmeaikdfgapaaDoor
open Go.ChangeShapes Go.WideShapes Go.ChangeAt Go.RowKit
open Go.ChangeMaps (open_string shut_string)
set_option linter.unusedVariables false

set_option maxRecDepth 100000 in
theorem stateCopies_reads (os : Os) {H : Type} (enc : TypeId × Value → H) : ∃ places, DataW.whole enc Tryd.prog ((World.doorLaid Tryd.prog 400 os).forCall (fun _ _ => 0) ⟨#[], #[.slice none 0 0, .int .u64 0, .slice none 0 0, .slice none 0 0], []⟩).memory Tryd.f6.params.toList Rows.stateCopiesSpec.vars false (#[.slice none 0 0, .int .u64 0, .slice none 0 0, .slice none 0 0] : Array Value).toList 8 = some ([.nil, .lit (.int .u64 0), .nil, .nil], [], places) :=
  ⟨[], by kernel_rfl⟩

set_option maxRecDepth 100000 in
theorem stateCopies_lifted (os : Os) (started : os.Started) (H : Type) (enc : TypeId × Value → H) (F : Stop.Interp) :
    ReturnsInHanded {} Tryd.checked os 6 .any ((Rows.OpenSpec.upto Rows.stateCopiesSpec).preRow enc Tryd.prog Tryd.f6 Rows.stateCopiesUptoRow.domain false Rows.stateCopiesUptoRow.laid) (((Rows.OpenSpec.upto Rows.stateCopiesSpec).at F).post enc Tryd.prog Tryd.f6 false true false false) := by
  obtain ⟨places, hx⟩ := stateCopies_reads os enc
  refine returnsInHanded_of_row (C := Tryd.checked) (s := Rows.OpenSpec.upto Rows.stateCopiesSpec) ownKnob_none started (by kernel_rfl) Tryd.func6
    ⟨World.doorLaid Tryd.prog 400 os, fun _ _ => 0, ⟨#[], #[.slice none 0 0, .int .u64 0, .slice none 0 0, .slice none 0 0], []⟩, rfl, World.shaped_of_RefB (by kernel_rfl) (by kernel_rfl), rfl, (Input.okWide_of_okWideB (by kernel_rfl)).2,
      OpenSpec.preRow_of_cond 8 hx (by kernel_rfl) (fun k hk => by cases hk; kernel_rfl) (by kernel_rfl) (Mx.door_met os _), by
      simp only [Assume.holds]
      exact ⟨by simp, by simp, fun _ => Modest.zero, by simp, by simp⟩⟩ ?_
  intro W base args ds gs before hval0 hW hcnd hcond hsz0 hL _ _
  have hk : Rows.uptoSmall H (ds ++ gs) = true := hcond _ rfl
  have hval : ∀ (j : Nat) t v, Tryd.f6.params[j]? = some t → args[j]? = some v → Value.okWide Tryd.prog W .any base t v := hval0
  have hsz : (DataW.weightsEach Tryd.prog (Tryd.f6.params.toList ++ Rows.stateCopiesSpec.plain.varTypes Tryd.prog) (ds ++ gs)).all (· ≤ reachBytes) = true := hsz0
  have hW' := hW
  obtain ⟨p, q, hA0, hV, rfl, hfz, hnd⟩ := hW
  have hA : DataW.TrodAll enc Tryd.prog W 0 (fun _ => true) true Tryd.f6.params.toList args.toList ds p := hA0
  rw [Tryd.params6] at hA hval hsz
  obtain ⟨v0, vs0, d0, ds0, p0, q0, hargs, rfl, rfl, h0, r0⟩ := trodAll_cons hA
  obtain ⟨v1, vs1, d1, ds1, p1, q1, rfl, rfl, rfl, h1, r1⟩ := trodAll_cons r0
  obtain ⟨v2, vs2, d2, ds2, p2, q2, rfl, rfl, rfl, h2, r2⟩ := trodAll_cons r1
  obtain ⟨v3, vs3, d3, ds3, p3, q3, rfl, rfl, rfl, h3, r3⟩ := trodAll_cons r2
  obtain ⟨rfl, rfl, rfl⟩ := trodAll_nil r3
  obtain rfl : args = #[v0, v1, v2, v3] := by cases args; simp_all
  obtain ⟨rfl, rfl⟩ := trodVars_none hV
  have k0 := h0
  have lt0 : ∀ x ∈ p0, x.block < W.heap.size := by obtain ⟨m, hm⟩ := k0; exact DataW.trod_lt m _ _ _ hm
  obtain ⟨a0, len0, cap0, rfl⟩ := okWide_slice Tryd.underlying22 (hval 0 22 v0 rfl rfl)
  obtain ⟨ss0, sl0, st0, sm0, sd0⟩ := strs_open h0
  subst sl0
  have bk0 := strs_few (upto_strs sd0 hk (by simp))
  have k1 := h1
  have lt1 : ∀ x ∈ p1, x.block < W.heap.size := by obtain ⟨m, hm⟩ := k1; exact DataW.trod_lt m _ _ _ hm
  obtain ⟨b1, rfl, hd1, hp1, w1⟩ := open_int Tryd.underlying23 (hval 1 23 v1 rfl rfl) h1
  obtain ⟨a1, rfl⟩ := nat_of_u64 w1
  have k2 := h2
  have lt2 : ∀ x ∈ p2, x.block < W.heap.size := by obtain ⟨m, hm⟩ := k2; exact DataW.trod_lt m _ _ _ hm
  obtain ⟨a2, len2, cap2, rfl⟩ := okWide_slice Tryd.underlying24 (hval 2 24 v2 rfl rfl)
  obtain ⟨l2, rfl, st2, sm2, sd2⟩ := open_txs22 h2
  have sz2 := txs22_sized hsz (j := 2) rfl rfl sd2
  have k3 := h3
  have lt3 : ∀ x ∈ p3, x.block < W.heap.size := by obtain ⟨m, hm⟩ := k3; exact DataW.trod_lt m _ _ _ hm
  obtain ⟨a3, len3, cap3, rfl⟩ := okWide_slice Tryd.underlying24 (hval 3 24 v3 rfl rfl)
  obtain ⟨l3, rfl, st3, sm3, sd3⟩ := open_txs22 h3
  have sz3 := txs22_sized hsz (j := 3) rfl rfl sd3
  clear hA0 hval0 hsz0
  refine (stateCopies_walk a0 cap0 ss0 a1 a2 cap2 l2 a3 cap3 l3 W st0.row (strs_cap k0) bk0.1 bk0.2 st2 sz2 st3 sz3 (Mx.of_laid hL)).mono fun e W' ⟨he, bel⟩ => ?_
  subst he
  exact ⟨_, rfl, _, _, _, [], _, [], hW', trodAll_mk1 (shut_bool Tryd.underlying4 _), (trodAll_cons_mk (Below.trod laidOut_true (by kernel_rfl) (of_decide_eq_true (by kernel_rfl)) k0 bel lt0) (trodAll_cons_mk (Below.trod laidOut_true (by kernel_rfl) (of_decide_eq_true (by kernel_rfl)) k1 bel lt1) (trodAll_cons_mk (Below.trod laidOut_true (by kernel_rfl) (of_decide_eq_true (by kernel_rfl)) k2 bel lt2) (trodAll_cons_mk (Below.trod laidOut_true (by kernel_rfl) (of_decide_eq_true (by kernel_rfl)) k3 bel lt3) trodAll_mk0)))), rfl, bel.frame _, fun h => by cases h⟩

theorem stateCopiesUpto_holds : Rows.StateCopiesUptoSaid :=
  OpenClaim.holds_of_cond 6 Tryd.f6 rfl rfl rfl rfl rfl rfl rfl ⟨rfl, rfl, rfl, rfl, rfl⟩ rfl rfl rfl rfl rfl (by kernel_rfl) Tryd.func6 (by kernel_rfl)
    (of_decide_eq_true (by kernel_rfl)) (by unfold Func.isWrapper; rw [if_neg (of_decide_eq_false (by kernel_rfl))]; exact ⟨rfl, rfl⟩)
    (fun os started H enc _ F => by rw [OpenClaim.pre_eq_preRow]; exact stateCopies_lifted os started H enc F)

theorem stateCopiesUpto_card : Rows.StateCopiesUptoCardSaid :=
  Claim7.holds_tied_plain_at .later [] [.data, .data] true (true, "1e32a5eeb282703e4f3e650c36c45899cefdfcfc426a3c03a79052e441ce46ee") true
    stateCopiesUpto_holds (fun _ h => by cases h) (by kernel_rfl) (fun _ h => by cases h) stateCopiesUpto_row_tie rfl ⟨rfl, rfl⟩ (by kernel_rfl) rfl
    (fun f fn hf hfn => by
      obtain rfl : f = 6 := Option.some.inj ((show Tryd.prog.funcNamed "tusk/tusklaw22.StateCopies" = some 6 by kernel_rfl).symm.trans hf) |>.symm
      obtain rfl : fn = Tryd.f6 := (Option.some.inj (Tryd.func6.symm.trans hfn)).symm
      exact ⟨by kernel_rfl, fun j t ht => by
        rw [Tryd.params6] at ht
        have hall : ∀ t ∈ (#[22, 23, 24, 24] : Array TypeId).toList, Tryd.prog.wantsStandIn t = false := by
          show ∀ t ∈ ([22, 23, 24, 24] : List TypeId), Tryd.prog.wantsStandIn t = false
          refine List.forall_mem_cons.2 ⟨by kernel_rfl, ?_⟩
          refine List.forall_mem_cons.2 ⟨by kernel_rfl, ?_⟩
          refine List.forall_mem_cons.2 ⟨by kernel_rfl, ?_⟩
          refine List.forall_mem_cons.2 ⟨by kernel_rfl, ?_⟩
          exact fun _ h => by cases h
        exact hall t (Array.mem_toList_iff.2 (Array.mem_of_getElem? ht))⟩)
    (by kernel_rfl)
end Go.Proofs.YtcjmeaikdfgapaaDoor
