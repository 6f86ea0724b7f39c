/- A board: words that are open, in their order, each with the places of its tags. -/
import Derived.Test.YtbikabjogacfkaaDoorVotesEnough
namespace Go.Proofs.YtbikabjogacfkaaDoor
open Go.RowKit
set_option linter.unusedVariables false

/-- A word that is open. -/
structure WordB where
  word : ByteArray
  P : List (Option TagD)

/-- Where a word stands. -/
def atW (word : ByteArray) : List WordB → Option Nat
  | [] => none
  | x :: r => if x.word = word then some 0 else (atW word r).map (· + 1)

def getB (word : ByteArray) (bs : List WordB) : Option WordB := (atW word bs).bind (fun i => bs[i]?)
def closeB (word : ByteArray) (bs : List WordB) : List WordB := bs.filter (fun x => !decide (x.word = word))
def setB (word : ByteArray) (P : List (Option TagD)) (bs : List WordB) : List WordB := bs.map (fun x => if x.word = word then ⟨word, P⟩ else x)
def openE (most : Int) (bs : List WordB) (word : ByteArray) : Nat := if (atW word bs).isSome = true then 13 else if most ≤ (bs.length : Int) then 4 else 0
def openB (most : Int) (bs : List WordB) (word : ByteArray) : List WordB := if openE most bs word = 0 then bs ++ [⟨word, noP⟩] else bs
def fullP (f : Nat) (P : List (Option TagD)) : Bool := decide (2 * f + 1 ≤ (inL P).length)
def sealE (ks : List ByteArray) (kind : ByteArray) (bs : List WordB) (word : ByteArray) (t : TagD) : Nat := match getB word bs with | none => 14 | some x => addE (chkT ks kind word) x.P t
def sealB (f : Nat) (ks : List ByteArray) (kind : ByteArray) (bs : List WordB) (word : ByteArray) (t : TagD) : List WordB :=
  match getB word bs with
  | none => bs
  | some x => if addE (chkT ks kind word) x.P t = 0 then (if fullP f (addP (chkT ks kind word) x.P t) = true then closeB word bs else setB word (addP (chkT ks kind word) x.P t) bs) else bs
def sealL (f : Nat) (ks : List ByteArray) (kind : ByteArray) (bs : List WordB) (word : ByteArray) (t : TagD) : List TagD :=
  match getB word bs with
  | none => []
  | some x => if addE (chkT ks kind word) x.P t = 0 then (if fullP f (addP (chkT ks kind word) x.P t) = true then inL (addP (chkT ks kind word) x.P t) else []) else []

theorem atW_some {word : ByteArray} : ∀ {bs : List WordB} {i : Nat}, atW word bs = some i → ∃ x, bs[i]? = some x ∧ x.word = word ∧ getB word bs = some x ∧ ∀ j y, j < i → bs[j]? = some y → ¬ y.word = word := by
  intro bs
  induction bs with
  | nil => intro i h; cases h
  | cons x r ih =>
    intro i h
    have h' := h
    unfold atW at h
    by_cases e : x.word = word
    · rw [if_pos e] at h
      simp only [Option.some.injEq] at h
      subst h
      refine ⟨x, rfl, e, ?_, fun j y hj => absurd hj (by omega)⟩
      unfold getB
      rw [h']
      rfl
    · rw [if_neg e] at h
      obtain ⟨k, hk, rfl⟩ := Option.map_eq_some_iff.1 h
      obtain ⟨y, h1, h2, _, h3⟩ := ih hk
      refine ⟨y, by simpa using h1, h2, ?_, fun j z hj hz => ?_⟩
      · unfold getB
        rw [h']
        simpa using h1
      · cases j with
        | zero =>
          simp only [List.getElem?_cons_zero, Option.some.injEq] at hz
          subst hz
          exact e
        | succ j => exact h3 j z (by omega) (by simpa using hz)

theorem atW_none {word : ByteArray} {bs : List WordB} : atW word bs = none ↔ ∀ x ∈ bs, ¬ x.word = word := by
  induction bs with
  | nil => exact ⟨(fun _ x hx => by cases hx), fun _ => rfl⟩
  | cons x r ih =>
    unfold atW
    by_cases e : x.word = word
    · rw [if_pos e]
      exact ⟨(fun h => by cases h), fun h => absurd e (h x List.mem_cons_self)⟩
    · rw [if_neg e, Option.map_eq_none_iff, ih]
      constructor
      · intro h y hy
        rcases List.mem_cons.1 hy with rfl | hy
        · exact e
        · exact h y hy
      · exact fun h y hy => h y (List.mem_cons_of_mem _ hy)

theorem getB_none {word : ByteArray} {bs : List WordB} : getB word bs = none ↔ atW word bs = none := by
  cases h : atW word bs with
  | none => unfold getB; rw [h]; simp
  | some i =>
    obtain ⟨x, _, _, hg, _⟩ := atW_some h
    rw [hg]
    simp

theorem getB_some {word : ByteArray} {bs : List WordB} {x : WordB} (h : getB word bs = some x) : x ∈ bs ∧ x.word = word ∧ ∃ i, atW word bs = some i ∧ bs[i]? = some x := by
  cases hi : atW word bs with
  | none => rw [getB_none.2 hi] at h; cases h
  | some i =>
    obtain ⟨y, h1, h2, hg, _⟩ := atW_some hi
    rw [hg] at h
    cases h
    exact ⟨List.mem_of_getElem? h1, h2, i, rfl, h1⟩

theorem closeB_none {word : ByteArray} {bs : List WordB} (h : atW word bs = none) : closeB word bs = bs := by
  unfold closeB
  rw [List.filter_eq_self]
  intro x hx
  simp [atW_none.1 h x hx]

theorem closeB_at {word : ByteArray} : ∀ {bs : List WordB} {i : Nat}, (bs.map (·.word)).Nodup → atW word bs = some i → closeB word bs = bs.eraseIdx i := by
  intro bs
  induction bs with
  | nil => intro i _ h; cases h
  | cons x r ih =>
    intro i hn h
    unfold atW at h
    rw [List.map_cons, List.nodup_cons] at hn
    by_cases e : x.word = word
    · rw [if_pos e] at h
      simp only [Option.some.injEq] at h
      subst h
      have : closeB word r = r := closeB_none (atW_none.2 (fun y hy e' => hn.1 (by rw [e, ← e']; exact List.mem_map_of_mem hy)))
      unfold closeB at this ⊢
      rw [List.filter_cons, if_neg (by simp [e]), this]
      rfl
    · rw [if_neg e] at h
      obtain ⟨k, hk, rfl⟩ := Option.map_eq_some_iff.1 h
      have := ih hn.2 hk
      unfold closeB at this ⊢
      rw [List.filter_cons, if_pos (by simp [e]), this]
      rfl

theorem setB_none {word : ByteArray} {P : List (Option TagD)} {bs : List WordB} (h : atW word bs = none) : setB word P bs = bs := by
  unfold setB
  conv => rhs; rw [← List.map_id bs]
  refine List.map_congr_left (fun x hx => ?_)
  rw [if_neg (atW_none.1 h x hx)]
  rfl

theorem setB_at {word : ByteArray} {P : List (Option TagD)} : ∀ {bs : List WordB} {i : Nat}, (bs.map (·.word)).Nodup → atW word bs = some i → setB word P bs = bs.set i ⟨word, P⟩ := by
  intro bs
  induction bs with
  | nil => intro i _ h; cases h
  | cons x r ih =>
    intro i hn h
    unfold atW at h
    rw [List.map_cons, List.nodup_cons] at hn
    by_cases e : x.word = word
    · rw [if_pos e] at h
      simp only [Option.some.injEq] at h
      subst h
      have : setB word P r = r := setB_none (atW_none.2 (fun y hy e' => hn.1 (by rw [e, ← e']; exact List.mem_map_of_mem hy)))
      unfold setB at this ⊢
      rw [List.map_cons, if_pos e, this]
      rfl
    · rw [if_neg e] at h
      obtain ⟨k, hk, rfl⟩ := Option.map_eq_some_iff.1 h
      have := ih hn.2 hk
      unfold setB at this ⊢
      rw [List.map_cons, if_neg e, this]
      rfl

theorem setB_words (word : ByteArray) (P : List (Option TagD)) (bs : List WordB) : (setB word P bs).map (·.word) = bs.map (·.word) := by
  unfold setB
  rw [List.map_map]
  refine List.map_congr_left (fun x hx => ?_)
  by_cases e : x.word = word
  · simp [e]
  · simp [e]

theorem atW_congr {word : ByteArray} : ∀ {bs cs : List WordB}, bs.map (·.word) = cs.map (·.word) → atW word bs = atW word cs := by
  intro bs
  induction bs with
  | nil =>
    intro cs h
    cases cs with
    | nil => rfl
    | cons y r => cases h
  | cons x r ih =>
    intro cs h
    cases cs with
    | nil => cases h
    | cons y s =>
      simp only [List.map_cons, List.cons.injEq] at h
      unfold atW
      rw [h.1, ih h.2]

theorem addP_same {chk : TagD → Nat} {P : List (Option TagD)} {t : TagD} (h : addE chk P t ≠ 0) : addP chk P t = P := by
  unfold addE at h
  unfold addP
  split
  · rfl
  · rename_i h1
    rw [if_neg h1] at h
    split
    · rfl
    · rename_i h2
      rw [if_neg h2] at h
      exact (h rfl).elim

/-- What a board keeps to. -/
structure BOk (f : Nat) (ks : List ByteArray) (kind : ByteArray) (bs : List WordB) : Prop where
  nod : (bs.map (·.word)).Nodup
  pl : ∀ x ∈ bs, Places (chkT ks kind x.word) (3 * f + 1) x.P
  wd : ∀ x ∈ bs, x.word.size ≤ 2000

section
variable {f : Nat} {ks : List ByteArray} {kind : ByteArray} {bs : List WordB}

theorem bok_nil (f : Nat) (ks : List ByteArray) (kind : ByteArray) : BOk f ks kind [] := ⟨List.nodup_nil, (fun x hx => by cases hx), fun x hx => by cases hx⟩

theorem openE_zero {most : Int} {word : ByteArray} (h : openE most bs word = 0) : atW word bs = none ∧ (bs.length : Int) < most := by
  unfold openE at h
  split at h
  · cases h
  · split at h
    · cases h
    · rename_i h1 h2
      exact ⟨by simpa using h1, by omega⟩

theorem BOk.open_ (h : BOk f ks kind bs) (most : Int) (word : ByteArray) (hw : word.size ≤ 2000) : BOk f ks kind (openB most bs word) := by
  unfold openB
  split
  · rename_i h0
    have hn := atW_none.1 (openE_zero h0).1
    refine ⟨?_, fun x hx => ?_, fun x hx => ?_⟩
    · rw [List.map_append, List.nodup_append]
      refine ⟨h.nod, by simp, fun a ha b hb e => ?_⟩
      simp only [List.map_cons, List.map_nil, List.mem_singleton] at hb
      obtain ⟨x, hx, rfl⟩ := List.mem_map.1 ha
      exact hn x hx (e.trans hb)
    · rcases List.mem_append.1 hx with hx | hx
      · exact h.pl x hx
      · rw [List.mem_singleton.1 hx]; exact places_none _ _
    · rcases List.mem_append.1 hx with hx | hx
      · exact h.wd x hx
      · rw [List.mem_singleton.1 hx]; exact hw
  · exact h

theorem BOk.close (h : BOk f ks kind bs) (word : ByteArray) : BOk f ks kind (closeB word bs) :=
  ⟨(List.Sublist.map _ List.filter_sublist).nodup h.nod, fun x hx => h.pl x (List.mem_filter.1 hx).1, fun x hx => h.wd x (List.mem_filter.1 hx).1⟩

theorem BOk.set (h : BOk f ks kind bs) {word : ByteArray} {P : List (Option TagD)} (hP : Places (chkT ks kind word) (3 * f + 1) P) : BOk f ks kind (setB word P bs) := by
  refine ⟨by rw [setB_words]; exact h.nod, fun x hx => ?_, fun x hx => ?_⟩
  · unfold setB at hx
    obtain ⟨y, hy, rfl⟩ := List.mem_map.1 hx
    by_cases e : y.word = word
    · simp only [e, if_true]; exact hP
    · simp only [e, if_false]; exact h.pl y hy
  · unfold setB at hx
    obtain ⟨y, hy, rfl⟩ := List.mem_map.1 hx
    by_cases e : y.word = word
    · simp only [e, if_true]; rw [← e]; exact h.wd y hy
    · simp only [e, if_false]; exact h.wd y hy

theorem BOk.got (h : BOk f ks kind bs) {word : ByteArray} {x : WordB} (hx : getB word bs = some x) : Places (chkT ks kind word) (3 * f + 1) x.P := by
  obtain ⟨h1, h2, _⟩ := getB_some hx
  rw [← h2]
  exact h.pl x h1

theorem BOk.seal (h : BOk f ks kind bs) (hk : ks.length = 3 * f + 1) (word : ByteArray) (t : TagD) : BOk f ks kind (sealB f ks kind bs word t) := by
  unfold sealB
  cases hg : getB word bs with
  | none => exact h
  | some x =>
    simp only
    split
    · split
      · exact h.close word
      · exact h.set ((h.got hg).add (fun hc => by have := chkT_zero hc; omega))
    · exact h

theorem BOk.seal_few (h : BOk f ks kind bs) (hk : ks.length = 3 * f + 1) (word : ByteArray) (t : TagD) : (sealL f ks kind bs word t).length ≤ 7 := by
  unfold sealL
  cases hg : getB word bs with
  | none => simp
  | some x =>
    simp only
    split
    · split
      · exact ((h.got hg).add (fun hc => by have := chkT_zero hc; omega)).few
      · simp
    · simp
end

theorem openB_len (most : Int) (bs : List WordB) (word : ByteArray) : (openB most bs word).length ≤ bs.length + 1 := by
  unfold openB
  split
  · rw [List.length_append]; simp
  · omega

theorem closeB_len (word : ByteArray) (bs : List WordB) : (closeB word bs).length ≤ bs.length := List.length_filter_le _ _

theorem sealB_len (f : Nat) (ks : List ByteArray) (kind : ByteArray) (bs : List WordB) (word : ByteArray) (t : TagD) : (sealB f ks kind bs word t).length ≤ bs.length := by
  unfold sealB
  cases getB word bs with
  | none => exact Nat.le_refl _
  | some x =>
    simp only
    split
    · split
      · exact closeB_len _ _
      · unfold setB; rw [List.length_map]; exact Nat.le_refl _
    · exact Nat.le_refl _
end Go.Proofs.YtbikabjogacfkaaDoor
