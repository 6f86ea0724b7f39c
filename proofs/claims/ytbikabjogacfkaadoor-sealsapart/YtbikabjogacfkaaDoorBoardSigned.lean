/- Signed tags on a board; what one word has does not hang on others. -/
import Derived.Test.YtbikabjogacfkaaDoorBoardMath
namespace Go.Proofs.YtbikabjogacfkaaDoor
open Go.RowKit
set_option linter.unusedVariables false

/-- A tag as it is signed. -/
def sgT (ks : List ByteArray) (kind word : ByteArray) (k : Nat) : TagD := ⟨(k : Int), Mx.macOf (ks.getD k ⟨#[]⟩) kind word⟩

theorem sgT_chk {ks : List ByteArray} {kind word : ByteArray} {k : Nat} (h : k < ks.length) : chkT ks kind word (sgT ks kind word k) = 0 := by
  unfold chkT Mx.checkR sgT
  simp only
  rw [if_neg (by omega), if_pos (by rw [Int.toNat_natCast])]

theorem getB_cons (word : ByteArray) (x : WordB) (r : List WordB) : getB word (x :: r) = if x.word = word then some x else getB word r := by
  unfold getB
  by_cases e : x.word = word
  · have : atW word (x :: r) = some 0 := by unfold atW; rw [if_pos e]
    rw [this, if_pos e]
    rfl
  · have : atW word (x :: r) = (atW word r).map (· + 1) := by conv => lhs; unfold atW; rw [if_neg e]
    rw [this, if_neg e]
    cases atW word r <;> rfl

theorem getB_nil (word : ByteArray) : getB word [] = none := rfl

theorem getB_push {word : ByteArray} {bs : List WordB} {y : WordB} : getB word (bs ++ [y]) = match getB word bs with | some x => some x | none => if y.word = word then some y else none := by
  induction bs with
  | nil => rw [List.nil_append, getB_cons, getB_nil]
  | cons x r ih =>
    rw [List.cons_append, getB_cons, getB_cons]
    by_cases e : x.word = word
    · rw [if_pos e, if_pos e]
    · rw [if_neg e, if_neg e]
      exact ih

theorem getB_close (word : ByteArray) (bs : List WordB) : getB word (closeB word bs) = none := by
  rw [getB_none, atW_none]
  intro x hx
  unfold closeB at hx
  have := (List.mem_filter.1 hx).2
  simpa using this

theorem getB_closeO {word other : ByteArray} (h : ¬ other = word) (bs : List WordB) : getB word (closeB other bs) = getB word bs := by
  induction bs with
  | nil => rfl
  | cons x r ih =>
    unfold closeB at ih ⊢
    rw [List.filter_cons, getB_cons]
    by_cases e : x.word = other
    · rw [if_neg (by simp [e]), ih, if_neg (by rw [e]; exact h)]
    · rw [if_pos (by simp [e]), getB_cons, ih]

theorem getB_set {word : ByteArray} {bs : List WordB} {x : WordB} (P : List (Option TagD)) (h : getB word bs = some x) : getB word (setB word P bs) = some ⟨word, P⟩ := by
  induction bs with
  | nil => cases h
  | cons y r ih =>
    unfold setB at ih ⊢
    rw [getB_cons] at h
    rw [List.map_cons, getB_cons]
    by_cases e : y.word = word
    · rw [if_pos e, if_pos rfl]
    · rw [if_neg e] at h ⊢
      rw [if_neg e]
      exact ih h

theorem getB_setO {word other : ByteArray} (hn : ¬ other = word) (P : List (Option TagD)) (bs : List WordB) : getB word (setB other P bs) = getB word bs := by
  induction bs with
  | nil => rfl
  | cons y r ih =>
    unfold setB at ih ⊢
    rw [List.map_cons, getB_cons, getB_cons]
    by_cases e : y.word = other
    · rw [if_pos e]
      simp only
      rw [if_neg hn, if_neg (by rw [e]; exact hn)]
      exact ih
    · rw [if_neg e, ih]

theorem getB_openO {word other : ByteArray} (hn : ¬ other = word) (most : Int) (bs : List WordB) : getB word (openB most bs other) = getB word bs := by
  unfold openB
  split
  · rw [getB_push]
    cases h : getB word bs with
    | none => simp only; rw [if_neg hn]
    | some x => rfl
  · rfl

theorem getB_sealO {word other : ByteArray} (hn : ¬ other = word) (f : Nat) (ks : List ByteArray) (kind : ByteArray) (bs : List WordB) (t : TagD) : getB word (sealB f ks kind bs other t) = getB word bs := by
  unfold sealB
  cases getB other bs with
  | none => rfl
  | some x =>
    simp only
    split
    · split
      · exact getB_closeO hn bs
      · exact getB_setO hn _ bs
    · rfl

/-- What comes of a tag hangs on what the word has alone. -/
theorem seal_same {f : Nat} {ks : List ByteArray} {kind : ByteArray} {bs cs : List WordB} {word : ByteArray} (h : getB word bs = getB word cs) (t : TagD) :
    sealE ks kind bs word t = sealE ks kind cs word t ∧ sealL f ks kind bs word t = sealL f ks kind cs word t ∧ getB word (sealB f ks kind bs word t) = getB word (sealB f ks kind cs word t) := by
  refine ⟨by unfold sealE; rw [h], by unfold sealL; rw [h], ?_⟩
  unfold sealB
  rw [h]
  cases hc : getB word cs with
  | none => simp only; rw [h, hc]
  | some x =>
    simp only
    rw [hc] at h
    split
    · split
      · rw [getB_close, getB_close]
      · rw [getB_set _ h, getB_set _ hc]
    · rw [h, hc]

section
variable {f : Nat} {ks : List ByteArray} {kind : ByteArray} {bs : List WordB} {word : ByteArray} {x : WordB} {k : Nat}

theorem seal_gone (h : getB word bs = none) (t : TagD) : sealE ks kind bs word t = 14 ∧ sealL f ks kind bs word t = [] ∧ sealB f ks kind bs word t = bs := by
  refine ⟨by unfold sealE; rw [h], by unfold sealL; rw [h], by unfold sealB; rw [h]⟩

theorem seal_twice (h : getB word bs = some x) (hk : k < ks.length) {t : TagD} (hP : x.P[k]? = some (some t)) :
    sealE ks kind bs word (sgT ks kind word k) = 13 ∧ sealL f ks kind bs word (sgT ks kind word k) = [] ∧ sealB f ks kind bs word (sgT ks kind word k) = bs := by
  have hc := sgT_chk (kind := kind) (word := word) hk
  have he : addE (chkT ks kind word) x.P (sgT ks kind word k) = 13 := by
    unfold addE
    rw [if_neg (by rw [hc]; simp)]
    have : (x.P.getD (sgT ks kind word k).who.toNat none).isSome = true := by
      show (x.P.getD ((k : Int)).toNat none).isSome = true
      rw [Int.toNat_natCast, List.getD_eq_getElem?_getD, hP]
      rfl
    rw [if_pos this]
  refine ⟨by unfold sealE; rw [h]; exact he, ?_, ?_⟩
  · unfold sealL
    rw [h]
    simp only
    rw [he, if_neg (by decide)]
  · unfold sealB
    rw [h]
    simp only
    rw [he, if_neg (by decide)]

theorem seal_new (h : getB word bs = some x) (hk : k < ks.length) (hP : x.P[k]? = some none) :
    sealE ks kind bs word (sgT ks kind word k) = 0 ∧ sealL f ks kind bs word (sgT ks kind word k) = (if fullP f (x.P.set k (some (sgT ks kind word k))) = true then inL (x.P.set k (some (sgT ks kind word k))) else []) ∧ sealB f ks kind bs word (sgT ks kind word k) = if fullP f (x.P.set k (some (sgT ks kind word k))) = true then closeB word bs else setB word (x.P.set k (some (sgT ks kind word k))) bs := by
  have hc := sgT_chk (kind := kind) (word := word) hk
  have hn : ¬ (x.P.getD (sgT ks kind word k).who.toNat none).isSome = true := by
    show ¬ (x.P.getD ((k : Int)).toNat none).isSome = true
    rw [Int.toNat_natCast, List.getD_eq_getElem?_getD, hP]
    simp
  have he : addE (chkT ks kind word) x.P (sgT ks kind word k) = 0 := by
    unfold addE
    rw [if_neg (by rw [hc]; simp), if_neg hn]
  have ha : addP (chkT ks kind word) x.P (sgT ks kind word k) = x.P.set k (some (sgT ks kind word k)) := by
    unfold addP
    rw [if_neg (by rw [hc]; simp), if_neg hn]
    show x.P.set ((k : Int)).toNat _ = _
    rw [Int.toNat_natCast]
  refine ⟨by unfold sealE; rw [h]; exact he, ?_, ?_⟩
  · unfold sealL
    rw [h]
    simp only
    rw [he, if_pos rfl, ha]
  · unfold sealB
    rw [h]
    simp only
    rw [he, if_pos rfl, ha]

theorem set_len {P : List (Option TagD)} (hP : P[k]? = some none) (t : TagD) : (inL (P.set k (some t))).length = (inL P).length + 1 := by
  have e1 := inL_set hP t
  have e2 := inL_cut hP
  rw [e1, e2]
  simp
  omega
end
end Go.Proofs.YtbikabjogacfkaaDoor
