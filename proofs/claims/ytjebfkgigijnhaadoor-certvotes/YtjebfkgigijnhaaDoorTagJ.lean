/- A validator's own tag of a word, collected. -/
import Derived.Test.YtjebfkgigijnhaaDoorVotesSt
namespace Go.Proofs.YtjebfkgigijnhaaDoor
open Go.RowKit
set_option linter.unusedVariables false

/-- The tag of number j. -/
def tagJ (ks : List ByteArray) (kind word : ByteArray) (j : Nat) : TagD := ⟨(j : Int), Mx.macOf (ks.getD j ⟨#[]⟩) kind word⟩

theorem tagJ_chk {ks : List ByteArray} {kind word : ByteArray} {j : Nat} (h : j < ks.length) : chkT ks kind word (tagJ ks kind word j) = 0 := by
  unfold chkT Mx.checkR tagJ
  simp only
  rw [if_neg (by omega), if_pos (by rw [Int.toNat_natCast])]

/-- Is the place of number j taken? -/
def isIn (P : List (Option TagD)) (j : Nat) : Bool := (P.getD j none).isSome

theorem isIn_none (j : Nat) : isIn noP j = false := by
  unfold isIn List.getD
  cases h : noP[j]? with
  | none => rfl
  | some o =>
    cases o with
    | none => rfl
    | some t => exact absurd h (noP_get j t)

theorem tagJ_add {ks : List ByteArray} {kind word : ByteArray} {n j : Nat} {P : List (Option TagD)} (hP : Places (chkT ks kind word) n P) (h : j < ks.length) (h7 : j < 7) :
    addE (chkT ks kind word) P (tagJ ks kind word j) = (if isIn P j = true then 13 else 0) ∧ (∀ i, isIn (addP (chkT ks kind word) P (tagJ ks kind word j)) i = if i = j then true else isIn P i) ∧ (inL (addP (chkT ks kind word) P (tagJ ks kind word j))).length = if isIn P j = true then (inL P).length else (inL P).length + 1 := by
  have hc := tagJ_chk (kind := kind) (word := word) h
  have ht : (tagJ ks kind word j).who.toNat = j := by simp [tagJ]
  have hj : j < P.length := by rw [hP.len]; exact h7
  obtain ⟨o, ho⟩ : ∃ o, P[j]? = some o := ⟨_, List.getElem?_eq_getElem hj⟩
  have hi : isIn P j = o.isSome := by unfold isIn List.getD; rw [ho]; rfl
  obtain ⟨a1, a2⟩ := addE_ok hc ht ho
  rw [a1, a2, hi]
  cases o with
  | some u =>
    refine ⟨rfl, fun i => ?_, rfl⟩
    by_cases e : i = j
    · subst e; rw [if_pos rfl]; exact hi
    · rw [if_neg e]; rfl
  | none =>
    refine ⟨rfl, fun i => ?_, ?_⟩
    · show isIn (P.set j _) i = _
      unfold isIn List.getD
      rw [List.getElem?_set]
      by_cases e : i = j
      · subst e; rw [if_pos rfl, if_pos rfl, if_pos hj]; rfl
      · rw [if_neg (fun h => e h.symm), if_neg e]
    · show (inL (P.set j _)).length = _
      rw [inL_set ho, hP.gone ho]
      simp
      omega
end Go.Proofs.YtjebfkgigijnhaaDoor
