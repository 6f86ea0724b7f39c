/- Keys and their front; lists of one key; what a right transaction needs. -/
import Derived.Test.YtolliiodfhdfiaaTxEncode
namespace Go.Proofs.Ytolliiodfhdfiaa
open Go.RowKit
set_option linter.unusedVariables false

theorem pre_data (a b : UInt8) (s : ByteArray) : (⟨#[a, b]⟩ ++ s : ByteArray) = ⟨(a :: b :: s.data.toList).toArray⟩ := append_list [a, b] s

theorem pre_front (a b : UInt8) (s : ByteArray) : (⟨#[a, b]⟩ ++ s : ByteArray).extract 0 2 = ⟨#[a, b]⟩ := by
  rw [pre_data, extract_list]
  simp

theorem pre_rest (a b : UInt8) (s : ByteArray) : (⟨#[a, b]⟩ ++ s : ByteArray).extract 2 (⟨#[a, b]⟩ ++ s : ByteArray).size = s := by
  rw [pre_data, extract_list, size_mk]
  apply ByteArray.ext
  apply Array.ext'
  simp
  exact List.take_of_length_le (by simp)

theorem pre_size (a b : UInt8) (s : ByteArray) : (⟨#[a, b]⟩ ++ s : ByteArray).size = s.size + 2 := by
  rw [pre_data, size_mk]
  simp

theorem cut_pre (a b : UInt8) (s : ByteArray) : cutOk (⟨#[a, b]⟩ ++ s) ⟨#[a, b]⟩ = true := by
  unfold cutOk
  have h : (⟨#[a, b]⟩ : ByteArray).size = 2 := rfl
  rw [h, pre_front, pre_size, decide_eq_true (by omega)]
  simp

theorem isKy_a (s : ByteArray) : isKy (aP ++ s) = isNm s := by
  unfold isKy aP
  rw [cut_pre, pre_rest]
  simp

theorem isKy_k (s : ByteArray) : isKy (kP ++ s) = isNm s := by
  unfold isKy kP
  rw [cut_pre, pre_rest]
  simp

theorem pre_above (a b : UInt8) (s : ByteArray) : (Op.bytesLess (⟨#[a, b]⟩ ++ s : ByteArray).toList (⟨#[]⟩ : ByteArray).toList || (⟨#[a, b]⟩ ++ s : ByteArray).toList == (⟨#[]⟩ : ByteArray).toList) = false := by
  rw [pre_data, ByteArray.toList_eq, ByteArray.toList_eq]
  simp [Op.bytesLess]

theorem keys_one_a (s : ByteArray) : keysL [aP ++ s] = if isNm s = true then 0 else 3 := by
  unfold keysL
  rw [if_neg (by simp), keysGo, isKy_a]
  cases isNm s with
  | false => simp
  | true =>
    rw [if_neg (by simp)]
    unfold aP
    rw [pre_above, if_neg (by simp), keysGo]
    rfl

theorem keys_one_k (s : ByteArray) : keysL [kP ++ s] = if isNm s = true then 0 else 3 := by
  unfold keysL
  rw [if_neg (by simp), keysGo, isKy_k]
  cases isNm s with
  | false => simp
  | true =>
    rw [if_neg (by simp)]
    unfold kP
    rw [pre_above, if_neg (by simp), keysGo]
    rfl

theorem less_eq : ∀ (x y : List UInt8), Op.bytesLess x y = decide (x < y)
  | [], [] => by simp [Op.bytesLess]
  | _ :: _, [] => by simp [Op.bytesLess]
  | [], _ :: _ => by simp [Op.bytesLess]
  | a :: x, b :: y => by
    rw [Op.bytesLess, less_eq x y]
    simp only [List.cons_lt_cons_iff]
    by_cases h1 : a < b <;> by_cases h2 : a = b <;> by_cases h3 : x < y <;> simp [h1, h2, h3]

theorem less_asymm {x y : List UInt8} (h : Op.bytesLess x y = true) : Op.bytesLess y x = false := by
  rw [less_eq, decide_eq_true_eq] at h
  rw [less_eq, decide_eq_false_iff_not]
  exact List.lt_asymm h

theorem less_ne {x y : List UInt8} (h : Op.bytesLess x y = true) : x ≠ y := by
  rintro rfl
  have := less_asymm h
  rw [h] at this
  cases this

theorem a_below_k (x y : ByteArray) : Op.bytesLess (aP ++ x).toList (kP ++ y).toList = true := by
  have h1 : (aP ++ x) = ⟨([97, 58] ++ x.data.toList).toArray⟩ := append_list [97, 58] x
  have h2 : (kP ++ y) = ⟨([107, 58] ++ y.data.toList).toArray⟩ := append_list [107, 58] y
  rw [h1, h2, ByteArray.toList_eq, ByteArray.toList_eq]
  simp [Op.bytesLess]

/-- What a right transaction needs: one key, or two that rise. -/
theorem needs_form {d : TxD} (h : checkL d = 0) : (∃ a, needsL d = [a]) ∨ ∃ a b, needsL d = [a, b] ∧ Op.bytesLess a.toList b.toList = true := by
  unfold needsL
  rw [if_pos h]
  by_cases hk : d.kind = 2
  · rw [if_pos hk]
    exact Or.inr ⟨_, _, rfl, a_below_k _ _⟩
  · rw [if_neg hk]
    split
    · rename_i h1
      exact Or.inr ⟨_, _, rfl, h1⟩
    · split
      · rename_i h1
        exact Or.inr ⟨_, _, rfl, h1⟩
      · exact Or.inl ⟨_, rfl⟩

theorem ky_above {k : ByteArray} (h : isKy k = true) : (Op.bytesLess k.toList (⟨#[]⟩ : ByteArray).toList || k.toList == (⟨#[]⟩ : ByteArray).toList) = false := by
  have hs : 1 ≤ k.size := by
    unfold isKy at h
    rw [Bool.and_eq_true] at h
    have h2 := h.2
    unfold isNm at h2
    simp only [Bool.and_eq_true, decide_eq_true_eq, ByteArray.size_extract] at h2
    omega
  have hl : k.data.toList.length = k.size := by simp
  rw [ByteArray.toList_eq, ByteArray.toList_eq]
  cases hd : k.data.toList with
  | nil => rw [hd] at hl; simp at hl; omega
  | cons x r => simp [Op.bytesLess]

theorem keysL_one {a : ByteArray} (ha : isKy a = true) : keysL [a] = 0 := by
  unfold keysL
  rw [if_neg (by simp), keysGo, if_neg (by rw [ha]; simp), ky_above ha, if_neg (by simp), keysGo]

theorem keysL_pair {a b : ByteArray} (ha : isKy a = true) (hb : isKy b = true) (h : Op.bytesLess a.toList b.toList = true) : keysL [a, b] = 0 := by
  have h1 : (Op.bytesLess b.toList a.toList || b.toList == a.toList) = false := by
    rw [less_asymm h, beq_eq_false_iff_ne.2 (less_ne h).symm]
    rfl
  unfold keysL
  rw [if_neg (by simp), keysGo, if_neg (by rw [ha]; simp), ky_above ha, if_neg (by simp), keysGo, if_neg (by rw [hb]; simp), h1, if_neg (by simp), keysGo]

theorem needs_keys {d : TxD} (h : checkL d = 0) : ∀ k ∈ needsL d, isKy k = true := by
  obtain ⟨z1, z2, _⟩ := check_zero h
  unfold fieldsR at z2
  rw [Bool.and_eq_true] at z2
  have hf := z2.1
  have z3 := z2.2
  unfold needsL
  rw [if_pos h]
  by_cases hk : d.kind = 2
  · rw [if_neg (by omega)] at z3
    simp only [Bool.and_eq_true] at z3
    have hy := z3.1.1.1
    rw [if_pos hk]
    intro k hm
    simp at hm
    rcases hm with rfl | rfl
    · rw [isKy_a]; exact hf
    · rw [isKy_k]; exact hy
  · rw [if_pos (by omega)] at z3
    simp only [Bool.and_eq_true] at z3
    have ht := z3.1.1
    rw [if_neg hk]
    intro k hm
    have hm' : k = aP ++ d.frm ∨ k = aP ++ d.to := by
      split at hm
      · simpa using hm
      · split at hm
        · simp at hm; exact hm.symm
        · simp at hm; exact Or.inl hm
    rcases hm' with rfl | rfl
    · rw [isKy_a]; exact hf
    · rw [isKy_a]; exact ht

theorem needs_no {d : TxD} (h : checkL d ≠ 0) : needsL d = [] := by
  unfold needsL
  rw [if_neg h]

theorem keys_needs {d : TxD} (h : checkL d = 0) : keysL (needsL d) = 0 := by
  have hk := needs_keys h
  rcases needs_form h with ⟨a, e⟩ | ⟨a, b, e, hl⟩
  · rw [e] at hk ⊢
    exact keysL_one (hk a (by simp))
  · rw [e] at hk ⊢
    exact keysL_pair (hk a (by simp)) (hk b (by simp)) hl

theorem check_withW {d : TxD} (h : checkL d = 0) {ws : List ByteArray} (hk : keysL ws = 0) : checkL { d with ws := ws } = 0 := by
  obtain ⟨z1, z2, z3, z4, z5, _⟩ := check_zero h
  unfold checkL
  rw [if_neg (by show ¬ (d.kind ≠ 1 ∧ d.kind ≠ 2); omega), if_neg (by show ¬ (fieldsR d = false); rw [z2]; simp), if_neg (by show ¬ (_ < d.amt ∨ _ < d.non); omega), if_neg (by show ¬ (keysL d.rs ≠ 0); rw [z5]; simp)]
  exact hk

theorem needs_withW {d : TxD} {ws : List ByteArray} (h : checkL d = 0) (hw : checkL { d with ws := ws } = 0) : needsL { d with ws := ws } = needsL d := by
  unfold needsL
  rw [if_pos h, if_pos hw]

theorem fits_with {d : TxD} (h : checkL d = 0) : fitsL { d with ws := needsL d } = true := by
  have h1 := check_withW h (keys_needs h)
  unfold fitsL
  rw [needs_withW h h1]
  have hne : (needsL d).isEmpty = false := by
    rcases needs_form h with ⟨a, e⟩ | ⟨a, b, e, _⟩ <;> rw [e] <;> rfl
  rw [hne]
  simp only [Bool.not_false, Bool.true_and, List.all_eq_true]
  intro k hm
  show hasL (needsL d) k = true
  unfold hasL
  rw [List.any_eq_true]
  exact ⟨k, hm, by simp⟩

theorem fits_without {d : TxD} (h : checkL d = 0) : fitsL { d with ws := (needsL d).tail } = false := by
  by_cases h1 : checkL { d with ws := (needsL d).tail } = 0
  · unfold fitsL
    rw [needs_withW h h1]
    have hf : (needsL d).all (hasL (needsL d).tail) = false := by
      rcases needs_form h with ⟨a, e⟩ | ⟨a, b, e, hl⟩
      · rw [e]; simp [hasL]
      · rw [e]
        have := less_ne hl
        simp [hasL, this]
    show (!(needsL d).isEmpty && (needsL d).all (hasL (needsL d).tail)) = false
    rw [hf]
    simp
  · have e : needsL { d with ws := (needsL d).tail } = [] := needs_no h1
    unfold fitsL
    rw [e]
    rfl
end Go.Proofs.Ytolliiodfhdfiaa
