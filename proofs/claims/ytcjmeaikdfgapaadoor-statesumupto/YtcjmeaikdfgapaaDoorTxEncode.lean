/- What Encode does; nothing old in memory is turned. -/
import Derived.Test.YtcjmeaikdfgapaaDoorTxRight
import Derived.Test.YtcjmeaikdfgapaaDoorBld
namespace Go.Proofs.YtcjmeaikdfgapaaDoor
open Go.RowKit
set_option linter.unusedVariables false

theorem isNm_size {s : ByteArray} (h : isNm s = true) : s.size ≤ 32 := by
  unfold isNm at h
  simp only [Bool.and_eq_true, decide_eq_true_eq] at h
  exact h.1.2

theorem isKy_size {s : ByteArray} (h : isKy s = true) : s.size ≤ 34 := by
  unfold isKy at h
  rw [Bool.and_eq_true] at h
  have := isNm_size h.2
  rw [ByteArray.size_extract] at this
  omega

theorem empty_size {s : ByteArray} (h : (s.toList == []) = true) : s.size = 0 := by
  rw [beq_iff_eq, ByteArray.toList_eq] at h
  have : s.data.toList.length = s.size := by simp
  rw [h] at this
  exact this.symm

theorem check_zero {d : TxD} (h : checkL d = 0) : (d.kind = 1 ∨ d.kind = 2) ∧ fieldsR d = true ∧ d.amt ≤ 4611686018427387903 ∧ d.non ≤ 4611686018427387903 ∧ keysL d.rs = 0 ∧ keysL d.ws = 0 := by
  unfold checkL at h
  by_cases h1 : d.kind ≠ 1 ∧ d.kind ≠ 2
  · rw [if_pos h1] at h; omega
  rw [if_neg h1] at h
  by_cases h2 : fieldsR d = false
  · rw [if_pos h2] at h; omega
  rw [if_neg h2] at h
  by_cases h3 : 4611686018427387903 < d.amt ∨ 4611686018427387903 < d.non
  · rw [if_pos h3] at h; omega
  rw [if_neg h3] at h
  by_cases h4 : keysL d.rs ≠ 0
  · rw [if_pos h4] at h; omega
  rw [if_neg h4] at h
  exact ⟨by omega, by simpa using h2, by omega, by omega, by omega, h⟩

theorem fields_sizes {d : TxD} (h : fieldsR d = true) : d.frm.size ≤ 32 ∧ d.to.size ≤ 32 ∧ d.key.size ≤ 32 ∧ d.val.size ≤ 64 := by
  unfold fieldsR at h
  rw [Bool.and_eq_true] at h
  have h1 := isNm_size h.1
  have h2 := h.2
  by_cases hk : d.kind = 1
  · rw [if_pos hk] at h2
    simp only [Bool.and_eq_true] at h2
    have a := isNm_size h2.1.1
    have b := empty_size h2.1.2
    have c := empty_size h2.2
    omega
  · rw [if_neg hk] at h2
    simp only [Bool.and_eq_true, decide_eq_true_eq] at h2
    have a := isNm_size h2.1.1.1
    have b := empty_size h2.1.2
    have c := h2.1.1.2
    omega

theorem keysGo_all : ∀ (l : List ByteArray) (a : ByteArray), keysGo a l = 0 → ∀ k ∈ l, isKy k = true
  | [], _, _ => by simp
  | k :: r, a, h => by
    rw [keysGo] at h
    by_cases h1 : isKy k = false
    · rw [if_pos h1] at h; omega
    rw [if_neg h1] at h
    by_cases h2 : (Op.bytesLess k.toList a.toList || k.toList == a.toList) = true
    · rw [if_pos h2] at h; omega
    rw [if_neg h2] at h
    intro x hx
    rw [List.mem_cons] at hx
    rcases hx with rfl | hx
    · simpa using h1
    · exact keysGo_all r k h x hx

theorem keys_sizes {l : List ByteArray} (h : keysL l = 0) : l.length ≤ 8 ∧ ∀ k ∈ l, isKy k = true := by
  have h8 := keysL_le l h
  unfold keysL at h
  rw [if_neg (by omega)] at h
  exact ⟨h8, keysGo_all l _ h⟩

theorem txt_le (l : List UInt8) : (txt l).length ≤ 9 + l.length := by
  have := goInt_length l.length
  rw [txt, List.length_append]
  omega

theorem flat_le : ∀ (l : List ByteArray), (∀ k ∈ l, k.size ≤ 34) → ((bl l).flatMap txt).length ≤ 43 * l.length
  | [], _ => by simp [bl]
  | k :: r, h => by
    have h1 := flat_le r (fun x hx => h x (by simp [hx]))
    have h2 := txt_le k.data.toList
    have h3 := h k (by simp)
    have h4 : k.data.toList.length = k.size := by simp
    simp only [bl, List.map_cons, List.flatMap_cons, List.length_append, List.length_cons]
    simp only [bl] at h1
    omega

theorem lst_le {l : List ByteArray} (h : keysL l = 0) : (lst (bl l)).length ≤ 353 := by
  obtain ⟨h8, hk⟩ := keys_sizes h
  have h1 := flat_le l (fun k hk' => isKy_size (hk k hk'))
  have h2 := goInt_length (bl l).length
  rw [lst, List.length_append]
  omega
end Go.Proofs.YtcjmeaikdfgapaaDoor
