/- tusklaw01.WireApart answers true at every two numbers; nothing old in memory is turned. -/
import Derived.Test.YtkjbaahoalcfbabWireSizesWalk
import Derived.Deep.QuietTactic
import Derived.BigQuiet
namespace Go.Proofs.Ytkjbaahoalcfbab
open Go.RowKit
open Go.WideShapes (bytes_inj)

theorem enc_apart : ∀ (a b : Nat), a ≠ b → ∀ k, k = min (enc a).length (enc b).length → (enc a).take k ≠ (enc b).take k := by
  intro a
  induction a using Nat.strongRecOn with
  | _ a ih =>
    intro b hab k hk
    have pa := enc_length_pos a
    have pb := enc_length_pos b
    by_cases h1 : a < 128
    · rw [enc_small a h1] at hk ⊢
      have hk1 : k = 1 := by simp at hk; omega
      subst hk1
      by_cases h2 : b < 128
      · rw [enc_small b h2]
        intro e
        simp at e
        have := congrArg UInt8.toNat e
        simp at this
        omega
      · rw [enc_big b (by omega)]
        intro e
        simp at e
        have := congrArg UInt8.toNat e
        simp at this
        omega
    · by_cases h2 : b < 128
      · rw [enc_small b h2] at hk ⊢
        have hk1 : k = 1 := by simp at hk; omega
        subst hk1
        rw [enc_big a (by omega)]
        intro e
        simp at e
        have := congrArg UInt8.toNat e
        simp at this
        omega
      · rw [enc_big a (by omega), enc_big b (by omega)] at hk ⊢
        obtain ⟨j, rfl⟩ : ∃ j, k = j + 1 := ⟨k - 1, by simp at hk; omega⟩
        intro e
        simp only [List.take_succ_cons, List.cons.injEq] at e
        have e1 := congrArg UInt8.toNat e.1
        simp at e1
        have hne : a / 128 ≠ b / 128 := by omega
        exact ih (a / 128) (by omega) (b / 128) hne j (by simp at hk; omega) e.2

theorem str_ne {x y : ByteArray} (h : x ≠ y) : (x.toList == y.toList) = false := by
  rw [beq_eq_false_iff_ne, ByteArray.toList_eq, ByteArray.toList_eq]
  intro e
  exact h (bytes_inj e)

theorem extract_all (s : ByteArray) : s.extract 0 s.size = s := by
  rw [extract_list, List.drop_zero, List.take_of_length_le (by simp), mk_list]

set_option maxRecDepth 100000 in
set_option maxHeartbeats 1000000 in
theorem apart_in (a b : Nat) (w : World) (ha : a ≤ 4611686018427387903) (hb : b ≤ 4611686018427387903) (hab : a ≠ b) :
    Calls Try.prog 4 #[.int .i64 a, .int .i64 b] w fun e w' => e = .returned (.bool true) ∧ Below w.heap.size w w' := by
  have h1 : ¬ ((a : Int) < 0) := by omega
  have h2 : ¬ ((b : Int) < 0) := by omega
  have h3 : ¬ ((4611686018427387903 : Int) < a) := by omega
  have h4 : ¬ ((4611686018427387903 : Int) < b) := by omega
  have h5 : ((a : Int) == (b : Int)) = false := beq_eq_false_iff_ne.2 (by omega)
  have ga := goInt_nat a ha
  have gb := goInt_nat b hb
  go_enter Try.func4, Try.ntmps4
  go_wp2_with (first | (go_at_call 7; refine (works_any _).mono ?_; rintro e w1 ⟨rfl, hw1⟩) | fail)
  refine (int_any _ _).mono ?_
  rintro e w2 ⟨rfl, hw2⟩
  rw [ga]
  have hwa := hw1.trans (hw2.mono hw1.size)
  clear hw1 hw2
  go_wp2_with fail
  refine (int_any _ _).mono ?_
  rintro e w3 ⟨rfl, hw3⟩
  rw [gb]
  have hwb := hwa.trans (hw3.mono hwa.size)
  clear hwa hw3 ga gb
  have hx9 := enc_length_nine a ha
  have hx0 := enc_length_pos a
  have hy9 := enc_length_nine b hb
  have hy0 := enc_length_pos b
  have hne := enc_apart a b hab
  rw [← size_mk (enc a)] at hx9 hx0
  rw [← size_mk (enc b)] at hy9 hy0
  have HN : Hid (∀ k, k = min (⟨(enc a).toArray⟩ : ByteArray).size (⟨(enc b).toArray⟩ : ByteArray).size → (⟨(enc a).toArray⟩ : ByteArray).extract 0 k ≠ (⟨(enc b).toArray⟩ : ByteArray).extract 0 k) := by
    intro k hk e
    rw [size_mk, size_mk] at hk
    apply hne k hk
    rw [extract_list, extract_list] at e
    simpa using e
  clear hne
  generalize (⟨(enc a).toArray⟩ : ByteArray) = sx at *
  generalize (⟨(enc b).toArray⟩ : ByteArray) = sy at *
  by_cases hl : sx.size ≤ sy.size
  · have HN1 := HN.out sx.size (by omega)
    rw [extract_all] at HN1
    have hq := str_ne HN1
    clear HN HN1
    go_wp2_with fail
    go_quiet (fail)
    go_wp2
    go_ret
    exact ⟨rfl, below_drewN hwb nq⟩
  · have HN1 := HN.out sy.size (by omega)
    rw [extract_all sy] at HN1
    have hq := str_ne HN1
    clear HN HN1
    go_wp2_with fail
    go_quiet (fail)
    go_wp2
    go_ret
    exact ⟨rfl, below_drewN hwb nq⟩

set_option maxRecDepth 100000 in
set_option maxHeartbeats 1000000 in
theorem apart_out (a b : Int) (w : World) (h : a < 0 ∨ b < 0 ∨ 4611686018427387903 < a ∨ 4611686018427387903 < b ∨ a = b) :
    Calls Try.prog 4 #[.int .i64 a, .int .i64 b] w fun e w' => e = .returned (.bool true) ∧ Below w.heap.size w w' := by
  rcases Decidable.em (a < 0) with h1 | h1
  · go_enter Try.func4, Try.ntmps4
    go_wp2_with (go_at_call 7; refine (works_any _).mono ?_; rintro e w1 ⟨rfl, hb⟩)
    go_ret
    exact ⟨rfl, hb⟩
  rcases Decidable.em (b < 0) with h2 | h2
  · go_enter Try.func4, Try.ntmps4
    go_wp2_with (go_at_call 7; refine (works_any _).mono ?_; rintro e w1 ⟨rfl, hb⟩)
    go_ret
    exact ⟨rfl, hb⟩
  rcases Decidable.em (4611686018427387903 < a) with h3 | h3
  · go_enter Try.func4, Try.ntmps4
    go_wp2_with (go_at_call 7; refine (works_any _).mono ?_; rintro e w1 ⟨rfl, hb⟩)
    go_ret
    exact ⟨rfl, hb⟩
  rcases Decidable.em (4611686018427387903 < b) with h4 | h4
  · go_enter Try.func4, Try.ntmps4
    go_wp2_with (go_at_call 7; refine (works_any _).mono ?_; rintro e w1 ⟨rfl, hb⟩)
    go_ret
    exact ⟨rfl, hb⟩
  obtain rfl : a = b := by omega
  go_enter Try.func4, Try.ntmps4
  go_wp2_with (go_at_call 7; refine (works_any _).mono ?_; rintro e w1 ⟨rfl, hb⟩)
  go_ret
  exact ⟨rfl, hb⟩

theorem apart_walk (a b : Int) (w : World) (_ : (Lit.int .i64 a).wf = true) (_ : (Lit.int .i64 b).wf = true) :
    Calls Try.prog 4 #[.int .i64 a, .int .i64 b] w fun e w' => e = .returned (.bool true) ∧ Below w.heap.size w w' := by
  by_cases h : a < 0 ∨ b < 0 ∨ 4611686018427387903 < a ∨ 4611686018427387903 < b ∨ a = b
  · exact apart_out a b w h
  · obtain ⟨m, rfl⟩ := Int.eq_ofNat_of_zero_le (show 0 ≤ a by omega)
    obtain ⟨n, rfl⟩ := Int.eq_ofNat_of_zero_le (show 0 ≤ b by omega)
    exact apart_in m n w (by omega) (by omega) (by omega)
end Go.Proofs.Ytkjbaahoalcfbab
