/- tusklaw01.WireSizes answers true at every two numbers; nothing old in memory is turned. -/
import Derived.Test.YtkjbaahoalcfbabWireWorks
namespace Go.Proofs.Ytkjbaahoalcfbab
open Go.RowKit

set_option maxRecDepth 100000 in
set_option maxHeartbeats 1000000 in
theorem sizes_out (a b : Int) (w : World) (h : a < 0 ∨ b < 0 ∨ 4611686018427387903 < a ∨ 4611686018427387903 < b) :
    Calls Try.prog 5 #[.int .i64 a, .int .i64 b] w fun e w' => e = .returned (.bool true) ∧ Below w.heap.size w w' := by
  rcases Decidable.em (a < 0) with h1 | h1
  · go_enter Try.func5, Try.ntmps5
    go_wp2_with (go_at_call 7; refine (works_any _).mono ?_; rintro e w1 ⟨rfl, hb⟩)
    go_ret
    exact ⟨rfl, hb⟩
  rcases Decidable.em (b < 0) with h2 | h2
  · go_enter Try.func5, Try.ntmps5
    go_wp2_with (go_at_call 7; refine (works_any _).mono ?_; rintro e w1 ⟨rfl, hb⟩)
    go_ret
    exact ⟨rfl, hb⟩
  rcases Decidable.em (4611686018427387903 < a) with h3 | h3
  · go_enter Try.func5, Try.ntmps5
    go_wp2_with (go_at_call 7; refine (works_any _).mono ?_; rintro e w1 ⟨rfl, hb⟩)
    go_ret
    exact ⟨rfl, hb⟩
  have h4 : 4611686018427387903 < b := by omega
  go_enter Try.func5, Try.ntmps5
  go_wp2_with (go_at_call 7; refine (works_any _).mono ?_; rintro e w1 ⟨rfl, hb⟩)
  go_ret
  exact ⟨rfl, hb⟩

set_option maxRecDepth 100000 in
set_option maxHeartbeats 1000000 in
theorem sizes_in (a b : Nat) (w : World) (ha : a ≤ 4611686018427387903) (hb : b ≤ 4611686018427387903) :
    Calls Try.prog 5 #[.int .i64 a, .int .i64 b] w fun e w' => e = .returned (.bool true) ∧ Below w.heap.size w w' := by
  have h1 : ¬ ((a : Int) < 0) := by omega
  have h2 : ¬ ((b : Int) < 0) := by omega
  have h3 : ¬ ((4611686018427387903 : Int) < a) := by omega
  have h4 : ¬ ((4611686018427387903 : Int) < b) := by omega
  have ga := goInt_nat a ha
  have gb := goInt_nat b hb
  have hla := enc_length_nine a ha
  have hlb := enc_length_nine b hb
  go_enter Try.func5, Try.ntmps5
  go_wp2_with (go_at_call 7; refine (works_any _).mono ?_; rintro e w1 ⟨rfl, hw1⟩)
  go_loop [5, 6] (fun c x => ∃ m k : Nat, m ≤ a ∧ x = .int .i64 m ∧ c = .int .i64 k ∧ Hid (k + (enc m).length = 1 + (enc a).length)) (fun _ x => (intOf x).toNat)
  case atStart => exact ⟨a, 1, Nat.le_refl _, rfl, rfl, rfl⟩
  case round =>
    obtain ⟨m, k, hm, rfl, rfl, hk⟩ := hrel
    have hk9 : k ≤ 9 := by have := hk.out; have := enc_length_pos m; omega
    by_cases hlt : 128 ≤ m
    · have hk' : Hid (k + 1 + (enc (m / 128)).length = 1 + (enc a).length) := by
        have := hk.out
        rw [enc_big m hlt] at this
        simp at this
        show _ = _
        omega
      clear hk
      go_wp2
      go_round
      case rel => exact ⟨m / 128, k + 1, by omega, by go_num, by go_num, hk'⟩
      case measure => simp [intOf]; omega
    · have hka : k = (enc a).length := by
        have := hk.out
        rw [enc_small m (by omega)] at this
        simp at this
        omega
      subst hka
      clear hk
      by_cases hab : b < a
      · go_wp2_with fail
        refine (int_any _ _).mono ?_
        rintro e w2 ⟨rfl, hw2⟩
        rw [ga]
        have hw := hw1.trans (hw2.mono hw1.size)
        clear hw1 hw2
        go_wp2
        go_ret
        exact ⟨rfl, hw⟩
      · have hmono := enc_mono a b (by omega)
        go_wp2_with fail
        refine (int_any _ _).mono ?_
        rintro e w2 ⟨rfl, hw2⟩
        rw [ga]
        have hwa := hw1.trans (hw2.mono hw1.size)
        clear hw1 hw2
        go_wp2_with fail
        refine (int_any _ _).mono ?_
        rintro e w3 ⟨rfl, hw3⟩
        rw [ga]
        have hwb := hwa.trans (hw3.mono hwa.size)
        clear hwa hw3
        go_wp2_with fail
        refine (int_any _ _).mono ?_
        rintro e w4 ⟨rfl, hw4⟩
        rw [gb]
        have hwc := hwb.trans (hw4.mono hwb.size)
        clear hwb hw4
        go_wp2
        go_ret
        exact ⟨rfl, hwc⟩

theorem sizes_any (a b : Int) (w : World) :
    Calls Try.prog 5 #[.int .i64 a, .int .i64 b] w fun e w' => e = .returned (.bool true) ∧ Below w.heap.size w w' := by
  by_cases h : a < 0 ∨ b < 0 ∨ 4611686018427387903 < a ∨ 4611686018427387903 < b
  · exact sizes_out a b w h
  · obtain ⟨m, rfl⟩ := Int.eq_ofNat_of_zero_le (show 0 ≤ a by omega)
    obtain ⟨n, rfl⟩ := Int.eq_ofNat_of_zero_le (show 0 ≤ b by omega)
    exact sizes_in m n w (by omega) (by omega)

theorem sizes_walk (a b : Int) (w : World) (_ : (Lit.int .i64 a).wf = true) (_ : (Lit.int .i64 b).wf = true) :
    Calls Try.prog 5 #[.int .i64 a, .int .i64 b] w fun e w' => e = .returned (.bool true) ∧ Below w.heap.size w w' := sizes_any a b w
end Go.Proofs.Ytkjbaahoalcfbab
