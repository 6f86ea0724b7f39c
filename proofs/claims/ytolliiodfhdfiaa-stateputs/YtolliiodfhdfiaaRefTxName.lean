/- What tuskref04.Name and Key do; memory stands. -/
import Derived.Test.YtolliiodfhdfiaaTxName
namespace Go.Proofs.Ytolliiodfhdfiaa
open Go.RowKit
set_option linter.unusedVariables false

set_option maxRecDepth 100000 in
set_option maxHeartbeats 1000000 in
theorem refName_any (s : ByteArray) (w : World) (hs : s.size ≤ maxLen) :
    Calls Try.prog 15 #[.string s] w fun e w' => e = .returned (.bool (isNm s)) ∧ w' = w := by
  unfold maxLen at hs
  go_enter Try.func15, Try.ntmps15
  go_wp2
  go_loop [3] (fun v => ∃ k : Nat, k ≤ s.size ∧ v = .int .i64 k ∧ Hid ((s.data.toList.take k).all nameByte = true)) (fun v => s.size - (intOf v).toNat)
  case atStart => exact ⟨0, by omega, rfl, by show _ = _; simp⟩
  case round =>
    obtain ⟨k, hk, rfl, hall⟩ := hrel
    by_cases hlt : k < s.size
    · obtain ⟨c, hc⟩ : ∃ c, s[k].toNat = c := ⟨_, rfl⟩
      have hY : (97 ≤ c ∧ c ≤ 122 ∨ 48 ≤ c ∧ c ≤ 57) → Hid ((s.data.toList.take (k + 1)).all nameByte = true) := by
        intro h
        show _ = _
        rw [all_take_succ s k hlt, hall.out]
        unfold nameByte
        rw [hc]
        simp only [Bool.true_and, Bool.or_eq_true, Bool.and_eq_true, decide_eq_true_eq]
        exact h
      have hN : ¬ (97 ≤ c ∧ c ≤ 122 ∨ 48 ≤ c ∧ c ≤ 57) → Hid (isNm s = false) := by
        intro h
        show _ = _
        unfold isNm
        rw [all_of_take s k hlt _ (by
          unfold nameByte
          rw [hc]
          simp only [Bool.or_eq_false_iff, Bool.and_eq_false_iff, decide_eq_false_iff_not]
          omega)]
        simp
      clear hall
      have hI : ((c : Int) < 48 ∧ (c : Int) ≤ 57 ∧ (c : Int) < 97 ∧ (c : Int) ≤ 122) ∨ ((48 : Int) ≤ c ∧ (57 : Int) < c ∧ (c : Int) < 97 ∧ (c : Int) ≤ 122) ∨ ((48 : Int) ≤ c ∧ (57 : Int) < c ∧ (97 : Int) ≤ c ∧ (122 : Int) < c) ∨
          ((48 : Int) ≤ c ∧ (c : Int) ≤ 57 ∧ (c : Int) < 97 ∧ (c : Int) ≤ 122) ∨ ((48 : Int) ≤ c ∧ (57 : Int) < c ∧ (97 : Int) ≤ c ∧ (c : Int) ≤ 122) := by omega
      rcases hI with ⟨i1, i2, i3, i4⟩ | ⟨i1, i2, i3, i4⟩ | ⟨i1, i2, i3, i4⟩ | ⟨i1, i2, i3, i4⟩ | ⟨i1, i2, i3, i4⟩
      · have H := hN (by omega)
        clear hY hN
        go_wp2
        go_ret
        exact ⟨by rw [H.out]; rfl, rfl⟩
      · have H := hN (by omega)
        clear hY hN
        go_wp2
        go_ret
        exact ⟨by rw [H.out]; rfl, rfl⟩
      · have H := hN (by omega)
        clear hY hN
        go_wp2
        go_ret
        exact ⟨by rw [H.out]; rfl, rfl⟩
      · have H := hY (by omega)
        clear hY hN
        have d57 : decide ((57 : Int) < c) = false := decide_eq_false (by omega)
        go_wp2
        go_round
        case rel => exact ⟨k + 1, by omega, by go_num, H⟩
        case measure => simp [intOf]; omega
      · have H := hY (by omega)
        clear hY hN
        have d122 : decide ((122 : Int) < c) = false := decide_eq_false (by omega)
        go_wp2
        go_round
        case rel => exact ⟨k + 1, by omega, by go_num, H⟩
        case measure => simp [intOf]; omega
    · have H : Hid (isNm s = (decide (1 ≤ s.size) && decide (s.size ≤ 32))) := by
        show _ = _
        have h1 := hall.out
        rw [List.take_of_length_le (by simp; omega)] at h1
        unfold isNm
        rw [h1]
        simp
      clear hall
      by_cases h1 : 1 ≤ s.size
      · have h1' : (1 : Int) ≤ s.size := by omega
        replace H : Hid (isNm s = decide (s.size ≤ 32)) := by show _ = _; rw [H.out, decide_eq_true h1]; rfl
        by_cases h2 : s.size ≤ 32
        · replace H : Hid (isNm s = true) := by show _ = _; rw [H.out, decide_eq_true h2]
          have h2' : (s.size : Int) ≤ 32 := by omega
          go_wp2
          go_ret
          exact ⟨by rw [H.out]; rfl, rfl⟩
        · replace H : Hid (isNm s = false) := by show _ = _; rw [H.out, decide_eq_false h2]
          have h2' : (32 : Int) < s.size := by omega
          have d2 : decide ((s.size : Int) ≤ 32) = false := decide_eq_false (by omega)
          go_wp2
          go_ret
          exact ⟨by rw [H.out]; rfl, rfl⟩
      · replace H : Hid (isNm s = false) := by show _ = _; rw [H.out, decide_eq_false h1]; rfl
        have h1' : (s.size : Int) < 1 := by omega
        go_wp2
        go_ret
        exact ⟨by rw [H.out]; rfl, rfl⟩
end Go.Proofs.Ytolliiodfhdfiaa
