/- What isName, strings.CutPrefix and isKey do; memory stands. -/
import Derived.Test.YtcjmeaikdfgapaaDoorTxMath
namespace Go.Proofs.YtcjmeaikdfgapaaDoor
open Go.RowKit
set_option linter.unusedVariables false

theorem all_take_succ (s : ByteArray) (k : Nat) (h : k < s.size) (p : UInt8 → Bool) : (s.data.toList.take (k + 1)).all p = ((s.data.toList.take k).all p && p s[k]) := by
  rw [List.take_succ_eq_append_getElem (by simpa using h), List.all_append]
  simp
  rfl

theorem all_of_take (s : ByteArray) (k : Nat) (h : k < s.size) (p : UInt8 → Bool) (hp : p s[k] = false) : s.data.toList.all p = false := by
  have e : s.data.toList = s.data.toList.take (k + 1) ++ s.data.toList.drop (k + 1) := by rw [List.take_append_drop]
  rw [e, List.all_append, all_take_succ s k h, hp]
  simp

set_option maxRecDepth 100000 in
set_option maxHeartbeats 1000000 in
theorem isName_any (s : ByteArray) (w : World) :
    Calls Tryd.prog 73 #[.string s] w fun e w' => e = .returned (.bool (isNm s)) ∧ w' = w := by
  by_cases h1 : s.size < 1
  · have H : Hid (isNm s = false) := by show _ = _; simp [isNm]; intro h; omega
    have h1' : (s.size : Int) < 1 := by omega
    go_enter Tryd.func73, Tryd.ntmps73
    go_wp2
    go_ret
    exact ⟨by rw [H.out]; rfl, rfl⟩
  by_cases h2 : 32 < s.size
  · have H : Hid (isNm s = false) := by show _ = _; simp [isNm]; intro _ h; omega
    have h1' : ¬ (s.size : Int) < 1 := by omega
    have h2' : (32 : Int) < s.size := by omega
    go_enter Tryd.func73, Tryd.ntmps73
    go_wp2
    go_ret
    exact ⟨by rw [H.out]; rfl, rfl⟩
  have HN : Hid (isNm s = s.data.toList.all nameByte) := by
    show _ = _
    unfold isNm
    rw [decide_eq_true (by omega), decide_eq_true (by omega)]
    rfl
  have h1' : ¬ (s.size : Int) < 1 := by omega
  have h2' : ¬ (32 : Int) < s.size := by omega
  go_enter Tryd.func73, Tryd.ntmps73
  go_wp2
  go_loop [16] (fun v => ∃ k : Nat, k ≤ s.size ∧ v = .int .i64 k ∧ Hid ((s.data.toList.take k).all nameByte = true)) (fun v => s.size - (intOf v).toNat)
  case atStart => exact ⟨0, by omega, rfl, by show _ = _; simp⟩
  case round =>
    obtain ⟨k, hk, rfl, hall⟩ := hrel
    by_cases hlt : k < s.size
    · obtain ⟨c, hc⟩ : ∃ c, s[k].toNat = c := ⟨_, rfl⟩
      have hY : (97 ≤ c ∧ c ≤ 122 ∨ 48 ≤ c ∧ c ≤ 57) → Hid ((s.data.toList.take (k + 1)).all nameByte = true) := by
        intro h
        show _ = _
        rw [all_take_succ s k hlt, hall.out]
        unfold nameByte
        rw [hc]
        simp only [Bool.true_and, Bool.or_eq_true, Bool.and_eq_true, decide_eq_true_eq]
        exact h
      have hN : ¬ (97 ≤ c ∧ c ≤ 122 ∨ 48 ≤ c ∧ c ≤ 57) → Hid (isNm s = false) := by
        intro h
        show _ = _
        rw [HN.out]
        refine all_of_take s k hlt _ ?_
        unfold nameByte
        rw [hc]
        simp only [Bool.or_eq_false_iff, Bool.and_eq_false_iff, decide_eq_false_iff_not]
        omega
      clear hall
      have hI : ((c : Int) < 48 ∧ (c : Int) ≤ 57 ∧ (c : Int) < 97 ∧ (c : Int) ≤ 122) ∨ ((48 : Int) ≤ c ∧ (57 : Int) < c ∧ (c : Int) < 97 ∧ (c : Int) ≤ 122) ∨ ((48 : Int) ≤ c ∧ (57 : Int) < c ∧ (97 : Int) ≤ c ∧ (122 : Int) < c) ∨
          ((48 : Int) ≤ c ∧ (c : Int) ≤ 57 ∧ (c : Int) < 97 ∧ (c : Int) ≤ 122) ∨ ((48 : Int) ≤ c ∧ (57 : Int) < c ∧ (97 : Int) ≤ c ∧ (c : Int) ≤ 122) := by omega
      rcases hI with ⟨i1, i2, i3, i4⟩ | ⟨i1, i2, i3, i4⟩ | ⟨i1, i2, i3, i4⟩ | ⟨i1, i2, i3, i4⟩ | ⟨i1, i2, i3, i4⟩
      · have H := hN (by omega)
        clear hY hN
        go_wp2
        go_ret
        exact ⟨by rw [H.out]; rfl, rfl⟩
      · have H := hN (by omega)
        clear hY hN
        have d57 : decide ((c : Int) ≤ 57) = false := decide_eq_false (by omega)
        go_wp2
        go_ret
        exact ⟨by rw [H.out]; rfl, rfl⟩
      · have H := hN (by omega)
        clear hY hN
        have d122 : decide ((c : Int) ≤ 122) = false := decide_eq_false (by omega)
        have d57 : decide ((c : Int) ≤ 57) = false := decide_eq_false (by omega)
        go_wp2
        go_ret
        exact ⟨by rw [H.out]; rfl, rfl⟩
      · have H := hY (by omega)
        clear hY hN
        go_wp2
        go_round
        case rel => exact ⟨k + 1, by omega, by go_num, H⟩
        case measure => simp [intOf]; omega
      · have H := hY (by omega)
        clear hY hN
        go_wp2
        go_round
        case rel => exact ⟨k + 1, by omega, by go_num, H⟩
        case measure => simp [intOf]; omega
    · have H : Hid (isNm s = true) := by
        show _ = _
        rw [HN.out, ← hall.out, List.take_of_length_le (by simp; omega)]
      go_wp2
      go_ret
      exact ⟨by rw [H.out]; rfl, rfl⟩

set_option maxRecDepth 100000 in
set_option maxHeartbeats 400000 in
theorem hasPrefix_any (s p : ByteArray) (w : World) :
    Calls Tryd.prog 103 #[.string s, .string p] w fun e w' => e = .returned (.bool (cutOk s p)) ∧ w' = w := by
  unfold cutOk
  by_cases h : p.size ≤ s.size
  · have h' : (p.size : Int) ≤ s.size := by omega
    go_enter Tryd.func103, Tryd.ntmps103
    go_wp2
    go_ret
    exact ⟨by simp; intro _; exact h, rfl⟩
  · have h' : ¬ (p.size : Int) ≤ s.size := by omega
    go_enter Tryd.func103, Tryd.ntmps103
    go_wp2
    go_ret
    exact ⟨by simp, rfl⟩

theorem cutOk_size {s p : ByteArray} (h : cutOk s p = true) : p.size ≤ s.size := by
  unfold cutOk at h
  simp at h
  exact h.1

set_option maxRecDepth 100000 in
set_option maxHeartbeats 400000 in
theorem cut_in (s p : ByteArray) (w : World) :
    Calls Tryd.prog 100 #[.string s, .string p] w fun e w' => e = .returned (.tuple #[.string (if cutOk s p then s.extract p.size s.size else s), .bool (cutOk s p)]) ∧ w' = w := by
  cases hc : cutOk s p with
  | true =>
    have h := cutOk_size hc
    have h' : (p.size : Int) ≤ s.size := by omega
    have cs := hasPrefix_any s p
    rw [hc] at cs
    go_enter Tryd.func100, Tryd.ntmps100
    go_wp2_with fail
    refine (cs _).mono ?_
    rintro e w' ⟨rfl, rfl⟩
    go_wp2
    go_ret2
    exact ⟨by simp, rfl⟩
  | false =>
    have cs := hasPrefix_any s p
    rw [hc] at cs
    go_enter Tryd.func100, Tryd.ntmps100
    go_wp2_with fail
    refine (cs _).mono ?_
    rintro e w' ⟨rfl, rfl⟩
    go_wp2
    go_ret2
    exact ⟨by simp, rfl⟩

set_option maxRecDepth 100000 in
set_option maxHeartbeats 400000 in
theorem cut_any (s p : ByteArray) (w : World) :
    Calls Tryd.prog 91 #[.string s, .string p] w fun e w' => e = .returned (.tuple #[.string (if cutOk s p then s.extract p.size s.size else s), .bool (cutOk s p)]) ∧ w' = w := by
  have cs := cut_in s p
  generalize (if cutOk s p then s.extract p.size s.size else s) = u at cs ⊢
  generalize cutOk s p = b at cs ⊢
  go_enter Tryd.func91, Tryd.ntmps91
  go_wp2_with fail
  refine (cs _).mono ?_
  rintro e w' ⟨rfl, rfl⟩
  go_wp2
  go_ret2
  exact ⟨rfl, rfl⟩

set_option maxRecDepth 100000 in
set_option maxHeartbeats 400000 in
theorem isKey_any (s : ByteArray) (w : World) :
    Calls Tryd.prog 74 #[.string s] w fun e w' => e = .returned (.bool (isKy s)) ∧ w' = w := by
  cases ha : cutOk s aP with
  | true =>
    have ca : ∀ w, Calls Tryd.prog 91 #[.string s, .string ⟨#[97, 58]⟩] w fun e w' => e = .returned (.tuple #[.string (s.extract 2 s.size), .bool true]) ∧ w' = w := fun w => by
      have h := cut_any s aP w
      rw [ha, if_pos rfl] at h
      exact h
    have cn := isName_any (s.extract 2 s.size)
    have H : Hid (isKy s = isNm (s.extract 2 s.size)) := by show _ = _; unfold isKy; rw [ha]; rfl
    generalize isNm (s.extract 2 s.size) = b at cn H
    generalize s.extract 2 s.size = u at cn ca
    go_enter Tryd.func74, Tryd.ntmps74
    go_wp2_with fail
    refine (ca _).mono ?_
    rintro e w' ⟨rfl, rfl⟩
    go_wp2_with fail
    refine (cn _).mono ?_
    rintro e w' ⟨rfl, rfl⟩
    go_wp2
    go_ret
    exact ⟨by rw [H.out]; rfl, rfl⟩
  | false =>
    have ca : ∀ w, Calls Tryd.prog 91 #[.string s, .string ⟨#[97, 58]⟩] w fun e w' => e = .returned (.tuple #[.string s, .bool false]) ∧ w' = w := fun w => by
      have h := cut_any s aP w
      rw [ha, if_neg (by simp)] at h
      exact h
    cases hk : cutOk s kP with
    | true =>
      have ck : ∀ w, Calls Tryd.prog 91 #[.string s, .string ⟨#[107, 58]⟩] w fun e w' => e = .returned (.tuple #[.string (s.extract 2 s.size), .bool true]) ∧ w' = w := fun w => by
        have h := cut_any s kP w
        rw [hk, if_pos rfl] at h
        exact h
      have cn := isName_any (s.extract 2 s.size)
      have H : Hid (isKy s = isNm (s.extract 2 s.size)) := by show _ = _; unfold isKy; rw [ha, hk]; rfl
      generalize isNm (s.extract 2 s.size) = b at cn H
      generalize s.extract 2 s.size = u at cn ck
      go_enter Tryd.func74, Tryd.ntmps74
      go_wp2_with fail
      refine (ca _).mono ?_
      rintro e w' ⟨rfl, rfl⟩
      go_wp2_with fail
      refine (ck _).mono ?_
      rintro e w' ⟨rfl, rfl⟩
      go_wp2_with fail
      refine (cn _).mono ?_
      rintro e w' ⟨rfl, rfl⟩
      go_wp2
      go_ret
      exact ⟨by rw [H.out]; rfl, rfl⟩
    | false =>
      have ck : ∀ w, Calls Tryd.prog 91 #[.string s, .string ⟨#[107, 58]⟩] w fun e w' => e = .returned (.tuple #[.string s, .bool false]) ∧ w' = w := fun w => by
        have h := cut_any s kP w
        rw [hk, if_neg (by simp)] at h
        exact h
      have H : Hid (isKy s = false) := by show _ = _; unfold isKy; rw [ha, hk]; rfl
      go_enter Tryd.func74, Tryd.ntmps74
      go_wp2_with fail
      refine (ca _).mono ?_
      rintro e w' ⟨rfl, rfl⟩
      go_wp2_with fail
      refine (ck _).mono ?_
      rintro e w' ⟨rfl, rfl⟩
      go_wp2
      go_ret
      exact ⟨by rw [H.out]; rfl, rfl⟩
end Go.Proofs.YtcjmeaikdfgapaaDoor
