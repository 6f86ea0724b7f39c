/- What tuskref01.GetInt does: it answers as the number at the front of bytes is defined; memory stands. -/
import Derived.Test.YtepgdbpofppdcaaRefInt
namespace Go.Proofs.Ytepgdbpofppdcaa
open Go.RowKit

def val : List UInt8 → Nat
  | [] => 0
  | c :: r => c.toNat % 128 + 128 * val r

theorem val_drop_le : ∀ (l : List UInt8) (j : Nat), val (l.drop j) ≤ val l
  | [], j => by simp
  | c :: r, 0 => by simp
  | c :: r, j + 1 => by
    have := val_drop_le r j
    simp only [List.drop_succ_cons, val]
    omega

theorem giGo_val : ∀ (k : Nat) (l : List UInt8) (acc i : Nat) (hk : k < l.length), (∀ j (hj : j < l.length), j < k → 128 ≤ l[j].toNat) → l[k].toNat < 128 → i + k ≤ 8 →
    giGo l acc i = if 4611686018427387903 < acc + val (l.take (k + 1)) * 128 ^ i then (0, 0, 2) else if l[k].toNat = 0 ∧ 1 < i + k + 1 then (0, 0, 3) else (acc + val (l.take (k + 1)) * 128 ^ i, i + k + 1, 0)
  | 0, c :: r, acc, i, hk, _, h2, _ => by
    simp only [List.getElem_cons_zero] at h2
    rw [giGo, if_neg (by omega)]
    simp [val]
  | k + 1, c :: r, acc, i, hk, h1, h2, h3 => by
    have hc : 128 ≤ c.toNat := h1 0 (by simp) (by omega)
    simp only [List.length_cons] at hk
    rw [giGo, if_pos hc, if_neg (by omega)]
    rw [giGo_val k r _ (i + 1) (by omega) (fun j hj hjk => h1 (j + 1) (by simp; omega) (by omega)) (by simpa using h2) (by omega)]
    have e : acc + c.toNat % 128 * 128 ^ i + val (r.take (k + 1)) * 128 ^ (i + 1) = acc + val ((c :: r).take (k + 1 + 1)) * 128 ^ i := by
      rw [List.take_succ_cons, val, Nat.pow_succ, Nat.add_mul, Nat.mul_comm (128 ^ i) 128, ← Nat.mul_assoc, Nat.mul_comm (val _) 128]
      omega
    rw [e]
    simp only [List.getElem_cons_succ]
    have e2 : i + 1 + k + 1 = i + (k + 1) + 1 := by omega
    rw [e2]
  | 0, [], _, _, hk, _, _, _ => by simp at hk
  | k + 1, [], _, _, hk, _, _, _ => by simp at hk

theorem giGo_high : ∀ (l : List UInt8) (acc i : Nat), (∀ c ∈ l, 128 ≤ c.toNat) → i + l.length ≤ 8 → giGo l acc i = (0, 0, 1)
  | [], _, _, _, _ => by simp [giGo]
  | c :: r, acc, i, h, h2 => by
    simp only [List.length_cons] at h2
    rw [giGo, if_pos (h c (by simp)), if_neg (by omega)]
    exact giGo_high r _ _ (fun x hx => h x (by simp [hx])) (by omega)

theorem giGo_nine : ∀ (k : Nat) (l : List UInt8) (acc i : Nat), i + k = 9 → 0 < k → k ≤ l.length → (∀ j (hj : j < l.length), j < k → 128 ≤ l[j].toNat) → giGo l acc i = (0, 0, 2)
  | 0, _, _, _, _, h, _, _ => by omega
  | k + 1, [], _, _, _, _, h, _ => by simp at h
  | k + 1, c :: r, acc, i, h1, _, h3, h4 => by
    have hc : 128 ≤ c.toNat := h4 0 (by simp) (by omega)
    rw [giGo, if_pos hc]
    by_cases h : i + 1 = 9
    · rw [if_pos h]
    · rw [if_neg h]
      exact giGo_nine k r _ _ (by omega) (by omega) (by simp at h3; omega) (fun j hj hjk => h4 (j + 1) (by simp; omega) (by omega))

theorem val_step (s : ByteArray) (k j : Nat) (hk : k < s.size) (hj : j ≤ k) : val ((s.data.toList.take (k + 1)).drop j) = s[j].toNat % 128 + 128 * val ((s.data.toList.take (k + 1)).drop (j + 1)) := by
  have h1 : j < (s.data.toList.take (k + 1)).length := by simp; omega
  rw [List.drop_eq_getElem_cons h1, val]
  simp
  rfl

theorem getElem_list (s : ByteArray) (j : Nat) (h : j < s.data.toList.length) : s.data.toList[j] = s[j]'(by simpa using h) := by
  simp
  rfl

set_option maxRecDepth 100000 in
set_option maxHeartbeats 1000000 in
theorem refGetInt_any (s : ByteArray) (w : World) (hs : s.size ≤ maxLen) :
    Calls Try.prog 39 #[.string s] w fun e w' => e = .returned (giVal (getInt s.data.toList)) ∧ w' = w := by
  unfold maxLen at hs
  go_enter Try.func39, Try.ntmps39
  go_wp2
  go_loop [5] (fun v => ∃ k : Nat, k ≤ 9 ∧ k ≤ s.size ∧ v = .int .i64 k ∧ Hid (∀ j (hj : j < s.size), j < k → 128 ≤ s[j].toNat)) (fun v => 9 - (intOf v).toNat)
  case atStart => exact ⟨0, by omega, by omega, rfl, fun j _ hj => absurd hj (by omega)⟩
  case round =>
    obtain ⟨k, hk9, hks, rfl, hhi⟩ := hrel
    by_cases h9 : k = 9
    · subst h9
      have H : Hid (getInt s.data.toList = (0, 0, 2)) := giGo_nine 9 s.data.toList 0 0 rfl (by omega) (by simpa using hks) (fun j hj hjk => by rw [getElem_list]; exact hhi.out j (by simpa using hj) hjk)
      clear hhi
      by_cases hlt : 9 < s.size
      · go_wp2
        go_ret3
        exact ⟨giEnd H.out, rfl⟩
      · go_wp2
        go_ret3
        exact ⟨giEnd H.out, rfl⟩
    · have h9b : ((k : Int) == 9) = false := beq_eq_false_iff_ne.2 (by omega)
      by_cases hlt : k < s.size
      · have hkb : ((k : Int) == s.size) = false := beq_eq_false_iff_ne.2 (by omega)
        obtain ⟨c, hc⟩ : ∃ c, s[k].toNat = c := ⟨_, rfl⟩
        have hc256 : c < 256 := by rw [← hc]; exact UInt8.toNat_lt _
        by_cases hge : 128 ≤ c
        · have hhi' : Hid (∀ j (hj : j < s.size), j < k + 1 → 128 ≤ s[j].toNat) := by
            intro j hj hjk
            by_cases e : j = k
            · subst e; omega
            · exact hhi.out j hj (by omega)
          clear hhi
          go_wp2
          go_round
          case rel => exact ⟨k + 1, by omega, by omega, by go_num, hhi'⟩
          case measure => simp [intOf]; omega
        · have H : Hid (getInt s.data.toList = if 4611686018427387903 < val (s.data.toList.take (k + 1)) then (0, 0, 2) else if c = 0 ∧ 0 < k then (0, 0, 3) else (val (s.data.toList.take (k + 1)), k + 1, 0)) := by
            have hkl : k < s.data.toList.length := by simpa using hlt
            have h := giGo_val k s.data.toList 0 0 hkl (fun j hj hjk => by rw [getElem_list]; exact hhi.out j (by simpa using hj) hjk) (by rw [getElem_list]; omega) (by omega)
            rw [getElem_list _ _ hkl, hc] at h
            show _ = _
            rw [getInt, h]
            simp
          clear hhi
          go_wp2
          go_loop [6, 7] (fun v6 v7 => ∃ (j n : Nat), j ≤ k + 1 ∧ n ≤ 4611686018427387903 ∧ n < 128 ^ (k + 1 - j) ∧ v6 = .int .i64 n ∧ v7 = .int .i64 ((j : Int) - 1) ∧ Hid (n = val ((s.data.toList.take (k + 1)).drop j))) (fun _ v7 => ((intOf v7) + 1).toNat)
          case atStart => exact ⟨k + 1, 0, by omega, by omega, by simp, rfl, by simp, by show _ = _; rw [List.drop_of_length_le (by simp; omega)]; rfl⟩
          case round =>
            obtain ⟨j, n, hj, hn, hnp, rfl, rfl, hv⟩ := hrel
            by_cases hj0 : j = 0
            · subst hj0
              go_wp2
              · have h1 : 0 < k := by assumption
                have h2 : ((c : Int) == 0) = true := by assumption
                rw [beq_iff_eq] at h2
                go_ret3
                refine ⟨giEnd (a := 0) (b := 0) (c := 3) ?_, rfl⟩
                rw [H.out, if_neg (by have := hv.out; rw [List.drop_zero] at this; omega), if_pos (by omega)]
              · have h1 : 0 < k := by assumption
                have h2 : ((c : Int) == 0) = false := by assumption
                rw [beq_eq_false_iff_ne] at h2
                go_ret3
                refine ⟨giEnd (a := n) (b := k + 1) (c := 0) ?_, rfl⟩
                have hv0 := hv.out
                rw [List.drop_zero] at hv0
                rw [H.out, if_neg (by omega), if_neg (by omega), ← hv0]
              · have h1 : ¬ 0 < k := by assumption
                go_ret3
                refine ⟨giEnd (a := n) (b := k + 1) (c := 0) ?_, rfl⟩
                have hv0 := hv.out
                rw [List.drop_zero] at hv0
                rw [H.out, if_neg (by omega), if_neg (by omega), ← hv0]
            · obtain ⟨i, rfl⟩ : ∃ i, j = i + 1 := ⟨j - 1, by omega⟩
              have hi1 : ((i + 1 : Nat) : Int) - 1 = (i : Int) := by omega
              rw [hi1]
              have hilt : i < s.size := by omega
              obtain ⟨d, hd⟩ : ∃ d, s[i].toNat = d := ⟨_, rfl⟩
              have hd256 : d < 256 := by rw [← hd]; exact UInt8.toNat_lt _
              have hst := val_step s k i hlt (by omega)
              rw [hd, ← hv.out] at hst
              have hn8 : n < 72057594037927936 := by
                have h1 : 128 ^ (k + 1 - (i + 1)) ≤ 128 ^ 8 := Nat.pow_le_pow_right (by omega) (by omega)
                omega
              have hnp' : 128 * n + d % 128 < 128 ^ (k + 1 - i) := by
                have e : k + 1 - i = (k + 1 - (i + 1)) + 1 := by omega
                rw [e, Nat.pow_succ]
                omega
              have Hst : Hid (128 * n + d % 128 = val ((s.data.toList.take (k + 1)).drop i)) := by
                show _ = _
                rw [hst]; omega
              clear hst hv hi1
              go_wp2
              · have h1 : (4611686018427387903 : Int) < 128 * (n : Int) + (d : Int) % 128 := by assumption
                go_ret3
                refine ⟨giEnd (a := 0) (b := 0) (c := 2) ?_, rfl⟩
                have hv0 := Hst.out
                have hle := val_drop_le (s.data.toList.take (k + 1)) i
                rw [H.out, if_pos (by omega)]
              · have h1 : 128 * (n : Int) + (d : Int) % 128 ≤ 4611686018427387903 := by assumption
                go_round
                case rel => exact ⟨i, 128 * n + d % 128, by omega, by omega, hnp', by go_num, rfl, Hst⟩
                case measure => simp [intOf]
      · have hkb : ((k : Int) == s.size) = true := beq_iff_eq.2 (by omega)
        have H : Hid (getInt s.data.toList = (0, 0, 1)) := giGo_high s.data.toList 0 0 (fun c hc => by
          obtain ⟨j, hj, rfl⟩ := List.getElem_of_mem hc
          rw [getElem_list]
          exact hhi.out j (by simpa using hj) (by simp at hj; omega)) (by simp; omega)
        clear hhi
        go_wp2
        go_ret3
        exact ⟨giEnd H.out, rfl⟩
end Go.Proofs.Ytepgdbpofppdcaa
