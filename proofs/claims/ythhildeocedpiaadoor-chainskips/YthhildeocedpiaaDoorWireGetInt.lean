/- What wire.GetInt does: it reads a string's bytes and answers the number at their front, in how many bytes, and the error; memory stands. -/
import Derived.Test.YthhildeocedpiaaDoorWireInt
import Derived.ScopeJumps
import Derived.WalkMore
namespace Go.Proofs.YthhildeocedpiaaDoor
open Go.RowKit

theorem i64_or_nat (a b : Nat) (ha : a < 9223372036854775808) (hb : b < 9223372036854775808) : bits .or .i64 (a : Int) (b : Int) = ((a ||| b : Nat) : Int) := by
  have hx : a ||| b < 2 ^ 63 := Nat.or_lt_two_pow (by omega) (by omega)
  show IntKind.i64.wrap ((BitVec.ofInt 64 (a : Int) ||| BitVec.ofInt 64 (b : Int)).toNat : Int) = _
  rw [BitVec.toNat_or, ofInt_u64 a (by omega), ofInt_u64 b (by omega)]
  simp [IntKind.wrap, IntKind.bits, IntKind.signed]
  omega

theorem wrap64_id (n : Nat) (h : n < 9223372036854775808) : wrap64 (n : Int) = (n : Int) := by
  unfold wrap64
  omega

theorem or_step (acc i c : Nat) (hi : i ≤ 8) (ha : acc < 128 ^ i) : bits .or .i64 (acc : Int) (wrap64 ((c : Int) % 128 * 2 ^ (7 * i))) = ((acc + c % 128 * 128 ^ i : Nat) : Int) := by
  have hp : (2 : Nat) ^ (7 * i) = 128 ^ i := by rw [Nat.pow_mul]
  have h63 := step_lt63 acc i c hi ha
  have e : ((c : Int) % 128 * 2 ^ (7 * i)) = ((c % 128 * 128 ^ i : Nat) : Int) := by
    rw [← hp]; simp
  rw [e, wrap64_id _ (by omega), i64_or_nat _ _ (by omega) (by omega)]
  congr 1
  rw [Nat.or_comm, ← hp, nat_join (7 * i) _ _ (by simp) (by rw [hp]; exact ha)]
  omega

theorem or_first (c : Nat) : bits .or .i64 0 ((c : Int) % 128) = ((c % 128 : Nat) : Int) := by
  have h := i64_or_nat 0 (c % 128) (by omega) (by omega)
  rw [Nat.zero_or] at h
  rw [show ((0 : Int)) = ((0 : Nat) : Int) from rfl, show ((c : Int) % 128) = ((c % 128 : Nat) : Int) from by omega]
  exact h

theorem andNot_byte (c : Nat) (h : c < 256) : bits .andNot .u8 (c : Int) 128 = ((c % 128 : Nat) : Int) := by
  have h1 := u8_andNot_nat c 128 h (by omega)
  rw [show ((128 : Int)) = ((128 : Nat) : Int) from rfl, h1]
  congr 1
  exact nat_mask7 c

theorem drop_cons (s : ByteArray) (i : Nat) (h : i < s.size) : s.data.toList.drop i = s[i] :: s.data.toList.drop (i + 1) := by
  rw [List.drop_eq_getElem_cons (by simpa using h)]; rfl

def giVal (r : Nat × Nat × Nat) : Value := .tuple #[.int .i64 r.1, .int .i64 r.2.1, .int .i64 r.2.2]

theorem giEnd {r : Nat × Nat × Nat} {a b c : Nat} (h : r = (a, b, c)) : Ending.returned (.tuple #[.int .i64 (a : Int), .int .i64 (b : Int), .int .i64 (c : Int)]) = .returned (giVal r) := by
  rw [h]; rfl

set_option maxRecDepth 100000 in
set_option maxHeartbeats 1000000 in
theorem getInt_any (s : ByteArray) (w : World) (hs : s.size ≤ maxLen) :
    Calls Tryd.prog 41 #[.string s] w fun e w' => e = .returned (giVal (getInt s.data.toList)) ∧ w' = w := by
  unfold maxLen at hs
  go_enter Tryd.func41, Tryd.ntmps41
  go_wp2
  refine wp_scope_jumps 0 (fun a' w' => w' = w ∧ ∃ (acc i : Nat) (u7 u8 u9 u10 u11 u12 u13 u14 u15 u16 u17 u18 u19 u20 u21 u22 u23 u24 u25 u26 u27 u28 : Value), a' = { tmps := #[.string s, undef, .int .i64 0, .int .i64 0, .int .i64 0, .int .i64 acc, .int .i64 i, u7, u8, u9, u10, u11, u12, u13, u14, u15, u16, u17, u18, u19, u20, u21, u22, u23, u24, u25, u26, u27, u28, undef, undef, undef, undef, undef, undef, undef, undef, undef, undef], defers := [] } ∧ i ≤ 8 ∧ i ≤ s.size ∧ acc < 128 ^ i ∧ Hid (giGo (s.data.toList.drop i) acc i = getInt s.data.toList)) (fun a' _ => 9 - (intOf (a'.tmps.getD 6 undef)).toNat) rfl ?_ ?_
  · by_cases hlt : 0 < s.size
    · have hq : ((0 : Int) == s.size) = false := beq_eq_false_iff_ne.2 (by omega)
      have hd := drop_cons s 0 hlt
      obtain ⟨c, hc⟩ : ∃ c, s[0].toNat = c := ⟨_, rfl⟩
      have hc256 : c < 256 := by rw [← hc]; exact UInt8.toNat_lt _
      have hand := andNot_byte c hc256
      have hor := or_first c
      have H : Hid (getInt s.data.toList = if 128 ≤ c then giGo (s.data.toList.drop 1) (c % 128) 1 else (c % 128, 1, 0)) := by
        show _ = _
        rw [List.drop_zero] at hd
        rw [getInt, hd, giGo, hc]
        have h2 : ¬ (4611686018427387903 < c % 128) := by omega
        simp [h2]
      clear hd
      go_wp2
      go_step3
      go_wp2
      · have h1 : (128 : Int) ≤ c := by assumption
        go_step3
        refine ⟨rfl, rfl, c % 128, 1, _, _, _, _, _, _, _, _, _, _, _, _, _, _, _, _, _, _, _, _, _, _, rfl, by omega, by omega, by omega, ?_⟩
        have h := H.out
        rw [if_pos (by omega)] at h
        exact h.symm
      · have h1 : (c : Int) < 128 := by assumption
        simp only [Exit.jump]
        go_ret3
        refine ⟨?_, rfl⟩
        have h := H.out
        have h3 : c = 0 := by assumption
        rw [if_neg (by omega), h3] at h
        exact giEnd (a := 0) (b := 1) (c := 0) h
      · have h1 : (c : Int) < 128 := by assumption
        simp only [Exit.jump]
        go_ret3
        refine ⟨?_, rfl⟩
        have h := H.out
        rw [if_neg (by omega)] at h
        exact giEnd (a := c % 128) (b := 1) (c := 0) h
    · have hq : ((0 : Int) == s.size) = true := beq_iff_eq.2 (by omega)
      have H : Hid (getInt s.data.toList = (0, 0, 1)) := by
        have : s.data.toList = [] := List.eq_nil_of_length_eq_zero (by simpa using hlt)
        show _ = _
        rw [this]; rfl
      go_wp2
      go_step3
      go_wp2
      simp only [Exit.jump]
      go_ret3
      exact ⟨giEnd H.out, rfl⟩
  · rintro a' w' ⟨rfl, acc, i, u7, u8, u9, u10, u11, u12, u13, u14, u15, u16, u17, u18, u19, u20, u21, u22, u23, u24, u25, u26, u27, u28, rfl, hi, his, hacc, hJ⟩
    by_cases hlt : i < s.size
    · have hq : ((i : Int) == s.size) = false := beq_eq_false_iff_ne.2 (by omega)
      have hd := drop_cons s i hlt
      obtain ⟨c, hc⟩ : ∃ c, s[i].toNat = c := ⟨_, rfl⟩
      have hc256 : c < 256 := by rw [← hc]; exact UInt8.toNat_lt _
      have hand := andNot_byte c hc256
      have hor := or_step acc i c hi hacc
      have hnx := step_lt acc i c hacc
      rw [hd] at hJ
      have H : Hid ((if 128 ≤ c then (if i + 1 = 9 then (0, 0, 2) else giGo (s.data.toList.drop (i + 1)) (acc + c % 128 * 128 ^ i) (i + 1)) else if 4611686018427387903 < acc + c % 128 * 128 ^ i then (0, 0, 2) else if c = 0 ∧ 1 < i + 1 then (0, 0, 3) else (acc + c % 128 * 128 ^ i, i + 1, 0)) = getInt s.data.toList) := by
        have h := hJ.out
        rw [giGo, hc] at h
        exact h
      clear hJ hd
      generalize acc + c % 128 * 128 ^ i = nxt at *
      go_wp2
      · have h1 : (128 : Int) ≤ c := by assumption
        have h2 : ((i : Int) + 1 == 9) = true := by assumption
        simp only [Exit.jump]
        go_ret3
        refine ⟨giEnd (a := 0) (b := 0) (c := 2) ?_, rfl⟩
        have h := H.out
        rw [beq_iff_eq] at h2
        rw [if_pos (by omega), if_pos (by omega)] at h
        exact h.symm
      · have h1 : (128 : Int) ≤ c := by assumption
        have h2 : ((i : Int) + 1 == 9) = false := by assumption
        rw [beq_eq_false_iff_ne] at h2
        have h := H.out
        rw [if_pos (by omega), if_neg (by omega)] at h
        go_step3
        refine ⟨rfl, ⟨rfl, nxt, i + 1, _, _, _, _, _, _, _, _, _, _, _, _, _, _, _, _, _, _, _, _, _, _, rfl, by omega, by omega, hnx, h⟩, ?_⟩
        simp [intOf]
        omega
      · have h1 : (c : Int) < 128 := by assumption
        have h2 : (4611686018427387903 : Int) < nxt := by assumption
        simp only [Exit.jump]
        go_ret3
        refine ⟨giEnd (a := 0) (b := 0) (c := 2) ?_, rfl⟩
        have h := H.out
        rw [if_neg (by omega), if_pos (by omega)] at h
        exact h.symm
      · have h1 : (c : Int) < 128 := by assumption
        have h2 : (nxt : Int) ≤ 4611686018427387903 := by assumption
        have h3 : c = 0 := by assumption
        have h4 : (1 : Int) < (i : Int) + 1 := by assumption
        simp only [Exit.jump]
        go_ret3
        refine ⟨giEnd (a := 0) (b := 0) (c := 3) ?_, rfl⟩
        have h := H.out
        rw [if_neg (by omega), if_neg (by omega), if_pos (by omega)] at h
        exact h.symm
      · have h1 : (c : Int) < 128 := by assumption
        have h2 : (nxt : Int) ≤ 4611686018427387903 := by assumption
        have h3 : c = 0 := by assumption
        have h4 : (i : Int) + 1 ≤ 1 := by assumption
        simp only [Exit.jump]
        go_ret3
        refine ⟨giEnd (a := nxt) (b := i + 1) (c := 0) ?_, rfl⟩
        have h := H.out
        rw [if_neg (by omega), if_neg (by omega), if_neg (by omega)] at h
        exact h.symm
      · have h1 : (c : Int) < 128 := by assumption
        have h2 : (nxt : Int) ≤ 4611686018427387903 := by assumption
        have h3 : ¬ c = 0 := by assumption
        simp only [Exit.jump]
        go_ret3
        refine ⟨giEnd (a := nxt) (b := i + 1) (c := 0) ?_, rfl⟩
        have h := H.out
        rw [if_neg (by omega), if_neg (by omega), if_neg (by omega)] at h
        exact h.symm
    · have hq : ((i : Int) == s.size) = true := beq_iff_eq.2 (by omega)
      have H : Hid (getInt s.data.toList = (0, 0, 1)) := by
        have h := hJ.out
        have : s.data.toList.drop i = [] := List.drop_eq_nil_of_le (by simp; omega)
        rw [this] at h
        exact h.symm
      clear hJ
      go_wp2
      simp only [Exit.jump]
      go_ret3
      exact ⟨giEnd H.out, rfl⟩
end Go.Proofs.YthhildeocedpiaaDoor
