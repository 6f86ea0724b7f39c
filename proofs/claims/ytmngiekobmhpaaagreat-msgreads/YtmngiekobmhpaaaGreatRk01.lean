/- Texts as one: WireMath, WireInt, WireGetInt, WireText, WireBuilder, Strs. -/
import Derived.Test.YtmngiekobmhpaaaGreatRows
import Derived.WalkKit
import Derived.WalkSpells
import Derived.WalkLawsBesides
import Derived.ScopeJumps
import Derived.WalkMore
import Derived.Lib.Builder
import Derived.Lib.AppendStr
import Derived.Lib.UnsafeStr
import Derived.Lib.Strings
import Derived.Laws.Externs
import Derived.RegionTactic
/- The plain mathematics of layer wire: what a number's bytes are ('enc'), and that there are at most nine. No program is named here. -/
namespace Go.Proofs.YtmngiekobmhpaaaGreat

def encF : Nat → Nat → List UInt8
  | 0, n => [UInt8.ofNat n]
  | k + 1, n => if n < 128 then [UInt8.ofNat n] else UInt8.ofNat (128 + n % 128) :: encF k (n / 128)

def enc (n : Nat) : List UInt8 := encF n n

theorem encF_fuel : ∀ (k j n : Nat), n ≤ k → n ≤ j → encF k n = encF j n
  | 0, 0, _, _, _ => rfl
  | 0, j + 1, n, h, _ => by
    have : n = 0 := by omega
    subst this
    simp [encF]
  | k + 1, 0, n, _, h => by
    have : n = 0 := by omega
    subst this
    simp [encF]
  | k + 1, j + 1, n, h1, h2 => by
    rw [encF, encF]
    by_cases h : n < 128
    · rw [if_pos h, if_pos h]
    · rw [if_neg h, if_neg h, encF_fuel k j (n / 128) (by omega) (by omega)]

def goInt (n : Int) : List UInt8 := if 0 ≤ n ∧ n ≤ 4611686018427387903 then enc n.toNat else []

theorem enc_small (n : Nat) (h : n < 128) : enc n = [UInt8.ofNat n] := by
  unfold enc
  cases n with
  | zero => rfl
  | succ m => rw [encF, if_pos h]
theorem enc_big (n : Nat) (h : 128 ≤ n) : enc n = UInt8.ofNat (128 + n % 128) :: enc (n / 128) := by
  unfold enc
  cases n with
  | zero => omega
  | succ m => rw [encF, if_neg (by omega), encF_fuel m ((m + 1) / 128) ((m + 1) / 128) (by omega) (by omega)]

theorem enc_length_le : ∀ (k n : Nat), n < 128 ^ (k + 1) → (enc n).length ≤ k + 1
  | 0, n, h => by rw [enc_small n (by simpa using h)]; simp
  | k + 1, n, h => by
    by_cases h1 : n < 128
    · rw [enc_small n h1]; simp
    · rw [enc_big n (by omega)]
      have : n / 128 < 128 ^ (k + 1) := by rw [Nat.pow_succ] at h; omega
      have := enc_length_le k (n / 128) this
      simp; omega

theorem enc_length_nine (n : Nat) (h : n ≤ 4611686018427387903) : (enc n).length ≤ 9 := enc_length_le 8 n (by omega)

theorem enc_length_pos (n : Nat) : 0 < (enc n).length := by
  by_cases h1 : n < 128
  · rw [enc_small n h1]; simp
  · rw [enc_big n (by omega)]; simp

theorem goInt_nat (n : Nat) (h : n ≤ 4611686018427387903) : goInt n = enc n := by
  rw [goInt, if_pos (by omega)]; simp

/-- The number at the front of bytes: what has been gathered, at which byte; the answer: the number, in how many bytes, the error. -/
def giGo : List UInt8 → Nat → Nat → Nat × Nat × Nat
  | [], _, _ => (0, 0, 1)
  | c :: r, acc, i =>
    if 128 ≤ c.toNat then (if i + 1 = 9 then (0, 0, 2) else giGo r (acc + c.toNat % 128 * 128 ^ i) (i + 1))
    else if 4611686018427387903 < acc + c.toNat % 128 * 128 ^ i then (0, 0, 2)
    else if c.toNat = 0 ∧ 1 < i + 1 then (0, 0, 3)
    else (acc + c.toNat % 128 * 128 ^ i, i + 1, 0)

def getInt (l : List UInt8) : Nat × Nat × Nat := giGo l 0 0

theorem step_lt (acc i c : Nat) (h : acc < 128 ^ i) : acc + c % 128 * 128 ^ i < 128 ^ (i + 1) := by
  have h1 : c % 128 * 128 ^ i ≤ 127 * 128 ^ i := Nat.mul_le_mul_right _ (by omega)
  rw [Nat.pow_succ]
  omega

theorem step_lt63 (acc i c : Nat) (hi : i ≤ 8) (h : acc < 128 ^ i) : acc + c % 128 * 128 ^ i < 9223372036854775808 := by
  have h1 := step_lt acc i c h
  have h2 : 128 ^ (i + 1) ≤ 128 ^ 9 := Nat.pow_le_pow_right (by omega) (by omega)
  omega

theorem giGo_bounds : ∀ (l : List UInt8) (acc i : Nat), (giGo l acc i).2.2 = 0 → (giGo l acc i).1 ≤ 4611686018427387903 ∧ i + 1 ≤ (giGo l acc i).2.1 ∧ (giGo l acc i).2.1 ≤ i + l.length
  | [], _, _ => by intro h; simp [giGo] at h
  | c :: r, acc, i => by
    intro h
    rw [giGo] at h ⊢
    by_cases h1 : 128 ≤ c.toNat
    · rw [if_pos h1] at h ⊢
      by_cases h2 : i + 1 = 9
      · rw [if_pos h2] at h; simp at h
      · rw [if_neg h2] at h ⊢
        have := giGo_bounds r _ _ h
        simp only [List.length_cons]
        omega
    · rw [if_neg h1] at h ⊢
      by_cases h2 : 4611686018427387903 < acc + c.toNat % 128 * 128 ^ i
      · rw [if_pos h2] at h; simp at h
      · rw [if_neg h2] at h ⊢
        by_cases h3 : c.toNat = 0 ∧ 1 < i + 1
        · rw [if_pos h3] at h; simp at h
        · rw [if_neg h3]
          simp only [List.length_cons]
          omega

theorem getInt_bounds (l : List UInt8) (n k : Nat) (h : getInt l = (n, k, 0)) : n ≤ 4611686018427387903 ∧ 1 ≤ k ∧ k ≤ l.length := by
  have := giGo_bounds l 0 0 (by rw [← getInt, h])
  rw [← getInt, h] at this
  simpa using this

/-- A text's bytes. -/
def txt (l : List UInt8) : List UInt8 := goInt l.length ++ l

/-- The text at the front of bytes: the text, in how many bytes, the error. -/
def getText (l : List UInt8) : List UInt8 × Nat × Nat :=
  if (getInt l).2.2 ≠ 0 then ([], 0, (getInt l).2.2)
  else if 65536 < (getInt l).1 then ([], 0, 8)
  else if l.length - (getInt l).2.1 < (getInt l).1 then ([], 0, 1)
  else ((l.drop (getInt l).2.1).take (getInt l).1, (getInt l).2.1 + (getInt l).1, 0)

theorem getText_bounds (l t : List UInt8) (k : Nat) (h : getText l = (t, k, 0)) : 1 ≤ k ∧ k ≤ l.length ∧ t.length ≤ 65536 ∧ t.length + 1 ≤ k := by
  unfold getText at h
  rcases hr : getInt l with ⟨n, j, e⟩
  rw [hr] at h
  simp only at h
  by_cases h1 : e ≠ 0
  · rw [if_pos h1] at h; simp at h; omega
  · have h1 : e = 0 := by omega
    subst h1
    have hb := getInt_bounds l n j hr
    rw [if_neg (by simp)] at h
    by_cases h2 : 65536 < n
    · rw [if_pos h2] at h; simp at h
    · rw [if_neg h2] at h
      by_cases h3 : l.length - j < n
      · rw [if_pos h3] at h; simp at h
      · rw [if_neg h3] at h
        simp only [Prod.mk.injEq] at h
        obtain ⟨rfl, rfl, _⟩ := h
        simp only [List.length_take, List.length_drop]
        omega
end Go.Proofs.YtmngiekobmhpaaaGreat

/- What wire.Int does: the bytes of a number, or nothing; nothing old in memory is turned. -/
namespace Go.Proofs.YtmngiekobmhpaaaGreat
open Go.RowKit

def byteVal (b : UInt8) : Value := .int .u8 (b.toNat : Int)
end Go.Proofs.YtmngiekobmhpaaaGreat

/- What wire.GetInt does: it reads a string's bytes and answers the number at their front, in how many bytes, and the error; memory stands. -/
namespace Go.Proofs.YtmngiekobmhpaaaGreat
open Go.RowKit

theorem i64_or_nat (a b : Nat) (ha : a < 9223372036854775808) (hb : b < 9223372036854775808) : bits .or .i64 (a : Int) (b : Int) = ((a ||| b : Nat) : Int) := by
  have hx : a ||| b < 2 ^ 63 := Nat.or_lt_two_pow (by omega) (by omega)
  show IntKind.i64.wrap ((BitVec.ofInt 64 (a : Int) ||| BitVec.ofInt 64 (b : Int)).toNat : Int) = _
  rw [BitVec.toNat_or, ofInt_u64 a (by omega), ofInt_u64 b (by omega)]
  simp [IntKind.wrap, IntKind.bits, IntKind.signed]
  omega

theorem wrap64_id (n : Nat) (h : n < 9223372036854775808) : wrap64 (n : Int) = (n : Int) := by
  unfold wrap64
  omega

theorem or_step (acc i c : Nat) (hi : i ≤ 8) (ha : acc < 128 ^ i) : bits .or .i64 (acc : Int) (wrap64 ((c : Int) % 128 * 2 ^ (7 * i))) = ((acc + c % 128 * 128 ^ i : Nat) : Int) := by
  have hp : (2 : Nat) ^ (7 * i) = 128 ^ i := by rw [Nat.pow_mul]
  have h63 := step_lt63 acc i c hi ha
  have e : ((c : Int) % 128 * 2 ^ (7 * i)) = ((c % 128 * 128 ^ i : Nat) : Int) := by
    rw [← hp]; simp
  rw [e, wrap64_id _ (by omega), i64_or_nat _ _ (by omega) (by omega)]
  congr 1
  rw [Nat.or_comm, ← hp, nat_join (7 * i) _ _ (by simp) (by rw [hp]; exact ha)]
  omega

theorem or_first (c : Nat) : bits .or .i64 0 ((c : Int) % 128) = ((c % 128 : Nat) : Int) := by
  have h := i64_or_nat 0 (c % 128) (by omega) (by omega)
  rw [Nat.zero_or] at h
  rw [show ((0 : Int)) = ((0 : Nat) : Int) from rfl, show ((c : Int) % 128) = ((c % 128 : Nat) : Int) from by omega]
  exact h

theorem andNot_byte (c : Nat) (h : c < 256) : bits .andNot .u8 (c : Int) 128 = ((c % 128 : Nat) : Int) := by
  have h1 := u8_andNot_nat c 128 h (by omega)
  rw [show ((128 : Int)) = ((128 : Nat) : Int) from rfl, h1]
  congr 1
  exact nat_mask7 c

theorem drop_cons (s : ByteArray) (i : Nat) (h : i < s.size) : s.data.toList.drop i = s[i] :: s.data.toList.drop (i + 1) := by
  rw [List.drop_eq_getElem_cons (by simpa using h)]; rfl

def giVal (r : Nat × Nat × Nat) : Value := .tuple #[.int .i64 r.1, .int .i64 r.2.1, .int .i64 r.2.2]

theorem giEnd {r : Nat × Nat × Nat} {a b c : Nat} (h : r = (a, b, c)) : Ending.returned (.tuple #[.int .i64 (a : Int), .int .i64 (b : Int), .int .i64 (c : Int)]) = .returned (giVal r) := by
  rw [h]; rfl

set_option maxRecDepth 100000 in
set_option maxHeartbeats 1000000 in
theorem getInt_any (s : ByteArray) (w : World) (hs : s.size ≤ maxLen) :
    Calls Tryz.prog 16 #[.string s] w fun e w' => e = .returned (giVal (getInt s.data.toList)) ∧ w' = w := by
  unfold maxLen at hs
  go_enter Tryz.func16, Tryz.ntmps16
  go_wp2
  refine wp_scope_jumps 0 (fun a' w' => w' = w ∧ ∃ (acc i : Nat) (u7 u8 u9 u10 u11 u12 u13 u14 u15 u16 u17 u18 u19 u20 u21 u22 u23 u24 u25 u26 u27 u28 : Value), a' = { tmps := #[.string s, undef, .int .i64 0, .int .i64 0, .int .i64 0, .int .i64 acc, .int .i64 i, u7, u8, u9, u10, u11, u12, u13, u14, u15, u16, u17, u18, u19, u20, u21, u22, u23, u24, u25, u26, u27, u28, undef, undef, undef, undef, undef, undef, undef, undef, undef, undef], defers := [] } ∧ i ≤ 8 ∧ i ≤ s.size ∧ acc < 128 ^ i ∧ Hid (giGo (s.data.toList.drop i) acc i = getInt s.data.toList)) (fun a' _ => 9 - (intOf (a'.tmps.getD 6 undef)).toNat) rfl ?_ ?_
  · by_cases hlt : 0 < s.size
    · have hq : ((0 : Int) == s.size) = false := beq_eq_false_iff_ne.2 (by omega)
      have hd := drop_cons s 0 hlt
      obtain ⟨c, hc⟩ : ∃ c, s[0].toNat = c := ⟨_, rfl⟩
      have hc256 : c < 256 := by rw [← hc]; exact UInt8.toNat_lt _
      have hand := andNot_byte c hc256
      have hor := or_first c
      have H : Hid (getInt s.data.toList = if 128 ≤ c then giGo (s.data.toList.drop 1) (c % 128) 1 else (c % 128, 1, 0)) := by
        show _ = _
        rw [List.drop_zero] at hd
        rw [getInt, hd, giGo, hc]
        have h2 : ¬ (4611686018427387903 < c % 128) := by omega
        simp [h2]
      clear hd
      go_wp2
      go_step3
      go_wp2
      · have h1 : (128 : Int) ≤ c := by assumption
        go_step3
        refine ⟨rfl, rfl, c % 128, 1, _, _, _, _, _, _, _, _, _, _, _, _, _, _, _, _, _, _, _, _, _, _, rfl, by omega, by omega, by omega, ?_⟩
        have h := H.out
        rw [if_pos (by omega)] at h
        exact h.symm
      · have h1 : (c : Int) < 128 := by assumption
        simp only [Exit.jump]
        go_ret3
        refine ⟨?_, rfl⟩
        have h := H.out
        have h3 : c = 0 := by assumption
        rw [if_neg (by omega), h3] at h
        exact giEnd (a := 0) (b := 1) (c := 0) h
      · have h1 : (c : Int) < 128 := by assumption
        simp only [Exit.jump]
        go_ret3
        refine ⟨?_, rfl⟩
        have h := H.out
        rw [if_neg (by omega)] at h
        exact giEnd (a := c % 128) (b := 1) (c := 0) h
    · have hq : ((0 : Int) == s.size) = true := beq_iff_eq.2 (by omega)
      have H : Hid (getInt s.data.toList = (0, 0, 1)) := by
        have : s.data.toList = [] := List.eq_nil_of_length_eq_zero (by simpa using hlt)
        show _ = _
        rw [this]; rfl
      go_wp2
      go_step3
      go_wp2
      simp only [Exit.jump]
      go_ret3
      exact ⟨giEnd H.out, rfl⟩
  · rintro a' w' ⟨rfl, acc, i, u7, u8, u9, u10, u11, u12, u13, u14, u15, u16, u17, u18, u19, u20, u21, u22, u23, u24, u25, u26, u27, u28, rfl, hi, his, hacc, hJ⟩
    by_cases hlt : i < s.size
    · have hq : ((i : Int) == s.size) = false := beq_eq_false_iff_ne.2 (by omega)
      have hd := drop_cons s i hlt
      obtain ⟨c, hc⟩ : ∃ c, s[i].toNat = c := ⟨_, rfl⟩
      have hc256 : c < 256 := by rw [← hc]; exact UInt8.toNat_lt _
      have hand := andNot_byte c hc256
      have hor := or_step acc i c hi hacc
      have hnx := step_lt acc i c hacc
      rw [hd] at hJ
      have H : Hid ((if 128 ≤ c then (if i + 1 = 9 then (0, 0, 2) else giGo (s.data.toList.drop (i + 1)) (acc + c % 128 * 128 ^ i) (i + 1)) else if 4611686018427387903 < acc + c % 128 * 128 ^ i then (0, 0, 2) else if c = 0 ∧ 1 < i + 1 then (0, 0, 3) else (acc + c % 128 * 128 ^ i, i + 1, 0)) = getInt s.data.toList) := by
        have h := hJ.out
        rw [giGo, hc] at h
        exact h
      clear hJ hd
      generalize acc + c % 128 * 128 ^ i = nxt at *
      go_wp2
      · have h1 : (128 : Int) ≤ c := by assumption
        have h2 : ((i : Int) + 1 == 9) = true := by assumption
        simp only [Exit.jump]
        go_ret3
        refine ⟨giEnd (a := 0) (b := 0) (c := 2) ?_, rfl⟩
        have h := H.out
        rw [beq_iff_eq] at h2
        rw [if_pos (by omega), if_pos (by omega)] at h
        exact h.symm
      · have h1 : (128 : Int) ≤ c := by assumption
        have h2 : ((i : Int) + 1 == 9) = false := by assumption
        rw [beq_eq_false_iff_ne] at h2
        have h := H.out
        rw [if_pos (by omega), if_neg (by omega)] at h
        go_step3
        refine ⟨rfl, ⟨rfl, nxt, i + 1, _, _, _, _, _, _, _, _, _, _, _, _, _, _, _, _, _, _, _, _, _, _, rfl, by omega, by omega, hnx, h⟩, ?_⟩
        simp [intOf]
        omega
      · have h1 : (c : Int) < 128 := by assumption
        have h2 : (4611686018427387903 : Int) < nxt := by assumption
        simp only [Exit.jump]
        go_ret3
        refine ⟨giEnd (a := 0) (b := 0) (c := 2) ?_, rfl⟩
        have h := H.out
        rw [if_neg (by omega), if_pos (by omega)] at h
        exact h.symm
      · have h1 : (c : Int) < 128 := by assumption
        have h2 : (nxt : Int) ≤ 4611686018427387903 := by assumption
        have h3 : c = 0 := by assumption
        have h4 : (1 : Int) < (i : Int) + 1 := by assumption
        simp only [Exit.jump]
        go_ret3
        refine ⟨giEnd (a := 0) (b := 0) (c := 3) ?_, rfl⟩
        have h := H.out
        rw [if_neg (by omega), if_neg (by omega), if_pos (by omega)] at h
        exact h.symm
      · have h1 : (c : Int) < 128 := by assumption
        have h2 : (nxt : Int) ≤ 4611686018427387903 := by assumption
        have h3 : c = 0 := by assumption
        have h4 : (i : Int) + 1 ≤ 1 := by assumption
        simp only [Exit.jump]
        go_ret3
        refine ⟨giEnd (a := nxt) (b := i + 1) (c := 0) ?_, rfl⟩
        have h := H.out
        rw [if_neg (by omega), if_neg (by omega), if_neg (by omega)] at h
        exact h.symm
      · have h1 : (c : Int) < 128 := by assumption
        have h2 : (nxt : Int) ≤ 4611686018427387903 := by assumption
        have h3 : ¬ c = 0 := by assumption
        simp only [Exit.jump]
        go_ret3
        refine ⟨giEnd (a := nxt) (b := i + 1) (c := 0) ?_, rfl⟩
        have h := H.out
        rw [if_neg (by omega), if_neg (by omega), if_neg (by omega)] at h
        exact h.symm
    · have hq : ((i : Int) == s.size) = true := beq_iff_eq.2 (by omega)
      have H : Hid (getInt s.data.toList = (0, 0, 1)) := by
        have h := hJ.out
        have : s.data.toList.drop i = [] := List.drop_eq_nil_of_le (by simp; omega)
        rw [this] at h
        exact h.symm
      clear hJ
      go_wp2
      simp only [Exit.jump]
      go_ret3
      exact ⟨giEnd H.out, rfl⟩
end Go.Proofs.YtmngiekobmhpaaaGreat

/- What wire.Text and wire.GetText do. -/
namespace Go.Proofs.YtmngiekobmhpaaaGreat
open Go.RowKit

theorem mk_list (s : ByteArray) : (⟨s.data.toList.toArray⟩ : ByteArray) = s := by simp

theorem goInt_length (n : Int) : (goInt n).length ≤ 9 := by
  unfold goInt
  split
  · exact enc_length_nine _ (by omega)
  · simp

theorem extract_list (s : ByteArray) (a b : Nat) : s.extract a b = ⟨((s.data.toList.drop a).take (b - a)).toArray⟩ := by
  apply ByteArray.ext
  rw [ByteArray.data_extract]
  apply Array.ext'
  simp [List.extract]

theorem getInt_at (s : ByteArray) (w : World) (n k er : Nat) (hs : s.size ≤ maxLen) (hr : getInt s.data.toList = (n, k, er)) :
    Calls Tryz.prog 16 #[.string s] w fun e w' => e = .returned (.tuple #[.int .i64 n, .int .i64 k, .int .i64 er]) ∧ w' = w := by
  have h := getInt_any s w hs
  rw [hr] at h
  exact h

def gtVal (r : List UInt8 × Nat × Nat) : Value := .tuple #[.string ⟨r.1.toArray⟩, .int .i64 r.2.1, .int .i64 r.2.2]

set_option maxRecDepth 100000 in
set_option maxHeartbeats 1000000 in
theorem getText_any (s : ByteArray) (w : World) (hs : s.size ≤ maxLen) :
    Calls Tryz.prog 89 #[.string s] w fun e w' => e = .returned (gtVal (getText s.data.toList)) ∧ w' = w := by
  have hs0 : Hid (s.size ≤ maxLen) := hs
  unfold maxLen at hs
  rcases hr : getInt s.data.toList with ⟨n, k, er⟩
  have HR : Hid (getInt s.data.toList = (n, k, er)) := hr
  by_cases h1 : er = 0
  · subst h1
    have hb := getInt_bounds _ n k hr
    have hsz : s.data.toList.length = s.size := by simp
    rw [hsz] at hb
    have hb1 := hb.1
    have hb2 := hb.2.1
    have hb3 := hb.2.2
    by_cases h2 : 65536 < n
    · have H : Hid (getText s.data.toList = ([], 0, 8)) := by
        show _ = _
        simp [getText, hr, h2]
      clear hr hb hsz
      go_enter Tryz.func89, Tryz.ntmps89
      go_wp2_with fail
      refine (getInt_at s _ n k _ hs0.out HR.out).mono ?_
      rintro e w' ⟨rfl, rfl⟩
      go_wp2
      go_ret3
      exact ⟨by rw [H.out]; rfl, rfl⟩
    · by_cases h3 : s.size - k < n
      · have H : Hid (getText s.data.toList = ([], 0, 1)) := by
          show _ = _
          simp [getText, hr, h2, hsz, h3]
        clear hr hb hsz
        go_enter Tryz.func89, Tryz.ntmps89
        go_wp2_with fail
        refine (getInt_at s _ n k _ hs0.out HR.out).mono ?_
        rintro e w' ⟨rfl, rfl⟩
        go_wp2
        go_ret3
        exact ⟨by rw [H.out]; rfl, rfl⟩
      · have H : Hid (gtVal (getText s.data.toList) = .tuple #[.string (s.extract k (k + n)), .int .i64 ((k : Int) + n), .int .i64 0]) := by
          show _ = _
          simp [getText, hr, h2, hsz, h3, gtVal, extract_list]
        clear hr hb hsz
        go_enter Tryz.func89, Tryz.ntmps89
        go_wp2_with fail
        refine (getInt_at s _ n k _ hs0.out HR.out).mono ?_
        rintro e w' ⟨rfl, rfl⟩
        go_wp2
        go_ret3
        exact ⟨by rw [H.out]; rfl, rfl⟩
  · have hne : ((er : Int) != 0) = true := by rw [bne_iff_ne]; omega
    have H : Hid (getText s.data.toList = ([], 0, er)) := by
      show _ = _
      simp [getText, hr, h1]
    clear hr
    go_enter Tryz.func89, Tryz.ntmps89
    go_wp2_with fail
    refine (getInt_at s _ n k _ hs0.out HR.out).mono ?_
    rintro e w' ⟨rfl, rfl⟩
    go_wp2
    go_ret3
    exact ⟨by rw [H.out]; rfl, rfl⟩
end Go.Proofs.YtmngiekobmhpaaaGreat

/- What a strings.Builder that the call itself has made does at WriteString and at String, over this program. -/
namespace Go.Proofs.YtmngiekobmhpaaaGreat
open Go.RowKit
end Go.Proofs.YtmngiekobmhpaaaGreat

/- Rows of strings in memory, and a list's bytes. -/
namespace Go.Proofs.YtmngiekobmhpaaaGreat
open Go.RowKit

/-- A row of strings lies at an address (of no strings: whatever the address). -/
def StrsAt (w : World) (ao : Option Addr) (ss : List ByteArray) : Prop :=
  ∀ j (h : j < ss.length), ∃ b off, ao = some ⟨b, off, none⟩ ∧ b < w.heap.size ∧ w.cell? ⟨b, off + j, none⟩ = some (.string ss[j])

theorem StrsAt.below {w w' : World} {ao : Option Addr} {ss : List ByteArray} (h : StrsAt w ao ss) (hb : Below w.heap.size w w') : StrsAt w' ao ss := by
  intro j hj
  obtain ⟨b, off, h1, h2, h3⟩ := h j hj
  exact ⟨b, off, h1, Nat.lt_of_lt_of_le h2 hb.size, by rw [hb.cell (p := ⟨b, off + j, none⟩) h2]; exact h3⟩

def bl (ss : List ByteArray) : List (List UInt8) := ss.map (·.data.toList)

/-- A list's bytes. -/
def lst (l : List (List UInt8)) : List UInt8 := goInt l.length ++ l.flatMap txt

theorem size_mk (l : List UInt8) : (⟨l.toArray⟩ : ByteArray).size = l.length := by simp [ByteArray.size_mk']
end Go.Proofs.YtmngiekobmhpaaaGreat
