/- Texts as one: WireMath, WireInt, WireGetInt, WireText, WireBuilder, Strs, WireList, WireGetList, WireBackMath, ReadBase, HeaderMath. -/
import Derived.Test.YtmjkbdgcnoenbaaGreatDoorRows
import Derived.WalkKit
import Derived.WalkSpells
import Derived.WalkLawsBesides
import Derived.ScopeJumps
import Derived.WalkMore
import Derived.Lib.Builder
import Derived.Lib.AppendStr
import Derived.Lib.UnsafeStr
import Derived.Lib.Strings
import Derived.Laws.Externs
import Derived.RegionTactic
/- The plain mathematics of layer wire: what a number's bytes are ('enc'), and that there are at most nine. No program is named here. -/
namespace Go.Proofs.YtmjkbdgcnoenbaaGreatDoor

def encF : Nat → Nat → List UInt8
  | 0, n => [UInt8.ofNat n]
  | k + 1, n => if n < 128 then [UInt8.ofNat n] else UInt8.ofNat (128 + n % 128) :: encF k (n / 128)

def enc (n : Nat) : List UInt8 := encF n n

theorem encF_fuel : ∀ (k j n : Nat), n ≤ k → n ≤ j → encF k n = encF j n
  | 0, 0, _, _, _ => rfl
  | 0, j + 1, n, h, _ => by
    have : n = 0 := by omega
    subst this
    simp [encF]
  | k + 1, 0, n, _, h => by
    have : n = 0 := by omega
    subst this
    simp [encF]
  | k + 1, j + 1, n, h1, h2 => by
    rw [encF, encF]
    by_cases h : n < 128
    · rw [if_pos h, if_pos h]
    · rw [if_neg h, if_neg h, encF_fuel k j (n / 128) (by omega) (by omega)]

def goInt (n : Int) : List UInt8 := if 0 ≤ n ∧ n ≤ 4611686018427387903 then enc n.toNat else []

theorem enc_small (n : Nat) (h : n < 128) : enc n = [UInt8.ofNat n] := by
  unfold enc
  cases n with
  | zero => rfl
  | succ m => rw [encF, if_pos h]
theorem enc_big (n : Nat) (h : 128 ≤ n) : enc n = UInt8.ofNat (128 + n % 128) :: enc (n / 128) := by
  unfold enc
  cases n with
  | zero => omega
  | succ m => rw [encF, if_neg (by omega), encF_fuel m ((m + 1) / 128) ((m + 1) / 128) (by omega) (by omega)]

theorem enc_length_le : ∀ (k n : Nat), n < 128 ^ (k + 1) → (enc n).length ≤ k + 1
  | 0, n, h => by rw [enc_small n (by simpa using h)]; simp
  | k + 1, n, h => by
    by_cases h1 : n < 128
    · rw [enc_small n h1]; simp
    · rw [enc_big n (by omega)]
      have : n / 128 < 128 ^ (k + 1) := by rw [Nat.pow_succ] at h; omega
      have := enc_length_le k (n / 128) this
      simp; omega

theorem enc_length_nine (n : Nat) (h : n ≤ 4611686018427387903) : (enc n).length ≤ 9 := enc_length_le 8 n (by omega)

theorem enc_length_pos (n : Nat) : 0 < (enc n).length := by
  by_cases h1 : n < 128
  · rw [enc_small n h1]; simp
  · rw [enc_big n (by omega)]; simp

theorem goInt_nat (n : Nat) (h : n ≤ 4611686018427387903) : goInt n = enc n := by
  rw [goInt, if_pos (by omega)]; simp

/-- The number at the front of bytes: what has been gathered, at which byte; the answer: the number, in how many bytes, the error. -/
def giGo : List UInt8 → Nat → Nat → Nat × Nat × Nat
  | [], _, _ => (0, 0, 1)
  | c :: r, acc, i =>
    if 128 ≤ c.toNat then (if i + 1 = 9 then (0, 0, 2) else giGo r (acc + c.toNat % 128 * 128 ^ i) (i + 1))
    else if 4611686018427387903 < acc + c.toNat % 128 * 128 ^ i then (0, 0, 2)
    else if c.toNat = 0 ∧ 1 < i + 1 then (0, 0, 3)
    else (acc + c.toNat % 128 * 128 ^ i, i + 1, 0)

def getInt (l : List UInt8) : Nat × Nat × Nat := giGo l 0 0

theorem step_lt (acc i c : Nat) (h : acc < 128 ^ i) : acc + c % 128 * 128 ^ i < 128 ^ (i + 1) := by
  have h1 : c % 128 * 128 ^ i ≤ 127 * 128 ^ i := Nat.mul_le_mul_right _ (by omega)
  rw [Nat.pow_succ]
  omega

theorem step_lt63 (acc i c : Nat) (hi : i ≤ 8) (h : acc < 128 ^ i) : acc + c % 128 * 128 ^ i < 9223372036854775808 := by
  have h1 := step_lt acc i c h
  have h2 : 128 ^ (i + 1) ≤ 128 ^ 9 := Nat.pow_le_pow_right (by omega) (by omega)
  omega

theorem giGo_bounds : ∀ (l : List UInt8) (acc i : Nat), (giGo l acc i).2.2 = 0 → (giGo l acc i).1 ≤ 4611686018427387903 ∧ i + 1 ≤ (giGo l acc i).2.1 ∧ (giGo l acc i).2.1 ≤ i + l.length
  | [], _, _ => by intro h; simp [giGo] at h
  | c :: r, acc, i => by
    intro h
    rw [giGo] at h ⊢
    by_cases h1 : 128 ≤ c.toNat
    · rw [if_pos h1] at h ⊢
      by_cases h2 : i + 1 = 9
      · rw [if_pos h2] at h; simp at h
      · rw [if_neg h2] at h ⊢
        have := giGo_bounds r _ _ h
        simp only [List.length_cons]
        omega
    · rw [if_neg h1] at h ⊢
      by_cases h2 : 4611686018427387903 < acc + c.toNat % 128 * 128 ^ i
      · rw [if_pos h2] at h; simp at h
      · rw [if_neg h2] at h ⊢
        by_cases h3 : c.toNat = 0 ∧ 1 < i + 1
        · rw [if_pos h3] at h; simp at h
        · rw [if_neg h3]
          simp only [List.length_cons]
          omega

theorem getInt_bounds (l : List UInt8) (n k : Nat) (h : getInt l = (n, k, 0)) : n ≤ 4611686018427387903 ∧ 1 ≤ k ∧ k ≤ l.length := by
  have := giGo_bounds l 0 0 (by rw [← getInt, h])
  rw [← getInt, h] at this
  simpa using this

/-- A text's bytes. -/
def txt (l : List UInt8) : List UInt8 := goInt l.length ++ l

/-- The text at the front of bytes: the text, in how many bytes, the error. -/
def getText (l : List UInt8) : List UInt8 × Nat × Nat :=
  if (getInt l).2.2 ≠ 0 then ([], 0, (getInt l).2.2)
  else if 65536 < (getInt l).1 then ([], 0, 8)
  else if l.length - (getInt l).2.1 < (getInt l).1 then ([], 0, 1)
  else ((l.drop (getInt l).2.1).take (getInt l).1, (getInt l).2.1 + (getInt l).1, 0)

theorem getText_bounds (l t : List UInt8) (k : Nat) (h : getText l = (t, k, 0)) : 1 ≤ k ∧ k ≤ l.length ∧ t.length ≤ 65536 ∧ t.length + 1 ≤ k := by
  unfold getText at h
  rcases hr : getInt l with ⟨n, j, e⟩
  rw [hr] at h
  simp only at h
  by_cases h1 : e ≠ 0
  · rw [if_pos h1] at h; simp at h; omega
  · have h1 : e = 0 := by omega
    subst h1
    have hb := getInt_bounds l n j hr
    rw [if_neg (by simp)] at h
    by_cases h2 : 65536 < n
    · rw [if_pos h2] at h; simp at h
    · rw [if_neg h2] at h
      by_cases h3 : l.length - j < n
      · rw [if_pos h3] at h; simp at h
      · rw [if_neg h3] at h
        simp only [Prod.mk.injEq] at h
        obtain ⟨rfl, rfl, _⟩ := h
        simp only [List.length_take, List.length_drop]
        omega
end Go.Proofs.YtmjkbdgcnoenbaaGreatDoor

/- What wire.Int does: the bytes of a number, or nothing; nothing old in memory is turned. -/
namespace Go.Proofs.YtmjkbdgcnoenbaaGreatDoor
open Go.RowKit

theorem infoByte : (Tryz.prog.info? 5).map (fun i => (i.zero, i.size, i.bytes)) = some (some (.int .u8 0), 1, 1) := by kernel_rfl

def byteVal (b : UInt8) : Value := .int .u8 (b.toNat : Int)

theorem or_128 : ∀ a : Nat, a < 256 → a ||| 128 = 128 + a % 128 := by decide +kernel

theorem byte_more (m : Nat) : Value.int .u8 (bits .or .u8 ((m : Int) % 256) 128) = byteVal (UInt8.ofNat (128 + m % 128)) := by
  have h := u8_or_nat (m % 256) 128 (by omega) (by omega)
  have e : ((m : Int) % 256) = ((m % 256 : Nat) : Int) := by omega
  unfold byteVal
  rw [e]
  rw [show ((128 : Int)) = ((128 : Nat) : Int) from rfl, h, or_128 _ (by omega)]
  congr 1
  simp
  omega

theorem byte_last (m : Nat) (h : m < 128) : Value.int .u8 (m : Int) = byteVal (UInt8.ofNat m) := by
  unfold byteVal
  congr 1
  simp
  omega

/-- An owned row of bytes, made a string. -/
theorem own_string {w : World} {B : Nat} {v : Value} {l : List UInt8} (h : w.ownsRow B 5 1 v l.length (l.map byteVal)) :
    (convert 181 9 v).run Tryz.prog w = .ok (.string ⟨l.toArray⟩) w := by
  rcases h.2 with ⟨rfl, hn⟩ | ⟨g, cap, cur, rfl, _⟩
  · rw [List.length_eq_zero_iff] at hn
    subst hn
    exact run_convert_bytes_nil w 181 5 Tryz.underlying181 Tryz.underlying5 0 0 9 Tryz.underlying9
  · refine run_convert_bytes_back w 181 9 5 ⟨g, 0, none⟩ cap l Tryz.underlying181 Tryz.underlying5 Tryz.underlying9 (fun j hj => ?_)
    exact h.cells rfl j _ (by simp [List.getElem?_eq_getElem hj, byteVal])

set_option maxRecDepth 100000 in
set_option maxHeartbeats 400000 in
theorem int_yes (n : Nat) (w : World) (hn : n ≤ 4611686018427387903) :
    Calls Tryz.prog 100 #[.int .i64 n] w fun e w' => e = .returned (.string ⟨(enc n).toArray⟩) ∧ Below w.heap.size w w' := by
  obtain ⟨i0, hi, hz0, hz1, hz2⟩ := info_parts infoByte
  have h0 : ¬ ((n : Int) < 0) := by omega
  have h1 : ¬ ((4611686018427387903 : Int) < n) := by omega
  go_enter Tryz.func100, Tryz.ntmps100
  go_wp2
  go_loopw [0, 3] (fun v0 v3 wr => ∃ (m : Nat) (pre : List UInt8), m ≤ n ∧ v0 = .int .i64 m ∧ wr.ownsRow w.heap.size 5 1 v3 pre.length (pre.map byteVal) ∧ Below w.heap.size w wr ∧ Hid (pre ++ enc m = enc n)) (fun v0 _ _ => (intOf v0).toNat)
  case atStart => exact ⟨n, [], Nat.le_refl _, rfl, World.ownsRow_nil _ _ _ _, Below.refl _ _, rfl⟩
  case round =>
    obtain ⟨m, pre, hm, rfl, hown, hb, hpre⟩ := hrel
    have hlen : pre.length ≤ 9 := by
      have h9 := enc_length_nine n hn
      have h8 := congrArg List.length hpre.out
      simp at h8; omega
    have hsz := hb.size
    by_cases hlt : 128 ≤ m
    · go_wp2_with (at_builtin; refine wpList_append_own _ rfl _ _ 181 rfl w.heap.size 5 i0 (.int .u8 0) 1 1 Tryz.underlying181 hi hz0 hz1 hz2 rfl (by decide) _ _ _ rfl (hown.alloc _) ⟨wr.heap.size, 0, none⟩ 1 1 [byteVal (UInt8.ofNat (128 + m % 128))] rfl rfl ?c1 ?c2 ?c3 ?c4 ?c5 ?_)
      case c1 =>
        intro j u hj
        match j, hj with
        | 0, hj => simp at hj; subst hj; simp [Addr.add, byte_more]
      case c2 => intro u hu; simp at hu; subst hu; rfl
      case c3 => unfold maxLen; omega
      case c4 => omega
      case c5 => simp; omega
      · intro v' w1 hown' hgrow _
        have hb1 : Below w.heap.size w w1 := (hb.alloc hsz _).grown hgrow (by simp; omega) (fun k hk => (hown.lt k hk).1)
        have hown1 : w1.ownsRow w.heap.size 5 1 v' (pre ++ [UInt8.ofNat (128 + m % 128)]).length ((pre ++ [UInt8.ofNat (128 + m % 128)]).map byteVal) := by
          simpa using hown'
        have hp1 : Hid ((pre ++ [UInt8.ofNat (128 + m % 128)]) ++ enc (m / 128) = enc n) := by
          have := hpre.out
          rw [enc_big m hlt] at this
          show _ = _
          simpa using this
        clear hown' hgrow hown hpre hb
        go_wp2
        go_roundw
        case rel => exact ⟨m / 128, _, by omega, by go_num, hown1, hb1, hp1⟩
        case measure => simp [intOf]; omega
    · go_wp2_with (at_builtin; refine wpList_append_own _ rfl _ _ 181 rfl w.heap.size 5 i0 (.int .u8 0) 1 1 Tryz.underlying181 hi hz0 hz1 hz2 rfl (by decide) _ _ _ rfl (hown.alloc _) ⟨wr.heap.size, 0, none⟩ 1 1 [byteVal (UInt8.ofNat m)] rfl rfl ?d1 ?d2 ?d3 ?d4 ?d5 ?_)
      case d1 =>
        intro j u hj
        match j, hj with
        | 0, hj => simp at hj; subst hj; simp [Addr.add, byte_last m (by omega)]
      case d2 => intro u hu; simp at hu; subst hu; rfl
      case d3 => unfold maxLen; omega
      case d4 => omega
      case d5 => simp; omega
      · intro v' w1 hown' hgrow _
        have hb1 : Below w.heap.size w w1 := (hb.alloc hsz _).grown hgrow (by simp; omega) (fun k hk => (hown.lt k hk).1)
        have hown1 : w1.ownsRow w.heap.size 5 1 v' (pre ++ [UInt8.ofNat m]).length ((pre ++ [UInt8.ofNat m]).map byteVal) := by
          simpa using hown'
        have hp1 : pre ++ [UInt8.ofNat m] = enc n := by
          have := hpre.out
          rw [enc_small m (by omega)] at this
          exact this
        rw [hp1] at hown1
        have hcv := own_string hown1
        clear hown' hgrow hown hpre hb hp1 hown1
        go_wp2
        go_ret
        exact ⟨rfl, hb1⟩

set_option maxRecDepth 100000 in
set_option maxHeartbeats 400000 in
theorem int_no (n : Int) (w : World) (h : n < 0 ∨ 4611686018427387903 < n) :
    Calls Tryz.prog 100 #[.int .i64 n] w fun e w' => e = .returned (.string ⟨#[]⟩) ∧ w' = w := by
  rcases h with h | h
  · go_enter Tryz.func100, Tryz.ntmps100
    go_wp2
    go_ret
    exact ⟨rfl, rfl⟩
  · have h0 : ¬ n < 0 := by omega
    go_enter Tryz.func100, Tryz.ntmps100
    go_wp2
    go_ret
    exact ⟨rfl, rfl⟩

theorem int_any (n : Int) (w : World) :
    Calls Tryz.prog 100 #[.int .i64 n] w fun e w' => e = .returned (.string ⟨(goInt n).toArray⟩) ∧ Below w.heap.size w w' := by
  by_cases h : 0 ≤ n ∧ n ≤ 4611686018427387903
  · obtain ⟨m, rfl⟩ := Int.eq_ofNat_of_zero_le h.1
    have e : goInt (m : Int) = enc m := by rw [goInt, if_pos h]; simp
    rw [e]
    exact int_yes m w (by omega)
  · have e : goInt n = [] := by rw [goInt, if_neg h]
    rw [e]
    refine (int_no n w (by omega)).mono ?_
    rintro e w' ⟨rfl, rfl⟩
    exact ⟨rfl, Below.refl _ _⟩
end Go.Proofs.YtmjkbdgcnoenbaaGreatDoor

/- What wire.GetInt does: it reads a string's bytes and answers the number at their front, in how many bytes, and the error; memory stands. -/
namespace Go.Proofs.YtmjkbdgcnoenbaaGreatDoor
open Go.RowKit

theorem i64_or_nat (a b : Nat) (ha : a < 9223372036854775808) (hb : b < 9223372036854775808) : bits .or .i64 (a : Int) (b : Int) = ((a ||| b : Nat) : Int) := by
  have hx : a ||| b < 2 ^ 63 := Nat.or_lt_two_pow (by omega) (by omega)
  show IntKind.i64.wrap ((BitVec.ofInt 64 (a : Int) ||| BitVec.ofInt 64 (b : Int)).toNat : Int) = _
  rw [BitVec.toNat_or, ofInt_u64 a (by omega), ofInt_u64 b (by omega)]
  simp [IntKind.wrap, IntKind.bits, IntKind.signed]
  omega

theorem wrap64_id (n : Nat) (h : n < 9223372036854775808) : wrap64 (n : Int) = (n : Int) := by
  unfold wrap64
  omega

theorem or_step (acc i c : Nat) (hi : i ≤ 8) (ha : acc < 128 ^ i) : bits .or .i64 (acc : Int) (wrap64 ((c : Int) % 128 * 2 ^ (7 * i))) = ((acc + c % 128 * 128 ^ i : Nat) : Int) := by
  have hp : (2 : Nat) ^ (7 * i) = 128 ^ i := by rw [Nat.pow_mul]
  have h63 := step_lt63 acc i c hi ha
  have e : ((c : Int) % 128 * 2 ^ (7 * i)) = ((c % 128 * 128 ^ i : Nat) : Int) := by
    rw [← hp]; simp
  rw [e, wrap64_id _ (by omega), i64_or_nat _ _ (by omega) (by omega)]
  congr 1
  rw [Nat.or_comm, ← hp, nat_join (7 * i) _ _ (by simp) (by rw [hp]; exact ha)]
  omega

theorem or_first (c : Nat) : bits .or .i64 0 ((c : Int) % 128) = ((c % 128 : Nat) : Int) := by
  have h := i64_or_nat 0 (c % 128) (by omega) (by omega)
  rw [Nat.zero_or] at h
  rw [show ((0 : Int)) = ((0 : Nat) : Int) from rfl, show ((c : Int) % 128) = ((c % 128 : Nat) : Int) from by omega]
  exact h

theorem andNot_byte (c : Nat) (h : c < 256) : bits .andNot .u8 (c : Int) 128 = ((c % 128 : Nat) : Int) := by
  have h1 := u8_andNot_nat c 128 h (by omega)
  rw [show ((128 : Int)) = ((128 : Nat) : Int) from rfl, h1]
  congr 1
  exact nat_mask7 c

theorem drop_cons (s : ByteArray) (i : Nat) (h : i < s.size) : s.data.toList.drop i = s[i] :: s.data.toList.drop (i + 1) := by
  rw [List.drop_eq_getElem_cons (by simpa using h)]; rfl

def giVal (r : Nat × Nat × Nat) : Value := .tuple #[.int .i64 r.1, .int .i64 r.2.1, .int .i64 r.2.2]

theorem giEnd {r : Nat × Nat × Nat} {a b c : Nat} (h : r = (a, b, c)) : Ending.returned (.tuple #[.int .i64 (a : Int), .int .i64 (b : Int), .int .i64 (c : Int)]) = .returned (giVal r) := by
  rw [h]; rfl

set_option maxRecDepth 100000 in
set_option maxHeartbeats 1000000 in
theorem getInt_any (s : ByteArray) (w : World) (hs : s.size ≤ maxLen) :
    Calls Tryz.prog 123 #[.string s] w fun e w' => e = .returned (giVal (getInt s.data.toList)) ∧ w' = w := by
  unfold maxLen at hs
  go_enter Tryz.func123, Tryz.ntmps123
  go_wp2
  refine wp_scope_jumps 0 (fun a' w' => w' = w ∧ ∃ (acc i : Nat) (u7 u8 u9 u10 u11 u12 u13 u14 u15 u16 u17 u18 u19 u20 u21 u22 u23 u24 u25 u26 u27 u28 : Value), a' = { tmps := #[.string s, undef, .int .i64 0, .int .i64 0, .int .i64 0, .int .i64 acc, .int .i64 i, u7, u8, u9, u10, u11, u12, u13, u14, u15, u16, u17, u18, u19, u20, u21, u22, u23, u24, u25, u26, u27, u28, undef, undef, undef, undef, undef, undef, undef, undef, undef, undef], defers := [] } ∧ i ≤ 8 ∧ i ≤ s.size ∧ acc < 128 ^ i ∧ Hid (giGo (s.data.toList.drop i) acc i = getInt s.data.toList)) (fun a' _ => 9 - (intOf (a'.tmps.getD 6 undef)).toNat) rfl ?_ ?_
  · by_cases hlt : 0 < s.size
    · have hq : ((0 : Int) == s.size) = false := beq_eq_false_iff_ne.2 (by omega)
      have hd := drop_cons s 0 hlt
      obtain ⟨c, hc⟩ : ∃ c, s[0].toNat = c := ⟨_, rfl⟩
      have hc256 : c < 256 := by rw [← hc]; exact UInt8.toNat_lt _
      have hand := andNot_byte c hc256
      have hor := or_first c
      have H : Hid (getInt s.data.toList = if 128 ≤ c then giGo (s.data.toList.drop 1) (c % 128) 1 else (c % 128, 1, 0)) := by
        show _ = _
        rw [List.drop_zero] at hd
        rw [getInt, hd, giGo, hc]
        have h2 : ¬ (4611686018427387903 < c % 128) := by omega
        simp [h2]
      clear hd
      go_wp2
      go_step3
      go_wp2
      · have h1 : (128 : Int) ≤ c := by assumption
        go_step3
        refine ⟨rfl, rfl, c % 128, 1, _, _, _, _, _, _, _, _, _, _, _, _, _, _, _, _, _, _, _, _, _, _, rfl, by omega, by omega, by omega, ?_⟩
        have h := H.out
        rw [if_pos (by omega)] at h
        exact h.symm
      · have h1 : (c : Int) < 128 := by assumption
        simp only [Exit.jump]
        go_ret3
        refine ⟨?_, rfl⟩
        have h := H.out
        have h3 : c = 0 := by assumption
        rw [if_neg (by omega), h3] at h
        exact giEnd (a := 0) (b := 1) (c := 0) h
      · have h1 : (c : Int) < 128 := by assumption
        simp only [Exit.jump]
        go_ret3
        refine ⟨?_, rfl⟩
        have h := H.out
        rw [if_neg (by omega)] at h
        exact giEnd (a := c % 128) (b := 1) (c := 0) h
    · have hq : ((0 : Int) == s.size) = true := beq_iff_eq.2 (by omega)
      have H : Hid (getInt s.data.toList = (0, 0, 1)) := by
        have : s.data.toList = [] := List.eq_nil_of_length_eq_zero (by simpa using hlt)
        show _ = _
        rw [this]; rfl
      go_wp2
      go_step3
      go_wp2
      simp only [Exit.jump]
      go_ret3
      exact ⟨giEnd H.out, rfl⟩
  · rintro a' w' ⟨rfl, acc, i, u7, u8, u9, u10, u11, u12, u13, u14, u15, u16, u17, u18, u19, u20, u21, u22, u23, u24, u25, u26, u27, u28, rfl, hi, his, hacc, hJ⟩
    by_cases hlt : i < s.size
    · have hq : ((i : Int) == s.size) = false := beq_eq_false_iff_ne.2 (by omega)
      have hd := drop_cons s i hlt
      obtain ⟨c, hc⟩ : ∃ c, s[i].toNat = c := ⟨_, rfl⟩
      have hc256 : c < 256 := by rw [← hc]; exact UInt8.toNat_lt _
      have hand := andNot_byte c hc256
      have hor := or_step acc i c hi hacc
      have hnx := step_lt acc i c hacc
      rw [hd] at hJ
      have H : Hid ((if 128 ≤ c then (if i + 1 = 9 then (0, 0, 2) else giGo (s.data.toList.drop (i + 1)) (acc + c % 128 * 128 ^ i) (i + 1)) else if 4611686018427387903 < acc + c % 128 * 128 ^ i then (0, 0, 2) else if c = 0 ∧ 1 < i + 1 then (0, 0, 3) else (acc + c % 128 * 128 ^ i, i + 1, 0)) = getInt s.data.toList) := by
        have h := hJ.out
        rw [giGo, hc] at h
        exact h
      clear hJ hd
      generalize acc + c % 128 * 128 ^ i = nxt at *
      go_wp2
      · have h1 : (128 : Int) ≤ c := by assumption
        have h2 : ((i : Int) + 1 == 9) = true := by assumption
        simp only [Exit.jump]
        go_ret3
        refine ⟨giEnd (a := 0) (b := 0) (c := 2) ?_, rfl⟩
        have h := H.out
        rw [beq_iff_eq] at h2
        rw [if_pos (by omega), if_pos (by omega)] at h
        exact h.symm
      · have h1 : (128 : Int) ≤ c := by assumption
        have h2 : ((i : Int) + 1 == 9) = false := by assumption
        rw [beq_eq_false_iff_ne] at h2
        have h := H.out
        rw [if_pos (by omega), if_neg (by omega)] at h
        go_step3
        refine ⟨rfl, ⟨rfl, nxt, i + 1, _, _, _, _, _, _, _, _, _, _, _, _, _, _, _, _, _, _, _, _, _, _, rfl, by omega, by omega, hnx, h⟩, ?_⟩
        simp [intOf]
        omega
      · have h1 : (c : Int) < 128 := by assumption
        have h2 : (4611686018427387903 : Int) < nxt := by assumption
        simp only [Exit.jump]
        go_ret3
        refine ⟨giEnd (a := 0) (b := 0) (c := 2) ?_, rfl⟩
        have h := H.out
        rw [if_neg (by omega), if_pos (by omega)] at h
        exact h.symm
      · have h1 : (c : Int) < 128 := by assumption
        have h2 : (nxt : Int) ≤ 4611686018427387903 := by assumption
        have h3 : c = 0 := by assumption
        have h4 : (1 : Int) < (i : Int) + 1 := by assumption
        simp only [Exit.jump]
        go_ret3
        refine ⟨giEnd (a := 0) (b := 0) (c := 3) ?_, rfl⟩
        have h := H.out
        rw [if_neg (by omega), if_neg (by omega), if_pos (by omega)] at h
        exact h.symm
      · have h1 : (c : Int) < 128 := by assumption
        have h2 : (nxt : Int) ≤ 4611686018427387903 := by assumption
        have h3 : c = 0 := by assumption
        have h4 : (i : Int) + 1 ≤ 1 := by assumption
        simp only [Exit.jump]
        go_ret3
        refine ⟨giEnd (a := nxt) (b := i + 1) (c := 0) ?_, rfl⟩
        have h := H.out
        rw [if_neg (by omega), if_neg (by omega), if_neg (by omega)] at h
        exact h.symm
      · have h1 : (c : Int) < 128 := by assumption
        have h2 : (nxt : Int) ≤ 4611686018427387903 := by assumption
        have h3 : ¬ c = 0 := by assumption
        simp only [Exit.jump]
        go_ret3
        refine ⟨giEnd (a := nxt) (b := i + 1) (c := 0) ?_, rfl⟩
        have h := H.out
        rw [if_neg (by omega), if_neg (by omega), if_neg (by omega)] at h
        exact h.symm
    · have hq : ((i : Int) == s.size) = true := beq_iff_eq.2 (by omega)
      have H : Hid (getInt s.data.toList = (0, 0, 1)) := by
        have h := hJ.out
        have : s.data.toList.drop i = [] := List.drop_eq_nil_of_le (by simp; omega)
        rw [this] at h
        exact h.symm
      clear hJ
      go_wp2
      simp only [Exit.jump]
      go_ret3
      exact ⟨giEnd H.out, rfl⟩
end Go.Proofs.YtmjkbdgcnoenbaaGreatDoor

/- What wire.Text and wire.GetText do. -/
namespace Go.Proofs.YtmjkbdgcnoenbaaGreatDoor
open Go.RowKit

theorem mk_list (s : ByteArray) : (⟨s.data.toList.toArray⟩ : ByteArray) = s := by simp

theorem append_list (l : List UInt8) (s : ByteArray) : (⟨l.toArray⟩ ++ s : ByteArray) = ⟨(l ++ s.data.toList).toArray⟩ := by
  have := ByteArray.mk_append_mk l s.data.toList
  rw [mk_list] at this
  exact this

theorem goInt_length (n : Int) : (goInt n).length ≤ 9 := by
  unfold goInt
  split
  · exact enc_length_nine _ (by omega)
  · simp

theorem extract_list (s : ByteArray) (a b : Nat) : s.extract a b = ⟨((s.data.toList.drop a).take (b - a)).toArray⟩ := by
  apply ByteArray.ext
  rw [ByteArray.data_extract]
  apply Array.ext'
  simp [List.extract]

set_option maxRecDepth 100000 in
set_option maxHeartbeats 400000 in
theorem text_any (s : ByteArray) (w : World) (hs : s.size ≤ 140737488351232000) :
    Calls Tryz.prog 83 #[.string s] w fun e w' => e = .returned (.string ⟨(txt s.data.toList).toArray⟩) ∧ Below w.heap.size w w' := by
  have hg := goInt_length s.size
  have e1 : ∀ l : List UInt8, l = goInt s.size → Value.string (⟨l.toArray⟩ ++ s) = Value.string ⟨(txt s.data.toList).toArray⟩ := by
    rintro l rfl
    rw [append_list, txt]
    simp
  go_enter Tryz.func83, Tryz.ntmps83
  go_wp2_with fail
  refine (int_any _ _).mono ?_
  rintro e w' ⟨rfl, hb⟩
  obtain ⟨l, hl⟩ : ∃ l, l = goInt s.size := ⟨_, rfl⟩
  rw [← hl] at hg ⊢
  have E := e1 l hl
  clear e1 hl
  go_wp2
  go_ret
  exact ⟨rfl, hb⟩

theorem getInt_at (s : ByteArray) (w : World) (n k er : Nat) (hs : s.size ≤ maxLen) (hr : getInt s.data.toList = (n, k, er)) :
    Calls Tryz.prog 123 #[.string s] w fun e w' => e = .returned (.tuple #[.int .i64 n, .int .i64 k, .int .i64 er]) ∧ w' = w := by
  have h := getInt_any s w hs
  rw [hr] at h
  exact h

def gtVal (r : List UInt8 × Nat × Nat) : Value := .tuple #[.string ⟨r.1.toArray⟩, .int .i64 r.2.1, .int .i64 r.2.2]

set_option maxRecDepth 100000 in
set_option maxHeartbeats 1000000 in
theorem getText_any (s : ByteArray) (w : World) (hs : s.size ≤ maxLen) :
    Calls Tryz.prog 95 #[.string s] w fun e w' => e = .returned (gtVal (getText s.data.toList)) ∧ w' = w := by
  have hs0 : Hid (s.size ≤ maxLen) := hs
  unfold maxLen at hs
  rcases hr : getInt s.data.toList with ⟨n, k, er⟩
  have HR : Hid (getInt s.data.toList = (n, k, er)) := hr
  by_cases h1 : er = 0
  · subst h1
    have hb := getInt_bounds _ n k hr
    have hsz : s.data.toList.length = s.size := by simp
    rw [hsz] at hb
    have hb1 := hb.1
    have hb2 := hb.2.1
    have hb3 := hb.2.2
    by_cases h2 : 65536 < n
    · have H : Hid (getText s.data.toList = ([], 0, 8)) := by
        show _ = _
        simp [getText, hr, h2]
      clear hr hb hsz
      go_enter Tryz.func95, Tryz.ntmps95
      go_wp2_with fail
      refine (getInt_at s _ n k _ hs0.out HR.out).mono ?_
      rintro e w' ⟨rfl, rfl⟩
      go_wp2
      go_ret3
      exact ⟨by rw [H.out]; rfl, rfl⟩
    · by_cases h3 : s.size - k < n
      · have H : Hid (getText s.data.toList = ([], 0, 1)) := by
          show _ = _
          simp [getText, hr, h2, hsz, h3]
        clear hr hb hsz
        go_enter Tryz.func95, Tryz.ntmps95
        go_wp2_with fail
        refine (getInt_at s _ n k _ hs0.out HR.out).mono ?_
        rintro e w' ⟨rfl, rfl⟩
        go_wp2
        go_ret3
        exact ⟨by rw [H.out]; rfl, rfl⟩
      · have H : Hid (gtVal (getText s.data.toList) = .tuple #[.string (s.extract k (k + n)), .int .i64 ((k : Int) + n), .int .i64 0]) := by
          show _ = _
          simp [getText, hr, h2, hsz, h3, gtVal, extract_list]
        clear hr hb hsz
        go_enter Tryz.func95, Tryz.ntmps95
        go_wp2_with fail
        refine (getInt_at s _ n k _ hs0.out HR.out).mono ?_
        rintro e w' ⟨rfl, rfl⟩
        go_wp2
        go_ret3
        exact ⟨by rw [H.out]; rfl, rfl⟩
  · have hne : ((er : Int) != 0) = true := by rw [bne_iff_ne]; omega
    have H : Hid (getText s.data.toList = ([], 0, er)) := by
      show _ = _
      simp [getText, hr, h1]
    clear hr
    go_enter Tryz.func95, Tryz.ntmps95
    go_wp2_with fail
    refine (getInt_at s _ n k _ hs0.out HR.out).mono ?_
    rintro e w' ⟨rfl, rfl⟩
    go_wp2
    go_ret3
    exact ⟨by rw [H.out]; rfl, rfl⟩
end Go.Proofs.YtmjkbdgcnoenbaaGreatDoor

/- What a strings.Builder that the call itself has made does at WriteString and at String, over this program. -/
namespace Go.Proofs.YtmjkbdgcnoenbaaGreatDoor
open Go.RowKit

theorem sizeBuilder : (Tryz.prog.info? 183).map (·.size) = some 2 := by kernel_rfl
theorem liesBuilder : liesAt Tryz.prog Tryz.prog.depth 183 (2 / Tryz.prog.cellsOf 183) 0 183 1 = true := by kernel_rfl
theorem cellsByte : Tryz.prog.cellsOf 5 = 1 := by kernel_rfl

set_option maxRecDepth 100000 in
set_option maxHeartbeats 400000 in
theorem copyCheck_used (b : Nat) (w : World) (h0 : w.cell? ⟨b, 0, none⟩ = some (.pointer (some ⟨b, 0, none⟩))) :
    Calls Tryz.prog 141 #[.pointer (some ⟨b, 0, none⟩)] w fun e w' => e = .returned (.tuple #[]) ∧ w' = w := by
  obtain ⟨j, hj, _⟩ := Option.map_eq_some_iff.1 sizeBuilder
  go_enter Tryz.func141, Tryz.ntmps141
  go_wp2
  rw [Lib.run_neq_ptr_same w _ Tryz.underlying180 hj]
  go_wp2
  go_end0
  exact ⟨rfl, rfl⟩

set_option maxRecDepth 100000 in
set_option maxHeartbeats 400000 in
theorem copyCheck_fresh (b : Nat) (w : World) (h0 : w.cell? ⟨b, 0, none⟩ = some (.pointer none)) (hsh : w.shape? b = some (183, 2)) (hfz : w.frozen? ⟨b, 0, none⟩ = false) :
    Calls Tryz.prog 141 #[.pointer (some ⟨b, 0, none⟩)] w fun e w' => e = .returned (.tuple #[]) ∧ w' = w.setCell ⟨b, 0, none⟩ (.pointer (some ⟨b, 0, none⟩)) := by
  obtain ⟨j, hj, hjs⟩ := Option.map_eq_some_iff.1 sizeBuilder
  go_enter Tryz.func141, Tryz.ntmps141
  go_wp2
  rw [Lib.run_to_unsafe w ⟨b, 0, none⟩ Tryz.underlying180 Tryz.underlying235 hj (by rw [hjs]; decide) hsh (Nat.zero_lt_succ 1)]
  simp only [Result.andThen]
  rw [Oper.upon_value]
  go_wp2
  rw [run_callFunc_extern Tryz.func148 (by kernel_rfl) (by kernel_rfl) (by kernel_rfl) (e := Extern.AbiNoEscape.same) (by kernel_rfl)]
  rw [Lib.run_noEscape]
  simp only [Result.andThen]
  rw [Oper.upon_value]
  go_wp2
  rw [Lib.run_from_unsafe w ⟨b, 0, none⟩ Tryz.underlying235 Tryz.underlying180 hj hsh liesBuilder]
  simp only [Result.andThen]
  rw [Oper.upon_value]
  go_wp2
  go_end0
  exact ⟨rfl, rfl⟩

theorem copyCheck_any (B b : Nat) (bs : List Value) (w : World) (h : Lib.IsBuilder 183 5 B b bs w) :
    Calls Tryz.prog 141 #[.pointer (some ⟨b, 0, none⟩)] w fun e w' => e = .returned (.tuple #[]) ∧ (Lib.BuilderAt 183 5 B b (.pointer (some ⟨b, 0, none⟩)) bs w' ∧ Below B w w') := by
  rcases h with h | h
  · refine (copyCheck_fresh b w h.cell0 h.shape h.frozen0).mono ?_
    rintro e w' ⟨rfl, rfl⟩
    exact ⟨rfl, h.used _, (Below.refl B w).setCell (p := ⟨b, 0, none⟩) h.1 _⟩
  · refine (copyCheck_used b w h.cell0).mono ?_
    rintro e w' ⟨rfl, rfl⟩
    exact ⟨rfl, h, Below.refl B _⟩

set_option maxRecDepth 100000 in
set_option maxHeartbeats 400000 in
theorem write_any (B b : Nat) (bs : List Value) (s : ByteArray) (w : World) (h : Lib.IsBuilder 183 5 B b bs w) (hlen : bs.length + s.size ≤ 140737488355328) (hBw : B ≤ w.heap.size) :
    Calls Tryz.prog 115 #[.pointer (some ⟨b, 0, none⟩), .string s] w fun e w' => e = .returned (.tuple #[.int .i64 s.size, .nilIface]) ∧ (Lib.BuilderAt 183 5 B b (.pointer (some ⟨b, 0, none⟩)) (bs ++ Lib.strCells s) w' ∧ Below B w w') := by
  obtain ⟨i0, hi, hz0, hz1, hz2⟩ := info_parts infoByte
  go_enter Tryz.func115, Tryz.ntmps115
  go_wp2_with fail
  refine (copyCheck_any B b bs _ h).mono ?_
  rintro e w1 ⟨rfl, h1, hb1⟩
  obtain ⟨hB, v, hbk, hown, hne⟩ := h1
  have c1 : w1.cell? ⟨b, 1, none⟩ = some v := by rw [Lib.cell_of_heap hbk]; rfl
  go_wp2_with (at_builtin; refine Lib.wpList_append_own_string _ rfl _ _ 181 9 rfl B 5 i0 Tryz.underlying181 Tryz.underlying9 hi hz0 hz1 hz2 _ _ _ rfl hown s rfl ?c3 ?c4 ?c5 ?_)
  case c3 => unfold maxLen; omega
  case c4 => omega
  case c5 => have := hb1.size; omega
  intro v' w2 hown' hgrow _
  have hlt : b < w1.heap.size := (Array.getElem?_eq_some_iff.1 hbk).1
  have hb2 : w2.heap[b]? = some (.cells #[.pointer (some ⟨b, 0, none⟩), v] 183 (0, 0)) := by
    rw [hgrow.block b hlt (fun e => hne e.symm)]
    exact hbk
  have d1 : w2.cell? ⟨b, 1, none⟩ = some v := by rw [Lib.cell_of_heap hb2]; rfl
  have f1 : w2.frozen? ⟨b, 1, none⟩ = false := Lib.frozen_of_heap hb2 1
  obtain ⟨ao, n', cap, rfl⟩ : ∃ ao n' cap, v' = .slice ao n' cap := by
    rcases hown'.2 with ⟨hv, _⟩ | ⟨g, cap, cur, hv, _⟩
    · exact ⟨_, _, _, hv⟩
    · exact ⟨_, _, _, hv⟩
  have fin1 : Lib.BuilderAt 183 5 B b (.pointer (some ⟨b, 0, none⟩)) (bs ++ Lib.strCells s) (w2.setCell ⟨b, 1, none⟩ (.slice ao n' cap)) :=
    Lib.BuilderAt.put (T := 183) (e := 5) hB hb2 (bs' := bs ++ Lib.strCells s) (by simpa [Lib.strCells_length] using hown') (by decide)
  have fin2 : Below B w (w2.setCell ⟨b, 1, none⟩ (.slice ao n' cap)) :=
    (hb1.grown hgrow (by have := hb1.size; omega) (fun k hk => (hown.lt k hk).1)).setCell (p := ⟨b, 1, none⟩) hB _
  clear hown' hgrow hown hbk hb2 hb1 h hne hlt c1
  go_wp2
  go_ret2
  exact ⟨rfl, fin1, fin2⟩

set_option maxRecDepth 100000 in
set_option maxHeartbeats 400000 in
theorem string_any (B b : Nat) (l : List UInt8) (w : World) (h : Lib.IsBuilder 183 5 B b (Lib.byteCells l) w) (h0 : l ≠ []) :
    Calls Tryz.prog 117 #[.pointer (some ⟨b, 0, none⟩)] w fun e w' => e = .returned (.string ⟨l.toArray⟩) ∧ Below B w w' := by
  obtain ⟨p, hB, v, hbk, hown, hne⟩ : ∃ p, Lib.BuilderAt 183 5 B b p (Lib.byteCells l) w := by
    rcases h with h | h
    · exact ⟨_, h⟩
    · exact ⟨_, h⟩
  have hl0 : l.length ≠ 0 := by simpa using h0
  rw [Lib.byteCells_length] at hown
  obtain ⟨g, cap, cur, rfl, hbg, hg, hnc, hcm, hcs, htake⟩ : ∃ g cap cur, v = .slice (some ⟨g, 0, none⟩) l.length cap ∧ B ≤ g ∧ w.heap[g]? = some (.cells cur 5 (0, 0)) ∧ l.length ≤ cap ∧ cap ≤ maxLen ∧ cur.size = cap * 1 ∧ cur.toList.take (l.length * 1) = Lib.byteCells l := by
    rcases hown.2 with ⟨_, hz⟩ | ⟨g, cap, cur, hv, r⟩
    · exact absurd hz hl0
    · exact ⟨g, cap, cur, hv, r⟩
  have c1 : w.cell? ⟨b, 1, none⟩ = some (.slice (some ⟨g, 0, none⟩) l.length cap) := by rw [Lib.cell_of_heap hbk]; rfl
  have hSD : (Builtin.unsafeSliceData_ #[181] 222 #[.slice (some ⟨g, 0, none⟩) l.length cap]).run Tryz.prog w.drew = .ok (.pointer (some ⟨g, 0, none⟩)) w.drew :=
    Lib.run_unsafeSliceData_row _ _ _ _ _ _ (by omega)
  have hUS : (Builtin.unsafeString_ #[222, 3] 9 #[.pointer (some ⟨g, 0, none⟩), .int .i64 l.length]).run Tryz.prog w.drew = .ok (.string ⟨l.toArray⟩) (w.drew.freeze ⟨g, 0, none⟩ l.length) := by
    refine Lib.run_unsafeString_row w.drew 222 3 9 5 Tryz.underlying222 cellsByte g cur.size (by have hg' : w.drew.heap[g]? = some (.cells cur 5 (0, 0)) := hg; simp [World.shape?, hg']) l h0 (by omega) (by unfold maxLen at hcm; omega) ?_
    intro j x hx
    have := hown.cells (g := g) rfl j (.int .u8 x.toNat) (by simp [Lib.byteCells, hx])
    exact this
  have fin := Lib.below_freeze (Below.drew (Below.refl B w)) (p := ⟨g, 0, none⟩) hbg l.length
  clear hown hbk hg htake h hne
  go_enter Tryz.func117, Tryz.ntmps117
  go_wp2
  go_region
  all_goals (go_wp2; go_ret; exact ⟨rfl, fin⟩)
end Go.Proofs.YtmjkbdgcnoenbaaGreatDoor

/- Rows of strings in memory, and a list's bytes. -/
namespace Go.Proofs.YtmjkbdgcnoenbaaGreatDoor
open Go.RowKit

/-- A row of strings lies at an address (of no strings: whatever the address). -/
def StrsAt (w : World) (ao : Option Addr) (ss : List ByteArray) : Prop :=
  ∀ j (h : j < ss.length), ∃ b off, ao = some ⟨b, off, none⟩ ∧ b < w.heap.size ∧ w.cell? ⟨b, off + j, none⟩ = some (.string ss[j])

theorem StrsAt.below {w w' : World} {ao : Option Addr} {ss : List ByteArray} (h : StrsAt w ao ss) (hb : Below w.heap.size w w') : StrsAt w' ao ss := by
  intro j hj
  obtain ⟨b, off, h1, h2, h3⟩ := h j hj
  exact ⟨b, off, h1, Nat.lt_of_lt_of_le h2 hb.size, by rw [hb.cell (p := ⟨b, off + j, none⟩) h2]; exact h3⟩

def bl (ss : List ByteArray) : List (List UInt8) := ss.map (·.data.toList)

/-- A list's bytes. -/
def lst (l : List (List UInt8)) : List UInt8 := goInt l.length ++ l.flatMap txt

theorem take_flat (l : List (List UInt8)) (k : Nat) (h : k < l.length) : (l.take (k + 1)).flatMap txt = (l.take k).flatMap txt ++ txt l[k] := by
  rw [List.take_succ_eq_append_getElem h, List.flatMap_append]; simp

theorem take_flat_le (l : List (List UInt8)) (k : Nat) : ((l.take k).flatMap txt).length ≤ (l.flatMap txt).length := by
  have h : l.flatMap txt = (l.take k).flatMap txt ++ (l.drop k).flatMap txt := by rw [← List.flatMap_append, List.take_append_drop]
  rw [h]; simp

theorem size_mk (l : List UInt8) : (⟨l.toArray⟩ : ByteArray).size = l.length := by simp [ByteArray.size_mk']

theorem ret_str {l m : List UInt8} (h : l = m) : Ending.returned (.string ⟨l.toArray⟩) = .returned (.string ⟨m.toArray⟩) := by rw [h]

theorem goInt_ne (n : Nat) (h : n ≤ 4611686018427387903) : goInt n ≠ [] := by
  unfold goInt
  rw [if_pos (by omega)]
  have := enc_length_pos n
  intro e
  simp at e
  rw [e] at this
  simp at this
end Go.Proofs.YtmjkbdgcnoenbaaGreatDoor

/- What wire.List does: the texts' bytes behind their count; nothing old in memory is turned. -/
namespace Go.Proofs.YtmjkbdgcnoenbaaGreatDoor
open Go.RowKit

theorem grown_of_below {w w' : World} (h : Below w.heap.size w w') : w.grownBy w' none := ⟨h.os, h.tape, h.output, h.size, fun k hk _ => h.block k hk⟩

theorem builder_keep {T e : TypeId} {B b : Nat} {bs : List Value} {w w' : World} (h : Lib.IsBuilder T e B b bs w) (hb : Below w.heap.size w w') : Lib.IsBuilder T e B b bs w' := by
  have one : ∀ p, Lib.BuilderAt T e B b p bs w → Lib.BuilderAt T e B b p bs w' := by
    rintro p ⟨hB, v, hbk, hown, hne⟩
    refine ⟨hB, v, ?_, hown.kept (grown_of_below hb) ?_, hne⟩
    · rw [hb.block b (Array.getElem?_eq_some_iff.1 hbk).1]; exact hbk
    · cases hv : v.ownBlock <;> simp
  rcases h with h | h
  · exact Or.inl (one _ h)
  · exact Or.inr (one _ h)

set_option maxRecDepth 100000 in
set_option maxHeartbeats 1000000 in
theorem list_any (ao : Option Addr) (cap : Nat) (ss : List ByteArray) (w : World) (hc : StrsAt w ao ss) (hlen : (lst (bl ss)).length ≤ 140737488355328) (hn : ss.length ≤ 4611686018427387903) :
    Calls Tryz.prog 116 #[.slice ao ss.length cap] w fun e w' => e = .returned (.string ⟨(lst (bl ss)).toArray⟩) ∧ Below w.heap.size w w' := by
  have h0 : Lib.IsBuilder 183 5 w.heap.size w.heap.size [] (w.alloc (.cells #[.pointer none, .slice none 0 0] 183)) := Lib.fresh_isBuilder 183 5 w
  have b0 : Below w.heap.size w (w.alloc (.cells #[.pointer none, .slice none 0 0] 183)) := (Below.refl _ w).alloc (Nat.le_refl _) _
  have hbl : (bl ss).length = ss.length := by simp [bl]
  have hg9 := goInt_length ss.length
  have hL : ∀ k, k ≤ ss.length → (goInt ss.length ++ ((bl ss).take k).flatMap txt).length ≤ 140737488355328 := by
    intro k _
    have h1 := take_flat_le (bl ss) k
    have h2 : (lst (bl ss)).length = (goInt ss.length).length + ((bl ss).flatMap txt).length := by rw [lst, List.length_append, hbl]
    rw [List.length_append]
    omega
  have HL : Hid (∀ k, k ≤ ss.length → (goInt ss.length ++ ((bl ss).take k).flatMap txt).length ≤ 140737488355328) := hL
  have Hbl : Hid ((bl ss).length = ss.length) := hbl
  clear hL hlen hbl
  go_enter Tryz.func116, Tryz.ntmps116
  go_wp2_with fail
  refine (int_any _ _).mono ?_
  rintro e w1 ⟨rfl, hb1⟩
  have h1 := builder_keep h0 hb1
  have b1 : Below w.heap.size w w1 := b0.trans (hb1.mono (by simp))
  go_wp2_with fail
  refine (write_any w.heap.size w.heap.size [] _ _ h1 ?_ b1.size).mono ?_
  · rw [size_mk]; simp; omega
  rintro e w2 ⟨rfl, h2, hb2⟩
  have h2' : Lib.IsBuilder 183 5 w.heap.size w.heap.size (Lib.byteCells (goInt ss.length ++ ((bl ss).take 0).flatMap txt)) w2 := by
    refine Or.inr ?_
    rw [List.nil_append, Lib.strCells_eq] at h2
    simpa using h2
  have b2 : Below w.heap.size w w2 := b1.trans hb2
  clear h0 b0 h1 hb1 b1 h2 hb2
  go_wp2
  go_loopw [12] (fun i wr => ∃ k : Nat, k ≤ ss.length ∧ i = .int .i64 k ∧ Lib.IsBuilder 183 5 w.heap.size w.heap.size (Lib.byteCells (goInt ss.length ++ ((bl ss).take k).flatMap txt)) wr ∧ Below w.heap.size w wr) (fun i _ => ss.length - (intOf i).toNat)
  case atStart => exact ⟨0, Nat.zero_le _, rfl, h2', b2⟩
  case round =>
    clear h2' b2
    obtain ⟨k, hk, rfl, hI, hb⟩ := hrel
    by_cases hlt : k < ss.length
    · obtain ⟨b, off, rfl, hbl, hcell⟩ := (hc.below hb) k hlt
      have hkb : k < (bl ss).length := by rw [Hbl.out]; exact hlt
      have hek : (bl ss)[k] = ss[k].data.toList := by simp [bl]
      have hlen1 := HL.out (k + 1) hlt
      rw [take_flat _ _ hkb, hek, ← List.append_assoc, List.length_append] at hlen1
      have htl : ss[k].size ≤ (txt ss[k].data.toList).length := by simp [txt]
      have HE : Hid (goInt ss.length ++ ((bl ss).take (k + 1)).flatMap txt = (goInt ss.length ++ ((bl ss).take k).flatMap txt) ++ txt ss[k].data.toList) := by
        show _ = _
        rw [take_flat _ _ hkb, hek, ← List.append_assoc]
      clear hek hkb
      go_wp2_with fail
      refine (text_any _ _ (by omega)).mono ?_
      rintro e w3 ⟨rfl, hb3⟩
      have hI3 := builder_keep hI hb3
      have b3 : Below w.heap.size w w3 := hb.trans (hb3.mono hb.size)
      go_wp2_with fail
      refine (write_any w.heap.size w.heap.size _ _ _ hI3 ?_ b3.size).mono ?_
      · rw [size_mk, Lib.byteCells_length]; exact hlen1
      rintro e w4 ⟨rfl, h4, hb4⟩
      have h4' : Lib.IsBuilder 183 5 w.heap.size w.heap.size (Lib.byteCells (goInt ss.length ++ ((bl ss).take (k + 1)).flatMap txt)) w4 := by
        rw [HE.out, Lib.byteCells_append]
        exact Or.inr h4
      have b4 := b3.trans hb4
      clear hI hI3 hb3 b3 h4 hb4 hb
      go_wp2
      go_roundw
      case rel => exact ⟨k + 1, by omega, by go_num, h4', b4⟩
      case measure => simp [intOf]; omega
    · go_wp2_with fail
      refine (string_any w.heap.size w.heap.size _ _ hI ?_).mono ?_
      · have := goInt_ne ss.length hn
        intro e
        simp at e
        exact this e.1
      rintro e w3 ⟨rfl, hb3⟩
      go_wp2
      go_ret
      refine ⟨ret_str ?_, hb.trans hb3⟩
      have e1 : k = (bl ss).length := by rw [Hbl.out]; omega
      rw [e1, List.take_length, lst, Hbl.out]
end Go.Proofs.YtmjkbdgcnoenbaaGreatDoor

/- What wire.GetList does: the texts at the front of bytes, in new memory, in how many bytes, and the error; nothing old in memory is turned. -/
namespace Go.Proofs.YtmjkbdgcnoenbaaGreatDoor
open Go.RowKit

/-- m texts more, from a place on, behind those that are got. -/
def glGo (l : List UInt8) : Nat → Nat → List (List UInt8) → List (List UInt8) × Nat × Nat
  | 0, at_, acc => (acc, at_, 0)
  | m + 1, at_, acc => if (getText (l.drop at_)).2.2 ≠ 0 then ([], 0, (getText (l.drop at_)).2.2) else glGo l m (at_ + (getText (l.drop at_)).2.1) (acc ++ [(getText (l.drop at_)).1])

def getList (l : List UInt8) (most : Int) : List (List UInt8) × Nat × Nat :=
  if (getInt l).2.2 ≠ 0 then ([], 0, (getInt l).2.2)
  else if most < (getInt l).1 then ([], 0, 8)
  else glGo l (getInt l).1 (getInt l).2.1 []

def strVal (t : List UInt8) : Value := .string ⟨t.toArray⟩

def slLen : Value → Nat | .slice _ n _ => n | _ => 0

theorem infoString : (Tryz.prog.info? 9).map (fun i => (i.zero, i.size, i.bytes)) = some (some (.string ⟨#[]⟩), 1, 16) := by kernel_rfl

theorem extract_drop (s : ByteArray) (a : Nat) : (s.extract a s.size).data.toList = s.data.toList.drop a := by
  rw [extract_list]
  rw [List.take_of_length_le (by simp)]

theorem own_slice {w : World} {B : Nat} {e : TypeId} {v : Value} {n : Nat} {xs : List Value} (h : w.ownsRow B e 1 v n xs) : ∃ ao cap, v = .slice ao n cap := by
  rcases h.2 with ⟨rfl, rfl⟩ | ⟨g, cap, cur, rfl, _⟩
  · exact ⟨_, _, rfl⟩
  · exact ⟨_, _, rfl⟩

theorem getText_at (s : ByteArray) (w : World) (t : List UInt8) (k er : Nat) (hs : s.size ≤ maxLen) (hr : getText s.data.toList = (t, k, er)) :
    Calls Tryz.prog 95 #[.string s] w fun e w' => e = .returned (.tuple #[.string ⟨t.toArray⟩, .int .i64 k, .int .i64 er]) ∧ w' = w := by
  have h := getText_any s w hs
  rw [hr] at h
  exact h

def GotList (w w' : World) (r : List (List UInt8) × Nat × Nat) (v : Value) : Prop :=
  ∃ ao cap, v = .tuple #[.slice ao r.1.length cap, .int .i64 r.2.1, .int .i64 r.2.2] ∧ w'.ownsRow w.heap.size 9 1 (.slice ao r.1.length cap) r.1.length (r.1.map strVal)

set_option maxRecDepth 100000 in
set_option maxHeartbeats 1000000 in
theorem getList_any (s : ByteArray) (most : Int) (w : World) (R : Nat) (hs : s.size ≤ maxLen) (hR : s.size ≤ R ∨ most ≤ R) (hroom : R * 16 ≤ 140737488355328) :
    Calls Tryz.prog 129 #[.string s, .int .i64 most] w fun e w' => ∃ v, e = .returned v ∧ GotList w w' (getList s.data.toList most) v ∧ Below w.heap.size w w' := by
  obtain ⟨i0, hi, hz0, hz1, hz2⟩ := info_parts infoString
  have hs0 : Hid (s.size ≤ maxLen) := hs
  unfold maxLen at hs
  rcases hr : getInt s.data.toList with ⟨n, k, er⟩
  have HR : Hid (getInt s.data.toList = (n, k, er)) := hr
  by_cases h1 : er = 0
  · subst h1
    have hb := getInt_bounds _ n k hr
    have hsz : s.data.toList.length = s.size := by simp
    rw [hsz] at hb
    have hb1 := hb.1
    have hb2 := hb.2.1
    have hb3 := hb.2.2
    by_cases h2 : most < (n : Int)
    · have H : Hid (getList s.data.toList most = ([], 0, 8)) := by
        show _ = _
        simp [getList, hr, h2]
      clear hr hb hsz
      go_enter Tryz.func129, Tryz.ntmps129
      go_wp2_with fail
      refine (getInt_at s _ n k _ hs0.out HR.out).mono ?_
      rintro e w' ⟨rfl, rfl⟩
      go_wp2
      go_ret3
      refine ⟨_, rfl, ?_, Below.refl _ _⟩
      rw [H.out]
      exact ⟨none, 0, rfl, World.ownsRow_nil _ _ _ _⟩
    · have H : Hid (getList s.data.toList most = glGo s.data.toList n k []) := by
        show _ = _
        simp [getList, hr, h2]
      clear hr hb hsz
      go_enter Tryz.func129, Tryz.ntmps129
      go_wp2_with fail
      refine (getInt_at s _ n k _ hs0.out HR.out).mono ?_
      rintro e w' ⟨rfl, rfl⟩
      go_wp2
      go_loopw [8, 10] (fun v8 v10 wr => ∃ (ts : List (List UInt8)) (p : Nat) (ao : Option Addr) (cap : Nat), v8 = .int .i64 p ∧ v10 = .slice ao ts.length cap ∧ wr.ownsRow w'.heap.size 9 1 (.slice ao ts.length cap) ts.length (ts.map strVal) ∧ Below w'.heap.size w' wr ∧ p ≤ s.size ∧ ts.length + 1 ≤ p ∧ ts.length ≤ n ∧ Hid (getList s.data.toList most = glGo s.data.toList (n - ts.length) p ts)) (fun _ v10 _ => n - slLen v10)
      case atStart => exact ⟨[], k, none, 0, rfl, rfl, World.ownsRow_nil _ _ _ _, Below.refl _ _, hb3, by simpa using hb2, Nat.zero_le _, H⟩
      case round =>
        clear H
        obtain ⟨ts, p, ao, cap, rfl, rfl, hown, hbel, hp, htp, htn, HG⟩ := hrel
        by_cases hlt : ts.length < n
        · rcases ht : getText (s.data.toList.drop p) with ⟨t, j, et⟩
          obtain ⟨m, hm⟩ : ∃ m, n - ts.length = m + 1 := ⟨n - ts.length - 1, by omega⟩
          have HT : Hid (getText (s.extract p s.size).data.toList = (t, j, et)) := by
            show _ = _
            rw [extract_drop]; exact ht
          have hsl : Hid ((s.extract p s.size).size ≤ maxLen) := by
            show _ ≤ _
            rw [ByteArray.size_extract]
            unfold maxLen
            omega
          by_cases h3 : et = 0
          · subst h3
            have hj := getText_bounds _ t j ht
            have hjl : (s.data.toList.drop p).length = s.size - p := by simp
            rw [hjl] at hj
            have HG' : Hid (getList s.data.toList most = glGo s.data.toList (n - (ts ++ [t]).length) (p + j) (ts ++ [t])) := by
              have h := HG.out
              rw [hm, glGo, ht] at h
              have e1 : n - (ts ++ [t]).length = m := by simp; omega
              rw [e1]
              show _ = _
              simpa using h
            have hj1 := hj.1
            have hj2 := hj.2.1
            have hRt : (ts.length + 1) * 16 ≤ 140737488355328 := by
              have : ts.length + 1 ≤ R := by rcases hR with h | h <;> omega
              omega
            have hszw := hbel.size
            clear hj hjl ht HG hm
            go_wp2_with fail
            refine (getText_at _ _ t j 0 hsl.out HT.out).mono ?_
            rintro e w1 ⟨rfl, rfl⟩
            go_wp2_with (at_builtin; refine wpList_append_own _ rfl _ _ 31 rfl w'.heap.size 9 i0 (.string ⟨#[]⟩) 1 16 Tryz.underlying31 hi hz0 hz1 hz2 rfl (by decide) _ _ _ rfl (hown.alloc _) ⟨w1.heap.size, 0, none⟩ 1 1 [strVal t] rfl rfl ?c1 ?c2 ?c3 ?c4 ?c5 ?_)
            case c1 =>
              intro i u hj
              match i, hj with
              | 0, hj => simp at hj; subst hj; simp [Addr.add, strVal]
            case c2 => intro u hu; simp at hu; subst hu; rfl
            case c3 => unfold maxLen; omega
            case c4 => exact hRt
            case c5 => simp; omega
            · intro v' w2 hown' hgrow _
              have hb2 : Below w'.heap.size w' w2 := (hbel.alloc hszw _).grown hgrow (by simp; omega) (fun q hq => (hown.lt q hq).1)
              obtain ⟨ao', cap', rfl⟩ := own_slice hown'
              have hlt1 : (ts ++ [t]).length = ts.length + 1 := by simp
              have hown2 : w2.ownsRow w'.heap.size 9 1 (.slice ao' (ts ++ [t]).length cap') (ts ++ [t]).length ((ts ++ [t]).map strVal) := by
                rw [hlt1]
                simpa using hown'
              clear hown' hgrow hown hbel
              go_wp2
              go_roundw
              case rel => exact ⟨ts ++ [t], p + j, ao', cap', by go_num, by rw [hlt1], hown2, hb2, by omega, by omega, by omega, HG'⟩
              case measure => simp [slLen]; omega
          · have hne : ((et : Int) != 0) = true := by rw [bne_iff_ne]; omega
            have HE : Hid (getList s.data.toList most = ([], 0, et)) := by
              have h := HG.out
              rw [hm, glGo, ht] at h
              show _ = _
              simpa [h3] using h
            clear HG ht hm hown
            go_wp2_with fail
            refine (getText_at _ _ t j et hsl.out HT.out).mono ?_
            rintro e w1 ⟨rfl, rfl⟩
            go_wp2
            go_ret3
            refine ⟨_, rfl, ?_, hbel⟩
            rw [HE.out]
            exact ⟨none, 0, rfl, World.ownsRow_nil _ _ _ _⟩
        · have HE : Hid (getList s.data.toList most = (ts, p, 0)) := by
            have h := HG.out
            have e1 : n - ts.length = 0 := by omega
            rw [e1, glGo] at h
            exact h
          clear HG
          go_wp2
          go_ret3
          refine ⟨_, rfl, ?_, hbel⟩
          rw [HE.out]
          exact ⟨ao, cap, rfl, hown⟩
  · have hne : ((er : Int) != 0) = true := by rw [bne_iff_ne]; omega
    have H : Hid (getList s.data.toList most = ([], 0, er)) := by
      show _ = _
      simp [getList, hr, h1]
    clear hr
    go_enter Tryz.func129, Tryz.ntmps129
    go_wp2_with fail
    refine (getInt_at s _ n k _ hs0.out HR.out).mono ?_
    rintro e w' ⟨rfl, rfl⟩
    go_wp2
    go_ret3
    refine ⟨_, rfl, ?_, Below.refl _ _⟩
    rw [H.out]
    exact ⟨none, 0, rfl, World.ownsRow_nil _ _ _ _⟩
end Go.Proofs.YtmjkbdgcnoenbaaGreatDoor

/- The plain mathematics of layer wire, both ways: what is written is got again; what is got is written as it was; what is cut off is too short. -/
namespace Go.Proofs.YtmjkbdgcnoenbaaGreatDoor

theorem toNat_more (m : Nat) : (UInt8.ofNat (128 + m % 128)).toNat = 128 + m % 128 := by
  simp
  omega

theorem toNat_last (m : Nat) (h : m < 128) : (UInt8.ofNat m).toNat = m := by
  simp
  omega

theorem giGo_enc : ∀ (m acc i : Nat) (r : List UInt8), acc + m * 128 ^ i ≤ 4611686018427387903 → (i = 0 ∨ m ≠ 0) → i + (enc m).length ≤ 9 →
    giGo (enc m ++ r) acc i = (acc + m * 128 ^ i, i + (enc m).length, 0) := by
  intro m
  induction m using Nat.strongRecOn with
  | _ m ih =>
    intro acc i r h1 h2 h3
    by_cases hm : m < 128
    · rw [enc_small m hm] at h3 ⊢
      rw [List.singleton_append, giGo, toNat_last m hm, if_neg (by omega)]
      have e : m % 128 = m := by omega
      rw [e, if_neg (by omega), if_neg (by omega)]
      simp
    · rw [enc_big m (by omega)] at h3 ⊢
      have hp := enc_length_pos (m / 128)
      rw [List.length_cons] at h3
      rw [List.cons_append, giGo, toNat_more, if_pos (by omega), if_neg (by omega)]
      have e : (128 + m % 128) % 128 = m % 128 := by omega
      have e2 : acc + m % 128 * 128 ^ i + m / 128 * 128 ^ (i + 1) = acc + m * 128 ^ i := by
        have e3 : m = m % 128 + 128 * (m / 128) := by omega
        rw [Nat.pow_succ]
        conv => rhs; rw [e3]
        rw [Nat.add_mul, ← Nat.mul_assoc, Nat.mul_comm (m / 128) (128 ^ i), Nat.mul_comm 128 (m / 128), Nat.mul_assoc (m / 128) 128, Nat.mul_comm 128 (128 ^ i), ← Nat.mul_assoc (m / 128), Nat.mul_comm (m / 128) (128 ^ i)]
        omega
      rw [e, ih (m / 128) (by omega) _ _ r (by rw [e2]; exact h1) (by omega) (by omega), e2, List.length_cons]
      congr 2
      omega

theorem getInt_enc (n : Nat) (r : List UInt8) (h : n ≤ 4611686018427387903) : getInt (enc n ++ r) = (n, (enc n).length, 0) := by
  have := giGo_enc n 0 0 r (by simpa using h) (Or.inl rfl) (by have := enc_length_nine n h; omega)
  rw [getInt, this]
  simp

theorem giGo_back : ∀ (l : List UInt8) (acc i N k : Nat), giGo l acc i = (N, k, 0) → ∃ m, N = acc + m * 128 ^ i ∧ k = i + (enc m).length ∧ l.take (enc m).length = enc m ∧ (i = 0 ∨ m ≠ 0)
  | [], _, _, _, _ => by intro h; simp [giGo] at h
  | c :: r, acc, i, N, k => by
    intro h
    have hc : c.toNat < 256 := UInt8.toNat_lt c
    rw [giGo] at h
    by_cases h1 : 128 ≤ c.toNat
    · rw [if_pos h1] at h
      by_cases h2 : i + 1 = 9
      · rw [if_pos h2] at h; simp at h
      · rw [if_neg h2] at h
        obtain ⟨m, e1, e2, e3, e4⟩ := giGo_back r _ _ _ _ h
        have hm : m ≠ 0 := by omega
        have hen : enc (c.toNat % 128 + 128 * m) = c :: enc m := by
          rw [enc_big _ (by omega)]
          have a1 : (c.toNat % 128 + 128 * m) / 128 = m := by omega
          have a2 : 128 + (c.toNat % 128 + 128 * m) % 128 = c.toNat := by omega
          rw [a1, a2]
          simp
        refine ⟨c.toNat % 128 + 128 * m, ?_, ?_, ?_, by omega⟩
        · rw [e1, Nat.pow_succ, Nat.add_mul, Nat.mul_comm (128 ^ i) 128, ← Nat.mul_assoc, Nat.mul_comm m 128]
          omega
        · rw [hen, List.length_cons]; omega
        · rw [hen, List.length_cons, List.take_succ_cons, e3]
    · rw [if_neg h1] at h
      by_cases h2 : 4611686018427387903 < acc + c.toNat % 128 * 128 ^ i
      · rw [if_pos h2] at h; simp at h
      · rw [if_neg h2] at h
        by_cases h3 : c.toNat = 0 ∧ 1 < i + 1
        · rw [if_pos h3] at h; simp at h
        · rw [if_neg h3] at h
          simp only [Prod.mk.injEq] at h
          have hen : enc c.toNat = [c] := by rw [enc_small _ (by omega)]; simp
          have e : c.toNat % 128 = c.toNat := by omega
          rw [e] at h
          refine ⟨c.toNat, h.1.symm, ?_, ?_, by omega⟩
          · rw [hen]; simp; omega
          · rw [hen]; simp

theorem getInt_back (l : List UInt8) (n k : Nat) (h : getInt l = (n, k, 0)) : l.take k = enc n ∧ k = (enc n).length := by
  obtain ⟨m, e1, e2, e3, _⟩ := giGo_back l 0 0 n k h
  simp at e1 e2
  subst e1
  subst e2
  exact ⟨e3, rfl⟩

theorem txt_enc (t : List UInt8) (h : t.length ≤ 4611686018427387903) : txt t = enc t.length ++ t := by
  rw [txt, goInt_nat _ h]

theorem getText_txt (t r : List UInt8) (h : t.length ≤ 65536) : getText (txt t ++ r) = (t, (txt t).length, 0) := by
  rw [txt_enc t (by omega), List.append_assoc]
  unfold getText
  rw [getInt_enc _ _ (by omega)]
  simp only [ne_eq, not_true_eq_false, if_false]
  rw [if_neg (by omega), if_neg (by simp)]
  simp

theorem getText_back (l t : List UInt8) (k : Nat) (h : getText l = (t, k, 0)) : txt t = l.take k := by
  have hb := getText_bounds l t k h
  unfold getText at h
  rcases hr : getInt l with ⟨n, j, e⟩
  rw [hr] at h
  simp only at h
  by_cases h1 : e ≠ 0
  · rw [if_pos h1] at h; simp at h; omega
  · have h1 : e = 0 := by omega
    subst h1
    obtain ⟨g1, g2⟩ := getInt_back l n j hr
    have hbb := getInt_bounds l n j hr
    rw [if_neg (by simp)] at h
    by_cases h2 : 65536 < n
    · rw [if_pos h2] at h; simp at h
    · rw [if_neg h2] at h
      by_cases h3 : l.length - j < n
      · rw [if_pos h3] at h; simp at h
      · rw [if_neg h3] at h
        simp only [Prod.mk.injEq] at h
        obtain ⟨rfl, rfl, _⟩ := h
        have hlen : (List.take n (List.drop j l)).length = n := by simp; omega
        rw [txt_enc _ (by omega), hlen, ← g1, List.take_add]

theorem glGo_flat : ∀ (ts : List (List UInt8)) (pre r : List UInt8) (acc : List (List UInt8)), (∀ t ∈ ts, t.length ≤ 65536) →
    glGo (pre ++ (ts.flatMap txt ++ r)) ts.length pre.length acc = (acc ++ ts, pre.length + (ts.flatMap txt).length, 0)
  | [], pre, r, acc, _ => by simp [glGo]
  | t :: ts, pre, r, acc, h => by
    have ht : t.length ≤ 65536 := h t (by simp)
    rw [List.length_cons, glGo, List.drop_left]
    have e1 : (t :: ts).flatMap txt ++ r = txt t ++ (ts.flatMap txt ++ r) := by simp
    rw [e1, getText_txt t _ ht]
    simp only [ne_eq, not_true_eq_false, if_false]
    have e2 : pre ++ (txt t ++ (ts.flatMap txt ++ r)) = (pre ++ txt t) ++ (ts.flatMap txt ++ r) := by simp
    have e3 : pre.length + (txt t).length = (pre ++ txt t).length := by simp
    rw [e2, e3, glGo_flat ts (pre ++ txt t) r (acc ++ [t]) (fun x hx => h x (by simp [hx]))]
    simp
    omega

theorem getList_lst (ts : List (List UInt8)) (r : List UInt8) (most : Int) (h : ∀ t ∈ ts, t.length ≤ 65536) (hn : ts.length ≤ 4611686018427387903) (hm : (ts.length : Int) ≤ most) :
    getList (lst ts ++ r) most = (ts, (lst ts).length, 0) := by
  have e : lst ts ++ r = enc ts.length ++ (ts.flatMap txt ++ r) := by rw [lst, goInt_nat _ hn]; simp
  unfold getList
  rw [e, getInt_enc _ _ hn]
  simp only [ne_eq, not_true_eq_false, if_false]
  rw [if_neg (by omega), glGo_flat ts (enc ts.length) r [] h, lst, goInt_nat _ hn]
  simp
end Go.Proofs.YtmjkbdgcnoenbaaGreatDoor

/- Reading field by field, whatever is read: the first error, or what follows. -/
namespace Go.Proofs.YtmjkbdgcnoenbaaGreatDoor
open Go.RowKit
set_option linter.unusedVariables false

def mks (ts : List (List UInt8)) : List ByteArray := ts.map (fun t => ⟨t.toArray⟩)

theorem bl_mks (ts : List (List UInt8)) : bl (mks ts) = ts := by
  simp [bl, mks, List.map_map, Function.comp_def]

theorem mks_bl (ss : List ByteArray) : mks (bl ss) = ss := by
  simp [bl, mks, List.map_map, Function.comp_def]

theorem glGo_back (l : List UInt8) : ∀ (m at_ : Nat) (acc ts : List (List UInt8)) (k : Nat), at_ ≤ l.length → glGo l m at_ acc = (ts, k, 0) →
    ∃ us, ts = acc ++ us ∧ us.length = m ∧ k = at_ + (us.flatMap txt).length ∧ (l.drop at_).take (us.flatMap txt).length = us.flatMap txt ∧ k ≤ l.length ∧ ∀ t ∈ us, t.length ≤ 65536
  | 0, at_, acc, ts, k, hl, h => by
    rw [glGo] at h
    simp only [Prod.mk.injEq] at h
    obtain ⟨rfl, rfl, _⟩ := h
    exact ⟨[], by simp, rfl, by simp, by simp, hl, by simp⟩
  | m + 1, at_, acc, ts, k, hl, h => by
    rcases hg : getText (l.drop at_) with ⟨t, j, e⟩
    rw [glGo, hg] at h
    by_cases he : e ≠ 0
    · rw [if_pos he] at h
      simp only [Prod.mk.injEq] at h
      exact absurd h.2.2 he
    rw [if_neg he] at h
    have he0 : e = 0 := by omega
    subst he0
    have hb := getText_bounds _ t j hg
    have hk := getText_back _ t j hg
    rw [List.length_drop] at hb
    obtain ⟨us, e1, e2, e3, e4, e5, e6⟩ := glGo_back l m (at_ + j) (acc ++ [t]) ts k (by omega) h
    have hj : (txt t).length = j := by rw [hk, List.length_take, List.length_drop]; omega
    refine ⟨t :: us, by rw [e1]; simp, by simp [e2], ?_, ?_, e5, ?_⟩
    · rw [e3, List.flatMap_cons, List.length_append, hj]; omega
    · rw [List.flatMap_cons, List.length_append, hj, List.take_add, ← hk, List.drop_drop, e4]
    · intro x hx
      rw [List.mem_cons] at hx
      rcases hx with rfl | hx
      · exact hb.2.2.1
      · exact e6 x hx

theorem getList_back {l : List UInt8} {most : Int} {ts : List (List UInt8)} {k : Nat} (h : getList l most = (ts, k, 0)) :
    l.take k = lst ts ∧ k = (lst ts).length ∧ k ≤ l.length ∧ (ts.length : Int) ≤ most ∧ ∀ t ∈ ts, t.length ≤ 65536 := by
  rcases hg : getInt l with ⟨n, j, e⟩
  unfold getList at h
  rw [hg] at h
  by_cases he : e ≠ 0
  · rw [if_pos he] at h
    simp only [Prod.mk.injEq] at h
    exact absurd h.2.2 he
  rw [if_neg he] at h
  have he0 : e = 0 := by omega
  subst he0
  by_cases hm : most < (n : Int)
  · rw [if_pos hm] at h
    simp only [Prod.mk.injEq] at h
    omega
  rw [if_neg hm] at h
  have hb := getInt_bounds _ n j hg
  have hk := getInt_back _ n j hg
  obtain ⟨us, e1, e2, e3, e4, e5, e6⟩ := glGo_back l n j [] ts k hb.2.2 h
  rw [List.nil_append] at e1
  subst e1
  have hc : goInt (ts.length : Int) = enc n := by rw [e2]; exact goInt_nat n hb.1
  have hl : lst ts = enc n ++ ts.flatMap txt := by rw [lst, hc]
  have hkl : k = (lst ts).length := by rw [hl, List.length_append, ← hk.2]; exact e3
  refine ⟨?_, hkl, e5, by omega, e6⟩
  rw [hkl, hl, List.length_append, List.take_add, ← hk.2, hk.1, e4]

theorem rest_le (r : ByteArray) (k : Nat) (h : r.size ≤ maxLen) : (r.extract k r.size).size ≤ maxLen := by
  rw [ByteArray.size_extract]
  omega

section
variable {α : Type}

def rdI (l : List UInt8) (f : Nat → List UInt8 → Except Nat α) : Except Nat α := if (getInt l).2.2 ≠ 0 then .error (getInt l).2.2 else f (getInt l).1 (l.drop (getInt l).2.1)
def rdT (l : List UInt8) (f : List UInt8 → List UInt8 → Except Nat α) : Except Nat α := if (getText l).2.2 ≠ 0 then .error (getText l).2.2 else f (getText l).1 (l.drop (getText l).2.1)
def rdL (most : Int) (l : List UInt8) (f : List (List UInt8) → List UInt8 → Except Nat α) : Except Nat α := if (getList l most).2.2 ≠ 0 then .error (getList l most).2.2 else f (getList l most).1 (l.drop (getList l most).2.1)

theorem rdI_ok {l : List UInt8} {f : Nat → List UInt8 → Except Nat α} {n k : Nat} (h : getInt l = (n, k, 0)) : rdI l f = f n (l.drop k) := by
  unfold rdI; rw [h]; rfl
theorem rdI_err {l : List UInt8} {f : Nat → List UInt8 → Except Nat α} {n k er : Nat} (h : getInt l = (n, k, er)) (he : er ≠ 0) : rdI l f = .error er := by
  unfold rdI; rw [h, if_pos he]
theorem rdT_ok {l : List UInt8} {f : List UInt8 → List UInt8 → Except Nat α} {t : List UInt8} {k : Nat} (h : getText l = (t, k, 0)) : rdT l f = f t (l.drop k) := by
  unfold rdT; rw [h]; rfl
theorem rdT_err {l : List UInt8} {f : List UInt8 → List UInt8 → Except Nat α} {t : List UInt8} {k er : Nat} (h : getText l = (t, k, er)) (he : er ≠ 0) : rdT l f = .error er := by
  unfold rdT; rw [h, if_pos he]
theorem rdL_ok {most : Int} {l : List UInt8} {f : List (List UInt8) → List UInt8 → Except Nat α} {t : List (List UInt8)} {k : Nat} (h : getList l most = (t, k, 0)) : rdL most l f = f t (l.drop k) := by
  unfold rdL; rw [h]; rfl
theorem rdL_err {most : Int} {l : List UInt8} {f : List (List UInt8) → List UInt8 → Except Nat α} {t : List (List UInt8)} {k er : Nat} (h : getList l most = (t, k, er)) (he : er ≠ 0) : rdL most l f = .error er := by
  unfold rdL; rw [h, if_pos he]

theorem rdI_enc {f : Nat → List UInt8 → Except Nat α} (n : Nat) (r : List UInt8) (h : n ≤ 4611686018427387903) : rdI (enc n ++ r) f = f n r := by
  rw [rdI_ok (getInt_enc n r h), List.drop_left]
theorem rdT_txt {f : List UInt8 → List UInt8 → Except Nat α} (t r : List UInt8) (h : t.length ≤ 65536) : rdT (txt t ++ r) f = f t r := by
  rw [rdT_ok (getText_txt t r h), List.drop_left]
theorem rdL_lst {f : List (List UInt8) → List UInt8 → Except Nat α} (most : Int) (ts : List (List UInt8)) (r : List UInt8) (h : ∀ t ∈ ts, t.length ≤ 65536) (hn : ts.length ≤ 4611686018427387903) (hm : (ts.length : Int) ≤ most) : rdL most (lst ts ++ r) f = f ts r := by
  rw [rdL_ok (getList_lst ts r most h hn hm), List.drop_left]

theorem rdI_back {l : List UInt8} {f : Nat → List UInt8 → Except Nat α} {d : α} (h : rdI l f = .ok d) : ∃ n r, l = enc n ++ r ∧ n ≤ 4611686018427387903 ∧ f n r = .ok d := by
  rcases hg : getInt l with ⟨n, k, e⟩
  by_cases he : e = 0
  · subst he
    rw [rdI_ok hg] at h
    have hb := getInt_bounds _ n k hg
    have hk := getInt_back _ n k hg
    exact ⟨n, l.drop k, by rw [← hk.1, List.take_append_drop], hb.1, h⟩
  · rw [rdI_err hg he] at h
    cases h
theorem rdT_back {l : List UInt8} {f : List UInt8 → List UInt8 → Except Nat α} {d : α} (h : rdT l f = .ok d) : ∃ t r, l = txt t ++ r ∧ t.length ≤ 65536 ∧ f t r = .ok d := by
  rcases hg : getText l with ⟨t, k, e⟩
  by_cases he : e = 0
  · subst he
    rw [rdT_ok hg] at h
    have hb := getText_bounds _ t k hg
    have hk := getText_back _ t k hg
    exact ⟨t, l.drop k, by rw [hk, List.take_append_drop], hb.2.2.1, h⟩
  · rw [rdT_err hg he] at h
    cases h
theorem rdL_back {most : Int} {l : List UInt8} {f : List (List UInt8) → List UInt8 → Except Nat α} {d : α} (h : rdL most l f = .ok d) : ∃ t r, l = lst t ++ r ∧ (t.length : Int) ≤ most ∧ (∀ x ∈ t, x.length ≤ 65536) ∧ f t r = .ok d := by
  rcases hg : getList l most with ⟨t, k, e⟩
  by_cases he : e = 0
  · subst he
    rw [rdL_ok hg] at h
    have hk := getList_back hg
    exact ⟨t, l.drop k, by rw [← hk.1, List.take_append_drop], hk.2.2.2.1, hk.2.2.2.2, h⟩
  · rw [rdL_err hg he] at h
    cases h

/-- Each in its turn; the first error. -/
def eachE {β : Type} (f : β → Except Nat α) : List β → Except Nat (List α)
  | [] => .ok []
  | b :: r => match f b with
    | .error e => .error e
    | .ok a => match eachE f r with
      | .error e => .error e
      | .ok xs => .ok (a :: xs)

theorem eachE_back {β : Type} {f : β → Except Nat α} {g : α → β} (hg : ∀ b a, f b = .ok a → g a = b) : ∀ (bs : List β) (xs : List α), eachE f bs = .ok xs → xs.map g = bs
  | [], xs, h => by
    simp only [eachE, Except.ok.injEq] at h
    subst h
    rfl
  | b :: r, xs, h => by
    rw [eachE] at h
    cases hb : f b with
    | error e => rw [hb] at h; cases h
    | ok a =>
      rw [hb] at h
      cases hr : eachE f r with
      | error e => rw [hr] at h; cases h
      | ok xs' =>
        rw [hr] at h
        simp only [Except.ok.injEq] at h
        subst h
        rw [List.map_cons, hg b a hb, eachE_back hg r xs' hr]

theorem eachE_all {β : Type} {f : β → Except Nat α} {p : α → Prop} (hp : ∀ b a, f b = .ok a → p a) : ∀ (bs : List β) (xs : List α), eachE f bs = .ok xs → ∀ a ∈ xs, p a
  | [], xs, h => by
    simp only [eachE, Except.ok.injEq] at h
    subst h
    simp
  | b :: r, xs, h => by
    rw [eachE] at h
    cases hb : f b with
    | error e => rw [hb] at h; cases h
    | ok a =>
      rw [hb] at h
      cases hr : eachE f r with
      | error e => rw [hr] at h; cases h
      | ok xs' =>
        rw [hr] at h
        simp only [Except.ok.injEq] at h
        subst h
        intro x hx
        rw [List.mem_cons] at hx
        rcases hx with rfl | hx
        · exact hp b x hb
        · exact eachE_all hp r xs' hr x hx

theorem eachE_map {β : Type} {f : β → Except Nat α} {g : α → β} : ∀ (xs : List α), (∀ a ∈ xs, f (g a) = .ok a) → eachE f (xs.map g) = .ok xs
  | [], _ => rfl
  | a :: r, h => by
    rw [List.map_cons, eachE, h a (by simp)]
    simp only
    rw [eachE_map r (fun x hx => h x (by simp [hx]))]
end

theorem eachE_take {β α : Type} {f : β → Except Nat α} (l : List β) (k : Nat) (b : β) (hb : l[k]? = some b) (xs : List α) (h : eachE f (l.take k) = .ok xs) :
    (∀ a, f b = .ok a → eachE f (l.take (k + 1)) = .ok (xs ++ [a])) ∧ (∀ e, f b = .error e → eachE f l = .error e) := by
  induction l generalizing k xs with
  | nil => simp at hb
  | cons c r ih =>
    cases k with
    | zero =>
      simp at hb
      subst hb
      simp [eachE] at h
      subst h
      refine ⟨fun a ha => by simp [eachE, ha], fun e he => by simp [eachE, he]⟩
    | succ k =>
      simp at hb
      rw [List.take_succ_cons, eachE] at h
      cases hc : f c with
      | error e => rw [hc] at h; cases h
      | ok a0 =>
        rw [hc] at h
        cases hr : eachE f (r.take k) with
        | error e => rw [hr] at h; cases h
        | ok ys =>
          rw [hr] at h
          simp at h
          subst h
          obtain ⟨i1, i2⟩ := ih k hb ys hr
          refine ⟨fun a ha => ?_, fun e he => ?_⟩
          · rw [List.take_succ_cons, eachE, hc]
            simp only
            rw [i1 a ha]
            rfl
          · rw [eachE, hc]
            simp only
            rw [i2 e he]

theorem eachE_err {α β : Type} {f : β → Except Nat α} (hf : ∀ b e, f b = .error e → e ≠ 0) : ∀ (bs : List β) (e : Nat), eachE f bs = .error e → e ≠ 0
  | [], e, h => by cases h
  | b :: r, e, h => by
    rw [eachE] at h
    cases hb : f b with
    | error e' =>
      rw [hb] at h
      simp only [Except.error.injEq] at h
      subst h
      exact hf b e' hb
    | ok a =>
      rw [hb] at h
      cases hr : eachE f r with
      | error e' =>
        rw [hr] at h
        simp only [Except.error.injEq] at h
        subst h
        exact eachE_err hf r e' hr
      | ok xs => rw [hr] at h; cases h
end Go.Proofs.YtmjkbdgcnoenbaaGreatDoor

/- Layer 6's mathematics: tags' bytes and a header's, both ways round; when a header is right. -/
namespace Go.Proofs.YtmjkbdgcnoenbaaGreatDoor
open Go.RowKit
set_option linter.unusedVariables false

/-- A tag. -/
structure TagD where
  who : Int
  mac : ByteArray

def tagB (t : TagD) : List UInt8 := goInt t.who ++ t.mac.data.toList
def tagsB (l : List TagD) : List UInt8 := lst (l.map tagB)

/-- A tag that can be read. -/
structure TagD.Fit (t : TagD) : Prop where
  lo : 0 ≤ t.who
  hi : t.who ≤ 6
  mac : t.mac.size = 16

def getTag (m : List UInt8) : Except Nat TagD :=
  rdI m fun n r => if 6 < n then .error 2 else if r.length ≠ 16 then .error 3 else .ok ⟨(n : Int), ⟨r.toArray⟩⟩

theorem getTag_tag {t : TagD} (h : t.Fit) : getTag (tagB t) = .ok t := by
  obtain ⟨who, mac⟩ := t
  obtain ⟨n, rfl⟩ := Int.eq_ofNat_of_zero_le h.lo
  have hn : n ≤ 6 := by have := h.hi; simp only at this; omega
  have hm : mac.data.toList.length = 16 := by have := h.mac; simpa using this
  unfold getTag tagB
  simp only
  rw [goInt_nat n (by omega), rdI_enc n _ (by omega), if_neg (by omega), if_neg (by rw [hm]; simp), mk_list]

theorem getTag_back {m : List UInt8} {t : TagD} (h : getTag m = .ok t) : tagB t = m ∧ t.Fit := by
  unfold getTag at h
  obtain ⟨n, r, e, hn, h⟩ := rdI_back h
  split at h
  · cases h
  split at h
  · cases h
  rename_i h1 h2
  simp only [Except.ok.injEq] at h
  subst h
  have hr : r.length = 16 := by omega
  refine ⟨?_, by show (0 : Int) ≤ n; omega, by show (n : Int) ≤ 6; omega, by show (⟨r.toArray⟩ : ByteArray).size = 16; rw [size_mk]; exact hr⟩
  unfold tagB
  simp only
  rw [goInt_nat n hn, e]

theorem tagB_len {t : TagD} (h : t.Fit) : (tagB t).length ≤ 25 := by
  have := goInt_length t.who
  have h2 : t.mac.data.toList.length = 16 := by have := h.mac; simpa using this
  unfold tagB
  rw [List.length_append]
  omega

/-- The tags at the front of bytes, in how many, and the error. -/
def getTagsL (l : List UInt8) : List TagD × Nat × Nat :=
  if (getList l 7).2.2 ≠ 0 then ([], 0, (getList l 7).2.2) else match eachE getTag (getList l 7).1 with
    | .error e => ([], 0, e)
    | .ok ts => (ts, (getList l 7).2.1, 0)

theorem getTag_err {m : List UInt8} {e : Nat} (h : getTag m = .error e) : e ≠ 0 := by
  unfold getTag at h
  rcases hg : getInt m with ⟨n, k, er⟩
  by_cases he : er = 0
  · subst he
    rw [rdI_ok hg] at h
    split at h
    · simp only [Except.error.injEq] at h; omega
    split at h
    · simp only [Except.error.injEq] at h; omega
    cases h
  · rw [rdI_err hg he] at h
    simp only [Except.error.injEq] at h
    omega

theorem getTags_tags {l : List TagD} (r : List UInt8) (h : ∀ t ∈ l, t.Fit) (hl : l.length ≤ 7) : getTagsL (tagsB l ++ r) = (l, (tagsB l).length, 0) := by
  have hg : getList (tagsB l ++ r) 7 = (l.map tagB, (lst (l.map tagB)).length, 0) := getList_lst (l.map tagB) r 7 (by
    intro t ht
    obtain ⟨x, hx, rfl⟩ := List.mem_map.1 ht
    have := tagB_len (h x hx)
    omega) (by rw [List.length_map]; omega) (by rw [List.length_map]; omega)
  unfold getTagsL
  rw [hg, if_neg (by simp), eachE_map l (fun t ht => getTag_tag (h t ht))]
  rfl

theorem getTags_back {l : List UInt8} {ts : List TagD} {k : Nat} (h : getTagsL l = (ts, k, 0)) : l.take k = tagsB ts ∧ k = (tagsB ts).length ∧ k ≤ l.length ∧ ts.length ≤ 7 ∧ ∀ t ∈ ts, t.Fit := by
  rcases hg : getList l 7 with ⟨ms, j, e⟩
  unfold getTagsL at h
  rw [hg] at h
  by_cases he : e ≠ 0
  · rw [if_pos he] at h
    simp only [Prod.mk.injEq] at h
    exact absurd h.2.2 he
  rw [if_neg he] at h
  have he0 : e = 0 := by omega
  subst he0
  cases hm : eachE getTag ms with
  | error er =>
    rw [hm] at h
    simp only [Prod.mk.injEq] at h
    exact absurd h.2.2 (eachE_err (fun b e => getTag_err) ms er hm)
  | ok xs =>
    rw [hm] at h
    simp only [Prod.mk.injEq] at h
    obtain ⟨rfl, rfl, _⟩ := h
    obtain ⟨b1, b2, b3, b4, _⟩ := getList_back hg
    have hb := eachE_back (g := tagB) (fun b a hba => (getTag_back hba).1) ms xs hm
    have hf := eachE_all (p := TagD.Fit) (fun b a hba => (getTag_back hba).2) ms xs hm
    have hlen : xs.length = ms.length := by rw [← hb, List.length_map]
    unfold tagsB
    rw [hb]
    exact ⟨b1, b2, b3, by omega, hf⟩

section
variable {α : Type}

def rdG (l : List UInt8) (f : List TagD → List UInt8 → Except Nat α) : Except Nat α := if (getTagsL l).2.2 ≠ 0 then .error (getTagsL l).2.2 else f (getTagsL l).1 (l.drop (getTagsL l).2.1)

theorem rdG_ok {l : List UInt8} {f : List TagD → List UInt8 → Except Nat α} {t : List TagD} {k : Nat} (h : getTagsL l = (t, k, 0)) : rdG l f = f t (l.drop k) := by
  unfold rdG; rw [h]; rfl
theorem rdG_err {l : List UInt8} {f : List TagD → List UInt8 → Except Nat α} {t : List TagD} {k er : Nat} (h : getTagsL l = (t, k, er)) (he : er ≠ 0) : rdG l f = .error er := by
  unfold rdG; rw [h, if_pos he]
theorem rdG_tags {f : List TagD → List UInt8 → Except Nat α} (t : List TagD) (r : List UInt8) (h : ∀ x ∈ t, x.Fit) (hl : t.length ≤ 7) : rdG (tagsB t ++ r) f = f t r := by
  rw [rdG_ok (getTags_tags r h hl), List.drop_left]
theorem rdG_back {l : List UInt8} {f : List TagD → List UInt8 → Except Nat α} {d : α} (h : rdG l f = .ok d) : ∃ t r, l = tagsB t ++ r ∧ t.length ≤ 7 ∧ (∀ x ∈ t, x.Fit) ∧ f t r = .ok d := by
  rcases hg : getTagsL l with ⟨t, k, e⟩
  by_cases he : e = 0
  · subst he
    rw [rdG_ok hg] at h
    obtain ⟨b1, _, _, b4, b5⟩ := getTags_back hg
    exact ⟨t, l.drop k, by rw [← b1, List.take_append_drop], b4, b5, h⟩
  · rw [rdG_err hg he] at h
    cases h
end

/-- A Ref. -/
structure RefD where
  digest : ByteArray
  acks : List TagD

def refB (r : RefD) : List UInt8 := txt r.digest.data.toList ++ tagsB r.acks

/-- A Ref that can be read. -/
structure RefD.Fit (r : RefD) : Prop where
  dig : r.digest.size ≤ 65536
  few : r.acks.length ≤ 7
  all : ∀ t ∈ r.acks, t.Fit

section
variable {α : Type}

def rdRefs : Nat → List UInt8 → (List RefD → List UInt8 → Except Nat α) → Except Nat α
  | 0, l, f => f [] l
  | n + 1, l, f => rdT l fun d l => rdG l fun ts l => rdRefs n l fun rs l => f (⟨⟨d.toArray⟩, ts⟩ :: rs) l

theorem rdRefs_refs : ∀ (rs : List RefD) (r : List UInt8) (f : List RefD → List UInt8 → Except Nat α), (∀ x ∈ rs, x.Fit) → rdRefs rs.length (rs.flatMap refB ++ r) f = f rs r
  | [], r, f, _ => rfl
  | x :: rs, r, f, h => by
    have hx := h x (by simp)
    have hd : x.digest.data.toList.length ≤ 65536 := by have := hx.dig; simpa using this
    rw [List.length_cons, rdRefs, List.flatMap_cons, refB, List.append_assoc, List.append_assoc, rdT_txt _ _ hd, rdG_tags _ _ hx.all hx.few, rdRefs_refs rs r _ (fun y hy => h y (by simp [hy])), mk_list]

theorem rdRefs_back : ∀ (n : Nat) (l : List UInt8) (f : List RefD → List UInt8 → Except Nat α) (d : α), rdRefs n l f = .ok d → ∃ rs r, l = rs.flatMap refB ++ r ∧ rs.length = n ∧ (∀ x ∈ rs, x.Fit) ∧ f rs r = .ok d
  | 0, l, f, d, h => ⟨[], l, rfl, rfl, by simp, h⟩
  | n + 1, l, f, d, h => by
    rw [rdRefs] at h
    obtain ⟨t, r1, e1, b1, h⟩ := rdT_back h
    obtain ⟨g, r2, e2, b2, b3, h⟩ := rdG_back h
    obtain ⟨rs, r3, e3, b4, b5, h⟩ := rdRefs_back n r2 _ d h
    refine ⟨⟨⟨t.toArray⟩, g⟩ :: rs, r3, ?_, by rw [List.length_cons, b4], ?_, h⟩
    · rw [List.flatMap_cons, refB, e1, e2, e3]
      simp only [List.append_assoc]
    · intro x hx
      rw [List.mem_cons] at hx
      rcases hx with rfl | hx
      · exact ⟨by rw [size_mk]; exact b1, b2, b3⟩
      · exact b5 x hx
end

/-- A header. -/
structure HdrD where
  author : Int
  round : Int
  refs : List RefD
  parents : List ByteArray

def encH (h : HdrD) : List UInt8 := goInt h.author ++ goInt h.round ++ goInt (h.refs.length : Int) ++ h.refs.flatMap refB ++ lst (bl h.parents)

/-- A header from the front of bytes, and what is left. -/
def rdH {α : Type} (l : List UInt8) (f : HdrD → List UInt8 → Except Nat α) : Except Nat α :=
  rdI l fun a l => rdI l fun r l => rdI l fun n l => if 4 < n then .error 8 else rdRefs n l fun rs l => rdL 7 l fun ps l => f ⟨(a : Int), (r : Int), rs, mks ps⟩ l

def decH (l : List UInt8) : Except Nat HdrD := rdH l fun h l => if l ≠ [] then .error 6 else if 6 < h.author then .error 2 else .ok h

/-- A header that can be read. -/
structure HdrD.Fit (h : HdrD) : Prop where
  a0 : 0 ≤ h.author
  a6 : h.author ≤ 6
  r0 : 0 ≤ h.round
  rM : h.round ≤ 4611686018427387903
  few : h.refs.length ≤ 4
  refs : ∀ x ∈ h.refs, x.Fit
  ps : h.parents.length ≤ 7
  pz : ∀ p ∈ h.parents, p.size ≤ 65536

theorem rdH_enc {α : Type} {h : HdrD} (hf : h.Fit) (r : List UInt8) (f : HdrD → List UInt8 → Except Nat α) : rdH (encH h ++ r) f = f h r := by
  obtain ⟨a, ha⟩ := Int.eq_ofNat_of_zero_le hf.a0
  obtain ⟨n, hn⟩ := Int.eq_ofNat_of_zero_le hf.r0
  have h1 := hf.a6
  have h2 := hf.rM
  have h3 := hf.few
  have h4 := hf.ps
  have e : encH h ++ r = enc a ++ (enc n ++ (enc h.refs.length ++ (h.refs.flatMap refB ++ (lst (bl h.parents) ++ r)))) := by
    unfold encH
    rw [ha, hn, goInt_nat a (by omega), goInt_nat n (by omega), goInt_nat h.refs.length (by omega)]
    simp only [List.append_assoc]
  rw [e]
  unfold rdH
  rw [rdI_enc a _ (by omega), rdI_enc n _ (by omega), rdI_enc h.refs.length _ (by omega), if_neg (by omega), rdRefs_refs _ _ _ hf.refs, rdL_lst 7 _ _ ?_ (by simp [bl]; omega) (by simp [bl]; omega)]
  · rw [mks_bl, ← ha, ← hn]
  · intro t ht
    obtain ⟨p, hp, rfl⟩ := List.mem_map.1 ht
    have := hf.pz p hp
    simpa using this

/-- A header that is written is read as it was; with bytes behind it: too many. -/
theorem decH_enc {h : HdrD} (hf : h.Fit) (r : List UInt8) : decH (encH h ++ r) = if r = [] then .ok h else .error 6 := by
  unfold decH
  rw [rdH_enc hf]
  have h1 := hf.a6
  by_cases hr : r = []
  · rw [if_neg (by simpa using hr), if_neg (by omega), if_pos hr]
  · rw [if_pos hr, if_neg hr]

/-- Texts of 32 bytes, strictly rising, behind one (none ahead of the first: nothing is below every text of 32 bytes). -/
def risingGo : Option ByteArray → List ByteArray → Nat
  | _, [] => 0
  | a, k :: r => if k.size ≠ 32 then 3 else if (match a with | none => false | some x => Op.bytesLess k.toList x.toList || k.toList == x.toList) = true then 9 else risingGo (some k) r

def risingL (l : List ByteArray) : Nat := risingGo none l

/-- Refs: size, order, enough. en: what is wrong with tags of a word. -/
def refsGo (en : List TagD → ByteArray → Nat) : Option ByteArray → List RefD → Nat
  | _, [] => 0
  | a, x :: r => if x.digest.size ≠ 32 then 3 else if (match a with | none => false | some y => Op.bytesLess x.digest.toList y.toList || x.digest.toList == y.toList) = true then 9 else if en x.acks x.digest ≠ 0 then en x.acks x.digest else refsGo en (some x.digest) r

/-- What is wrong with a header, n validators, need of them enough. -/
def checkH (n need : Nat) (en : List TagD → ByteArray → Nat) (h : HdrD) : Nat :=
  if h.author < 0 ∨ (n : Int) ≤ h.author ∨ h.round < 1 ∨ 4611686018427387903 < h.round then 2 else if 4 < h.refs.length then 8 else if refsGo en none h.refs ≠ 0 then refsGo en none h.refs
  else if risingL h.parents ≠ 0 then risingL h.parents else if h.round = 1 ∧ 0 < h.parents.length then 3 else if 1 < h.round ∧ h.parents.length < need then 12 else if n < h.parents.length then 8 else 0
end Go.Proofs.YtmjkbdgcnoenbaaGreatDoor
