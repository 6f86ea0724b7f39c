/- Texts as one: WireMath, WireInt, WireGetInt, WireText, WireBuilder, Strs. -/
import Derived.Test.YtcjmeaikdfgapaaDoorRows
import Derived.WalkKit
import Derived.WalkSpells
import Derived.WalkLawsBesides
import Derived.ScopeJumps
import Derived.WalkMore
import Derived.Lib.Builder
import Derived.Lib.AppendStr
import Derived.Lib.UnsafeStr
import Derived.Lib.Strings
import Derived.Laws.Externs
import Derived.RegionTactic
/- The plain mathematics of layer wire: what a number's bytes are ('enc'), and that there are at most nine. No program is named here. -/
namespace Go.Proofs.YtcjmeaikdfgapaaDoor

def encF : Nat → Nat → List UInt8
  | 0, n => [UInt8.ofNat n]
  | k + 1, n => if n < 128 then [UInt8.ofNat n] else UInt8.ofNat (128 + n % 128) :: encF k (n / 128)

def enc (n : Nat) : List UInt8 := encF n n

theorem encF_fuel : ∀ (k j n : Nat), n ≤ k → n ≤ j → encF k n = encF j n
  | 0, 0, _, _, _ => rfl
  | 0, j + 1, n, h, _ => by
    have : n = 0 := by omega
    subst this
    simp [encF]
  | k + 1, 0, n, _, h => by
    have : n = 0 := by omega
    subst this
    simp [encF]
  | k + 1, j + 1, n, h1, h2 => by
    rw [encF, encF]
    by_cases h : n < 128
    · rw [if_pos h, if_pos h]
    · rw [if_neg h, if_neg h, encF_fuel k j (n / 128) (by omega) (by omega)]

def goInt (n : Int) : List UInt8 := if 0 ≤ n ∧ n ≤ 4611686018427387903 then enc n.toNat else []

theorem enc_small (n : Nat) (h : n < 128) : enc n = [UInt8.ofNat n] := by
  unfold enc
  cases n with
  | zero => rfl
  | succ m => rw [encF, if_pos h]
theorem enc_big (n : Nat) (h : 128 ≤ n) : enc n = UInt8.ofNat (128 + n % 128) :: enc (n / 128) := by
  unfold enc
  cases n with
  | zero => omega
  | succ m => rw [encF, if_neg (by omega), encF_fuel m ((m + 1) / 128) ((m + 1) / 128) (by omega) (by omega)]

theorem enc_length_le : ∀ (k n : Nat), n < 128 ^ (k + 1) → (enc n).length ≤ k + 1
  | 0, n, h => by rw [enc_small n (by simpa using h)]; simp
  | k + 1, n, h => by
    by_cases h1 : n < 128
    · rw [enc_small n h1]; simp
    · rw [enc_big n (by omega)]
      have : n / 128 < 128 ^ (k + 1) := by rw [Nat.pow_succ] at h; omega
      have := enc_length_le k (n / 128) this
      simp; omega

theorem enc_length_nine (n : Nat) (h : n ≤ 4611686018427387903) : (enc n).length ≤ 9 := enc_length_le 8 n (by omega)

theorem enc_length_pos (n : Nat) : 0 < (enc n).length := by
  by_cases h1 : n < 128
  · rw [enc_small n h1]; simp
  · rw [enc_big n (by omega)]; simp

theorem enc_mono : ∀ (a b : Nat), a ≤ b → (enc a).length ≤ (enc b).length := by
  intro a
  induction a using Nat.strongRecOn with
  | _ a ih =>
    intro b h
    by_cases h1 : a < 128
    · rw [enc_small a h1]
      exact enc_length_pos b
    · rw [enc_big a (by omega), enc_big b (by omega)]
      have := ih (a / 128) (by omega) (b / 128) (by omega)
      simp
      omega

theorem goInt_nat (n : Nat) (h : n ≤ 4611686018427387903) : goInt n = enc n := by
  rw [goInt, if_pos (by omega)]; simp

/-- The number at the front of bytes: what has been gathered, at which byte; the answer: the number, in how many bytes, the error. -/
def giGo : List UInt8 → Nat → Nat → Nat × Nat × Nat
  | [], _, _ => (0, 0, 1)
  | c :: r, acc, i =>
    if 128 ≤ c.toNat then (if i + 1 = 9 then (0, 0, 2) else giGo r (acc + c.toNat % 128 * 128 ^ i) (i + 1))
    else if 4611686018427387903 < acc + c.toNat % 128 * 128 ^ i then (0, 0, 2)
    else if c.toNat = 0 ∧ 1 < i + 1 then (0, 0, 3)
    else (acc + c.toNat % 128 * 128 ^ i, i + 1, 0)

def getInt (l : List UInt8) : Nat × Nat × Nat := giGo l 0 0

theorem pow_le_nine (i : Nat) (h : i ≤ 8) : 128 ^ i ≤ 72057594037927936 := by
  have : 128 ^ i ≤ 128 ^ 8 := Nat.pow_le_pow_right (by omega) h
  omega

theorem step_lt (acc i c : Nat) (h : acc < 128 ^ i) : acc + c % 128 * 128 ^ i < 128 ^ (i + 1) := by
  have h1 : c % 128 * 128 ^ i ≤ 127 * 128 ^ i := Nat.mul_le_mul_right _ (by omega)
  rw [Nat.pow_succ]
  omega

theorem step_lt63 (acc i c : Nat) (hi : i ≤ 8) (h : acc < 128 ^ i) : acc + c % 128 * 128 ^ i < 9223372036854775808 := by
  have h1 := step_lt acc i c h
  have h2 : 128 ^ (i + 1) ≤ 128 ^ 9 := Nat.pow_le_pow_right (by omega) (by omega)
  omega

theorem giGo_bounds : ∀ (l : List UInt8) (acc i : Nat), (giGo l acc i).2.2 = 0 → (giGo l acc i).1 ≤ 4611686018427387903 ∧ i + 1 ≤ (giGo l acc i).2.1 ∧ (giGo l acc i).2.1 ≤ i + l.length
  | [], _, _ => by intro h; simp [giGo] at h
  | c :: r, acc, i => by
    intro h
    rw [giGo] at h ⊢
    by_cases h1 : 128 ≤ c.toNat
    · rw [if_pos h1] at h ⊢
      by_cases h2 : i + 1 = 9
      · rw [if_pos h2] at h; simp at h
      · rw [if_neg h2] at h ⊢
        have := giGo_bounds r _ _ h
        simp only [List.length_cons]
        omega
    · rw [if_neg h1] at h ⊢
      by_cases h2 : 4611686018427387903 < acc + c.toNat % 128 * 128 ^ i
      · rw [if_pos h2] at h; simp at h
      · rw [if_neg h2] at h ⊢
        by_cases h3 : c.toNat = 0 ∧ 1 < i + 1
        · rw [if_pos h3] at h; simp at h
        · rw [if_neg h3]
          simp only [List.length_cons]
          omega

theorem getInt_bounds (l : List UInt8) (n k : Nat) (h : getInt l = (n, k, 0)) : n ≤ 4611686018427387903 ∧ 1 ≤ k ∧ k ≤ l.length := by
  have := giGo_bounds l 0 0 (by rw [← getInt, h])
  rw [← getInt, h] at this
  simpa using this

theorem giGo_err : ∀ (l : List UInt8) (acc i : Nat), (giGo l acc i).2.2 ≤ 3
  | [], _, _ => by simp [giGo]
  | c :: r, acc, i => by
    rw [giGo]
    have := giGo_err r (acc + c.toNat % 128 * 128 ^ i) (i + 1)
    split <;> (try split) <;> (try split) <;> simp_all

theorem getInt_err (l : List UInt8) : (getInt l).2.2 ≤ 3 := giGo_err l 0 0

/-- A text's bytes. -/
def txt (l : List UInt8) : List UInt8 := goInt l.length ++ l

/-- The text at the front of bytes: the text, in how many bytes, the error. -/
def getText (l : List UInt8) : List UInt8 × Nat × Nat :=
  if (getInt l).2.2 ≠ 0 then ([], 0, (getInt l).2.2)
  else if 65536 < (getInt l).1 then ([], 0, 8)
  else if l.length - (getInt l).2.1 < (getInt l).1 then ([], 0, 1)
  else ((l.drop (getInt l).2.1).take (getInt l).1, (getInt l).2.1 + (getInt l).1, 0)

theorem getText_bounds (l t : List UInt8) (k : Nat) (h : getText l = (t, k, 0)) : 1 ≤ k ∧ k ≤ l.length ∧ t.length ≤ 65536 ∧ t.length + 1 ≤ k := by
  unfold getText at h
  rcases hr : getInt l with ⟨n, j, e⟩
  rw [hr] at h
  simp only at h
  by_cases h1 : e ≠ 0
  · rw [if_pos h1] at h; simp at h; omega
  · have h1 : e = 0 := by omega
    subst h1
    have hb := getInt_bounds l n j hr
    rw [if_neg (by simp)] at h
    by_cases h2 : 65536 < n
    · rw [if_pos h2] at h; simp at h
    · rw [if_neg h2] at h
      by_cases h3 : l.length - j < n
      · rw [if_pos h3] at h; simp at h
      · rw [if_neg h3] at h
        simp only [Prod.mk.injEq] at h
        obtain ⟨rfl, rfl, _⟩ := h
        simp only [List.length_take, List.length_drop]
        omega

end Go.Proofs.YtcjmeaikdfgapaaDoor

/- What wire.Int does: the bytes of a number, or nothing; nothing old in memory is turned. -/
namespace Go.Proofs.YtcjmeaikdfgapaaDoor
open Go.RowKit

theorem infoByte : (Tryd.prog.info? 5).map (fun i => (i.zero, i.size, i.bytes)) = some (some (.int .u8 0), 1, 1) := by kernel_rfl

def byteVal (b : UInt8) : Value := .int .u8 (b.toNat : Int)

theorem byteVal_one (l : List UInt8) : ∀ u ∈ l.map byteVal, u.oneCell' = true := by
  intro u hu
  obtain ⟨b, _, rfl⟩ := List.mem_map.1 hu
  rfl

theorem or_128 : ∀ a : Nat, a < 256 → a ||| 128 = 128 + a % 128 := by decide +kernel

theorem byte_more (m : Nat) : Value.int .u8 (bits .or .u8 ((m : Int) % 256) 128) = byteVal (UInt8.ofNat (128 + m % 128)) := by
  have h := u8_or_nat (m % 256) 128 (by omega) (by omega)
  have e : ((m : Int) % 256) = ((m % 256 : Nat) : Int) := by omega
  unfold byteVal
  rw [e]
  rw [show ((128 : Int)) = ((128 : Nat) : Int) from rfl, h, or_128 _ (by omega)]
  congr 1
  simp
  omega

theorem byte_last (m : Nat) (h : m < 128) : Value.int .u8 (m : Int) = byteVal (UInt8.ofNat m) := by
  unfold byteVal
  congr 1
  simp
  omega

/-- An owned row of bytes, made a string. -/
theorem own_string {w : World} {B : Nat} {v : Value} {l : List UInt8} (h : w.ownsRow B 5 1 v l.length (l.map byteVal)) :
    (convert 64 9 v).run Tryd.prog w = .ok (.string ⟨l.toArray⟩) w := by
  rcases h.2 with ⟨rfl, hn⟩ | ⟨g, cap, cur, rfl, _⟩
  · rw [List.length_eq_zero_iff] at hn
    subst hn
    exact run_convert_bytes_nil w 64 5 Tryd.underlying64 Tryd.underlying5 0 0 9 Tryd.underlying9
  · refine run_convert_bytes_back w 64 9 5 ⟨g, 0, none⟩ cap l Tryd.underlying64 Tryd.underlying5 Tryd.underlying9 (fun j hj => ?_)
    exact h.cells rfl j _ (by simp [List.getElem?_eq_getElem hj, byteVal])

set_option maxRecDepth 100000 in
set_option maxHeartbeats 400000 in
theorem int_yes (n : Nat) (w : World) (hn : n ≤ 4611686018427387903) :
    Calls Tryd.prog 32 #[.int .i64 n] w fun e w' => e = .returned (.string ⟨(enc n).toArray⟩) ∧ Below w.heap.size w w' := by
  obtain ⟨i0, hi, hz0, hz1, hz2⟩ := info_parts infoByte
  have h0 : ¬ ((n : Int) < 0) := by omega
  have h1 : ¬ ((4611686018427387903 : Int) < n) := by omega
  go_enter Tryd.func32, Tryd.ntmps32
  go_wp2
  go_loopw [0, 3] (fun v0 v3 wr => ∃ (m : Nat) (pre : List UInt8), m ≤ n ∧ v0 = .int .i64 m ∧ wr.ownsRow w.heap.size 5 1 v3 pre.length (pre.map byteVal) ∧ Below w.heap.size w wr ∧ Hid (pre ++ enc m = enc n)) (fun v0 _ _ => (intOf v0).toNat)
  case atStart => exact ⟨n, [], Nat.le_refl _, rfl, World.ownsRow_nil _ _ _ _, Below.refl _ _, rfl⟩
  case round =>
    obtain ⟨m, pre, hm, rfl, hown, hb, hpre⟩ := hrel
    have hlen : pre.length ≤ 9 := by
      have h9 := enc_length_nine n hn
      have h8 := congrArg List.length hpre.out
      simp at h8; omega
    have hsz := hb.size
    by_cases hlt : 128 ≤ m
    · go_wp2_with (at_builtin; refine wpList_append_own _ rfl _ _ 64 rfl w.heap.size 5 i0 (.int .u8 0) 1 1 Tryd.underlying64 hi hz0 hz1 hz2 rfl (by decide) _ _ _ rfl (hown.alloc _) ⟨wr.heap.size, 0, none⟩ 1 1 [byteVal (UInt8.ofNat (128 + m % 128))] rfl rfl ?c1 ?c2 ?c3 ?c4 ?c5 ?_)
      case c1 =>
        intro j u hj
        match j, hj with
        | 0, hj => simp at hj; subst hj; simp [Addr.add, byte_more]
      case c2 => intro u hu; simp at hu; subst hu; rfl
      case c3 => unfold maxLen; omega
      case c4 => omega
      case c5 => simp; omega
      · intro v' w1 hown' hgrow _
        have hb1 : Below w.heap.size w w1 := (hb.alloc hsz _).grown hgrow (by simp; omega) (fun k hk => (hown.lt k hk).1)
        have hown1 : w1.ownsRow w.heap.size 5 1 v' (pre ++ [UInt8.ofNat (128 + m % 128)]).length ((pre ++ [UInt8.ofNat (128 + m % 128)]).map byteVal) := by
          simpa using hown'
        have hp1 : Hid ((pre ++ [UInt8.ofNat (128 + m % 128)]) ++ enc (m / 128) = enc n) := by
          have := hpre.out
          rw [enc_big m hlt] at this
          show _ = _
          simpa using this
        clear hown' hgrow hown hpre hb
        go_wp2
        go_roundw
        case rel => exact ⟨m / 128, _, by omega, by go_num, hown1, hb1, hp1⟩
        case measure => simp [intOf]; omega
    · go_wp2_with (at_builtin; refine wpList_append_own _ rfl _ _ 64 rfl w.heap.size 5 i0 (.int .u8 0) 1 1 Tryd.underlying64 hi hz0 hz1 hz2 rfl (by decide) _ _ _ rfl (hown.alloc _) ⟨wr.heap.size, 0, none⟩ 1 1 [byteVal (UInt8.ofNat m)] rfl rfl ?d1 ?d2 ?d3 ?d4 ?d5 ?_)
      case d1 =>
        intro j u hj
        match j, hj with
        | 0, hj => simp at hj; subst hj; simp [Addr.add, byte_last m (by omega)]
      case d2 => intro u hu; simp at hu; subst hu; rfl
      case d3 => unfold maxLen; omega
      case d4 => omega
      case d5 => simp; omega
      · intro v' w1 hown' hgrow _
        have hb1 : Below w.heap.size w w1 := (hb.alloc hsz _).grown hgrow (by simp; omega) (fun k hk => (hown.lt k hk).1)
        have hown1 : w1.ownsRow w.heap.size 5 1 v' (pre ++ [UInt8.ofNat m]).length ((pre ++ [UInt8.ofNat m]).map byteVal) := by
          simpa using hown'
        have hp1 : pre ++ [UInt8.ofNat m] = enc n := by
          have := hpre.out
          rw [enc_small m (by omega)] at this
          exact this
        rw [hp1] at hown1
        have hcv := own_string hown1
        clear hown' hgrow hown hpre hb hp1 hown1
        go_wp2
        go_ret
        exact ⟨rfl, hb1⟩

set_option maxRecDepth 100000 in
set_option maxHeartbeats 400000 in
theorem int_no (n : Int) (w : World) (h : n < 0 ∨ 4611686018427387903 < n) :
    Calls Tryd.prog 32 #[.int .i64 n] w fun e w' => e = .returned (.string ⟨#[]⟩) ∧ w' = w := by
  rcases h with h | h
  · go_enter Tryd.func32, Tryd.ntmps32
    go_wp2
    go_ret
    exact ⟨rfl, rfl⟩
  · have h0 : ¬ n < 0 := by omega
    go_enter Tryd.func32, Tryd.ntmps32
    go_wp2
    go_ret
    exact ⟨rfl, rfl⟩

theorem int_any (n : Int) (w : World) :
    Calls Tryd.prog 32 #[.int .i64 n] w fun e w' => e = .returned (.string ⟨(goInt n).toArray⟩) ∧ Below w.heap.size w w' := by
  by_cases h : 0 ≤ n ∧ n ≤ 4611686018427387903
  · obtain ⟨m, rfl⟩ := Int.eq_ofNat_of_zero_le h.1
    have e : goInt (m : Int) = enc m := by rw [goInt, if_pos h]; simp
    rw [e]
    exact int_yes m w (by omega)
  · have e : goInt n = [] := by rw [goInt, if_neg h]
    rw [e]
    refine (int_no n w (by omega)).mono ?_
    rintro e w' ⟨rfl, rfl⟩
    exact ⟨rfl, Below.refl _ _⟩
end Go.Proofs.YtcjmeaikdfgapaaDoor

/- What wire.GetInt does: it reads a string's bytes and answers the number at their front, in how many bytes, and the error; memory stands. -/
namespace Go.Proofs.YtcjmeaikdfgapaaDoor
open Go.RowKit

theorem i64_or_nat (a b : Nat) (ha : a < 9223372036854775808) (hb : b < 9223372036854775808) : bits .or .i64 (a : Int) (b : Int) = ((a ||| b : Nat) : Int) := by
  have hx : a ||| b < 2 ^ 63 := Nat.or_lt_two_pow (by omega) (by omega)
  show IntKind.i64.wrap ((BitVec.ofInt 64 (a : Int) ||| BitVec.ofInt 64 (b : Int)).toNat : Int) = _
  rw [BitVec.toNat_or, ofInt_u64 a (by omega), ofInt_u64 b (by omega)]
  simp [IntKind.wrap, IntKind.bits, IntKind.signed]
  omega

theorem wrap64_id (n : Nat) (h : n < 9223372036854775808) : wrap64 (n : Int) = (n : Int) := by
  unfold wrap64
  omega

theorem or_step (acc i c : Nat) (hi : i ≤ 8) (ha : acc < 128 ^ i) : bits .or .i64 (acc : Int) (wrap64 ((c : Int) % 128 * 2 ^ (7 * i))) = ((acc + c % 128 * 128 ^ i : Nat) : Int) := by
  have hp : (2 : Nat) ^ (7 * i) = 128 ^ i := by rw [Nat.pow_mul]
  have h63 := step_lt63 acc i c hi ha
  have e : ((c : Int) % 128 * 2 ^ (7 * i)) = ((c % 128 * 128 ^ i : Nat) : Int) := by
    rw [← hp]; simp
  rw [e, wrap64_id _ (by omega), i64_or_nat _ _ (by omega) (by omega)]
  congr 1
  rw [Nat.or_comm, ← hp, nat_join (7 * i) _ _ (by simp) (by rw [hp]; exact ha)]
  omega

theorem or_first (c : Nat) : bits .or .i64 0 ((c : Int) % 128) = ((c % 128 : Nat) : Int) := by
  have h := i64_or_nat 0 (c % 128) (by omega) (by omega)
  rw [Nat.zero_or] at h
  rw [show ((0 : Int)) = ((0 : Nat) : Int) from rfl, show ((c : Int) % 128) = ((c % 128 : Nat) : Int) from by omega]
  exact h

theorem andNot_byte (c : Nat) (h : c < 256) : bits .andNot .u8 (c : Int) 128 = ((c % 128 : Nat) : Int) := by
  have h1 := u8_andNot_nat c 128 h (by omega)
  rw [show ((128 : Int)) = ((128 : Nat) : Int) from rfl, h1]
  congr 1
  exact nat_mask7 c

theorem drop_cons (s : ByteArray) (i : Nat) (h : i < s.size) : s.data.toList.drop i = s[i] :: s.data.toList.drop (i + 1) := by
  rw [List.drop_eq_getElem_cons (by simpa using h)]; rfl

def giVal (r : Nat × Nat × Nat) : Value := .tuple #[.int .i64 r.1, .int .i64 r.2.1, .int .i64 r.2.2]

theorem giEnd {r : Nat × Nat × Nat} {a b c : Nat} (h : r = (a, b, c)) : Ending.returned (.tuple #[.int .i64 (a : Int), .int .i64 (b : Int), .int .i64 (c : Int)]) = .returned (giVal r) := by
  rw [h]; rfl
end Go.Proofs.YtcjmeaikdfgapaaDoor

/- What wire.Text and wire.GetText do. -/
namespace Go.Proofs.YtcjmeaikdfgapaaDoor
open Go.RowKit

theorem mk_list (s : ByteArray) : (⟨s.data.toList.toArray⟩ : ByteArray) = s := by simp

theorem append_list (l : List UInt8) (s : ByteArray) : (⟨l.toArray⟩ ++ s : ByteArray) = ⟨(l ++ s.data.toList).toArray⟩ := by
  have := ByteArray.mk_append_mk l s.data.toList
  rw [mk_list] at this
  exact this

theorem goInt_length (n : Int) : (goInt n).length ≤ 9 := by
  unfold goInt
  split
  · exact enc_length_nine _ (by omega)
  · simp

theorem extract_list (s : ByteArray) (a b : Nat) : s.extract a b = ⟨((s.data.toList.drop a).take (b - a)).toArray⟩ := by
  apply ByteArray.ext
  rw [ByteArray.data_extract]
  apply Array.ext'
  simp [List.extract]

set_option maxRecDepth 100000 in
set_option maxHeartbeats 400000 in
theorem text_any (s : ByteArray) (w : World) (hs : s.size ≤ 140737488351232000) :
    Calls Tryd.prog 31 #[.string s] w fun e w' => e = .returned (.string ⟨(txt s.data.toList).toArray⟩) ∧ Below w.heap.size w w' := by
  have hg := goInt_length s.size
  have e1 : ∀ l : List UInt8, l = goInt s.size → Value.string (⟨l.toArray⟩ ++ s) = Value.string ⟨(txt s.data.toList).toArray⟩ := by
    rintro l rfl
    rw [append_list, txt]
    simp
  go_enter Tryd.func31, Tryd.ntmps31
  go_wp2_with fail
  refine (int_any _ _).mono ?_
  rintro e w' ⟨rfl, hb⟩
  obtain ⟨l, hl⟩ : ∃ l, l = goInt s.size := ⟨_, rfl⟩
  rw [← hl] at hg ⊢
  have E := e1 l hl
  clear e1 hl
  go_wp2
  go_ret
  exact ⟨rfl, hb⟩

def gtVal (r : List UInt8 × Nat × Nat) : Value := .tuple #[.string ⟨r.1.toArray⟩, .int .i64 r.2.1, .int .i64 r.2.2]
end Go.Proofs.YtcjmeaikdfgapaaDoor

/- What a strings.Builder that the call itself has made does at WriteString and at String, over this program. -/
namespace Go.Proofs.YtcjmeaikdfgapaaDoor
open Go.RowKit

theorem sizeBuilder : (Tryd.prog.info? 66).map (·.size) = some 2 := by kernel_rfl
theorem liesBuilder : liesAt Tryd.prog Tryd.prog.depth 66 (2 / Tryd.prog.cellsOf 66) 0 66 1 = true := by kernel_rfl
theorem cellsByte : Tryd.prog.cellsOf 5 = 1 := by kernel_rfl

set_option maxRecDepth 100000 in
set_option maxHeartbeats 400000 in
theorem copyCheck_used (b : Nat) (w : World) (h0 : w.cell? ⟨b, 0, none⟩ = some (.pointer (some ⟨b, 0, none⟩))) :
    Calls Tryd.prog 49 #[.pointer (some ⟨b, 0, none⟩)] w fun e w' => e = .returned (.tuple #[]) ∧ w' = w := by
  obtain ⟨j, hj, _⟩ := Option.map_eq_some_iff.1 sizeBuilder
  go_enter Tryd.func49, Tryd.ntmps49
  go_wp2
  rw [Lib.run_neq_ptr_same w _ Tryd.underlying63 hj]
  go_wp2
  go_end0
  exact ⟨rfl, rfl⟩

set_option maxRecDepth 100000 in
set_option maxHeartbeats 400000 in
theorem copyCheck_fresh (b : Nat) (w : World) (h0 : w.cell? ⟨b, 0, none⟩ = some (.pointer none)) (hsh : w.shape? b = some (66, 2)) (hfz : w.frozen? ⟨b, 0, none⟩ = false) :
    Calls Tryd.prog 49 #[.pointer (some ⟨b, 0, none⟩)] w fun e w' => e = .returned (.tuple #[]) ∧ w' = w.setCell ⟨b, 0, none⟩ (.pointer (some ⟨b, 0, none⟩)) := by
  obtain ⟨j, hj, hjs⟩ := Option.map_eq_some_iff.1 sizeBuilder
  go_enter Tryd.func49, Tryd.ntmps49
  go_wp2
  rw [Lib.run_to_unsafe w ⟨b, 0, none⟩ Tryd.underlying63 Tryd.underlying101 hj (by rw [hjs]; decide) hsh (Nat.zero_lt_succ 1)]
  simp only [Result.andThen]
  rw [Oper.upon_value]
  go_wp2
  rw [run_callFunc_extern Tryd.func61 (by kernel_rfl) (by kernel_rfl) (by kernel_rfl) (e := Extern.AbiNoEscape.same) (by kernel_rfl)]
  rw [Lib.run_noEscape]
  simp only [Result.andThen]
  rw [Oper.upon_value]
  go_wp2
  rw [Lib.run_from_unsafe w ⟨b, 0, none⟩ Tryd.underlying101 Tryd.underlying63 hj hsh liesBuilder]
  simp only [Result.andThen]
  rw [Oper.upon_value]
  go_wp2
  go_end0
  exact ⟨rfl, rfl⟩

theorem copyCheck_any (B b : Nat) (bs : List Value) (w : World) (h : Lib.IsBuilder 66 5 B b bs w) :
    Calls Tryd.prog 49 #[.pointer (some ⟨b, 0, none⟩)] w fun e w' => e = .returned (.tuple #[]) ∧ (Lib.BuilderAt 66 5 B b (.pointer (some ⟨b, 0, none⟩)) bs w' ∧ Below B w w') := by
  rcases h with h | h
  · refine (copyCheck_fresh b w h.cell0 h.shape h.frozen0).mono ?_
    rintro e w' ⟨rfl, rfl⟩
    exact ⟨rfl, h.used _, (Below.refl B w).setCell (p := ⟨b, 0, none⟩) h.1 _⟩
  · refine (copyCheck_used b w h.cell0).mono ?_
    rintro e w' ⟨rfl, rfl⟩
    exact ⟨rfl, h, Below.refl B _⟩

set_option maxRecDepth 100000 in
set_option maxHeartbeats 400000 in
theorem write_any (B b : Nat) (bs : List Value) (s : ByteArray) (w : World) (h : Lib.IsBuilder 66 5 B b bs w) (hlen : bs.length + s.size ≤ 140737488355328) (hBw : B ≤ w.heap.size) :
    Calls Tryd.prog 30 #[.pointer (some ⟨b, 0, none⟩), .string s] w fun e w' => e = .returned (.tuple #[.int .i64 s.size, .nilIface]) ∧ (Lib.BuilderAt 66 5 B b (.pointer (some ⟨b, 0, none⟩)) (bs ++ Lib.strCells s) w' ∧ Below B w w') := by
  obtain ⟨i0, hi, hz0, hz1, hz2⟩ := info_parts infoByte
  go_enter Tryd.func30, Tryd.ntmps30
  go_wp2_with fail
  refine (copyCheck_any B b bs _ h).mono ?_
  rintro e w1 ⟨rfl, h1, hb1⟩
  obtain ⟨hB, v, hbk, hown, hne⟩ := h1
  have c1 : w1.cell? ⟨b, 1, none⟩ = some v := by rw [Lib.cell_of_heap hbk]; rfl
  go_wp2_with (at_builtin; refine Lib.wpList_append_own_string _ rfl _ _ 64 9 rfl B 5 i0 Tryd.underlying64 Tryd.underlying9 hi hz0 hz1 hz2 _ _ _ rfl hown s rfl ?c3 ?c4 ?c5 ?_)
  case c3 => unfold maxLen; omega
  case c4 => omega
  case c5 => have := hb1.size; omega
  intro v' w2 hown' hgrow _
  have hlt : b < w1.heap.size := (Array.getElem?_eq_some_iff.1 hbk).1
  have hb2 : w2.heap[b]? = some (.cells #[.pointer (some ⟨b, 0, none⟩), v] 66 (0, 0)) := by
    rw [hgrow.block b hlt (fun e => hne e.symm)]
    exact hbk
  have d1 : w2.cell? ⟨b, 1, none⟩ = some v := by rw [Lib.cell_of_heap hb2]; rfl
  have f1 : w2.frozen? ⟨b, 1, none⟩ = false := Lib.frozen_of_heap hb2 1
  obtain ⟨ao, n', cap, rfl⟩ : ∃ ao n' cap, v' = .slice ao n' cap := by
    rcases hown'.2 with ⟨hv, _⟩ | ⟨g, cap, cur, hv, _⟩
    · exact ⟨_, _, _, hv⟩
    · exact ⟨_, _, _, hv⟩
  have fin1 : Lib.BuilderAt 66 5 B b (.pointer (some ⟨b, 0, none⟩)) (bs ++ Lib.strCells s) (w2.setCell ⟨b, 1, none⟩ (.slice ao n' cap)) :=
    Lib.BuilderAt.put (T := 66) (e := 5) hB hb2 (bs' := bs ++ Lib.strCells s) (by simpa [Lib.strCells_length] using hown') (by decide)
  have fin2 : Below B w (w2.setCell ⟨b, 1, none⟩ (.slice ao n' cap)) :=
    (hb1.grown hgrow (by have := hb1.size; omega) (fun k hk => (hown.lt k hk).1)).setCell (p := ⟨b, 1, none⟩) hB _
  clear hown' hgrow hown hbk hb2 hb1 h hne hlt c1
  go_wp2
  go_ret2
  exact ⟨rfl, fin1, fin2⟩

set_option maxRecDepth 100000 in
set_option maxHeartbeats 400000 in
theorem string_any (B b : Nat) (l : List UInt8) (w : World) (h : Lib.IsBuilder 66 5 B b (Lib.byteCells l) w) (h0 : l ≠ []) :
    Calls Tryd.prog 35 #[.pointer (some ⟨b, 0, none⟩)] w fun e w' => e = .returned (.string ⟨l.toArray⟩) ∧ Below B w w' := by
  obtain ⟨p, hB, v, hbk, hown, hne⟩ : ∃ p, Lib.BuilderAt 66 5 B b p (Lib.byteCells l) w := by
    rcases h with h | h
    · exact ⟨_, h⟩
    · exact ⟨_, h⟩
  have hl0 : l.length ≠ 0 := by simpa using h0
  rw [Lib.byteCells_length] at hown
  obtain ⟨g, cap, cur, rfl, hbg, hg, hnc, hcm, hcs, htake⟩ : ∃ g cap cur, v = .slice (some ⟨g, 0, none⟩) l.length cap ∧ B ≤ g ∧ w.heap[g]? = some (.cells cur 5 (0, 0)) ∧ l.length ≤ cap ∧ cap ≤ maxLen ∧ cur.size = cap * 1 ∧ cur.toList.take (l.length * 1) = Lib.byteCells l := by
    rcases hown.2 with ⟨_, hz⟩ | ⟨g, cap, cur, hv, r⟩
    · exact absurd hz hl0
    · exact ⟨g, cap, cur, hv, r⟩
  have c1 : w.cell? ⟨b, 1, none⟩ = some (.slice (some ⟨g, 0, none⟩) l.length cap) := by rw [Lib.cell_of_heap hbk]; rfl
  have hSD : (Builtin.unsafeSliceData_ #[64] 94 #[.slice (some ⟨g, 0, none⟩) l.length cap]).run Tryd.prog w.drew = .ok (.pointer (some ⟨g, 0, none⟩)) w.drew :=
    Lib.run_unsafeSliceData_row _ _ _ _ _ _ (by omega)
  have hUS : (Builtin.unsafeString_ #[94, 3] 9 #[.pointer (some ⟨g, 0, none⟩), .int .i64 l.length]).run Tryd.prog w.drew = .ok (.string ⟨l.toArray⟩) (w.drew.freeze ⟨g, 0, none⟩ l.length) := by
    refine Lib.run_unsafeString_row w.drew 94 3 9 5 Tryd.underlying94 cellsByte g cur.size (by have hg' : w.drew.heap[g]? = some (.cells cur 5 (0, 0)) := hg; simp [World.shape?, hg']) l h0 (by omega) (by unfold maxLen at hcm; omega) ?_
    intro j x hx
    have := hown.cells (g := g) rfl j (.int .u8 x.toNat) (by simp [Lib.byteCells, hx])
    exact this
  have fin := Lib.below_freeze (Below.drew (Below.refl B w)) (p := ⟨g, 0, none⟩) hbg l.length
  clear hown hbk hg htake h hne
  go_enter Tryd.func35, Tryd.ntmps35
  go_wp2
  go_region
  all_goals (go_wp2; go_ret; exact ⟨rfl, fin⟩)
end Go.Proofs.YtcjmeaikdfgapaaDoor

/- Rows of strings in memory, and a list's bytes. -/
namespace Go.Proofs.YtcjmeaikdfgapaaDoor
open Go.RowKit

/-- A row of strings lies at an address (of no strings: whatever the address). -/
def StrsAt (w : World) (ao : Option Addr) (ss : List ByteArray) : Prop :=
  ∀ j (h : j < ss.length), ∃ b off, ao = some ⟨b, off, none⟩ ∧ b < w.heap.size ∧ w.cell? ⟨b, off + j, none⟩ = some (.string ss[j])

theorem StrsAt.below {w w' : World} {ao : Option Addr} {ss : List ByteArray} (h : StrsAt w ao ss) (hb : Below w.heap.size w w') : StrsAt w' ao ss := by
  intro j hj
  obtain ⟨b, off, h1, h2, h3⟩ := h j hj
  exact ⟨b, off, h1, Nat.lt_of_lt_of_le h2 hb.size, by rw [hb.cell (p := ⟨b, off + j, none⟩) h2]; exact h3⟩

def bl (ss : List ByteArray) : List (List UInt8) := ss.map (·.data.toList)

/-- A list's bytes. -/
def lst (l : List (List UInt8)) : List UInt8 := goInt l.length ++ l.flatMap txt

theorem take_flat (l : List (List UInt8)) (k : Nat) (h : k < l.length) : (l.take (k + 1)).flatMap txt = (l.take k).flatMap txt ++ txt l[k] := by
  rw [List.take_succ_eq_append_getElem h, List.flatMap_append]; simp

theorem take_flat_le (l : List (List UInt8)) (k : Nat) : ((l.take k).flatMap txt).length ≤ (l.flatMap txt).length := by
  have h : l.flatMap txt = (l.take k).flatMap txt ++ (l.drop k).flatMap txt := by rw [← List.flatMap_append, List.take_append_drop]
  rw [h]; simp

theorem size_mk (l : List UInt8) : (⟨l.toArray⟩ : ByteArray).size = l.length := by simp [ByteArray.size_mk']

theorem ret_str {l m : List UInt8} (h : l = m) : Ending.returned (.string ⟨l.toArray⟩) = .returned (.string ⟨m.toArray⟩) := by rw [h]

theorem goInt_ne (n : Nat) (h : n ≤ 4611686018427387903) : goInt n ≠ [] := by
  unfold goInt
  rw [if_pos (by omega)]
  have := enc_length_pos n
  intro e
  simp at e
  rw [e] at this
  simp at this

end Go.Proofs.YtcjmeaikdfgapaaDoor
