/- Whole numbers as floats: what a word is, how two stand, int(x), float64(n), x + y, x - y; for numbers below 2^53 all is exact. -/
import Derived.Laws.FloatArith
namespace Go.Proofs.Ytfbpjdjajecajaa
open Go Ieee

/-- The number that a datum is, in units of the least one; none: it is no number. -/
def valD : Datum → Option Int
  | .number s m e => some (Ieee.signed s m (e + 1074).toNat)
  | _ => none
def val (x : Nat) : Option Int := valD (double.read x)

/-- A datum's place is not below the least one. -/
def OkD : Datum → Prop
  | .number _ _ e => -1074 ≤ e
  | _ => True

theorem least_eq : double.leastPlace = -1074 := by decide

theorem bin64 : double.binade = 2 ^ 52 := by decide
theorem inf64 : double.infRung = 2047 * 2 ^ 52 := by decide
theorem sw64 : double.signWeight = 2 ^ 63 := by decide

theorem read_ok (x : Nat) : OkD (double.read x) := by
  unfold Format.read
  simp only
  split
  · show (-1074 : Int) ≤ _
    rw [least_eq]; exact Int.le_refl _
  · split
    · show (-1074 : Int) ≤ _
      rw [least_eq]; omega
    · split <;> trivial

theorem signed_shift (s : Bool) (m a b : Nat) : Ieee.signed s m (a + b) = Ieee.signed s m a * (2 : Int) ^ b := by
  unfold Ieee.signed
  have h : ((m <<< (a + b) : Nat) : Int) = ((m <<< a : Nat) : Int) * (2 : Int) ^ b := by
    rw [Nat.shiftLeft_eq, Nat.shiftLeft_eq, Nat.pow_add, ← Nat.mul_assoc]
    push_cast
    rfl
  cases s
  · simp only [Bool.false_eq_true, if_false]; exact h
  · simp only [if_true]; rw [h, Int.neg_mul]

theorem pow2_pos (b : Nat) : (0 : Int) < (2 : Int) ^ b := Int.pow_pos (by decide)

theorem compare_mul (a b c : Int) (hc : 0 < c) : compare (a * c) (b * c) = compare a b := by
  have h1 : a * c < b * c ↔ a < b := ⟨fun h => Int.lt_of_mul_lt_mul_right h (Int.le_of_lt hc), fun h => Int.mul_lt_mul_of_pos_right h hc⟩
  have h2 : a * c = b * c ↔ a = b := ⟨fun h => Int.eq_of_mul_eq_mul_right (by omega) h, fun h => by rw [h]⟩
  show compareOfLessAndEq _ _ = compareOfLessAndEq _ _
  unfold compareOfLessAndEq
  simp only [h1, h2]

theorem order_num {s t : Bool} {m n : Nat} {i j : Int} (hi : -1074 ≤ i) (hj : -1074 ≤ j) : Datum.order (.number s m i) (.number t n j) = some (compare (Ieee.signed s m (i + 1074).toNat) (Ieee.signed t n (j + 1074).toNat)) := by
  show some _ = some _
  congr 1
  have hb : -1074 ≤ min i j := by omega
  have e1 : (i + 1074).toNat = (i - min i j).toNat + (min i j + 1074).toNat := by omega
  have e2 : (j + 1074).toNat = (j - min i j).toNat + (min i j + 1074).toNat := by omega
  rw [e1, e2, signed_shift, signed_shift, compare_mul _ _ _ (pow2_pos _)]

/-- How two numbers stand. -/
theorem order_val {x y : Nat} {a b : Int} (hx : val x = some a) (hy : val y = some b) : double.order x y = some (compare a b) := by
  unfold Format.order
  unfold val at hx hy
  have ox := read_ok x
  have oy := read_ok y
  cases hdx : double.read x with
  | number s m i =>
    cases hdy : double.read y with
    | number t n j =>
      rw [hdx] at hx ox
      rw [hdy] at hy oy
      rw [order_num ox oy]
      unfold valD at hx hy
      simp only [Option.some.injEq] at hx hy
      rw [hx, hy]
    | infinity t => rw [hdy] at hy; cases hy
    | nan t n => rw [hdy] at hy; cases hy
  | infinity t => rw [hdx] at hx; cases hx
  | nan t n => rw [hdx] at hx; cases hx

theorem cmp_eq (a b : Int) : (compare a b = .eq) ↔ a = b := by
  show compareOfLessAndEq _ _ = _ ↔ _
  unfold compareOfLessAndEq
  split
  · constructor
    · intro h; cases h
    · intro h; omega
  · split
    · constructor
      · intro _; assumption
      · intro _; rfl
    · constructor
      · intro h; cases h
      · intro h; omega
theorem cmp_lt (a b : Int) : (compare a b = .lt) ↔ a < b := by
  show compareOfLessAndEq _ _ = _ ↔ _
  unfold compareOfLessAndEq
  split
  · constructor
    · intro _; assumption
    · intro _; rfl
  · split
    · constructor
      · intro h; cases h
      · intro h; omega
    · constructor
      · intro h; cases h
      · intro h; omega
theorem cmp_gt (a b : Int) : (compare a b = .gt) ↔ b < a := by
  show compareOfLessAndEq _ _ = _ ↔ _
  unfold compareOfLessAndEq
  split
  · constructor
    · intro h; cases h
    · intro h; omega
  · split
    · constructor
      · intro h; cases h
      · intro h; omega
    · constructor
      · intro _; omega
      · intro _; rfl

/-- Comparisons of numbers. -/
theorem eqF {x y : Nat} {a b : Int} (hx : val x = some a) (hy : val y = some b) : (double.order x y == some .eq) = decide (a = b) := by
  rw [order_val hx hy]
  by_cases h : a = b
  · rw [(cmp_eq a b).2 h, decide_eq_true h]; rfl
  · have h2 := fun e => h ((cmp_eq a b).1 e)
    rw [decide_eq_false h]
    cases hc : compare a b with
    | eq => exact (h2 hc).elim
    | lt => rfl
    | gt => rfl
theorem ltF {x y : Nat} {a b : Int} (hx : val x = some a) (hy : val y = some b) : (double.order x y == some .lt) = decide (a < b) := by
  rw [order_val hx hy]
  by_cases h : a < b
  · rw [(cmp_lt a b).2 h, decide_eq_true h]; rfl
  · have h2 := fun e => h ((cmp_lt a b).1 e)
    rw [decide_eq_false h]
    cases hc : compare a b with
    | eq => rfl
    | lt => exact (h2 hc).elim
    | gt => rfl
theorem gtF {x y : Nat} {a b : Int} (hx : val x = some a) (hy : val y = some b) : (double.order x y == some .gt) = decide (b < a) := by
  rw [order_val hx hy]
  by_cases h : b < a
  · rw [(cmp_gt a b).2 h, decide_eq_true h]; rfl
  · have h2 := fun e => h ((cmp_gt a b).1 e)
    rw [decide_eq_false h]
    cases hc : compare a b with
    | eq => rfl
    | gt => exact (h2 hc).elim
    | lt => rfl

/-- What is no number is not equal to anything finite, and not between two. -/
theorem eqF_none {x y : Nat} {b : Int} (hx : val x = none) (hy : val y = some b) : (double.order x y == some .eq) = false := by
  unfold Format.order
  unfold val at hx hy
  cases hdy : double.read y with
  | number t n j =>
    cases hdx : double.read x with
    | number s m i => rw [hdx] at hx; cases hx
    | infinity s => cases s <;> rfl
    | nan s m => rfl
  | infinity t => rw [hdy] at hy; cases hy
  | nan t n => rw [hdy] at hy; cases hy

theorem between_none {x y z : Nat} {b c : Int} (hx : val x = none) (hy : val y = some b) (hz : val z = some c) :
    ((double.order x y == some .gt || double.order x y == some .eq) && (double.order x z == some .lt || double.order x z == some .eq)) = false := by
  unfold Format.order
  unfold val at hx hy hz
  cases hdy : double.read y with
  | number t n j =>
    cases hdz : double.read z with
    | number u k l =>
      cases hdx : double.read x with
      | number s m i => rw [hdx] at hx; cases hx
      | infinity s => cases s <;> rfl
      | nan s m => rfl
    | infinity t => rw [hdz] at hz; cases hz
    | nan t n => rw [hdz] at hz; cases hz
  | infinity t => rw [hdy] at hy; cases hy
  | nan t n => rw [hdy] at hy; cases hy

def E64 : Nat := 1074
theorem e64 : E64 = 1074 := rfl
/-- One, in these units. -/
def one64 : Int := (2 : Int) ^ E64
theorem one64_pos : 0 < one64 := pow2_pos _

theorem cut_zero (s : Bool) (n d : Nat) : Toward.cut .zero s n d = n / 2 ^ d := by
  unfold Toward.cut
  simp only [Bool.toNat_false, Nat.add_zero]
  rw [Nat.shiftLeft_eq, Nat.one_mul]
  by_cases h : d ≤ n.log2 + 2
  · rw [Nat.min_eq_left h]
  · rw [Nat.min_eq_right (by omega)]
    have h1 : n < 2 ^ (n.log2 + 1) := Nat.lt_log2_self
    have h2 : 2 ^ (n.log2 + 1) ≤ 2 ^ (n.log2 + 2) := Nat.pow_le_pow_right (by decide) (by omega)
    have h3 : 2 ^ (n.log2 + 2) ≤ 2 ^ d := Nat.pow_le_pow_right (by decide) (by omega)
    rw [Nat.div_eq_of_lt (by omega), Nat.div_eq_of_lt (by omega)]

theorem shift_div (m E : Nat) (i : Int) (hi : -(E : Int) ≤ i) : (m <<< i.toNat) / 2 ^ (-i).toNat = m <<< (i + E).toNat / 2 ^ E := by
  rw [Nat.shiftLeft_eq, Nat.shiftLeft_eq]
  by_cases h : 0 ≤ i
  · have e1 : (-i).toNat = 0 := by omega
    have e2 : (i + E).toNat = i.toNat + E := by omega
    rw [e1, e2, Nat.pow_add, ← Nat.mul_assoc, Nat.mul_div_cancel _ (Nat.two_pow_pos _), Nat.pow_zero, Nat.div_one]
  · have e1 : i.toNat = 0 := by omega
    have e2 : E = (i + E).toNat + (-i).toNat := by omega
    rw [e1, Nat.pow_zero, Nat.mul_one]
    obtain ⟨p, hp⟩ : ∃ p, (i + E).toNat = p := ⟨_, rfl⟩
    rw [hp] at e2 ⊢
    rw [e2, Nat.pow_add, Nat.mul_comm m, Nat.mul_div_mul_left _ _ (Nat.two_pow_pos _)]

/-- int(x), of what is not below zero. -/
theorem toInt_val {x : Nat} {a : Nat} (hx : val x = some (a : Int)) : (FloatKind.f64.decode x).toInt .zero = some ((a / 2 ^ E64 : Nat) : Int) := by
  unfold val at hx
  have ox := read_ok x
  show ((double.read x).integral .zero |> fun d => match d with | .number s m _ => some (Ieee.signed s m 0) | _ => none) = _
  cases hdx : double.read x with
  | number s m i =>
    rw [hdx] at hx ox
    unfold valD at hx
    simp only [Option.some.injEq] at hx
    show some (Ieee.signed s (Toward.cut .zero s (m <<< i.toNat) (-i).toNat) 0) = _
    rw [cut_zero, shift_div m E64 i ox]
    have hE : (i + (E64 : Int)).toNat = (i + 1074).toNat := rfl
    rw [hE]
    obtain ⟨z, hz⟩ : ∃ z, m <<< (i + 1074).toNat = z := ⟨_, rfl⟩
    congr 1
    unfold Ieee.signed at hx ⊢
    rw [hz] at hx ⊢
    cases s
    · simp only [Bool.false_eq_true, if_false] at hx ⊢
      have hx : z = a := by omega
      rw [hx, Nat.shiftLeft_zero]
    · simp only [if_true] at hx ⊢
      have hx : z = 0 ∧ a = 0 := by omega
      rw [hx.1, hx.2, Nat.zero_div]
      rfl
  | infinity t => rw [hdx] at hx; cases hx
  | nan t n => rw [hdx] at hx; cases hx

theorem cut_even (s : Bool) (k d e : Nat) (hk : 0 < k) : Toward.cut .even s (k * 2 ^ (d + e)) d = k * 2 ^ e := by
  unfold Toward.cut
  simp only
  have hl : d ≤ (k * 2 ^ (d + e)).log2 + 2 := by
    have h1 : d + e ≤ (k * 2 ^ (d + e)).log2 := (Nat.le_log2 (Nat.ne_of_gt (Nat.mul_pos hk (Nat.two_pow_pos _)))).2 (Nat.le_mul_of_pos_left _ hk)
    omega
  rw [Nat.min_eq_left hl, Nat.shiftLeft_eq, Nat.one_mul]
  have h2 : k * 2 ^ (d + e) = 2 ^ d * (k * 2 ^ e) := by rw [Nat.pow_add, Nat.mul_left_comm]
  rw [h2, Nat.mul_div_cancel_left _ (Nat.two_pow_pos _), Nat.mul_mod_right]
  have hp := Nat.two_pow_pos d
  have h3 : decide (2 ^ d < 2 * 0) = false := decide_eq_false (by omega)
  have h4 : (2 ^ d == 2 * 0) = false := by
    rw [Nat.mul_zero]
    exact beq_false_of_ne (by omega)
  rw [h3, h4]
  simp

theorem log2_mul (k t : Nat) (hk : 0 < k) : (k * 2 ^ t).log2 = k.log2 + t := by
  induction t with
  | zero => simp
  | succ t ih =>
    rw [Nat.pow_succ, ← Nat.mul_assoc, Nat.mul_comm _ 2, Nat.log2_two_mul (Nat.ne_of_gt (Nat.mul_pos hk (Nat.two_pow_pos _))), ih]
    omega

theorem rung_facts (A q fr : Nat) (h1 : A ≤ 1074) (h2 : q = 2 ^ 52 + fr) (h3 : fr < 2 ^ 52) : A * 2 ^ 52 + q = (A + 1) * 2 ^ 52 + fr ∧ (A + 1) * 2 ^ 52 + fr < 2047 * 2 ^ 52 ∧ 2 ^ 52 ≤ (A + 1) * 2 ^ 52 + fr ∧ A * 2 ^ 52 + q ≤ 2047 * 2 ^ 52 := by omega

/-- A whole number below 2^53, however it is written, is itself. -/
theorem nearest_val (s : Bool) (k t mag : Nat) (place : Int) (hp : place = -(t : Int)) (hm : mag = k * 2 ^ t) (hk : k < 2 ^ 53) : val (double.nearest s mag place) = some (Ieee.signed s k 1074) := by
  subst hp
  subst hm
  by_cases h0 : k = 0
  · subst h0
    unfold Format.nearest
    rw [Nat.zero_mul, if_pos rfl]
    cases s <;> rfl
  · have hk0 : 0 < k := by omega
    have hmag : k * 2 ^ t ≠ 0 := Nat.ne_of_gt (Nat.mul_pos hk0 (Nat.two_pow_pos _))
    have hL : k.log2 < 53 := (Nat.log2_lt h0).2 hk
    obtain ⟨L, hLe⟩ : ∃ z, k.log2 = z := ⟨_, rfl⟩
    have hkept : k * 2 ^ (52 - L) < 2 ^ 53 ∧ 2 ^ 52 ≤ k * 2 ^ (52 - L) := by
      have g1 : k < 2 ^ (L + 1) := by rw [← hLe]; exact Nat.lt_log2_self
      have g2 : 2 ^ L ≤ k := by rw [← hLe]; exact Nat.log2_self_le h0
      constructor
      · have := Nat.mul_lt_mul_of_pos_right g1 (Nat.two_pow_pos (52 - L))
        rw [← Nat.pow_add, show L + 1 + (52 - L) = 53 from by omega] at this
        exact this
      · have := Nat.mul_le_mul_right (2 ^ (52 - L)) g2
        rw [← Nat.pow_add, show L + (52 - L) = 52 from by omega] at this
        exact this
    obtain ⟨fr, hfr⟩ : ∃ fr, k * 2 ^ (52 - L) = 2 ^ 52 + fr := ⟨_, (Nat.add_sub_of_le hkept.2).symm⟩
    have hf52 : fr < 2 ^ 52 := by have := hkept.1; omega
    have hF := rung_facts (L + 1022) _ fr (by omega) hfr hf52
    rw [show L + 1022 + 1 = L + 1023 from rfl] at hF
    have hnear : double.nearest s (k * 2 ^ t) (-(t : Int)) = double.word s ((L + 1022) * 2 ^ 52 + k * 2 ^ (52 - L)) := by
      unfold Format.nearest
      rw [if_neg hmag]
      simp only
      rw [least_eq, log2_mul k t hk0, hLe]
      have hlast : max (-(t : Int) + ((L + t : Nat) : Int) - (double.fractionBits : Int)) (-1074) = (L : Int) - 52 := by
        show max (-(t : Int) + ((L + t : Nat) : Int) - (52 : Int)) (-1074) = _
        omega
      rw [hlast]
      have hcut : Toward.cut .even s ((k * 2 ^ t) <<< (-(t : Int) - ((L : Int) - 52)).toNat) ((L : Int) - 52 - -(t : Int)).toNat = k * 2 ^ (52 - L) := by
        by_cases ht : t ≤ 52 - L
        · have e1 : (-(t : Int) - ((L : Int) - 52)).toNat = 52 - L - t := by omega
          have e2 : ((L : Int) - 52 - -(t : Int)).toNat = 0 := by omega
          rw [e1, e2, Nat.shiftLeft_eq, Nat.mul_assoc, ← Nat.pow_add, show t + (52 - L - t) = 0 + (52 - L) from by omega]
          rw [cut_even s k 0 (52 - L) hk0]
        · have e1 : (-(t : Int) - ((L : Int) - 52)).toNat = 0 := by omega
          have e2 : ((L : Int) - 52 - -(t : Int)).toNat = t - (52 - L) := by omega
          rw [e1, e2, Nat.shiftLeft_zero]
          conv => lhs; rw [show t = (t - (52 - L)) + (52 - L) from by omega]
          rw [show t - (52 - L) + (52 - L) - (52 - L) = t - (52 - L) from by omega]
          exact cut_even s k (t - (52 - L)) (52 - L) hk0
      rw [hcut]
      congr 1
      have e3 : ((L : Int) - 52 - -1074).toNat = L + 1022 := by omega
      rw [e3]
      rw [bin64, inf64]
      refine Nat.min_eq_left ?_
      exact hF.2.2.2
    rw [hnear]
    rw [hF.1]
    have hlt := hF.2.1
    have hge := hF.2.2.1
    have hword : double.word s ((L + 1023) * 2 ^ 52 + fr) % double.signWeight = (L + 1023) * 2 ^ 52 + fr ∧ (double.word s ((L + 1023) * 2 ^ 52 + fr) / double.signWeight % 2 == 1) = s := by
      have h63 : (L + 1023) * 2 ^ 52 + fr < 2 ^ 63 := by omega
      rw [sw64]
      unfold Format.word
      rw [sw64]
      cases s
      · simp only [Bool.false_eq_true, if_false]
        rw [Nat.mod_eq_of_lt h63, Nat.div_eq_of_lt h63]
        exact ⟨rfl, rfl⟩
      · simp only [if_true]
        rw [Nat.add_mod_left, Nat.mod_eq_of_lt h63, Nat.add_div_left _ (Nat.two_pow_pos 63), Nat.div_eq_of_lt h63]
        exact ⟨rfl, rfl⟩
    have hread : double.read (double.word s ((L + 1023) * 2 ^ 52 + fr)) = .number s (2 ^ 52 + fr) (-1074 + ((L + 1022 : Nat) : Int)) := by
      unfold Format.read
      simp only
      rw [hword.1, hword.2]
      rw [bin64, inf64, if_neg (by omega), if_pos hlt, least_eq]
      have e1 : ((L + 1023) * 2 ^ 52 + fr) % 2 ^ 52 = fr := by rw [Nat.mul_comm, Nat.mul_add_mod, Nat.mod_eq_of_lt hf52]
      have e2 : ((L + 1023) * 2 ^ 52 + fr) / 2 ^ 52 = L + 1023 := by rw [Nat.mul_comm, Nat.mul_add_div (Nat.two_pow_pos 52), Nat.div_eq_of_lt hf52, Nat.add_zero]
      rw [e1, e2]
      rfl
    unfold val
    rw [hread]
    unfold valD
    simp only [Option.some.injEq]
    have e4 : (-1074 + ((L + 1022 : Nat) : Int) + 1074).toNat = L + 1022 := by omega
    rw [e4, ← hfr]
    unfold Ieee.signed
    rw [Nat.shiftLeft_eq, Nat.shiftLeft_eq, Nat.mul_assoc, ← Nat.pow_add, show 52 - L + (L + 1022) = 1074 from by omega]

theorem signed_neg (k t : Nat) (n : Int) (hn : n.natAbs = k) : Ieee.signed (decide (n < 0)) k t = n * (2 : Int) ^ t := by
  subst hn
  unfold Ieee.signed
  rw [Nat.shiftLeft_eq]
  by_cases h : n < 0
  · rw [decide_eq_true h]
    simp only [if_true]
    push_cast
    rw [← Int.neg_mul]
    congr 1
    omega
  · rw [decide_eq_false h]
    simp only [Bool.false_eq_true, if_false]
    push_cast
    congr 1
    omega

/-- float64(n). -/
theorem ofInt_val (n : Int) (hn : n.natAbs < 2 ^ 53) : val (FloatKind.f64.nearest n) = some (n * one64) := by
  show val (double.nearest (decide (n < 0)) n.natAbs 0) = _
  rw [nearest_val (decide (n < 0)) n.natAbs 0 n.natAbs 0 rfl (Nat.mul_one _).symm hn, signed_neg _ _ n rfl]
  rfl

/-- A datum that is a whole number below 2^53. -/
def WholeD (d : Datum) (a : Int) : Prop := ∃ s m i, d = .number s m i ∧ -1074 ≤ i ∧ i ≤ 0 ∧ Ieee.signed s m (i + 1074).toNat = a * one64

theorem read_big {x : Nat} {s : Bool} {m : Nat} {i : Int} (h : double.read x = .number s m i) : i ≤ 0 ∨ 2 ^ 52 ≤ m := by
  unfold Format.read at h
  simp only at h
  split at h
  · left
    injection h with _ _ h3
    rw [least_eq] at h3
    omega
  · split at h
    · right
      injection h with _ h2 _
      rw [← h2, bin64]
      exact Nat.le_add_right _ _
    · split at h <;> cases h

theorem signed_abs (s : Bool) (m a : Nat) : (Ieee.signed s m a).natAbs = m * 2 ^ a := by
  unfold Ieee.signed
  rw [Nat.shiftLeft_eq]
  cases s
  · simp only [Bool.false_eq_true, if_false]; rfl
  · simp only [if_true]; rw [Int.natAbs_neg]; rfl

theorem pow2_abs (n : Nat) : ((2 : Int) ^ n).natAbs = 2 ^ n := by rw [Int.natAbs_pow]; rfl

theorem one64_abs (a : Int) : (a * one64).natAbs = a.natAbs * 2 ^ E64 := by
  rw [Int.natAbs_mul]
  exact congrArg (a.natAbs * ·) (pow2_abs E64)

theorem signed_zero (s : Bool) (t : Nat) : Ieee.signed s 0 t = 0 := by
  unfold Ieee.signed
  rw [Nat.zero_shiftLeft]
  cases s <;> rfl

theorem wholeD_of {x : Nat} {a : Int} (hx : val x = some (a * one64)) (ha : a.natAbs < 2 ^ 53) : WholeD (double.read x) a := by
  unfold val at hx
  have ox := read_ok x
  cases hd : double.read x with
  | number s m i =>
    rw [hd] at hx ox
    have ox : -1074 ≤ i := ox
    unfold valD at hx
    simp only [Option.some.injEq] at hx
    refine ⟨s, m, i, rfl, ox, ?_, hx⟩
    rcases read_big hd with h | h
    · exact h
    · refine Int.not_lt.1 (fun hi => ?_)
      have h1 := congrArg Int.natAbs hx
      rw [signed_abs, one64_abs] at h1
      have h2 : (i + 1074).toNat = (i.toNat - 1) + 1 + E64 := by rw [e64]; omega
      rw [h2, Nat.pow_add, ← Nat.mul_assoc] at h1
      have h3 := Nat.eq_of_mul_eq_mul_right (Nat.two_pow_pos E64) h1
      rw [Nat.pow_succ] at h3
      have h4 : 1 ≤ 2 ^ (i.toNat - 1) := Nat.one_le_two_pow
      have h5 : 2 ^ 52 * (1 * 2) ≤ m * (2 ^ (i.toNat - 1) * 2) := Nat.mul_le_mul h (Nat.mul_le_mul_right 2 h4)
      omega
  | infinity t => rw [hd] at hx; cases hx
  | nan t n => rw [hd] at hx; cases hx

theorem opposite_whole {d : Datum} {a : Int} (h : WholeD d a) : WholeD d.opposite (-a) := by
  obtain ⟨s, m, i, rfl, h1, h2, h3⟩ := h
  refine ⟨!s, m, i, rfl, h1, h2, ?_⟩
  rw [Int.neg_mul, ← h3]
  unfold Ieee.signed
  cases s
  · simp
  · simp

theorem sum_whole {d e : Datum} {a b : Int} (hd : WholeD d a) (he : WholeD e b) (hab : (a + b).natAbs < 2 ^ 53) : ∃ r, (d.sum e).map double.write = some r ∧ val r = some ((a + b) * one64) := by
  obtain ⟨s, m, i, rfl, i1, i2, i3⟩ := hd
  obtain ⟨t, n, j, rfl, j1, j2, j3⟩ := he
  refine ⟨_, rfl, ?_⟩
  show val (double.nearest _ _ _) = _
  obtain ⟨base, hb⟩ : ∃ z, min i j = z := ⟨_, rfl⟩
  obtain ⟨T, hT⟩ : ∃ z, Ieee.signed s m (i - base).toNat + Ieee.signed t n (j - base).toNat = z := ⟨_, rfl⟩
  have hsum : T * (2 : Int) ^ (base + 1074).toNat = (a + b) * one64 := by
    rw [← hT, Int.add_mul, ← signed_shift, ← signed_shift, show (i - base).toNat + (base + 1074).toNat = (i + 1074).toNat from by omega, show (j - base).toNat + (base + 1074).toNat = (j + 1074).toNat from by omega, i3, j3, ← Int.add_mul]
  have hT2 : T = (a + b) * (2 : Int) ^ (-base).toNat := by
    unfold one64 at hsum
    rw [show E64 = (-base).toNat + (base + 1074).toNat from by rw [e64]; omega, Int.pow_add, ← Int.mul_assoc] at hsum
    exact Int.eq_of_mul_eq_mul_right (Int.ne_of_gt (pow2_pos _)) hsum
  have habs : T.natAbs = (a + b).natAbs * 2 ^ (-base).toNat := by
    rw [hT2, Int.natAbs_mul, pow2_abs]
  rw [hb, hT]
  rw [nearest_val _ (a + b).natAbs (-base).toNat T.natAbs base (by omega) habs hab]
  congr 1
  by_cases h0 : a + b = 0
  · rw [h0, Int.zero_mul, show (0 : Int).natAbs = 0 from rfl, signed_zero]
  · have hT0 : ¬ T = 0 := fun h => by
      rw [h] at habs
      have := Nat.mul_pos (Int.natAbs_pos.2 h0) (Nat.two_pow_pos (-base).toNat)
      rw [← habs] at this
      exact absurd this (by decide)
    rw [if_neg hT0]
    have hs : decide (T < 0) = decide (a + b < 0) := by
      have : T < 0 ↔ a + b < 0 := by
        rw [hT2]
        constructor
        · intro h
          refine Int.not_le.1 (fun h2 => ?_)
          have := Int.mul_nonneg h2 (Int.le_of_lt (pow2_pos (-base).toNat))
          omega
        · intro h
          have := Int.mul_lt_mul_of_pos_right h (pow2_pos (-base).toNat)
          rw [Int.zero_mul] at this
          exact this
      simp only [this]
    rw [hs, signed_neg _ _ (a + b) rfl]
    rfl

/-- x + y, x - y, of whole numbers. -/
theorem add_val {x y : Nat} {a b : Int} (hx : val x = some (a * one64)) (hy : val y = some (b * one64)) (ha : a.natAbs < 2 ^ 53) (hb : b.natAbs < 2 ^ 53) (hab : (a + b).natAbs < 2 ^ 53) : ∃ r, floatBits .add .f64 x y = some r ∧ val r = some ((a + b) * one64) :=
  sum_whole (wholeD_of hx ha) (wholeD_of hy hb) hab

theorem sub_val {x y : Nat} {a b : Int} (hx : val x = some (a * one64)) (hy : val y = some (b * one64)) (ha : a.natAbs < 2 ^ 53) (hb : b.natAbs < 2 ^ 53) (hab : (a - b).natAbs < 2 ^ 53) : ∃ r, floatBits .sub .f64 x y = some r ∧ val r = some ((a - b) * one64) :=
  sum_whole (wholeD_of hx ha) (opposite_whole (wholeD_of hy hb)) hab

/-- The whole number from 0 to `upto` that a word is. -/
def wholeN (x upto : Nat) : Option Nat :=
  match val x with
  | some a => if 0 ≤ a ∧ a ≤ (upto : Int) * one64 ∧ a % one64 = 0 then some (a / one64).toNat else none
  | none => none

theorem wholeN_val {x upto n : Nat} (h : wholeN x upto = some n) : val x = some ((n : Int) * one64) ∧ n ≤ upto := by
  unfold wholeN at h
  cases hv : val x with
  | none => rw [hv] at h; cases h
  | some a =>
    rw [hv] at h
    simp only at h
    split at h
    · rename_i hc
      obtain ⟨h1, h2, h3⟩ := hc
      simp only [Option.some.injEq] at h
      have hq : 0 ≤ a / one64 := Int.ediv_nonneg h1 (Int.le_of_lt one64_pos)
      have e1 : (n : Int) = a / one64 := by omega
      have e2 : a = a / one64 * one64 := (Int.ediv_mul_cancel (Int.dvd_of_emod_eq_zero h3)).symm
      refine ⟨by rw [e1, ← e2], ?_⟩
      rw [e2] at h2
      have := Int.le_of_mul_le_mul_right h2 one64_pos
      omega
    · cases h

theorem wholeN_of {x upto n : Nat} (hv : val x = some ((n : Int) * one64)) (hn : n ≤ upto) : wholeN x upto = some n := by
  unfold wholeN
  rw [hv]
  simp only
  have hp := one64_pos
  rw [if_pos ⟨Int.mul_nonneg (by omega) (Int.le_of_lt hp), Int.mul_le_mul_of_nonneg_right (by omega) (Int.le_of_lt hp), Int.mul_emod_left _ _⟩, Int.mul_ediv_cancel _ (Int.ne_of_gt hp)]
  rfl
end Go.Proofs.Ytfbpjdjajecajaa
