/- The plain mathematics of layer wire: what a number's bytes are ('enc'), and that there are at most nine. No program is named here. -/
namespace Go.Proofs.YthhildeocedpiaaDoor

def encF : Nat → Nat → List UInt8
  | 0, n => [UInt8.ofNat n]
  | k + 1, n => if n < 128 then [UInt8.ofNat n] else UInt8.ofNat (128 + n % 128) :: encF k (n / 128)

def enc (n : Nat) : List UInt8 := encF n n

theorem encF_fuel : ∀ (k j n : Nat), n ≤ k → n ≤ j → encF k n = encF j n
  | 0, 0, _, _, _ => rfl
  | 0, j + 1, n, h, _ => by
    have : n = 0 := by omega
    subst this
    simp [encF]
  | k + 1, 0, n, _, h => by
    have : n = 0 := by omega
    subst this
    simp [encF]
  | k + 1, j + 1, n, h1, h2 => by
    rw [encF, encF]
    by_cases h : n < 128
    · rw [if_pos h, if_pos h]
    · rw [if_neg h, if_neg h, encF_fuel k j (n / 128) (by omega) (by omega)]

def goInt (n : Int) : List UInt8 := if 0 ≤ n ∧ n ≤ 4611686018427387903 then enc n.toNat else []

theorem enc_small (n : Nat) (h : n < 128) : enc n = [UInt8.ofNat n] := by
  unfold enc
  cases n with
  | zero => rfl
  | succ m => rw [encF, if_pos h]
theorem enc_big (n : Nat) (h : 128 ≤ n) : enc n = UInt8.ofNat (128 + n % 128) :: enc (n / 128) := by
  unfold enc
  cases n with
  | zero => omega
  | succ m => rw [encF, if_neg (by omega), encF_fuel m ((m + 1) / 128) ((m + 1) / 128) (by omega) (by omega)]

theorem enc_length_le : ∀ (k n : Nat), n < 128 ^ (k + 1) → (enc n).length ≤ k + 1
  | 0, n, h => by rw [enc_small n (by simpa using h)]; simp
  | k + 1, n, h => by
    by_cases h1 : n < 128
    · rw [enc_small n h1]; simp
    · rw [enc_big n (by omega)]
      have : n / 128 < 128 ^ (k + 1) := by rw [Nat.pow_succ] at h; omega
      have := enc_length_le k (n / 128) this
      simp; omega

theorem enc_length_nine (n : Nat) (h : n ≤ 4611686018427387903) : (enc n).length ≤ 9 := enc_length_le 8 n (by omega)

theorem enc_length_pos (n : Nat) : 0 < (enc n).length := by
  by_cases h1 : n < 128
  · rw [enc_small n h1]; simp
  · rw [enc_big n (by omega)]; simp

theorem enc_mono : ∀ (a b : Nat), a ≤ b → (enc a).length ≤ (enc b).length := by
  intro a
  induction a using Nat.strongRecOn with
  | _ a ih =>
    intro b h
    by_cases h1 : a < 128
    · rw [enc_small a h1]
      exact enc_length_pos b
    · rw [enc_big a (by omega), enc_big b (by omega)]
      have := ih (a / 128) (by omega) (b / 128) (by omega)
      simp
      omega

theorem goInt_nat (n : Nat) (h : n ≤ 4611686018427387903) : goInt n = enc n := by
  rw [goInt, if_pos (by omega)]; simp

/-- The number at the front of bytes: what has been gathered, at which byte; the answer: the number, in how many bytes, the error. -/
def giGo : List UInt8 → Nat → Nat → Nat × Nat × Nat
  | [], _, _ => (0, 0, 1)
  | c :: r, acc, i =>
    if 128 ≤ c.toNat then (if i + 1 = 9 then (0, 0, 2) else giGo r (acc + c.toNat % 128 * 128 ^ i) (i + 1))
    else if 4611686018427387903 < acc + c.toNat % 128 * 128 ^ i then (0, 0, 2)
    else if c.toNat = 0 ∧ 1 < i + 1 then (0, 0, 3)
    else (acc + c.toNat % 128 * 128 ^ i, i + 1, 0)

def getInt (l : List UInt8) : Nat × Nat × Nat := giGo l 0 0

theorem pow_le_nine (i : Nat) (h : i ≤ 8) : 128 ^ i ≤ 72057594037927936 := by
  have : 128 ^ i ≤ 128 ^ 8 := Nat.pow_le_pow_right (by omega) h
  omega

theorem step_lt (acc i c : Nat) (h : acc < 128 ^ i) : acc + c % 128 * 128 ^ i < 128 ^ (i + 1) := by
  have h1 : c % 128 * 128 ^ i ≤ 127 * 128 ^ i := Nat.mul_le_mul_right _ (by omega)
  rw [Nat.pow_succ]
  omega

theorem step_lt63 (acc i c : Nat) (hi : i ≤ 8) (h : acc < 128 ^ i) : acc + c % 128 * 128 ^ i < 9223372036854775808 := by
  have h1 := step_lt acc i c h
  have h2 : 128 ^ (i + 1) ≤ 128 ^ 9 := Nat.pow_le_pow_right (by omega) (by omega)
  omega

theorem giGo_bounds : ∀ (l : List UInt8) (acc i : Nat), (giGo l acc i).2.2 = 0 → (giGo l acc i).1 ≤ 4611686018427387903 ∧ i + 1 ≤ (giGo l acc i).2.1 ∧ (giGo l acc i).2.1 ≤ i + l.length
  | [], _, _ => by intro h; simp [giGo] at h
  | c :: r, acc, i => by
    intro h
    rw [giGo] at h ⊢
    by_cases h1 : 128 ≤ c.toNat
    · rw [if_pos h1] at h ⊢
      by_cases h2 : i + 1 = 9
      · rw [if_pos h2] at h; simp at h
      · rw [if_neg h2] at h ⊢
        have := giGo_bounds r _ _ h
        simp only [List.length_cons]
        omega
    · rw [if_neg h1] at h ⊢
      by_cases h2 : 4611686018427387903 < acc + c.toNat % 128 * 128 ^ i
      · rw [if_pos h2] at h; simp at h
      · rw [if_neg h2] at h ⊢
        by_cases h3 : c.toNat = 0 ∧ 1 < i + 1
        · rw [if_pos h3] at h; simp at h
        · rw [if_neg h3]
          simp only [List.length_cons]
          omega

theorem getInt_bounds (l : List UInt8) (n k : Nat) (h : getInt l = (n, k, 0)) : n ≤ 4611686018427387903 ∧ 1 ≤ k ∧ k ≤ l.length := by
  have := giGo_bounds l 0 0 (by rw [← getInt, h])
  rw [← getInt, h] at this
  simpa using this

theorem giGo_err : ∀ (l : List UInt8) (acc i : Nat), (giGo l acc i).2.2 ≤ 3
  | [], _, _ => by simp [giGo]
  | c :: r, acc, i => by
    rw [giGo]
    have := giGo_err r (acc + c.toNat % 128 * 128 ^ i) (i + 1)
    split <;> (try split) <;> (try split) <;> simp_all

theorem getInt_err (l : List UInt8) : (getInt l).2.2 ≤ 3 := giGo_err l 0 0

/-- A text's bytes. -/
def txt (l : List UInt8) : List UInt8 := goInt l.length ++ l

/-- The text at the front of bytes: the text, in how many bytes, the error. -/
def getText (l : List UInt8) : List UInt8 × Nat × Nat :=
  if (getInt l).2.2 ≠ 0 then ([], 0, (getInt l).2.2)
  else if 65536 < (getInt l).1 then ([], 0, 8)
  else if l.length - (getInt l).2.1 < (getInt l).1 then ([], 0, 1)
  else ((l.drop (getInt l).2.1).take (getInt l).1, (getInt l).2.1 + (getInt l).1, 0)

theorem getText_bounds (l t : List UInt8) (k : Nat) (h : getText l = (t, k, 0)) : 1 ≤ k ∧ k ≤ l.length ∧ t.length ≤ 65536 ∧ t.length + 1 ≤ k := by
  unfold getText at h
  rcases hr : getInt l with ⟨n, j, e⟩
  rw [hr] at h
  simp only at h
  by_cases h1 : e ≠ 0
  · rw [if_pos h1] at h; simp at h; omega
  · have h1 : e = 0 := by omega
    subst h1
    have hb := getInt_bounds l n j hr
    rw [if_neg (by simp)] at h
    by_cases h2 : 65536 < n
    · rw [if_pos h2] at h; simp at h
    · rw [if_neg h2] at h
      by_cases h3 : l.length - j < n
      · rw [if_pos h3] at h; simp at h
      · rw [if_neg h3] at h
        simp only [Prod.mk.injEq] at h
        obtain ⟨rfl, rfl, _⟩ := h
        simp only [List.length_take, List.length_drop]
        omega

end Go.Proofs.YthhildeocedpiaaDoor
