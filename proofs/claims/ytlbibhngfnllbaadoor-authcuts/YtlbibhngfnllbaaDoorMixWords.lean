/- The words of a block, byte by byte. -/
import Derived.Test.YtlbibhngfnllbaaDoorMixMath
namespace Go.Proofs.YtlbibhngfnllbaaDoor

def byteAt (bs : List UInt8) (i : Nat) : Nat := (bs.getD i 0).toNat

def wordAt (bs : List UInt8) (j : Nat) : UInt32 := UInt32.ofNat (byteAt bs (4 * j) + 256 * byteAt bs (4 * j + 1) + 65536 * byteAt bs (4 * j + 2) + 16777216 * byteAt bs (4 * j + 3))

def wordsL (bs : List UInt8) : List UInt32 := (List.range 16).map (wordAt bs)

theorem byteAt_lt (bs : List UInt8) (i : Nat) : byteAt bs i < 256 := (bs.getD i 0).toNat_lt

theorem byteAt_take (bs : List UInt8) (n i : Nat) : byteAt (bs.take n) i = if i < n then byteAt bs i else 0 := by
  unfold byteAt
  by_cases h : i < n
  · simp [List.getD, h]
  · simp [List.getD, List.getElem?_take, h]

theorem wordAt_toNat (bs : List UInt8) (j : Nat) : (wordAt bs j).toNat = byteAt bs (4 * j) + 256 * byteAt bs (4 * j + 1) + 65536 * byteAt bs (4 * j + 2) + 16777216 * byteAt bs (4 * j + 3) := by
  unfold wordAt
  rw [UInt32.toNat_ofNat']
  have h0 := byteAt_lt bs (4 * j)
  have h1 := byteAt_lt bs (4 * j + 1)
  have h2 := byteAt_lt bs (4 * j + 2)
  have h3 := byteAt_lt bs (4 * j + 3)
  exact Nat.mod_eq_of_lt (by omega)

theorem or_high (a b n : Nat) (h : a < 2 ^ n) : a ||| b * 2 ^ n = a + b * 2 ^ n := by
  rw [Nat.or_comm, Nat.mul_comm b, ← Nat.two_pow_add_eq_or_of_lt h b, Nat.add_comm]

/-- The word that byte number i goes into, behind it. -/
def wordStep (bs : List UInt8) (i : Nat) : UInt32 := wor (wordAt (bs.take i) (i / 4)) (UInt32.ofNat (byteAt bs i * 2 ^ (i % 4 * 8)))

theorem wordStep_eq (bs : List UInt8) (i : Nat) : wordStep bs i = wordAt (bs.take (i + 1)) (i / 4) := by
  apply UInt32.toNat.inj
  unfold wordStep wor
  rw [UInt32.toNat_or, wordAt_toNat, wordAt_toNat, UInt32.toNat_ofNat']
  have h0 := byteAt_lt bs (4 * (i / 4))
  have h1 := byteAt_lt bs (4 * (i / 4) + 1)
  have h2 := byteAt_lt bs (4 * (i / 4) + 2)
  have hi := byteAt_lt bs i
  simp only [byteAt_take]
  have hr : i % 4 = 0 ∨ i % 4 = 1 ∨ i % 4 = 2 ∨ i % 4 = 3 := by omega
  rcases hr with hr | hr | hr | hr
  · rw [hr]
    have e : 4 * (i / 4) = i := by omega
    simp only [e]
    rw [Nat.mod_eq_of_lt (by simp; omega), if_neg (by omega), if_neg (by omega), if_neg (by omega), if_neg (by omega), if_pos (by omega), if_neg (by omega), if_neg (by omega), if_neg (by omega)]
    simp
  · rw [hr]
    have e : 4 * (i / 4) = i - 1 := by omega
    have e' : 1 ≤ i := by omega
    rw [Nat.mod_eq_of_lt (by simp; omega), or_high _ _ _ (by simp only [e]; rw [if_pos (by omega), if_neg (by omega), if_neg (by omega), if_neg (by omega)]; simp; rw [e] at h0; omega)]
    simp only [e]
    rw [if_pos (by omega), if_neg (by omega), if_neg (by omega), if_neg (by omega), if_pos (by omega), if_pos (by omega), if_neg (by omega), if_neg (by omega), show i - 1 + 1 = i by omega]
    omega
  · rw [hr]
    have e : 4 * (i / 4) = i - 2 := by omega
    rw [Nat.mod_eq_of_lt (by simp; omega), or_high _ _ _ (by simp only [e]; rw [if_pos (by omega), if_pos (by omega), if_neg (by omega), if_neg (by omega)]; simp; rw [e] at h0 h1; omega)]
    simp only [e]
    rw [if_pos (by omega), if_pos (by omega), if_neg (by omega), if_neg (by omega), if_pos (by omega), if_pos (by omega), if_pos (by omega), if_neg (by omega), show i - 2 + 2 = i by omega]
    omega
  · rw [hr]
    have e : 4 * (i / 4) = i - 3 := by omega
    rw [Nat.mod_eq_of_lt (by simp; omega), or_high _ _ _ (by simp only [e]; rw [if_pos (by omega), if_pos (by omega), if_pos (by omega), if_neg (by omega)]; simp; rw [e] at h0 h1 h2; omega)]
    simp only [e]
    rw [if_pos (by omega), if_pos (by omega), if_pos (by omega), if_neg (by omega), if_pos (by omega), if_pos (by omega), if_pos (by omega), if_pos (by omega), show i - 3 + 3 = i by omega]
    omega

theorem wordAt_other (bs : List UInt8) (i j : Nat) (h : j ≠ i / 4) : wordAt (bs.take (i + 1)) j = wordAt (bs.take i) j := by
  apply UInt32.toNat.inj
  rw [wordAt_toNat, wordAt_toNat]
  simp only [byteAt_take]
  have e : ∀ k, k < 4 → (4 * j + k < i + 1 ↔ 4 * j + k < i) := fun k hk => by omega
  have e0 := e 0 (by omega)
  simp only [Nat.add_zero] at e0
  simp only [e0, e 1 (by omega), e 2 (by omega), e 3 (by omega)]

theorem wordsL_step (bs : List UInt8) (i : Nat) : wordsL (bs.take (i + 1)) = (wordsL (bs.take i)).set (i / 4) (wordStep bs i) := by
  unfold wordsL
  apply List.ext_getElem
  · simp
  · intro j h1 h2
    simp only [List.getElem_map, List.getElem_range, List.getElem_set]
    split
    · rename_i h; subst h; exact (wordStep_eq bs i).symm
    · rename_i h; exact wordAt_other bs i j (fun e => h e.symm)

theorem wordsL_len (bs : List UInt8) : (wordsL bs).length = 16 := by simp [wordsL]

theorem wordsL_get (bs : List UInt8) (j : Nat) (h : j < 16) : (wordsL bs)[j]? = some (wordAt bs j) := by simp [wordsL, h]

/-- Zeros behind are not seen. -/
theorem wordsL_zeros (bs : List UInt8) (n : Nat) : wordsL (bs ++ List.replicate n 0) = wordsL bs := by
  have e : ∀ i, byteAt (bs ++ List.replicate n 0) i = byteAt bs i := fun i => by
    unfold byteAt
    congr 1
    simp only [List.getD, List.getElem?_append]
    split
    · rfl
    · rename_i h
      rw [List.getElem?_eq_none (Nat.not_lt.1 h), List.getElem?_replicate]
      split <;> rfl
  unfold wordsL wordAt
  simp only [e]
end Go.Proofs.YtlbibhngfnllbaaDoor
