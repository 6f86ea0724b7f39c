/- The digest of a text, block by block, as a plain function of lists. -/
import Derived.Test.YtlbibhngfnllbaaDoorMixFoldMath
import Derived.Test.YtlbibhngfnllbaaDoorMixText
namespace Go.Proofs.YtlbibhngfnllbaaDoor

/-- What becomes of h by the bytes bs, n bytes being ahead of them; f bounds how many blocks there are. -/
def digF : Nat → List UInt32 → List UInt8 → Nat → List UInt32
  | 0, h, bs, n => foldL h (wordsL bs) (UInt32.ofNat (n + bs.length)) true
  | f + 1, h, bs, n => if bs.length ≤ 64 then foldL h (wordsL bs) (UInt32.ofNat (n + bs.length)) true
      else digF f (foldL h (wordsL (bs.take 64)) (UInt32.ofNat (n + 64)) false) (bs.drop 64) (n + 64)

theorem digF_more : ∀ (f : Nat) (h : List UInt32) (bs : List UInt8) (n : Nat), bs.length ≤ 64 * (f + 1) → digF (f + 1) h bs n = digF f h bs n
  | 0, h, bs, n, hb => by
    unfold digF
    rw [if_pos (by omega)]
  | f + 1, h, bs, n, hb => by
    rw [digF]
    conv => rhs; rw [digF]
    split
    · rfl
    · exact digF_more f _ _ _ (by simp; omega)

/-- The digest of the bytes bs, n ahead of them. -/
def dig (h : List UInt32) (bs : List UInt8) (n : Nat) : List UInt32 := digF bs.length h bs n

theorem digF_ge (h : List UInt32) (bs : List UInt8) (n : Nat) : ∀ (d f : Nat), bs.length ≤ 64 * (f + 1) → digF (f + d) h bs n = digF f h bs n
  | 0, f, _ => rfl
  | d + 1, f, hb => by rw [← Nat.add_assoc, digF_more _ _ _ _ (by omega), digF_ge h bs n d f hb]

theorem dig_eq (h : List UInt32) (bs : List UInt8) (n f : Nat) (hf : bs.length ≤ 64 * (f + 1)) : digF f h bs n = dig h bs n := by
  unfold dig
  rcases Nat.le_total f bs.length with hle | hle
  · have := digF_ge h bs n (bs.length - f) f hf
    rw [show f + (bs.length - f) = bs.length by omega] at this
    exact this.symm
  · have := digF_ge h bs n (f - bs.length) bs.length (by omega)
    rw [show bs.length + (f - bs.length) = f by omega] at this
    exact this

theorem dig_last (h : List UInt32) (bs : List UInt8) (n : Nat) (hb : bs.length ≤ 64) : dig h bs n = foldL h (wordsL bs) (UInt32.ofNat (n + bs.length)) true := by
  rw [← dig_eq h bs n 0 (by omega)]
  rfl

theorem dig_more (h : List UInt32) (bs : List UInt8) (n : Nat) (hb : 64 < bs.length) : dig h bs n = dig (foldL h (wordsL (bs.take 64)) (UInt32.ofNat (n + 64)) false) (bs.drop 64) (n + 64) := by
  rw [← dig_eq h bs n (bs.length + 1) (by omega)]
  rw [digF, if_neg (by omega)]
  exact dig_eq _ _ _ _ (by simp; omega)

/-- What is to come behind a block. -/
def restL (h : List UInt32) (blk rest : List UInt8) (en : Nat) : List UInt32 :=
  if rest = [] then foldL h (wordsL blk) (UInt32.ofNat en) true else dig (foldL h (wordsL blk) (UInt32.ofNat en) false) rest en

theorem dig_cut (h : List UInt32) (bs : List UInt8) (n : Nat) : dig h bs n = restL h (bs.take 64) (bs.drop 64) (n + (bs.take 64).length) := by
  unfold restL
  by_cases hb : bs.length ≤ 64
  · rw [if_pos (List.drop_eq_nil_of_le hb), dig_last h bs n hb, List.take_of_length_le hb]
  · rw [if_neg (by intro e; have := congrArg List.length e; simp at this; omega), dig_more h bs n (by omega), show (bs.take 64).length = 64 by simp; omega]

theorem restL_next (h : List UInt32) (blk rest : List UInt8) (en : Nat) (hr : rest ≠ []) :
    restL h blk rest en = restL (foldL h (wordsL blk) (UInt32.ofNat en) false) (rest.take 64) (rest.drop 64) (en + (rest.take 64).length) := by
  rw [← dig_cut]
  unfold restL
  rw [if_neg hr]

theorem restL_end (h : List UInt32) (blk : List UInt8) (en : Nat) : restL h blk [] en = foldL h (wordsL blk) (UInt32.ofNat en) true := by simp [restL]

theorem dig_key (h : List UInt32) (key s : List UInt8) (hk : key.length ≤ 64) : dig h (key ++ List.replicate (64 - key.length) 0 ++ s) 0 = restL h key s 64 := by
  have hl : (key ++ List.replicate (64 - key.length) (0 : UInt8)).length = 64 := by simp; omega
  rw [dig_cut, List.take_append_of_le_length (by omega), List.take_of_length_le (by omega), List.drop_append_of_le_length (by omega), List.drop_eq_nil_of_le (by omega), hl]
  unfold restL
  rw [wordsL_zeros]
  rfl

/-- The words ahead of all blocks, under a key of k bytes. -/
def seedL (k : Nat) : List UInt32 := firstsL.set 0 (wxor (firstsL.getD 0 0) (wxor 16842784 (UInt32.ofNat (256 * k))))

theorem seedL_len (k : Nat) : (seedL k).length = 8 := rfl

/-- The bytes of a digest. -/
def digestL (bs : List UInt8) (k : Nat) : List UInt8 := textL (dig (seedL k) bs 0)

theorem digestL_len (bs : List UInt8) (k : Nat) : (digestL bs k).length = 32 := by simp [digestL, textL]

def sumL (s : List UInt8) : List UInt8 := digestL s 0

/-- Under a key of at most thirty-two bytes. -/
def keyedS (key s : List UInt8) : List UInt8 := if key = [] then sumL s else digestL (key ++ List.replicate (64 - key.length) 0 ++ s) key.length

def keyedL (key s : List UInt8) : List UInt8 := keyedS (if key.length > 32 then sumL key else key) s

theorem keyedL_nil (s : List UInt8) : keyedL [] s = sumL s := rfl
theorem keyedS_len (key s : List UInt8) : (keyedS key s).length = 32 := by
  unfold keyedS
  split
  · exact digestL_len _ _
  · exact digestL_len _ _
theorem keyedL_len (key s : List UInt8) : (keyedL key s).length = 32 := keyedS_len _ _
end Go.Proofs.YtlbibhngfnllbaaDoor
