/- The mathematics of layer 8: marks, the first block's id, words, what is wrong with a row of marks. -/
import Derived.Test.YthhildeocedpiaaDoorCertMath
namespace Go.Proofs.YthhildeocedpiaaDoor
open Go.RowKit
set_option linter.unusedVariables false

/-- A number in k bytes, the highest first. -/
def beN : Nat → Nat → List UInt8
  | 0, _ => []
  | k + 1, n => beN k (n / 256) ++ [UInt8.ofNat n]

theorem beN_length : ∀ (k n : Nat), (beN k n).length = k
  | 0, _ => rfl
  | k + 1, n => by rw [beN, List.length_append, beN_length k]; rfl

/-- The number that bytes say, the highest first. -/
def valL (l : List UInt8) : Nat := l.foldl (fun a b => 256 * a + b.toNat) 0

theorem valL_snoc (l : List UInt8) (b : UInt8) : valL (l ++ [b]) = 256 * valL l + b.toNat := by simp [valL]

theorem u8_lt (b : UInt8) : b.toNat < 256 := b.toNat_lt

theorem ofNat_toNat8 (n : Nat) : (UInt8.ofNat n).toNat = n % 256 := by simp

theorem valL_lt (l : List UInt8) : valL l < 256 ^ l.length := by
  have h : ∀ (k : Nat) (l : List UInt8), l.length = k → valL l < 256 ^ k := by
    intro k
    induction k with
    | zero => intro l hl; rw [List.length_eq_zero_iff.1 hl]; simp [valL]
    | succ k ih =>
      intro l hl
      have hne : l ≠ [] := fun e => by rw [e] at hl; simp at hl
      rw [← List.dropLast_concat_getLast hne, valL_snoc, Nat.pow_succ]
      have := ih l.dropLast (by rw [List.length_dropLast, hl]; rfl)
      have := u8_lt (l.getLast hne)
      omega
  exact h l.length l rfl

theorem val_be : ∀ (k n : Nat), n < 256 ^ k → valL (beN k n) = n
  | 0, n, h => by simp at h; subst h; rfl
  | k + 1, n, h => by
    rw [beN, valL_snoc, val_be k (n / 256) (by rw [Nat.pow_succ] at h; omega), ofNat_toNat8]
    omega

theorem be_val (l : List UInt8) : beN l.length (valL l) = l := by
  have h : ∀ (k : Nat) (l : List UInt8), l.length = k → beN k (valL l) = l := by
    intro k
    induction k with
    | zero => intro l hl; rw [List.length_eq_zero_iff.1 hl]; rfl
    | succ k ih =>
      intro l hl
      have hne : l ≠ [] := fun e => by rw [e] at hl; simp at hl
      have h1 := u8_lt (l.getLast hne)
      conv => lhs; rw [← List.dropLast_concat_getLast hne]
      rw [beN, valL_snoc]
      have e1 : (256 * valL l.dropLast + (l.getLast hne).toNat) / 256 = valL l.dropLast := by omega
      have e2 : UInt8.ofNat (256 * valL l.dropLast + (l.getLast hne).toNat) = l.getLast hne := by
        apply UInt8.toNat_inj.1
        rw [ofNat_toNat8]
        omega
      rw [e1, e2, ih l.dropLast (by rw [List.length_dropLast, hl]; rfl)]
      exact List.dropLast_concat_getLast hne
  exact h l.length l rfl

/-- Is a round one that a mark can have? -/
def roundOk (r : Int) : Prop := ¬ (r < 1 ∨ 4611686018427387903 < r)

/-- A certificate's mark. -/
def markB (r : Int) (id : ByteArray) : ByteArray := if r < 1 ∨ 4611686018427387903 < r ∨ id.size ≠ 32 then ⟨#[]⟩ else ⟨(beN 8 r.toNat ++ id.data.toList).toArray⟩

/-- The round that is in a mark's first eight bytes. -/
def roundOf (s : ByteArray) : Nat := valL (s.data.toList.take 8)

/-- Is it a mark? -/
def isMark (s : ByteArray) : Prop := s.size = 40 ∧ 1 ≤ roundOf s ∧ roundOf s ≤ 4611686018427387903

instance (s : ByteArray) : Decidable (isMark s) := by unfold isMark; infer_instance

/-- What Unmark tells. -/
def unR (s : ByteArray) : Nat := if isMark s then roundOf s else 0
def unI (s : ByteArray) : ByteArray := if isMark s then s.extract 8 s.size else ⟨#[]⟩

theorem mark_size {r : Int} {id : ByteArray} (h : ¬ (r < 1 ∨ 4611686018427387903 < r ∨ id.size ≠ 32)) : (markB r id).size = 40 := by
  rw [markB, if_neg h, size_mk, List.length_append, beN_length]
  have : id.data.toList.length = id.size := by simp
  omega

theorem mark_round {r : Int} {id : ByteArray} (h : ¬ (r < 1 ∨ 4611686018427387903 < r ∨ id.size ≠ 32)) : roundOf (markB r id) = r.toNat := by
  rw [roundOf, markB, if_neg h]
  show valL ((beN 8 r.toNat ++ id.data.toList).take 8) = _
  rw [List.take_append_of_le_length (by rw [beN_length]; omega), List.take_of_length_le (by rw [beN_length]; omega), val_be]
  have : (256 : Nat) ^ 8 = 18446744073709551616 := by decide
  omega

theorem mark_is {r : Int} {id : ByteArray} (h : ¬ (r < 1 ∨ 4611686018427387903 < r ∨ id.size ≠ 32)) : isMark (markB r id) := by
  refine ⟨mark_size h, ?_, ?_⟩ <;> rw [mark_round h] <;> omega

theorem bytes_ext {a b : ByteArray} (h : a.data.toList = b.data.toList) : a = b := by
  cases a; cases b
  simp only [ByteArray.mk.injEq]
  exact Array.ext' h

theorem extract_from (s : ByteArray) (k : Nat) : (s.extract k s.size).data.toList = s.data.toList.drop k := extract_drop s k

theorem mark_id {r : Int} {id : ByteArray} (h : ¬ (r < 1 ∨ 4611686018427387903 < r ∨ id.size ≠ 32)) : (markB r id).extract 8 (markB r id).size = id := by
  apply bytes_ext
  rw [extract_from, markB, if_neg h]
  show (beN 8 r.toNat ++ id.data.toList).drop 8 = _
  rw [List.drop_append_of_le_length (by rw [beN_length]; omega), List.drop_of_length_le (by rw [beN_length]; omega), List.nil_append]

theorem mark_back {s : ByteArray} (h : isMark s) : markB (roundOf s : Int) (s.extract 8 s.size) = s := by
  obtain ⟨h1, h2, h3⟩ := h
  have hl : s.data.toList.length = 40 := by have : s.data.toList.length = s.size := by simp
                                            omega
  rw [markB, if_neg]
  · apply bytes_ext
    show beN 8 (roundOf s : Int).toNat ++ _ = _
    rw [extract_from, Int.toNat_natCast, roundOf]
    have := be_val (s.data.toList.take 8)
    rw [List.length_take, hl] at this
    have e8 : min 8 40 = 8 := by decide
    rw [e8] at this
    rw [this]
    exact List.take_append_drop _ _
  · rw [ByteArray.size_extract]
    omega

/-- The first block's id. -/
def gen32 : ByteArray := ⟨(List.replicate 32 0).toArray⟩

theorem gen32_size : gen32.size = 32 := by rfl

/-- What a vote for a block says. -/
def wordB (v : Int) (id : ByteArray) : ByteArray := ⟨(goInt v ++ id.data.toList).toArray⟩

/-- Is a text among texts? -/
def hasB (l : List ByteArray) (m : ByteArray) : Bool := l.any fun x => x.data.toList == m.data.toList

theorem hasB_iff {l : List ByteArray} {m : ByteArray} : hasB l m = true ↔ m ∈ l := by
  unfold hasB
  rw [List.any_eq_true]
  constructor
  · rintro ⟨x, hx, h⟩
    rw [beq_iff_eq] at h
    rw [← bytes_ext h]
    exact hx
  · intro h
    exact ⟨m, h, by simp⟩

/-- What is wrong with a row of marks, behind those that stood there. -/
def certsP : List ByteArray → List ByteArray → Nat
  | _, [] => 0
  | seen, m :: r => if ¬ isMark m then 3 else if hasB seen m = true then 13 else certsP (seen ++ [m]) r

theorem certsP_at {l : List ByteArray} {k : Nat} {m : ByteArray} (h : l[k]? = some m) : certsP (l.take k) (l.drop k) = if ¬ isMark m then 3 else if hasB (l.take k) m = true then 13 else certsP (l.take (k + 1)) (l.drop (k + 1)) := by
  obtain ⟨hk, rfl⟩ := List.getElem?_eq_some_iff.1 h
  rw [List.drop_eq_getElem_cons hk, certsP, List.take_append_getElem hk]

theorem certsP_all {l : List ByteArray} : ∀ {seen : List ByteArray}, certsP seen l = 0 → (∀ m ∈ l, isMark m) := by
  induction l with
  | nil => intro _ _ m hm; cases hm
  | cons x r ih =>
    intro seen h m hm
    rw [certsP] at h
    split at h
    · cases h
    rename_i h1
    split at h
    · cases h
    rcases List.mem_cons.1 hm with rfl | hm
    · exact Decidable.of_not_not h1
    · exact ih h m hm
end Go.Proofs.YthhildeocedpiaaDoor
