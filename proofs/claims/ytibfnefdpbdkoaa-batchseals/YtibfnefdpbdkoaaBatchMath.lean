/- Layer 5's mathematics: when a batch is right, its bytes, both ways round. -/
import Derived.Test.YtibfnefdpbdkoaaReadMath
namespace Go.Proofs.Ytibfnefdpbdkoaa
open Go.RowKit
set_option linter.unusedVariables false

/-- A batch. -/
structure BatD where
  author : Int
  number : Int
  txs : List TxD

/-- The first error of transactions. -/
def firstE : List TxD → Nat
  | [] => 0
  | d :: r => if checkL d ≠ 0 then checkL d else firstE r

def checkB (b : BatD) : Nat :=
  if b.author < 0 ∨ 6 < b.author ∨ b.number < 1 ∨ 4611686018427387903 < b.number then 2 else if b.txs.length = 0 then 12 else if 16 < b.txs.length then 8 else firstE b.txs

/-- A right batch's bytes. -/
def encBat (b : BatD) : List UInt8 := goInt b.author ++ goInt b.number ++ lst (b.txs.map encL)

def finBat (b : BatD) (l : List UInt8) : Except Nat BatD :=
  if l ≠ [] then .error 6 else if 6 < b.author then .error 2 else if checkB b ≠ 0 then .error (checkB b) else .ok b

/-- A batch out of bytes, or the first error. -/
def decBat (l : List UInt8) : Except Nat BatD :=
  rdI l fun a l => rdI l fun n l => rdL 16 l fun ms l => match eachE decE ms with
    | .error e => .error e
    | .ok ts => finBat ⟨(a : Int), (n : Int), ts⟩ l

theorem firstE_zero : ∀ (l : List TxD), firstE l = 0 → ∀ d ∈ l, checkL d = 0
  | [], _ => by simp
  | d :: r, h => by
    rw [firstE] at h
    by_cases h1 : checkL d ≠ 0
    · rw [if_pos h1] at h; exact absurd h h1
    rw [if_neg h1] at h
    intro x hx
    rw [List.mem_cons] at hx
    rcases hx with rfl | hx
    · omega
    · exact firstE_zero r h x hx

theorem firstE_all : ∀ (l : List TxD), (∀ d ∈ l, checkL d = 0) → firstE l = 0
  | [], _ => rfl
  | d :: r, h => by
    rw [firstE, if_neg (by rw [h d (by simp)]; simp)]
    exact firstE_all r (fun x hx => h x (by simp [hx]))

theorem checkB_zero {b : BatD} (h : checkB b = 0) : 0 ≤ b.author ∧ b.author ≤ 6 ∧ 1 ≤ b.number ∧ b.number ≤ 4611686018427387903 ∧ 1 ≤ b.txs.length ∧ b.txs.length ≤ 16 ∧ ∀ d ∈ b.txs, checkL d = 0 := by
  unfold checkB at h
  by_cases h1 : b.author < 0 ∨ 6 < b.author ∨ b.number < 1 ∨ 4611686018427387903 < b.number
  · rw [if_pos h1] at h; omega
  rw [if_neg h1] at h
  by_cases h2 : b.txs.length = 0
  · rw [if_pos h2] at h; omega
  rw [if_neg h2] at h
  by_cases h3 : 16 < b.txs.length
  · rw [if_pos h3] at h; omega
  rw [if_neg h3] at h
  exact ⟨by omega, by omega, by omega, by omega, by omega, by omega, firstE_zero _ h⟩

theorem checkB_of {b : BatD} (h1 : 0 ≤ b.author) (h2 : b.author ≤ 6) (h3 : 1 ≤ b.number) (h4 : b.number ≤ 4611686018427387903) (h5 : 1 ≤ b.txs.length) (h6 : b.txs.length ≤ 16) (h7 : ∀ d ∈ b.txs, checkL d = 0) : checkB b = 0 := by
  unfold checkB
  rw [if_neg (by omega), if_neg (by omega), if_neg (by omega)]
  exact firstE_all _ h7

/-- Bytes that are read are written as they were. -/
theorem encBat_dec {l : List UInt8} {b : BatD} (h : decBat l = .ok b) : checkB b = 0 ∧ encBat b = l := by
  unfold decBat at h
  obtain ⟨v0, r0, e0, b0, h⟩ := rdI_back h
  obtain ⟨v1, r1, e1, b1, h⟩ := rdI_back h
  obtain ⟨v2, r2, e2, _, _, h⟩ := rdL_back h
  cases hm : eachE decE v2 with
  | error e => rw [hm] at h; cases h
  | ok ts =>
    rw [hm] at h
    simp only at h
    unfold finBat at h
    by_cases h1 : r2 ≠ []
    · rw [if_pos h1] at h; cases h
    rw [if_neg h1] at h
    split at h
    · cases h
    by_cases h3 : checkB ⟨(v0 : Int), (v1 : Int), ts⟩ ≠ 0
    · rw [if_pos h3] at h; cases h
    rw [if_neg h3] at h
    simp only [Except.ok.injEq] at h
    subst h
    have h1' : r2 = [] := by simpa using h1
    have hb := eachE_back (g := encL) (fun b a hba => (enc_dec (decE_ok hba)).2) v2 ts hm
    refine ⟨by omega, ?_⟩
    unfold encBat
    simp only
    rw [hb, e0, e1, e2, h1', goInt_nat v0 b0, goInt_nat v1 b1]
    simp [List.append_assoc]

/-- A batch that is written is read as it was. -/
theorem decBat_enc {b : BatD} (h : checkB b = 0) : decBat (encBat b) = .ok b := by
  obtain ⟨z1, z2, z3, z4, z5, z6, z7⟩ := checkB_zero h
  obtain ⟨an, ha⟩ := Int.eq_ofNat_of_zero_le z1
  obtain ⟨nn, hn⟩ := Int.eq_ofNat_of_zero_le (a := b.number) (by omega)
  have e : encBat b = enc an ++ (enc nn ++ (lst (b.txs.map encL) ++ [])) := by
    unfold encBat
    rw [ha, hn, goInt_nat an (by omega), goInt_nat nn (by omega)]
    simp [List.append_assoc]
  rw [e]
  unfold decBat
  rw [rdI_enc an _ (by omega), rdI_enc nn _ (by omega), rdL_lst 16 _ _ ?_ (by rw [List.length_map]; omega) (by rw [List.length_map]; omega)]
  · have hm := eachE_map (f := decE) (g := encL) b.txs (fun a hx => decE_enc (z7 a hx))
    rw [hm]
    simp only
    have hb : (⟨(an : Int), (nn : Int), b.txs⟩ : BatD) = b := by rw [← ha, ← hn]
    rw [hb]
    unfold finBat
    rw [if_neg (by simp), if_neg (by omega), if_neg (by rw [h]; simp)]
  · intro t ht
    obtain ⟨d, hd, rfl⟩ := List.mem_map.1 ht
    have := enc_len (z7 d hd)
    omega

theorem flat_enc_le : ∀ (l : List TxD), (∀ d ∈ l, checkL d = 0) → ((l.map encL).flatMap txt).length ≤ 2009 * l.length
  | [], _ => by simp
  | d :: r, h => by
    have h1 := flat_enc_le r (fun x hx => h x (by simp [hx]))
    have h2 := txt_le (encL d)
    have h3 := enc_len (h d (by simp))
    simp only [List.map_cons, List.flatMap_cons, List.length_append, List.length_cons]
    omega

theorem encBat_len {b : BatD} (h : checkB b = 0) : (encBat b).length ≤ 33000 := by
  obtain ⟨_, _, _, _, _, z6, z7⟩ := checkB_zero h
  have x0 := goInt_length b.author
  have x1 := goInt_length b.number
  have x2 := flat_enc_le b.txs z7
  have x3 := goInt_length (b.txs.map encL).length
  unfold encBat
  rw [lst]
  simp only [List.length_append]
  omega
end Go.Proofs.Ytibfnefdpbdkoaa
