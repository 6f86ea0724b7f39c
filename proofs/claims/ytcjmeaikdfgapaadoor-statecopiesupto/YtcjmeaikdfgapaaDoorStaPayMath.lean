/- The transaction that pays, and what it does to a state whose two accounts are known. -/
import Derived.Test.YtcjmeaikdfgapaaDoorStaDig
namespace Go.Proofs.YtcjmeaikdfgapaaDoor
open Go
set_option linter.unusedVariables false

def nA : ByteArray := ⟨#[97]⟩
def nB : ByteArray := ⟨#[98]⟩
def wA : ByteArray := ⟨#[97, 58, 97]⟩
def wB : ByteArray := ⟨#[97, 58, 98]⟩

def sendD (m n : Nat) : TxD := ⟨1, nA, nB, m, n, ⟨#[]⟩, ⟨#[]⟩, [], [wA, wB]⟩

theorem nA_nm : isNm nA = true := by decide +kernel
theorem nB_nm : isNm nB = true := by decide +kernel
theorem nB_nA : nB ≠ nA := by decide +kernel
theorem keysAB : keysL [wA, wB] = 0 := by decide +kernel
theorem aP_nA : aP ++ nA = wA := by decide +kernel
theorem aP_nB : aP ++ nB = wB := by decide +kernel
theorem lessAB : Op.bytesLess wA.toList wB.toList = true := by decide +kernel
theorem hasAB : ([wA, wB].all (hasL [wA, wB])) = true := by decide +kernel

theorem send_check {m n : Nat} (hm : m ≤ 4611686018427387903) (hn : n ≤ 4611686018427387903) : checkL (sendD m n) = 0 := by
  have h1 : fieldsR (sendD m n) = true := by
    unfold fieldsR
    rw [show (sendD m n).frm = nA from rfl, nA_nm, if_pos (show (sendD m n).kind = 1 from rfl), show (sendD m n).to = nB from rfl, nB_nm, show (sendD m n).key = ⟨#[]⟩ from rfl, show (sendD m n).val = ⟨#[]⟩ from rfl]
    decide +kernel
  unfold checkL
  rw [if_neg (fun e => e.1 rfl), if_neg (by rw [h1]; decide), if_neg (by show ¬ (4611686018427387903 < m ∨ 4611686018427387903 < n); omega), show (sendD m n).rs = [] from rfl, if_neg (show ¬ keysL [] ≠ 0 from fun e => e rfl)]
  exact keysAB

theorem send_fits {m n : Nat} (hm : m ≤ 4611686018427387903) (hn : n ≤ 4611686018427387903) : fitsL (sendD m n) = true := by
  have h1 : needsL (sendD m n) = [wA, wB] := by
    unfold needsL
    rw [if_pos (send_check hm hn), if_neg (show ¬ (sendD m n).kind = 2 by show ¬ (1 : Int) = 2; decide), show (sendD m n).frm = nA from rfl, show (sendD m n).to = nB from rfl, aP_nA, aP_nB, if_pos lessAB]
  unfold fitsL
  rw [h1, show (sendD m n).ws = [wA, wB] from rfl, hasAB]
  rfl

/-- What it is answered, where a has x and the number k, and b has y. -/
theorem send_E {s : StF} {m n x k y z : Nat} (hm : m ≤ 4611686018427387903) (hn : n ≤ 4611686018427387903) (ha : s.acc nA = (x, k)) (hb : s.acc nB = (y, z)) : applyE s (sendD m n) = if n ≠ k then 2 else if x < m then 3 else if 4611686018427387903 < y + m then 4 else 0 := by
  have e1 : (s.acc (sendD m n).frm) = (x, k) := ha
  have e2 : (s.acc (sendD m n).to) = (y, z) := hb
  unfold applyE
  rw [if_neg (by rw [send_fits hm hn]; decide), e1, e2]
  show (if n ≠ k then 2 else if (1 : Int) = 1 ∧ x < m then 3 else if (1 : Int) = 1 ∧ nB ≠ nA ∧ 4611686018427387903 < y + m then 4 else 0) = _
  have := nB_nA
  simp [this]

/-- What they have behind it, if it is done. -/
theorem send_F {s : StF} {m n x k y z : Nat} (h : applyE s (sendD m n) = 0) (ha : s.acc nA = (x, k)) (hb : s.acc nB = (y, z)) : (applyF s (sendD m n)).acc nA = (x - m, k + 1) ∧ (applyF s (sendD m n)).acc nB = (y + m, z) := by
  have e : (applyF s (sendD m n)).acc = accD s.acc (sendD m n) := by unfold applyF; rw [if_pos h]
  rw [e]
  unfold accD
  rw [if_pos (show (sendD m n).kind = 1 from rfl), show (sendD m n).frm = nA from rfl, show (sendD m n).to = nB from rfl, show (sendD m n).amt = m from rfl, ha, pnF_ne _ _ nB_nA, hb, pnF_at, pnF_ne _ _ nB_nA.symm, pnF_at]
  exact ⟨rfl, rfl⟩

/-- The beginning where a alone has something. -/
theorem newA (funds : Nat) (h : funds ≤ 4611686018427387903) : (newF [nA] funds).acc nA = (funds, 0) ∧ (newF [nA] funds).acc nB = (0, 0) := by
  have h1 : (isNm nA && inN [nA] nA) = true := by decide +kernel
  have h2 : (isNm nB && inN [nA] nB) = false := by decide +kernel
  unfold newF
  simp only [h1, h2]
  refine ⟨?_, rfl⟩
  show (min funds 4611686018427387903, 0) = (funds, 0)
  rw [Nat.min_eq_left h]
end Go.Proofs.YtcjmeaikdfgapaaDoor
