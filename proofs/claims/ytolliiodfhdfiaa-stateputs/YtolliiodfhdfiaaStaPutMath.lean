/- The transaction that puts a value under a name, and what it does. -/
import Derived.Test.YtolliiodfhdfiaaStaPayMath
import Derived.Test.YtolliiodfhdfiaaTxKeyMath
namespace Go.Proofs.Ytolliiodfhdfiaa
open Go
set_option linter.unusedVariables false

def putT (n : Nat) (key v : ByteArray) : TxD := ⟨2, nA, ⟨#[]⟩, 0, n, key, v, [], []⟩
def putW (n : Nat) (key v : ByteArray) : TxD := ⟨2, nA, ⟨#[]⟩, 0, n, key, v, [], [wA, kP ++ key]⟩

theorem putT_check {n : Nat} {key v : ByteArray} (hn : n ≤ 4611686018427387903) (hk : isNm key = true) (hv : v.size ≤ 64) : checkL (putT n key v) = 0 := by
  have h1 : fieldsR (putT n key v) = true := by
    unfold fieldsR
    rw [show (putT n key v).frm = nA from rfl, nA_nm, if_neg (show ¬ (putT n key v).kind = 1 by show ¬ (2 : Int) = 1; decide), show (putT n key v).key = key from rfl, hk, show (putT n key v).val = v from rfl, decide_eq_true hv, show (putT n key v).to = ⟨#[]⟩ from rfl, show (putT n key v).amt = 0 from rfl]
    decide +kernel
  unfold checkL
  rw [if_neg (fun e => e.2 rfl), if_neg (by rw [h1]; decide), if_neg (by show ¬ (4611686018427387903 < 0 ∨ 4611686018427387903 < n); omega), show (putT n key v).rs = [] from rfl, if_neg (show ¬ keysL [] ≠ 0 from fun e => e rfl)]
  rfl

theorem putT_needs {n : Nat} {key v : ByteArray} (hn : n ≤ 4611686018427387903) (hk : isNm key = true) (hv : v.size ≤ 64) : needsL (putT n key v) = [wA, kP ++ key] := by
  unfold needsL
  rw [if_pos (putT_check hn hk hv), if_pos (show (putT n key v).kind = 2 from rfl), show (putT n key v).frm = nA from rfl, aP_nA]
  rfl

theorem putW_fits {n : Nat} {key v : ByteArray} (hn : n ≤ 4611686018427387903) (hk : isNm key = true) (hv : v.size ≤ 64) : fitsL (putW n key v) = true := by
  have h := fits_with (putT_check hn hk hv)
  rw [putT_needs hn hk hv] at h
  exact h

theorem putW_E {s : StF} {n : Nat} {key v : ByteArray} (hn : n ≤ 4611686018427387903) (hk : isNm key = true) (hv : v.size ≤ 64) (ha : (s.acc nA).2 = n) : applyE s (putW n key v) = 0 := by
  have h2 : ¬ (putW n key v).kind = 1 := by show ¬ (2 : Int) = 1; decide
  unfold applyE
  rw [if_neg (by rw [putW_fits hn hk hv]; decide), if_neg (show ¬ (putW n key v).non ≠ (s.acc (putW n key v).frm).2 from fun e => e ha.symm), if_neg (fun e => h2 e.1), if_neg (fun e => h2 e.1)]

theorem putW_F {s : StF} {n : Nat} {key v : ByteArray} (hn : n ≤ 4611686018427387903) (hk : isNm key = true) (hv : v.size ≤ 64) (ha : (s.acc nA).2 = n) : (applyF s (putW n key v)).val = pnF s.val key (some v) ∧ ((applyF s (putW n key v)).acc nA).2 = n + 1 := by
  have h2 : ¬ (putW n key v).kind = 1 := by show ¬ (2 : Int) = 1; decide
  have e : applyF s (putW n key v) = ⟨accD s.acc (putW n key v), if (putW n key v).kind = 1 then s.val else pnF s.val (putW n key v).key (some (putW n key v).val)⟩ := by
    unfold applyF
    rw [if_pos (putW_E hn hk hv ha)]
  rw [e]
  refine ⟨by show (if (putW n key v).kind = 1 then s.val else pnF s.val key (some v)) = _; rw [if_neg h2], ?_⟩
  show (accD s.acc (putW n key v) nA).2 = _
  unfold accD
  rw [if_neg h2]
  show (pnF s.acc nA ((s.acc nA).1, (s.acc nA).2 + 1) nA).2 = _
  rw [pnF_at, ha]
end Go.Proofs.Ytolliiodfhdfiaa
