/- Reading field by field, whatever is read: the first error, or what follows. -/
import Derived.Test.YtibfnefdpbdkoaaTxBackMath
namespace Go.Proofs.Ytibfnefdpbdkoaa
open Go.RowKit
set_option linter.unusedVariables false

/-- A transaction out of bytes, as what is read or the error. -/
def decE (l : List UInt8) : Except Nat TxD := if (decL l).2 ≠ 0 then .error (decL l).2 else .ok (decL l).1

theorem decE_ok {l : List UInt8} {d : TxD} (h : decE l = .ok d) : decL l = (d, 0) := by
  unfold decE at h
  by_cases he : (decL l).2 ≠ 0
  · rw [if_pos he] at h; cases h
  · rw [if_neg he] at h
    simp only [Except.ok.injEq] at h
    have h0 : (decL l).2 = 0 := by omega
    rw [← h, ← h0]

theorem decE_enc {d : TxD} (h : checkL d = 0) : decE (encL d) = .ok d := by
  have h1 := dec_enc h []
  rw [List.append_nil, if_pos rfl] at h1
  unfold decE
  rw [h1, if_neg (by simp)]
end Go.Proofs.Ytibfnefdpbdkoaa
