/- What the reader's tx does: the transaction that the bytes are, or the first error, thrown. -/
import Derived.Test.YtlfjdbnifhidnaaDoorTxReader
namespace Go.Proofs.YtlfjdbnifhidnaaDoor
open Go.RowKit
set_option linter.unusedVariables false

/-- What the reader's tx hands back, or throws. -/
def Read (W : World) (rb : Nat) (r : TxD × Nat) (e : Ending) (w : World) : Prop :=
  (r.2 = 0 ∧ ∃ ra rc wa wc, e = .returned (txV r.1 ra rc wa wc) ∧ OwnStrs (rb + 1) w ra r.1.rs ∧ OwnStrs (rb + 1) w wa r.1.ws ∧ (ra = none → rc = 0) ∧ (wa = none → wc = 0) ∧ Below rb W w) ∨ (r.2 ≠ 0 ∧ e = .panicked (thrown r.2) ∧ Below rb W w)

theorem Read.err {W w : World} {rb er : Nat} {r : TxD × Nat} (h : r = (.none, er)) (he : er ≠ 0) (hb : Below rb W w) : Read W rb r (.panicked (thrown er)) w := by
  subst h
  exact Or.inr ⟨he, rfl, hb⟩

theorem rest_size (r : ByteArray) (k : Nat) (h : r.size ≤ maxLen) : (r.extract k r.size).size ≤ maxLen := by
  rw [ByteArray.size_extract]
  omega

theorem conv_u64 (n : Nat) (h : n ≤ 4611686018427387903) : (n : Int) ≤ 4611686018427387903 := by omega
end Go.Proofs.YtlfjdbnifhidnaaDoor
