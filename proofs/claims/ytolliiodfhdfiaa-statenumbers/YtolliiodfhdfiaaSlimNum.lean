/- Numbers: what wraps, and what is picked out of so many. -/
import Derived.Test.YtolliiodfhdfiaaSlimBase
namespace Go.Proofs.Ytolliiodfhdfiaa.Mx
open Go.RowKit

theorem wrap64_small (n : Int) (h0 : 0 ≤ n) (h1 : n < 9223372036854775808) : wrap64 n = n := by unfold wrap64; omega

theorem wrap_u64 (f : Int) : IntKind.u64.wrap f = f % 18446744073709551616 := by simp [IntKind.wrap, IntKind.bits, IntKind.signed]

theorem u64_range (f : Int) : 0 ≤ IntKind.u64.wrap f ∧ IntKind.u64.wrap f < 18446744073709551616 := by
  rw [wrap_u64]; omega
end Go.Proofs.Ytolliiodfhdfiaa.Mx
