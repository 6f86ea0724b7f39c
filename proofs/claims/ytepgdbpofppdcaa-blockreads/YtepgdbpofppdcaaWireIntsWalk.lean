/- tusklaw01.WireInts answers true at every number and every string; nothing old in memory is turned. -/
import Derived.Test.YtepgdbpofppdcaaRefGetInt
namespace Go.Proofs.Ytepgdbpofppdcaa
open Go.RowKit

theorem refGetInt_at (s : ByteArray) (w : World) (n k er : Nat) (hs : s.size ≤ maxLen) (hr : getInt s.data.toList = (n, k, er)) :
    Calls Try.prog 39 #[.string s] w fun e w' => e = .returned (.tuple #[.int .i64 n, .int .i64 k, .int .i64 er]) ∧ w' = w := by
  have h := refGetInt_any s w hs
  rw [hr] at h
  exact h
end Go.Proofs.Ytepgdbpofppdcaa
