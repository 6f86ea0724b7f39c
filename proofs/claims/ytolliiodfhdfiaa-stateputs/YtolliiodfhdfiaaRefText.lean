/- What tuskref01.Text and tuskref01.GetText do. -/
import Derived.Test.YtolliiodfhdfiaaWireIntsWalk
namespace Go.Proofs.Ytolliiodfhdfiaa
open Go.RowKit

theorem getText_at' (s : ByteArray) (w : World) (t : List UInt8) (k er : Nat) (hs : s.size ≤ maxLen) (hr : getText s.data.toList = (t, k, er)) :
    Calls Try.prog 48 #[.string s] w fun e w' => e = .returned (.tuple #[.string ⟨t.toArray⟩, .int .i64 k, .int .i64 er]) ∧ w' = w := by
  have h := getText_any s w hs
  rw [hr] at h
  exact h
end Go.Proofs.Ytolliiodfhdfiaa
