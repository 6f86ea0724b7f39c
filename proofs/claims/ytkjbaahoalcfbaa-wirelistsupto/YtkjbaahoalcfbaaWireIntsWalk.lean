/- tusklaw01.WireInts answers true at every number and every string; nothing old in memory is turned. -/
import Derived.Test.YtkjbaahoalcfbaaRefGetInt
namespace Go.Proofs.Ytkjbaahoalcfbaa
open Go.RowKit

theorem refGetInt_at (s : ByteArray) (w : World) (n k er : Nat) (hs : s.size ≤ maxLen) (hr : getInt s.data.toList = (n, k, er)) :
    Calls Try.prog 10 #[.string s] w fun e w' => e = .returned (.tuple #[.int .i64 n, .int .i64 k, .int .i64 er]) ∧ w' = w := by
  have h := refGetInt_any s w hs
  rw [hr] at h
  exact h

set_option maxRecDepth 100000 in
set_option maxHeartbeats 1000000 in
theorem ints_walk (n : Int) (s : ByteArray) (w : World) (_ : (Lit.int .i64 n).wf = true) (hs : s.size ≤ 140737488351232) :
    Calls Try.prog 3 #[.int .i64 n, .string s] w fun e w' => e = .returned (.bool true) ∧ Below w.heap.size w w' := by
  have hs0 : Hid (s.size ≤ maxLen) := by show _ ≤ _; unfold maxLen; omega
  rcases hr : getInt s.data.toList with ⟨a, k, er⟩
  have HR : Hid (getInt s.data.toList = (a, k, er)) := hr
  clear hr
  go_enter Try.func3, Try.ntmps3
  go_wp2_with fail
  refine (getInt_at s _ a k er hs0.out HR.out).mono ?_
  rintro e w1 ⟨rfl, rfl⟩
  go_wp2_with fail
  refine (refGetInt_at s _ a k er hs0.out HR.out).mono ?_
  rintro e w1 ⟨rfl, rfl⟩
  go_wp2_with fail
  refine (int_any _ _).mono ?_
  rintro e w2 ⟨rfl, hw2⟩
  go_wp2_with fail
  refine (refInt_any _ _).mono ?_
  rintro e w3 ⟨rfl, hw3⟩
  have hw := hw2.trans (hw3.mono hw2.size)
  clear hw2 hw3
  generalize goInt n = g
  go_wp2
  go_ret
  exact ⟨rfl, hw⟩
end Go.Proofs.Ytkjbaahoalcfbaa
