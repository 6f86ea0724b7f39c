/- What Needs, slices.Contains and Fits do; nothing old in memory is turned. -/
import Derived.Test.YtibfnefdpbdkoaaTxEncode
import Derived.Test.YtibfnefdpbdkoaaStrRows
namespace Go.Proofs.Ytibfnefdpbdkoaa
open Go.RowKit
set_option linter.unusedVariables false

theorem one_strs (w : World) (a : ByteArray) (T : TypeId) : StrsAt (w.alloc (.cells #[.string a] T)) (some ⟨w.heap.size, 0, none⟩) [a] := by
  intro j hj
  have h := Arr.new w T [.string a]
  obtain rfl : j = 0 := by simp at hj; omega
  exact ⟨w.heap.size, 0, rfl, h.lt, h.cell rfl⟩

theorem two_strs (w : World) (a b : ByteArray) (T : TypeId) : StrsAt (w.alloc (.cells #[.string a, .string b] T)) (some ⟨w.heap.size, 0, none⟩) [a, b] := by
  intro j hj
  have h := Arr.new w T [.string a, .string b]
  match j, hj with
  | 0, _ => exact ⟨w.heap.size, 0, rfl, h.lt, h.cell rfl⟩
  | 1, _ => exact ⟨w.heap.size, 0, rfl, h.lt, h.cell rfl⟩



/-- A row of strings is handed back. -/
def GotStrs (W : World) (l : List ByteArray) (e : Ending) (w : World) : Prop :=
  ∃ ao, e = .returned (.slice ao l.length l.length) ∧ StrsAt w ao l ∧ Below W.heap.size W w

theorem GotStrs.of {W w : World} {l : List ByteArray} {n : Nat} {v : Value} {ao : Option Addr} (hv : v = .slice ao n n) (hn : n = l.length) (h : StrsAt w ao l) (hb : Below W.heap.size W w) : GotStrs W l (.returned v) w := by
  subst hv hn
  exact ⟨ao, rfl, h, hb⟩
end Go.Proofs.Ytibfnefdpbdkoaa
