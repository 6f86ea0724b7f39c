/- The reference's number, firsts and places; nothing old in memory is turned. -/
import Derived.Test.YtlbibhngfnllbaaDoorMixFoldMath
import Derived.Test.YtlbibhngfnllbaaDoorMixArr
import Derived.Test.YtlbibhngfnllbaaDoorRows
import Derived.WalkKit
import Derived.WalkSpells
import Derived.WalkLawsBesides
import Derived.Deep.QuietTactic
import Derived.BigQuiet
namespace Go.Proofs.YtlbibhngfnllbaaDoor
open Go.RowKit
set_option linter.unusedVariables false

set_option maxRecDepth 100000 in
set_option maxHeartbeats 1000000 in
theorem number_any (s : ByteArray) (w : World) (hs : s.size = 4) :
    Calls Tryd.prog 44 #[.string s] w fun e w' => e = .returned (.int .u32 ((wordAt s.data.toList 0).toNat : Int)) ∧ ∃ m, w' = w.drewN m := by
  have h0 : (0 : Int) < (s.size : Int) := by omega
  have h1 : (1 : Int) < (s.size : Int) := by omega
  have h2 : (2 : Int) < (s.size : Int) := by omega
  have h3 : (3 : Int) < (s.size : Int) := by omega
  have k0 : 0 < s.size := by omega
  have k1 : 1 < s.size := by omega
  have k2 : 2 < s.size := by omega
  have k3 : 3 < s.size := by omega
  go_enter Tryd.func44, Tryd.ntmps44
  go_wp2
  go_quiet (fail)
  go_wp2
  go_ret
  refine ⟨?_, nq, rfl⟩
  have e : ∀ i (hi : i < s.size), byteAt s.data.toList i = s[i].toNat := fun i hi => by
    unfold byteAt
    have hl : i < s.data.toList.length := by simpa using hi
    rw [List.getD, List.getElem?_eq_getElem hl]
    rfl
  rw [wordAt_toNat]
  simp only [Nat.mul_zero, Nat.zero_add, e 0 k0, e 1 k1, e 2 k2, e 3 k3]
  have b0 := s[0].toNat_lt
  have b1 := s[1].toNat_lt
  have b2 := s[2].toNat_lt
  have b3 := s[3].toNat_lt
  refine congrArg Ending.returned (congrArg (Value.int IntKind.u32) ?_)
  omega

def places : List Nat := [0, 4, 8, 12, 1, 5, 9, 13, 2, 6, 10, 14, 3, 7, 11, 15, 0, 5, 10, 15, 1, 6, 11, 12, 2, 7, 8, 13, 3, 4, 9, 14]
def iv (n : Nat) : Value := .int .i64 (n : Int)

set_option maxRecDepth 100000 in
theorem firsts_any (w : World) :
    Calls Tryd.prog 39 #[] w fun e w' => e = .returned (.slice (some ⟨w.heap.size, 0, none⟩) 8 8) ∧ w' = w.alloc (.cells (firstsL.map wv).toArray 58) := by
  go_enter Tryd.func39, Tryd.ntmps39
  go_wp2
  go_ret
  exact ⟨rfl, rfl⟩

set_option maxRecDepth 100000 in
theorem places_any (w : World) :
    Calls Tryd.prog 41 #[] w fun e w' => e = .returned (.slice (some ⟨w.heap.size, 0, none⟩) 32 32) ∧ w' = w.alloc (.cells (places.map iv).toArray 3) := by
  go_enter Tryd.func41, Tryd.ntmps41
  go_wp2
  go_ret
  exact ⟨rfl, rfl⟩

def allocAll (w : World) : List Obj → World
  | [] => w
  | o :: r => allocAll (w.alloc o) r

theorem allocAll_heap : ∀ (os : List Obj) (w : World), (allocAll w os).heap = w.heap ++ os.toArray
  | [], w => by simp [allocAll]
  | o :: r, w => by
    rw [allocAll, allocAll_heap r]
    show (w.heap.push o) ++ r.toArray = _
    simp

theorem allocAll_below : ∀ (os : List Obj) (w : World), Below w.heap.size w (allocAll w os)
  | [], w => Below.refl _ _
  | o :: r, w => ((Below.refl _ w).alloc (Nat.le_refl _) o).trans ((allocAll_below r (w.alloc o)).mono (by rw [alloc_size]; omega))

def rowSlice (N i : Nat) : Value := .slice (some ⟨N + i, 0, none⟩) 16 16
def rowObjs (N : Nat) : List Obj := ((List.range 10).map fun i => Obj.cells ((rowL i).map iv).toArray 3) ++ [Obj.cells ((List.range 10).map (rowSlice N)).toArray 70]

set_option maxRecDepth 100000 in
set_option maxHeartbeats 1000000 in
theorem rows_any (w : World) :
    Calls Tryd.prog 40 #[] w fun e w' => e = .returned (.slice (some ⟨w.heap.size + 10, 0, none⟩) 10 10) ∧ w' = allocAll w (rowObjs w.heap.size) := by
  go_enter Tryd.func40, Tryd.ntmps40
  go_wp2
  go_ret
  exact ⟨rfl, rfl⟩
end Go.Proofs.YtlbibhngfnllbaaDoor
