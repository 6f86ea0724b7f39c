/- Rows of strings in memory, and a list's bytes. -/
import Derived.Test.YthhildeocedpiaaDoorWireText
namespace Go.Proofs.YthhildeocedpiaaDoor
open Go.RowKit

/-- A row of strings lies at an address (of no strings: whatever the address). -/
def StrsAt (w : World) (ao : Option Addr) (ss : List ByteArray) : Prop :=
  ∀ j (h : j < ss.length), ∃ b off, ao = some ⟨b, off, none⟩ ∧ b < w.heap.size ∧ w.cell? ⟨b, off + j, none⟩ = some (.string ss[j])

theorem StrsAt.below {w w' : World} {ao : Option Addr} {ss : List ByteArray} (h : StrsAt w ao ss) (hb : Below w.heap.size w w') : StrsAt w' ao ss := by
  intro j hj
  obtain ⟨b, off, h1, h2, h3⟩ := h j hj
  exact ⟨b, off, h1, Nat.lt_of_lt_of_le h2 hb.size, by rw [hb.cell (p := ⟨b, off + j, none⟩) h2]; exact h3⟩

def bl (ss : List ByteArray) : List (List UInt8) := ss.map (·.data.toList)

/-- A list's bytes. -/
def lst (l : List (List UInt8)) : List UInt8 := goInt l.length ++ l.flatMap txt

theorem take_flat (l : List (List UInt8)) (k : Nat) (h : k < l.length) : (l.take (k + 1)).flatMap txt = (l.take k).flatMap txt ++ txt l[k] := by
  rw [List.take_succ_eq_append_getElem h, List.flatMap_append]; simp

theorem take_flat_le (l : List (List UInt8)) (k : Nat) : ((l.take k).flatMap txt).length ≤ (l.flatMap txt).length := by
  have h : l.flatMap txt = (l.take k).flatMap txt ++ (l.drop k).flatMap txt := by rw [← List.flatMap_append, List.take_append_drop]
  rw [h]; simp

theorem size_mk (l : List UInt8) : (⟨l.toArray⟩ : ByteArray).size = l.length := by simp [ByteArray.size_mk']

theorem ret_str {l m : List UInt8} (h : l = m) : Ending.returned (.string ⟨l.toArray⟩) = .returned (.string ⟨m.toArray⟩) := by rw [h]

theorem goInt_ne (n : Nat) (h : n ≤ 4611686018427387903) : goInt n ≠ [] := by
  unfold goInt
  rw [if_pos (by omega)]
  have := enc_length_pos n
  intro e
  simp at e
  rw [e] at this
  simp at this

end Go.Proofs.YthhildeocedpiaaDoor
