/- What wire.GetList does: the texts at the front of bytes, in new memory, in how many bytes, and the error; nothing old in memory is turned. -/
import Derived.Test.YtcjmeaikdfgapaaDoorWireList
namespace Go.Proofs.YtcjmeaikdfgapaaDoor
open Go.RowKit

/-- m texts more, from a place on, behind those that are got. -/
def glGo (l : List UInt8) : Nat → Nat → List (List UInt8) → List (List UInt8) × Nat × Nat
  | 0, at_, acc => (acc, at_, 0)
  | m + 1, at_, acc => if (getText (l.drop at_)).2.2 ≠ 0 then ([], 0, (getText (l.drop at_)).2.2) else glGo l m (at_ + (getText (l.drop at_)).2.1) (acc ++ [(getText (l.drop at_)).1])

def getList (l : List UInt8) (most : Int) : List (List UInt8) × Nat × Nat :=
  if (getInt l).2.2 ≠ 0 then ([], 0, (getInt l).2.2)
  else if most < (getInt l).1 then ([], 0, 8)
  else glGo l (getInt l).1 (getInt l).2.1 []

def strVal (t : List UInt8) : Value := .string ⟨t.toArray⟩

def slLen : Value → Nat | .slice _ n _ => n | _ => 0

theorem infoString : (Tryd.prog.info? 9).map (fun i => (i.zero, i.size, i.bytes)) = some (some (.string ⟨#[]⟩), 1, 16) := by kernel_rfl

theorem strVal_one (l : List (List UInt8)) : ∀ u ∈ l.map strVal, u.oneCell' = true := by
  intro u hu
  obtain ⟨b, _, rfl⟩ := List.mem_map.1 hu
  rfl

theorem extract_drop (s : ByteArray) (a : Nat) : (s.extract a s.size).data.toList = s.data.toList.drop a := by
  rw [extract_list]
  rw [List.take_of_length_le (by simp)]

theorem own_slice {w : World} {B : Nat} {e : TypeId} {v : Value} {n : Nat} {xs : List Value} (h : w.ownsRow B e 1 v n xs) : ∃ ao cap, v = .slice ao n cap := by
  rcases h.2 with ⟨rfl, rfl⟩ | ⟨g, cap, cur, rfl, _⟩
  · exact ⟨_, _, rfl⟩
  · exact ⟨_, _, rfl⟩

def GotList (w w' : World) (r : List (List UInt8) × Nat × Nat) (v : Value) : Prop :=
  ∃ ao cap, v = .tuple #[.slice ao r.1.length cap, .int .i64 r.2.1, .int .i64 r.2.2] ∧ w'.ownsRow w.heap.size 9 1 (.slice ao r.1.length cap) r.1.length (r.1.map strVal)
end Go.Proofs.YtcjmeaikdfgapaaDoor
