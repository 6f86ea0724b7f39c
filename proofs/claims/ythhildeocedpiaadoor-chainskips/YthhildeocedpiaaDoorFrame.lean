/- What the frames of the proofs share: a slice of strings that came in, opened; its length's reach. -/
import Derived.Test.YthhildeocedpiaaDoorStrs
import Derived.ProofKit
import Derived.OpenShut
import Derived.ShutString
import Derived.ChangeOld
import Derived.Below
import Derived.SizedLaws
import Derived.SliceStrings
namespace Go.Proofs.YthhildeocedpiaaDoor
open Go.ChangeShapes Go.WideShapes Go.ChangeAt Go.RowKit

theorem ownKnob_none : ownKnob Tryd.prog.godebug = none := by kernel_rfl
theorem laidOut_true : laidOutB Tryd.prog = true := by kernel_rfl
theorem cellsString : Tryd.prog.cellsOf 9 = 1 := by kernel_rfl
theorem bytesString : Tryd.prog.bytesOf 9 = 16 := by kernel_rfl

/-- How a slice of strings reads. -/
def StrsDatum {H : Type} (d : DataW H) (ss : List ByteArray) : Prop := (d = .nil ∧ ss = []) ∨ ∃ rest, d = .slice (strs ss) rest

theorem strs_open {H : Type} {enc : TypeId × Value → H} {W : World} {a : Option Addr} {len cap : Nat} {d : DataW H} {p : List MemPlace}
    (h : DataW.Trod enc Tryd.prog W 0 (fun _ => true) true 23 (.slice a len cap) d p) :
    ∃ ss : List ByteArray, ss.length = len ∧ StrsAt W a ss ∧ (∀ s ∈ ss, s.size ≤ maxLen) ∧ StrsDatum d ss := by
  obtain ⟨fuel, hf⟩ := h
  rcases open_strings Tryd.underlying23 Tryd.underlying9 cellsString hf with ⟨hcs, hx⟩ | ⟨x, l, c, ss, hcs, _, hl, hm, hz, hx, hcell, hws⟩
  · simp [Value.cells] at hcs
    obtain ⟨rfl, rfl, rfl⟩ := hcs
    exact ⟨[], rfl, fun j hj => absurd hj (by simp), fun s hs => absurd hs (by simp), Or.inl ⟨(Prod.mk.inj hx).1, rfl⟩⟩
  · simp [Value.cells] at hcs
    obtain ⟨rfl, rfl, rfl⟩ := hcs
    have hz' : ss.length = cap := by simpa using hz
    refine ⟨ss.take len, by simp; omega, ?_, fun s hs => hws s (List.mem_of_mem_take hs), Or.inr ⟨_, (Prod.mk.inj hx).1⟩⟩
    intro j hj
    have hj1 : j < ss.length := by simp at hj; omega
    obtain ⟨b, off, spot⟩ := x
    have hc0 := hcell 0 (by omega)
    have hspot : spot = none := by simpa [Addr.add] using World.cell?_spot hc0
    subst hspot
    have hcj := hcell j hj1
    rw [Go.WideShapes.add_plain] at hcj
    refine ⟨b, off, rfl, World.block_lt_of_cell? W _ hcj, ?_⟩
    rw [hcj]
    simp [List.getD, List.getElem?_eq_getElem hj1]

theorem strs_cap {H : Type} {enc : TypeId × Value → H} {W : World} {a : Option Addr} {len cap : Nat} {d : DataW H} {p : List MemPlace}
    (h : DataW.Trod enc Tryd.prog W 0 (fun _ => true) true 23 (.slice a len cap) d p) : a = none → cap = 0 := by
  intro ha
  obtain ⟨fuel, hf⟩ := h
  rcases open_strings Tryd.underlying23 Tryd.underlying9 cellsString hf with ⟨hcs, _⟩ | ⟨x, l, c, ss, hcs, _⟩
  · simp [Value.cells] at hcs
    exact hcs.2.2
  · simp [Value.cells] at hcs
    rw [hcs.1] at ha
    cases ha

theorem strs_sized {H : Type} {ts : List TypeId} {ds : List (DataW H)} (h : (DataW.weightsEach Tryd.prog ts ds).all (· ≤ reachBytes) = true) {j : Nat} {d : DataW H} {ss : List ByteArray} (ht : ts[j]? = some 23) (hd : ds[j]? = some d) (hs : StrsDatum d ss) :
    ss.length * 16 ≤ 140737488351232 := by
  rcases hs with ⟨rfl, rfl⟩ | ⟨rest, rfl⟩
  · simp
  · have := sized_slice h ht hd Tryd.underlying23
    rw [bytesString] at this
    simp [strs, reachBytes] at this
    omega
end Go.Proofs.YthhildeocedpiaaDoor
