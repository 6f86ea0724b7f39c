/- Texts as a kind of record. -/
import Derived.Test.YthhildeocedpiaaDoorKinds
namespace Go.Proofs.YthhildeocedpiaaDoor
open Go.RowKit
set_option linter.unusedVariables false

/-- Texts. -/
def strK : Kind ByteArray where
  n := 1
  c s := [.string s]
  foot _ _ := False
  At _ _ := True
  pos := by decide
  len _ := rfl
  one x u hu := by
    simp only [List.mem_cons, List.not_mem_nil, or_false] at hu
    rcases hu with rfl; rfl
  lt _ h := h.elim
  keep _ _ := trivial

theorem RowAt.strs {w : World} {ao : Option Addr} {l : List ByteArray} (h : RowAt strK w ao l) : StrsAt w ao l := by
  intro j hj
  obtain ⟨b, off, h1, h2, h3⟩ := h.cell j l[j] (List.getElem?_eq_getElem hj)
  refine ⟨b, off, h1, h2, ?_⟩
  have := h3 0 (.string l[j]) rfl
  have e : off + j * strK.n + 0 = off + j := by show off + j * 1 + 0 = _; omega
  rw [e] at this
  exact this

theorem StrsAt.row {w : World} {ao : Option Addr} {l : List ByteArray} (h : StrsAt w ao l) : RowAt strK w ao l := by
  refine ⟨fun j x hx => ?_, fun _ _ => trivial⟩
  obtain ⟨hj, rfl⟩ := List.getElem?_eq_some_iff.1 hx
  obtain ⟨b, off, h1, h2, h3⟩ := h j hj
  refine ⟨b, off, h1, h2, fun i v hv => ?_⟩
  match i, hv with
  | 0, hv =>
    simp [strK] at hv
    subst hv
    have e : off + j * strK.n + 0 = off + j := by show off + j * 1 + 0 = _; omega
    rw [e]
    exact h3

theorem strs_foot {ao : Option Addr} {l : List ByteArray} {b : Nat} (h : rowFoot strK ao l b) : 0 < l.length ∧ ∃ off, ao = some ⟨b, off, none⟩ := by
  rcases h with ⟨hl, h⟩ | ⟨_, _, h⟩
  · exact ⟨List.length_pos_iff.2 hl, h⟩
  · exact h.elim

theorem OwnStrs.foot {base : Nat} {w : World} {ao : Option Addr} {l : List ByteArray} (h : OwnStrs base w ao l) {b : Nat} (hf : rowFoot strK ao l b) : base ≤ b := by
  obtain ⟨hl, off, e⟩ := strs_foot hf
  obtain ⟨b', off', e', hb, _⟩ := h 0 hl
  rw [e] at e'
  simp at e'
  omega
end Go.Proofs.YthhildeocedpiaaDoor
