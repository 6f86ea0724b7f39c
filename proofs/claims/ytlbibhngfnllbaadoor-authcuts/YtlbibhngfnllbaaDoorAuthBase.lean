/- A table of keys in memory; N, Need and has. -/
import Derived.Test.YtlbibhngfnllbaaDoorAuthWire
import Derived.Below
namespace Go.Proofs.YtlbibhngfnllbaaDoor
open Go.RowKit
set_option linter.unusedVariables false

/-- A row of strings lies at an address (of no strings: whatever the address). -/
def StrsAt (w : World) (ao : Option Addr) (ss : List ByteArray) : Prop :=
  ∀ j (h : j < ss.length), ∃ b off, ao = some ⟨b, off, none⟩ ∧ b < w.heap.size ∧ w.cell? ⟨b, off + j, none⟩ = some (.string ss[j])

theorem StrsAt.below {w w' : World} {ao : Option Addr} {ss : List ByteArray} (h : StrsAt w ao ss) (hb : Below w.heap.size w w') : StrsAt w' ao ss := by
  intro j hj
  obtain ⟨b, off, h1, h2, h3⟩ := h j hj
  exact ⟨b, off, h1, Nat.lt_of_lt_of_le h2 hb.size, by rw [hb.cell (p := ⟨b, off + j, none⟩) h2]; exact h3⟩

/-- A table in memory: f, and the keys. -/
structure TabAt (w : World) (b : Nat) (f : Nat) (ks : List ByteArray) : Prop where
  lt : b < w.heap.size
  c0 : w.cell? ⟨b, 0, none⟩ = some (.int .i64 (f : Int))
  c1 : ∃ a cap, w.cell? ⟨b, 1, none⟩ = some (.slice a ks.length cap) ∧ StrsAt w a ks

theorem TabAt.below {w w' : World} {b f : Nat} {ks : List ByteArray} (h : TabAt w b f ks) (hb : Below w.heap.size w w') : TabAt w' b f ks := by
  obtain ⟨a, cap, h1, h2⟩ := h.c1
  refine ⟨Nat.lt_of_lt_of_le h.lt hb.size, ?_, a, cap, ?_, h2.below hb⟩
  · rw [hb.cell (p := ⟨b, 0, none⟩) h.lt]; exact h.c0
  · rw [hb.cell (p := ⟨b, 1, none⟩) h.lt]; exact h1

set_option maxRecDepth 100000 in
theorem n_any (b f : Nat) (ks : List ByteArray) (w : World) (h : TabAt w b f ks) (hf : f ≤ 2) :
    Calls Tryd.prog 11 #[.pointer (some ⟨b, 0, none⟩)] w fun e w' => e = .returned (.int .i64 ((3 * f + 1 : Nat) : Int)) ∧ w' = w := by
  have c0 := h.c0
  go_enter Tryd.func11, Tryd.ntmps11
  go_wp2
  go_ret
  exact ⟨by go_num, rfl⟩

set_option maxRecDepth 100000 in
theorem need_any (b f : Nat) (ks : List ByteArray) (w : World) (h : TabAt w b f ks) (hf : f ≤ 2) :
    Calls Tryd.prog 13 #[.pointer (some ⟨b, 0, none⟩)] w fun e w' => e = .returned (.int .i64 ((2 * f + 1 : Nat) : Int)) ∧ w' = w := by
  have c0 := h.c0
  go_enter Tryd.func13, Tryd.ntmps13
  go_wp2
  go_ret
  exact ⟨by go_num, rfl⟩

set_option maxRecDepth 100000 in
theorem has_yes (b f : Nat) (ks : List ByteArray) (who : Int) (w : World) (h : TabAt w b f ks) (h0 : 0 ≤ who) (h1 : who < (ks.length : Int)) :
    Calls Tryd.prog 26 #[.pointer (some ⟨b, 0, none⟩), .int .i64 who] w fun e w' => e = .returned (.bool true) ∧ w' = w := by
  obtain ⟨a, cap, c1, _⟩ := h.c1
  go_enter Tryd.func26, Tryd.ntmps26
  go_wp2
  go_ret
  exact ⟨rfl, rfl⟩

set_option maxRecDepth 100000 in
theorem has_no (b f : Nat) (ks : List ByteArray) (who : Int) (w : World) (h : TabAt w b f ks) (hn : who < 0 ∨ (ks.length : Int) ≤ who) :
    Calls Tryd.prog 26 #[.pointer (some ⟨b, 0, none⟩), .int .i64 who] w fun e w' => e = .returned (.bool false) ∧ w' = w := by
  obtain ⟨a, cap, c1, _⟩ := h.c1
  by_cases h0 : 0 ≤ who
  · have h1 : ¬ who < (ks.length : Int) := by omega
    go_enter Tryd.func26, Tryd.ntmps26
    go_wp2
    go_ret
    exact ⟨rfl, rfl⟩
  · go_enter Tryd.func26, Tryd.ntmps26
    go_wp2
    go_ret
    exact ⟨rfl, rfl⟩
end Go.Proofs.YtlbibhngfnllbaaDoor
