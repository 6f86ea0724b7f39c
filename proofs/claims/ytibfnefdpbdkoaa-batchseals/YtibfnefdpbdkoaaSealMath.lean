/- A sealer's mathematics: what is added, what a tick seals, and that all is sealed in the end. -/
import Derived.Test.YtibfnefdpbdkoaaTxMath
namespace Go.Proofs.Ytibfnefdpbdkoaa
set_option linter.unusedVariables false

/-- A sealer: what waits, how long, the last number. -/
structure Seal (α : Type) where
  size : Nat
  wait : Nat
  l : List α
  ticks : Nat
  number : Nat

/-- One more, if there is room. -/
def Seal.add {α : Type} (s : Seal α) (x : α) : Seal α := if 4 * s.size ≤ s.l.length then s else { s with l := s.l ++ [x] }

/-- Does a tick seal? -/
def Seal.seals {α : Type} (s : Seal α) : Bool := !s.l.isEmpty && !(decide (s.l.length < s.size) && decide (s.ticks + 1 < s.wait))

/-- What a tick seals. -/
def Seal.out {α : Type} (s : Seal α) : List α := if s.seals = true then s.l.take s.size else []

/-- A tick. -/
def Seal.tick {α : Type} (s : Seal α) : Seal α :=
  if s.l = [] then s else if s.seals = true then { s with l := s.l.drop s.size, ticks := 0, number := s.number + 1 } else { s with ticks := s.ticks + 1 }

/-- What holds of a sealer at all times. -/
structure Seal.Ok {α : Type} (s : Seal α) : Prop where
  size1 : 1 ≤ s.size
  size16 : s.size ≤ 16
  wait1 : 1 ≤ s.wait
  wait1000 : s.wait ≤ 1000
  room : s.l.length ≤ 4 * s.size
  less : s.ticks < s.wait
  still : s.l = [] → s.ticks = 0

theorem Seal.seals_iff {α : Type} (s : Seal α) : s.seals = true ↔ s.l ≠ [] ∧ (s.size ≤ s.l.length ∨ s.wait ≤ s.ticks + 1) := by
  unfold Seal.seals
  cases hl : s.l with
  | nil => simp
  | cons x r =>
    simp only [List.isEmpty_cons, Bool.not_false, Bool.true_and, Bool.not_eq_true', Bool.and_eq_false_iff, decide_eq_false_iff_not, ne_eq, reduceCtorEq, not_false_eq_true, true_and]
    omega

theorem Seal.add_ok {α : Type} {s : Seal α} (h : s.Ok) (x : α) : (s.add x).Ok := by
  unfold Seal.add
  split
  · exact h
  · rename_i hr
    exact ⟨h.size1, h.size16, h.wait1, h.wait1000, by simp only [List.length_append, List.length_cons, List.length_nil]; omega, h.less, fun e => by simp at e⟩

theorem Seal.tick_ok {α : Type} {s : Seal α} (h : s.Ok) : s.tick.Ok := by
  unfold Seal.tick
  split
  · exact h
  · rename_i hne
    split
    · refine ⟨h.size1, h.size16, h.wait1, h.wait1000, ?_, ?_, fun _ => rfl⟩
      · have := h.room
        simp only [List.length_drop]
        omega
      · have := h.wait1
        show 0 < s.wait
        omega
    · rename_i hs
      rw [Seal.seals_iff] at hs
      have h2 : ¬ (s.size ≤ s.l.length ∨ s.wait ≤ s.ticks + 1) := fun h' => hs ⟨hne, h'⟩
      exact ⟨h.size1, h.size16, h.wait1, h.wait1000, h.room, by show s.ticks + 1 < s.wait; omega, fun e => absurd e hne⟩

/-- What is sealed and what waits is what was there. -/
theorem Seal.tick_order {α : Type} (s : Seal α) : s.out ++ s.tick.l = s.l := by
  unfold Seal.out Seal.tick
  by_cases hne : s.l = []
  · have : s.seals = false := by
      cases hs : s.seals with
      | false => rfl
      | true => exact absurd hne ((Seal.seals_iff s).1 hs).1
    rw [this, if_pos hne]
    simp
  · rw [if_neg hne]
    cases hs : s.seals with
    | true => simp
    | false => simp

theorem Seal.tick_number {α : Type} (s : Seal α) : s.tick.number = if s.seals = true then s.number + 1 else s.number := by
  unfold Seal.tick
  by_cases hne : s.l = []
  · have : s.seals = false := by
      cases hs : s.seals with
      | false => rfl
      | true => exact absurd hne ((Seal.seals_iff s).1 hs).1
    rw [this, if_pos hne]
    simp
  · rw [if_neg hne]
    cases hs : s.seals with
    | true => simp
    | false => simp

theorem Seal.out_length {α : Type} {s : Seal α} (h : s.Ok) (hs : s.seals = true) : 1 ≤ s.out.length ∧ s.out.length ≤ s.size := by
  have h1 := ((Seal.seals_iff s).1 hs).1
  have h2 : 1 ≤ s.l.length := by
    cases hl : s.l with
    | nil => exact absurd hl h1
    | cons x r => simp
  have := h.size1
  unfold Seal.out
  rw [if_pos hs, List.length_take]
  omega

theorem Seal.out_mem {α : Type} {s : Seal α} {x : α} (h : x ∈ s.out) : x ∈ s.l := by
  unfold Seal.out at h
  split at h
  · exact List.mem_of_mem_take h
  · simp at h

/-- How many ticks more there can be till nothing waits. -/
def Seal.rank {α : Type} (s : Seal α) : Nat := s.l.length * s.wait - s.ticks

theorem Seal.rank_tick {α : Type} {s : Seal α} (h : s.Ok) : s.tick.rank ≤ s.rank - 1 := by
  have h1 := h.size1
  have h2 := h.less
  unfold Seal.tick
  by_cases hne : s.l = []
  · rw [if_pos hne]
    unfold Seal.rank
    rw [hne]
    simp
  · rw [if_neg hne]
    have h3 : 1 ≤ s.l.length := by
      cases hl : s.l with
      | nil => exact absurd hl hne
      | cons x r => simp
    have h5 : s.l.length * s.wait = (s.l.length - 1) * s.wait + s.wait := by
      obtain ⟨m, hm⟩ : ∃ m, s.l.length = m + 1 := ⟨s.l.length - 1, by omega⟩
      rw [hm, Nat.add_sub_cancel, Nat.succ_mul]
    cases hs : s.seals with
    | true =>
      rw [if_pos rfl]
      unfold Seal.rank
      simp only [List.length_drop]
      have h4 : (s.l.length - s.size) * s.wait ≤ (s.l.length - 1) * s.wait := Nat.mul_le_mul_right _ (by omega)
      omega
    | false =>
      rw [if_neg (by simp)]
      unfold Seal.rank
      simp only
      omega

theorem Seal.rank_zero {α : Type} {s : Seal α} (h : s.Ok) (hr : s.rank = 0) : s.l = [] := by
  unfold Seal.rank at hr
  have h2 := h.less
  cases hl : s.l with
  | nil => rfl
  | cons x r =>
    rw [hl] at hr
    simp only [List.length_cons, Nat.succ_mul] at hr
    omega

theorem Seal.rank_le {α : Type} {s : Seal α} (h : s.Ok) (hw : s.wait ≤ 20) : s.rank ≤ 1280 := by
  have h1 := h.room
  have h2 := h.size16
  unfold Seal.rank
  have : s.l.length * s.wait ≤ 64 * 20 := Nat.mul_le_mul (by omega) hw
  omega

/-- Fewer than a batch's size: nothing is sealed ahead of the last tick. -/
theorem Seal.waits_more {α : Type} {s : Seal α} (hl : s.l.length < s.size) (ht : s.ticks + 1 < s.wait) : s.seals = false := by
  cases hs : s.seals with
  | false => rfl
  | true =>
    have := ((Seal.seals_iff s).1 hs).2
    omega

theorem Seal.waits_end {α : Type} {s : Seal α} (hn : s.l ≠ []) (ht : s.wait ≤ s.ticks + 1) : s.seals = true := (Seal.seals_iff s).2 ⟨hn, Or.inr ht⟩

end Go.Proofs.Ytibfnefdpbdkoaa
