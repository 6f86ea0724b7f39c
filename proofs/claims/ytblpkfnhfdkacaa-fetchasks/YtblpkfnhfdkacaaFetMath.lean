/- What is wanted, as lists: asked how often, ticks since; what acts do. -/
import Derived.Test.YtblpkfnhfdkacaaRowsMore
import Derived.Test.YtblpkfnhfdkacaaInts
namespace Go.Proofs.Ytblpkfnhfdkacaa
open Go Go.RowKit
set_option linter.unusedVariables false

/-- Something that is wanted of some. -/
structure WiD where
  id : ByteArray
  fr : List Int
  asked : Nat
  ago : Nat

/-- Something that is asked of somebody. -/
structure AskD where
  id : ByteArray
  to : Int

/-- A tick: whether it is asked. -/
def dueW (n : Nat) (x : WiD) : Bool := decide (x.asked = 0 ∨ n ≤ x.ago + 1)

def askW (x : WiD) : AskD := ⟨x.id, (x.fr[x.asked % x.fr.length]?).getD 0⟩

def tickW (n : Nat) (x : WiD) : WiD := if dueW n x then ⟨x.id, x.fr, x.asked + 1, 0⟩ else ⟨x.id, x.fr, x.asked, x.ago + 1⟩

def asksL (n : Nat) (L : List WiD) : List AskD := (L.filter (dueW n)).map askW

def hasL (L : List WiD) (id : ByteArray) : Bool := L.any (fun x => decide (x.id = id))

def wantE (L : List WiD) (id : ByteArray) (k : Nat) : Nat := if k = 0 then 12 else if hasL L id then 13 else if 64 ≤ L.length then 4 else 0

def wantL (L : List WiD) (id : ByteArray) (fr : List Int) : List WiD := if wantE L id fr.length = 0 then L ++ [⟨id, fr, 0, 0⟩] else L

def gotL (L : List WiD) (id : ByteArray) : List WiD := L.filter (fun x => !decide (x.id = id))

/-- What holds of all that is wanted. -/
structure DeOk (n : Nat) (L : List WiD) : Prop where
  pos : 1 ≤ n
  most : n ≤ 1000
  apart : L.Pairwise (fun x y => x.id ≠ y.id)
  some : ∀ x ∈ L, 0 < x.fr.length
  never : ∀ x ∈ L, x.asked = 0 → x.ago = 0
  since : ∀ x ∈ L, x.ago < n
  few : L.length ≤ 64

theorem hasL_iff {L : List WiD} {id : ByteArray} : hasL L id = true ↔ ∃ x ∈ L, x.id = id := by
  unfold hasL
  rw [List.any_eq_true]
  constructor
  · rintro ⟨x, h1, h2⟩; exact ⟨x, h1, of_decide_eq_true h2⟩
  · rintro ⟨x, h1, h2⟩; exact ⟨x, h1, decide_eq_true h2⟩

theorem hasL_not {L : List WiD} {id : ByteArray} : hasL L id = false ↔ ∀ x ∈ L, x.id ≠ id := by
  unfold hasL
  rw [List.any_eq_false]
  constructor
  · intro h x hx e; exact h x hx (decide_eq_true e)
  · intro h x hx e; exact h x hx (of_decide_eq_true e)

theorem tickW_id (n : Nat) (x : WiD) : (tickW n x).id = x.id := by unfold tickW; split <;> rfl
theorem tickW_fr (n : Nat) (x : WiD) : (tickW n x).fr = x.fr := by unfold tickW; split <;> rfl

theorem DeOk.nil {n : Nat} (h1 : 1 ≤ n) (h2 : n ≤ 1000) : DeOk n [] :=
  ⟨h1, h2, List.Pairwise.nil, fun x hx => (by cases hx), fun x hx => (by cases hx), fun x hx => (by cases hx), by simp⟩

theorem DeOk.tick {n : Nat} {L : List WiD} (h : DeOk n L) : DeOk n (L.map (tickW n)) := by
  refine ⟨h.pos, h.most, ?_, ?_, ?_, ?_, by rw [List.length_map]; exact h.few⟩
  · rw [List.pairwise_map]
    exact h.apart.imp (fun e => by rw [tickW_id, tickW_id]; exact e)
  · intro y hy
    obtain ⟨x, hx, rfl⟩ := List.mem_map.1 hy
    rw [tickW_fr]; exact h.some x hx
  · intro y hy
    obtain ⟨x, hx, rfl⟩ := List.mem_map.1 hy
    unfold tickW dueW
    split
    · intro e; simp at e
    · rename_i hd
      intro e
      have e' : x.asked = 0 := e
      exact absurd (decide_eq_true (Or.inl e')) hd
  · intro y hy
    obtain ⟨x, hx, rfl⟩ := List.mem_map.1 hy
    have := h.pos
    unfold tickW dueW
    split
    · show 0 < n; omega
    · rename_i hd
      have hd' : ¬ (x.asked = 0 ∨ n ≤ x.ago + 1) := fun e => hd (decide_eq_true e)
      show x.ago + 1 < n
      omega

theorem wantE_ok {L : List WiD} {id : ByteArray} {k : Nat} : wantE L id k = 0 ↔ 0 < k ∧ hasL L id = false ∧ L.length < 64 := by
  unfold wantE
  by_cases h1 : k = 0
  · simp [h1]
  · by_cases h2 : hasL L id
    · simp [h1, h2]
    · by_cases h3 : 64 ≤ L.length
      · rw [if_neg h1, if_neg h2, if_pos h3]; exact ⟨fun e => (by cases e), fun e => (by omega)⟩
      · rw [if_neg h1, if_neg h2, if_neg h3]; exact ⟨fun _ => ⟨by omega, (by simpa using h2), by omega⟩, fun _ => rfl⟩

theorem DeOk.want {n : Nat} {L : List WiD} (h : DeOk n L) (id : ByteArray) (fr : List Int) : DeOk n (wantL L id fr) := by
  unfold wantL
  split
  · rename_i he
    obtain ⟨h1, h2, h3⟩ := wantE_ok.1 he
    have hn := hasL_not.1 h2
    have hp := h.pos
    refine ⟨h.pos, h.most, ?_, ?_, ?_, ?_, by rw [List.length_append]; exact h3⟩
    · rw [List.pairwise_append]
      refine ⟨h.apart, List.pairwise_singleton _ _, fun x hx y hy => ?_⟩
      simp at hy
      rw [hy]
      exact hn x hx
    all_goals
      intro x hx
      rcases List.mem_append.1 hx with hx | hx
    · exact h.some x hx
    · simp at hx; rw [hx]; exact h1
    · exact h.never x hx
    · simp at hx; rw [hx]; exact fun _ => rfl
    · exact h.since x hx
    · simp at hx; rw [hx]; exact hp
  · exact h

theorem DeOk.got {n : Nat} {L : List WiD} (h : DeOk n L) (id : ByteArray) : DeOk n (gotL L id) := by
  have hs : ∀ x ∈ gotL L id, x ∈ L := fun x hx => (List.mem_filter.1 hx).1
  exact ⟨h.pos, h.most, h.apart.filter _, fun x hx => h.some x (hs x hx), fun x hx => h.never x (hs x hx), fun x hx => h.since x (hs x hx), Nat.le_trans (List.length_filter_le _ _) h.few⟩

theorem gotL_less {L : List WiD} {id : ByteArray} : decide ((gotL L id).length < L.length) = hasL L id := by
  rw [Bool.eq_iff_iff, decide_eq_true_iff, hasL_iff]
  constructor
  · intro h
    refine Classical.byContradiction fun hn => ?_
    have e : gotL L id = L := List.filter_eq_self.2 (fun x hx => by
      rw [Bool.not_eq_true', decide_eq_false_iff_not]
      exact fun e => hn ⟨x, hx, e⟩)
    rw [e] at h
    omega
  · rintro ⟨x, hx, he⟩
    exact List.length_filter_lt_length_iff_exists.2 ⟨x, hx, by simp [he]⟩

theorem gotL_none {L : List WiD} {id : ByteArray} (h : hasL L id = false) : gotL L id = L :=
  List.filter_eq_self.2 (fun x hx => by
    rw [Bool.not_eq_true', decide_eq_false_iff_not]
    exact hasL_not.1 h x hx)
end Go.Proofs.Ytblpkfnhfdkacaa
