/- A pace as numbers: its view, failures and ticks; what its acts do. -/
import Derived.Test.YtpppklflokfniaaQueue
import Derived.Test.YtpppklflokfniaaSlimNum
namespace Go.Proofs.Ytpppklflokfniaa
open Go Go.RowKit
set_option linter.unusedVariables false

/-- What a pace says. -/
structure PaD where
  n : Nat
  most : Nat
  view : Int
  fails : Nat
  ticks : Nat

/-- The wait behind so many failures. -/
def waitN (fails most : Nat) : Nat := min (4 * 2 ^ min fails 16) most

def leadN (n : Nat) (v : Int) : Int := if v < 0 then 0 else v % (n : Int)

/-- Whether a view is a later one. -/
def upB (d : PaD) (v : Int) : Bool := decide (d.view < v) && decide (v ≤ 4611686018427387903)

def followP (d : PaD) (v : Int) : PaD := if upB d v then { d with view := v, ticks := 0 } else d

def enterP (d : PaD) (v : Int) : PaD := if upB d v then { d with view := v, ticks := 0, fails := 0 } else d

/-- Whether a tick ends the view. -/
def tickB (d : PaD) : Bool := decide (d.view < 4611686018427387903) && decide (waitN d.fails d.most ≤ d.ticks + 1)

def tickP (d : PaD) : PaD := if d.view < 4611686018427387903 then (if d.ticks + 1 < waitN d.fails d.most then { d with ticks := d.ticks + 1 } else { d with view := d.view + 1, fails := d.fails + 1, ticks := 0 }) else d

/-- What a pace is at any time. -/
structure PaOk (d : PaD) : Prop where
  n1 : 1 ≤ d.n
  n7 : d.n ≤ 7
  m1 : 1 ≤ d.most
  mL : d.most ≤ 1000
  v1 : 1 ≤ d.view
  vL : d.view ≤ 4611686018427387903
  tL : d.ticks < waitN d.fails d.most

theorem wait_pos {f m : Nat} (h : 1 ≤ m) : 1 ≤ waitN f m := by
  unfold waitN
  have := Nat.pow_pos (n := min f 16) (show 0 < 2 by decide)
  omega

theorem wait_le (f m : Nat) : waitN f m ≤ m := by unfold waitN; omega

theorem pow16 (f : Nat) : 2 ^ min f 16 ≤ 65536 := Nat.le_trans (Nat.pow_le_pow_right (by decide) (Nat.min_le_right f 16)) (by decide)

theorem wrap_pow {f : Nat} (h : f ≤ 16) : wrap64 (4 * 2 ^ f) = 4 * 2 ^ f := by
  have h1 := pow16 f
  rw [Nat.min_eq_left (by omega)] at h1
  have h2 : (4 * 2 ^ f : Int) = ((4 * 2 ^ f : Nat) : Int) := by simp
  rw [h2]
  exact Mx.wrap64_small _ (by omega) (by omega)

theorem wrapI_small (n : Int) (h0 : 0 ≤ n) (h1 : n < 9223372036854775808) : IntKind.i64.wrap n = n := by
  simp [IntKind.wrap, IntKind.bits, IntKind.signed]
  omega

theorem PaOk.new {n most : Nat} (h1 : 1 ≤ n) (h2 : n ≤ 7) (h3 : 1 ≤ most) (h4 : most ≤ 1000) : PaOk ⟨n, most, 1, 0, 0⟩ := ⟨h1, h2, h3, h4, by simp, by simp, wait_pos h3⟩

theorem PaOk.follow {d : PaD} (h : PaOk d) (v : Int) : PaOk (followP d v) := by
  unfold followP
  by_cases e : upB d v = true
  · rw [if_pos e]
    simp only [upB, Bool.and_eq_true, decide_eq_true_eq] at e
    exact ⟨h.n1, h.n7, h.m1, h.mL, by have := h.v1; show 1 ≤ v; omega, e.2, wait_pos h.m1⟩
  · rw [if_neg e]; exact h

theorem PaOk.enter {d : PaD} (h : PaOk d) (v : Int) : PaOk (enterP d v) := by
  unfold enterP
  by_cases e : upB d v = true
  · rw [if_pos e]
    simp only [upB, Bool.and_eq_true, decide_eq_true_eq] at e
    exact ⟨h.n1, h.n7, h.m1, h.mL, by have := h.v1; show 1 ≤ v; omega, e.2, wait_pos h.m1⟩
  · rw [if_neg e]; exact h

theorem PaOk.tick {d : PaD} (h : PaOk d) : PaOk (tickP d) := by
  unfold tickP
  by_cases e : d.view < 4611686018427387903
  · rw [if_pos e]
    by_cases e2 : d.ticks + 1 < waitN d.fails d.most
    · rw [if_pos e2]; exact ⟨h.n1, h.n7, h.m1, h.mL, h.v1, h.vL, e2⟩
    · rw [if_neg e2]; exact ⟨h.n1, h.n7, h.m1, h.mL, by have := h.v1; show 1 ≤ d.view + 1; omega, by show d.view + 1 ≤ _; omega, wait_pos h.m1⟩
  · rw [if_neg e]; exact h

theorem tick_fails (d : PaD) : (tickP d).fails ≤ d.fails + 1 := by
  unfold tickP
  split
  · split
    · exact Nat.le_succ _
    · exact Nat.le_refl _
  · exact Nat.le_succ _

theorem enter_fails (d : PaD) (v : Int) : (enterP d v).fails ≤ d.fails := by
  unfold enterP
  split
  · exact Nat.zero_le _
  · exact Nat.le_refl _

theorem follow_fails (d : PaD) (v : Int) : (followP d v).fails = d.fails := by
  unfold followP
  split <;> rfl

theorem lead_range {n : Nat} (h : 1 ≤ n) (v : Int) : 0 ≤ leadN n v ∧ leadN n v < (n : Int) := by
  unfold leadN
  split
  · omega
  · exact ⟨Int.emod_nonneg _ (by omega), Int.emod_lt_of_pos _ (by omega)⟩
end Go.Proofs.Ytpppklflokfniaa
