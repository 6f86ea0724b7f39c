/- What the calls of the program's places do (contracts). -/
import Derived.Test.YtfbpjdjajecajaaPlaceFns
namespace Go.Proofs.Ytfbpjdjajecajaa
open Go Go.RowKit Ieee
set_option linter.unusedVariables false

def inR (r a : Int) : Prop := 0 ≤ r ∧ r ≤ 1125899906842624 ∧ 0 ≤ a ∧ a ≤ 6

/-- The words of a place. -/
def plX (p : PlD) : Nat := floatOfInt .f64 (p.r : Int)
def plY (p : PlD) : Nat := floatOfInt .f64 (p.a : Int)

theorem plXY {p : PlD} (h1 : p.r ≤ 1125899906842624) (h2 : p.a ≤ 6) : plC (plX p, plY p) = some p :=
  plC_of (ofInt_val (p.r : Int) (by omega)) h1 (ofInt_val (p.a : Int) (by omega)) h2

theorem plC_in {x : Nat × Nat} {p : PlD} (h : plC x = some p) : p.r ≤ 1125899906842624 ∧ p.a ≤ 6 := ⟨(plC_val h).2.1, (plC_val h).2.2.2⟩

set_option maxRecDepth 100000 in
theorem plOf_at (r a : Nat) (w : World) (hr : r ≤ 1125899906842624) (ha : a ≤ 6) :
    Calls Try.prog 15 #[.int .i64 (r : Int), .int .i64 (a : Int)] w fun e w' => e = .returned (.tuple #[.complex .f64 (plX ⟨r, a⟩) (plY ⟨r, a⟩), .bool true]) ∧ w' = w := by
  have g1 : ¬ ((r : Int) < 0) := by omega
  have g2 : ¬ ((1125899906842624 : Int) < (r : Int)) := by omega
  have g3 : ¬ ((a : Int) < 0) := by omega
  have g4 : ¬ ((6 : Int) < (a : Int)) := by omega
  go_enter Try.func15, Try.ntmps15
  go_wp2
  go_ret2
  exact ⟨rfl, rfl⟩

theorem plOf_yes (r a : Nat) (w : World) (hr : r ≤ 1125899906842624) (ha : a ≤ 6) :
    Calls Try.prog 15 #[.int .i64 (r : Int), .int .i64 (a : Int)] w fun e w' => ∃ x y, e = .returned (.tuple #[.complex .f64 x y, .bool true]) ∧ plC (x, y) = some ⟨r, a⟩ ∧ w' = w :=
  (plOf_at r a w hr ha).mono fun e w' ⟨h1, h2⟩ => ⟨_, _, h1, plXY hr ha, h2⟩

set_option maxRecDepth 100000 in
theorem plOf_no (r a : Int) (w : World) (h : ¬ inR r a) :
    Calls Try.prog 15 #[.int .i64 r, .int .i64 a] w fun e w' => e = .returned (.tuple #[.complex .f64 0 0, .bool false]) ∧ w' = w := by
  have hcase : r < 0 ∨ (0 ≤ r ∧ 1125899906842624 < r) ∨ (0 ≤ r ∧ r ≤ 1125899906842624 ∧ a < 0) ∨ (0 ≤ r ∧ r ≤ 1125899906842624 ∧ 0 ≤ a ∧ 6 < a) := by unfold inR at h; omega
  clear h
  rcases hcase with k1 | ⟨k1, k2⟩ | ⟨k1, k2, k3⟩ | ⟨k1, k2, k3, k4⟩
  all_goals
    go_enter Try.func15, Try.ntmps15
    go_wp2
    go_ret2
    exact ⟨rfl, rfl⟩

/-- What a place's taking apart answers. -/
def apartE (o : Option PlD) : Ending := .returned (.tuple #[.int .i64 (((o.map PlD.r).getD 0 : Nat) : Int), .int .i64 (((o.map PlD.a).getD 0 : Nat) : Int), .bool o.isSome])

set_option maxRecDepth 100000 in
theorem plApart_any (x y : Nat) (w : World) :
    Calls Try.prog 32 #[.complex .f64 x y] w fun e w' => e = apartE (plC (x, y)) ∧ w' = w := by
  have c1 := plWhole_any x 1125899906842624 w (by decide)
  have c2 := plWhole_any y 6 w (by decide)
  have hp : plC (x, y) = match wholeN x 1125899906842624, wholeN y 6 with | some r, some a => some ⟨r, a⟩ | _, _ => none := rfl
  unfold GotWhole at c1 c2
  cases h1 : wholeN x 1125899906842624 with
  | none =>
    cases h2 : wholeN y 6 with
    | none =>
      rw [h1, h2] at hp
      rw [h1] at c1
      rw [h2] at c2
      rw [hp]
      clear hp h1 h2
      simp only [Option.getD_none, Option.isSome_none] at c1 c2
      go_enter Try.func32, Try.ntmps32
      go_wp2_with fail
      refine c1.mono ?_
      rintro e w' ⟨rfl, rfl⟩
      go_wp2_with fail
      refine c2.mono ?_
      rintro e w' ⟨rfl, rfl⟩
      go_wp2
      go_ret3
      exact ⟨rfl, rfl⟩
    | some b =>
      rw [h1, h2] at hp
      rw [h1] at c1
      rw [h2] at c2
      rw [hp]
      clear hp h1 h2
      simp only [Option.getD_none, Option.isSome_none, Option.getD_some, Option.isSome_some] at c1 c2
      go_enter Try.func32, Try.ntmps32
      go_wp2_with fail
      refine c1.mono ?_
      rintro e w' ⟨rfl, rfl⟩
      go_wp2_with fail
      refine c2.mono ?_
      rintro e w' ⟨rfl, rfl⟩
      go_wp2
      go_ret3
      exact ⟨rfl, rfl⟩
  | some r =>
    cases h2 : wholeN y 6 with
    | none =>
      rw [h1, h2] at hp
      rw [h1] at c1
      rw [h2] at c2
      rw [hp]
      clear hp h1 h2
      simp only [Option.getD_none, Option.isSome_none, Option.getD_some, Option.isSome_some] at c1 c2
      go_enter Try.func32, Try.ntmps32
      go_wp2_with fail
      refine c1.mono ?_
      rintro e w' ⟨rfl, rfl⟩
      go_wp2_with fail
      refine c2.mono ?_
      rintro e w' ⟨rfl, rfl⟩
      go_wp2
      go_ret3
      exact ⟨rfl, rfl⟩
    | some b =>
      rw [h1, h2] at hp
      rw [h1] at c1
      rw [h2] at c2
      rw [hp]
      clear hp h1 h2
      simp only [Option.getD_some, Option.isSome_some] at c1 c2
      go_enter Try.func32, Try.ntmps32
      go_wp2_with fail
      refine c1.mono ?_
      rintro e w' ⟨rfl, rfl⟩
      go_wp2_with fail
      refine c2.mono ?_
      rintro e w' ⟨rfl, rfl⟩
      go_wp2
      go_ret3
      exact ⟨rfl, rfl⟩

set_option maxRecDepth 100000 in
theorem plRound_any (x y : Nat) (w : World) :
    Calls Try.prog 24 #[.complex .f64 x y] w fun e w' => e = .returned (.tuple #[.int .i64 (((plC (x, y)).map PlD.r).getD 0 : Nat), .bool (plC (x, y)).isSome]) ∧ w' = w := by
  have c := plApart_any x y w
  unfold apartE at c
  generalize plC (x, y) = o at c ⊢
  generalize (o.map PlD.r).getD 0 = r at c ⊢
  generalize (o.map PlD.a).getD 0 = a at c
  generalize o.isSome = b at c ⊢
  go_enter Try.func24, Try.ntmps24
  go_wp2_with fail
  refine c.mono ?_
  rintro e w' ⟨rfl, rfl⟩
  go_wp2
  go_ret2
  exact ⟨rfl, rfl⟩

set_option maxRecDepth 100000 in
theorem plTidy_yes (x y : Nat) (p : PlD) (w : World) (hp : plC (x, y) = some p) :
    Calls Try.prog 28 #[.complex .f64 x y] w fun e w' => e = .returned (.tuple #[.complex .f64 (plX p) (plY p), .bool true]) ∧ w' = w := by
  have c := plApart_any x y w
  rw [hp] at c
  unfold apartE at c
  simp only [Option.map_some, Option.getD_some, Option.isSome_some] at c
  obtain ⟨h1, h2⟩ := plC_in hp
  obtain ⟨r, a⟩ := p
  simp only at h1 h2 c
  have cO := plOf_at r a w h1 h2
  generalize plX ⟨r, a⟩ = u at cO ⊢
  generalize plY ⟨r, a⟩ = v at cO ⊢
  clear hp
  go_enter Try.func28, Try.ntmps28
  go_wp2_with fail
  refine c.mono ?_
  rintro e w' ⟨rfl, rfl⟩
  go_wp2_with fail
  refine cO.mono ?_
  rintro e w' ⟨rfl, rfl⟩
  go_wp2
  go_ret2
  exact ⟨rfl, rfl⟩

set_option maxRecDepth 100000 in
theorem plTidy_no (x y : Nat) (w : World) (hp : plC (x, y) = none) :
    Calls Try.prog 28 #[.complex .f64 x y] w fun e w' => e = .returned (.tuple #[.complex .f64 0 0, .bool false]) ∧ w' = w := by
  have c := plApart_any x y w
  rw [hp] at c
  unfold apartE at c
  simp only [Option.map_none, Option.getD_none, Option.isSome_none] at c
  clear hp
  go_enter Try.func28, Try.ntmps28
  go_wp2_with fail
  refine c.mono ?_
  rintro e w' ⟨rfl, rfl⟩
  go_wp2
  go_ret2
  exact ⟨rfl, rfl⟩

theorem cmp_mul (a b : Int) : compare (a * one64) (b * one64) = compare a b := by
  have hp := one64_pos
  rcases Int.lt_trichotomy a b with h | h | h
  · rw [(cmp_lt a b).2 h, (cmp_lt _ _).2 (Int.mul_lt_mul_of_pos_right h hp)]
  · rw [(cmp_eq a b).2 h, (cmp_eq _ _).2 (by rw [h])]
  · rw [(cmp_gt a b).2 h, (cmp_gt _ _).2 (Int.mul_lt_mul_of_pos_right h hp)]

/-- What the comparing of two places answers. -/
def cmpP (p q : PlD) : Int := if p = q then 0 else if ltP p q then -1 else 1

set_option maxRecDepth 100000 in
theorem plCompare_any (p q : PlD) (w : World) (p1 : p.r ≤ 1125899906842624) (p2 : p.a ≤ 6) (q1 : q.r ≤ 1125899906842624) (q2 : q.a ≤ 6) :
    Calls Try.prog 30 #[.complex .f64 (plX p) (plY p), .complex .f64 (plX q) (plY q)] w fun e w' => e = .returned (.int .i64 (cmpP p q)) ∧ w' = w := by
  have x1 : val (plX p) = some ((p.r : Int) * one64) := ofInt_val (p.r : Int) (by omega)
  have x2 : val (plY p) = some ((p.a : Int) * one64) := ofInt_val (p.a : Int) (by omega)
  have u1 : val (plX q) = some ((q.r : Int) * one64) := ofInt_val (q.r : Int) (by omega)
  have u2 : val (plY q) = some ((q.a : Int) * one64) := ofInt_val (q.a : Int) (by omega)
  have o1 : FloatKind.f64.format.order (plX p) (plX q) = some (compare (p.r : Int) (q.r : Int)) := by rw [show FloatKind.f64.format.order (plX p) (plX q) = _ from order_val x1 u1, cmp_mul]
  have o2 : FloatKind.f64.format.order (plY p) (plY q) = some (compare (p.a : Int) (q.a : Int)) := by rw [show FloatKind.f64.format.order (plY p) (plY q) = _ from order_val x2 u2, cmp_mul]
  have hc : cmpP p q = if compare (p.r : Int) (q.r : Int) = .eq ∧ compare (p.a : Int) (q.a : Int) = .eq then 0 else if compare (p.r : Int) (q.r : Int) = .lt ∨ compare (p.r : Int) (q.r : Int) = .eq ∧ compare (p.a : Int) (q.a : Int) = .lt then -1 else 1 := by
    obtain ⟨pr, pa⟩ := p
    obtain ⟨qr, qa⟩ := q
    unfold cmpP ltP
    simp only [PlD.mk.injEq, cmp_eq, cmp_lt]
    norm_cast
  rw [hc]
  generalize plX p = x' at *
  generalize plY p = y' at *
  generalize plX q = u' at *
  generalize plY q = v' at *
  clear x1 x2 u1 u2 p1 p2 q1 q2 hc
  generalize compare (p.r : Int) (q.r : Int) = k1 at *
  generalize compare (p.a : Int) (q.a : Int) = k2 at *
  cases k1 <;> cases k2
  all_goals
    go_enter Try.func30, Try.ntmps30
    go_wp2
    go_ret
    exact ⟨rfl, rfl⟩

theorem cmpP_lt (p q : PlD) : (cmpP p q < 0) ↔ ltP p q := by
  unfold cmpP
  split
  · rename_i h; subst h; constructor
    · intro h; omega
    · intro h; exact (ltP_irrefl _ h).elim
  · split
    · rename_i h; exact ⟨fun _ => h, fun _ => by decide⟩
    · rename_i h; exact ⟨fun k => by omega, fun k => (h k).elim⟩
end Go.Proofs.Ytfbpjdjajecajaa
