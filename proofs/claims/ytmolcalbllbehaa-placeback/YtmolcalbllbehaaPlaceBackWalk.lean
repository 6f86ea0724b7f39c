/- tusklaw15.PlaceBack answers true; nothing old in memory is turned. -/
import Derived.Test.YtmolcalbllbehaaPlaceCon
import Derived.Test.YtmolcalbllbehaaSlimBase
namespace Go.Proofs.Ytmolcalbllbehaa
open Go Go.RowKit Ieee
set_option linter.unusedVariables false

theorem plC_lit {x y : Nat} {p : PlD} (h1 : val x = some ((p.r : Int) * one64)) (h3 : val y = some ((p.a : Int) * one64)) (h2 : p.r ≤ 1125899906842624) (h4 : p.a ≤ 6) : plC (x, y) = some p := plC_of h1 h2 h3 h4

theorem lit_val (n : Int) (hn : n.natAbs < 2 ^ 53) {x : Nat} (hx : FloatKind.f64.nearest n = x) : val x = some (n * one64) := by rw [← hx]; exact ofInt_val n hn

theorem v1 : val 4607182418800017408 = some (((1 : Nat) : Int) * one64) := lit_val 1 (by decide) (by decide)
theorem v2 : val 4611686018427387904 = some (((2 : Nat) : Int) * one64) := lit_val 2 (by decide) (by decide)
theorem v3 : val 4613937818241073152 = some (((3 : Nat) : Int) * one64) := lit_val 3 (by decide) (by decide)
theorem v6 : val 4618441417868443648 = some (((6 : Nat) : Int) * one64) := lit_val 6 (by decide) (by decide)
theorem v5 : val 13840687554816376832 = some ((-5 : Int) * one64) := lit_val (-5) (by decide) (by decide)
theorem vHalf : wholeN 4609434218613702656 1125899906842624 = none := by decide +kernel

set_option maxRecDepth 100000 in
theorem works15_any (w : World) : Calls Try.prog 4 #[] w fun e w' => e = .returned (.bool true) ∧ Below w.heap.size w w' := by
  have cO := plOf_yes 3 1 w (by decide) (by decide)
  have p26 : plC (4611686018427387904, 4618441417868443648) = some ⟨2, 6⟩ := plC_lit v2 v6 (by decide) (by decide)
  have p32 : plC (4613937818241073152, 4611686018427387904) = some ⟨3, 2⟩ := plC_lit v3 v2 (by decide) (by decide)
  have pHalf : plC (4609434218613702656, 0) = none := by unfold plC; rw [vHalf]
  go_enter Try.func4, Try.ntmps4
  go_wp2_with fail
  refine cO.mono ?_
  rintro e wx ⟨x, y, rfl, hpl, rfl⟩
  have cS := plSpan_yes 4611686018427387904 4618441417868443648 x y ⟨2, 6⟩ ⟨3, 1⟩ wx p26 hpl
  have cR := plRound_any 4609434218613702656 0 wx
  rw [pHalf] at cR
  simp only [Option.map_none, Option.getD_none, Option.isSome_none] at cR
  have cL := plLess_yes x y 4613937818241073152 4611686018427387904 ⟨3, 1⟩ ⟨3, 2⟩ wx hpl p32
  rw [decide_eq_true (by decide : ltP ⟨3, 1⟩ ⟨3, 2⟩)] at cL
  obtain ⟨x1, _, x2, _⟩ := plC_val hpl
  have o1 : (FloatKind.f64.format.order x 4613937818241073152 == some .eq) = true := by rw [show (FloatKind.f64.format.order x 4613937818241073152 == some .eq) = _ from eqF x1 v3]; exact decide_eq_true rfl
  have o2 : (FloatKind.f64.format.order y 4607182418800017408 == some .eq) = true := by rw [show (FloatKind.f64.format.order y 4607182418800017408 == some .eq) = _ from eqF x2 v1]; exact decide_eq_true rfl
  clear cO p26 p32 pHalf x1 x2 hpl
  go_wp2_with fail
  refine cS.mono ?_
  rintro e wy ⟨s, t, rfl, hs, ht, rfl⟩
  have o3 : (FloatKind.f64.format.order s 4607182418800017408 == some .eq) = true := by rw [show (FloatKind.f64.format.order s 4607182418800017408 == some .eq) = _ from eqF hs v1]; exact decide_eq_true rfl
  have o4 : (FloatKind.f64.format.order t 13840687554816376832 == some .eq) = true := by rw [show (FloatKind.f64.format.order t 13840687554816376832 == some .eq) = _ from eqF ht v5]; exact decide_eq_true rfl
  clear cS hs ht
  go_wp2_with fail
  refine cR.mono ?_
  rintro e wz ⟨rfl, rfl⟩
  clear cR
  go_wp2_with fail
  refine cL.mono ?_
  rintro e w' ⟨rfl, hb⟩
  clear cL
  go_wp2
  go_ret
  exact ⟨rfl, hb⟩

set_option maxRecDepth 100000 in
theorem placeBack_walk (round author other who : Int) (w : World) (_ : (Lit.int .i64 round).wf = true) (_ : (Lit.int .i64 author).wf = true) (_ : (Lit.int .i64 other).wf = true) (_ : (Lit.int .i64 who).wf = true) :
    Calls Try.prog 3 #[.int .i64 round, .int .i64 author, .int .i64 other, .int .i64 who] w fun e w' => e = .returned (.bool true) ∧ Below w.heap.size w w' := by
  have cW := works15_any w
  by_cases hin : inR round author
  · obtain ⟨h1, h2, h3, h4⟩ := hin
    obtain ⟨r, rfl⟩ : ∃ r : Nat, round = (r : Int) := ⟨round.toNat, by omega⟩
    obtain ⟨a, rfl⟩ : ∃ a : Nat, author = (a : Int) := ⟨author.toNat, by omega⟩
    have hr : r ≤ 1125899906842624 := by omega
    have ha : a ≤ 6 := by omega
    go_enter Try.func3, Try.ntmps3
    go_wp2_with fail
    refine cW.mono ?_
    rintro e w1 ⟨rfl, hb1⟩
    have cO := plOf_yes r a w1 hr ha
    clear cW
    go_wp2_with fail
    refine cO.mono ?_
    rintro e wx ⟨x, y, rfl, hpl, rfl⟩
    have cR := plRound_any x y wx
    rw [hpl] at cR
    simp only [Option.map_some, Option.getD_some, Option.isSome_some] at cR
    have cA := plAuthor_any x y wx
    rw [hpl] at cA
    simp only [Option.map_some, Option.getD_some, Option.isSome_some] at cA
    clear cO
    go_wp2_with fail
    refine cR.mono ?_
    rintro e wy ⟨rfl, rfl⟩
    go_wp2_with fail
    refine cA.mono ?_
    rintro e wz ⟨rfl, rfl⟩
    clear cR cA
    by_cases hin2 : inR other who
    · obtain ⟨g1, g2, g3, g4⟩ := hin2
      obtain ⟨R, rfl⟩ : ∃ r : Nat, other = (r : Int) := ⟨other.toNat, by omega⟩
      obtain ⟨A, rfl⟩ : ∃ a : Nat, who = (a : Int) := ⟨who.toNat, by omega⟩
      have hR : R ≤ 1125899906842624 := by omega
      have hA : A ≤ 6 := by omega
      have cP := plOf_yes R A wz hR hA
      go_wp2_with fail
      refine cP.mono ?_
      rintro e wu ⟨u, v, rfl, hql, rfl⟩
      have cS := plSpan_yes x y u v ⟨r, a⟩ ⟨R, A⟩ wu hpl hql
      clear cP
      go_wp2_with fail
      refine cS.mono ?_
      rintro e ws ⟨s, t, rfl, hs, ht, rfl⟩
      clear cS
      obtain ⟨x1, _, x2, _⟩ := plC_val hpl
      obtain ⟨u1, _, u2, _⟩ := plC_val hql
      simp only at x1 x2 u1 u2 hs ht
      obtain ⟨m1, hm1, hm2⟩ := add_val x1 hs (by omega) (by omega) (by omega)
      obtain ⟨n1, hn1, hn2⟩ := add_val x2 ht (by omega) (by omega) (by omega)
      have hadd : ∀ w, (binOp .add 23 (.complex .f64 x y) (.complex .f64 s t)).run Try.prog w = .ok (.complex .f64 m1 n1) w := fun w => run_complex_sum w .add (Or.inl rfl) _ .f64 x y s t m1 n1 (by unfold cSumBits; rw [hm1, hn1]; rfl)
      have o1 : (FloatKind.f64.format.order m1 u == some .eq) = true := by rw [show FloatKind.f64.format.order m1 u = _ from order_val hm2 u1, (cmp_eq _ _).2 (by congr 1; omega)]; rfl
      have o2 : (FloatKind.f64.format.order n1 v == some .eq) = true := by rw [show FloatKind.f64.format.order n1 v = _ from order_val hn2 u2, (cmp_eq _ _).2 (by congr 1; omega)]; rfl
      have z0 : ∀ k : Int, (k * one64 = 0) ↔ k = 0 := fun k => ⟨fun h => mul_one64_inj (by rw [h, Int.zero_mul]), fun h => by rw [h, Int.zero_mul]⟩
      have o3 : (FloatKind.f64.format.order s 0 == some .eq) = decide (r = R) := by
        rw [show (FloatKind.f64.format.order s 0 == some .eq) = _ from eqF hs val_zero]
        simp only [z0]
        exact decide_eq_decide.2 ⟨fun h => by omega, fun h => by omega⟩
      have o4 : (FloatKind.f64.format.order t 0 == some .eq) = decide (a = A) := by
        rw [show (FloatKind.f64.format.order t 0 == some .eq) = _ from eqF ht val_zero]
        simp only [z0]
        exact decide_eq_decide.2 ⟨fun h => by omega, fun h => by omega⟩
      have o5 : (FloatKind.f64.format.order x u == some .eq) = decide (r = R) := by
        rw [show (FloatKind.f64.format.order x u == some .eq) = _ from eqF x1 u1]
        exact decide_eq_decide.2 ⟨fun h => by have := mul_one64_inj h; omega, fun h => by rw [h]⟩
      have o6 : (FloatKind.f64.format.order y v == some .eq) = decide (a = A) := by
        rw [show (FloatKind.f64.format.order y v == some .eq) = _ from eqF x2 u2]
        exact decide_eq_decide.2 ⟨fun h => by have := mul_one64_inj h; omega, fun h => by rw [h]⟩
      generalize decide (r = R) = b1 at o3 o5
      generalize decide (a = A) = b2 at o4 o6
      clear z0 hm1 hm2 hn1 hn2 x1 x2 u1 u2 hs ht hpl hql g1 g2 g3 g4 hR hA
      cases b1 <;> cases b2
      all_goals
        go_wp2
        go_ret
        exact ⟨rfl, hb1⟩
    · have cP := plOf_no other who wz hin2
      have hq0 : plC (0, 0) = some ⟨0, 0⟩ := plC_lit (by rw [val_zero]; simp) (by rw [val_zero]; simp) (by decide) (by decide)
      go_wp2_with fail
      refine cP.mono ?_
      rintro e wu ⟨rfl, rfl⟩
      have cS := plSpan_yes x y 0 0 ⟨r, a⟩ ⟨0, 0⟩ wu hpl hq0
      clear cP
      go_wp2_with fail
      refine cS.mono ?_
      rintro e ws ⟨s, t, rfl, hs, ht, rfl⟩
      clear cS hs ht
      go_wp2
      go_ret
      exact ⟨rfl, hb1⟩
  · have hz : (FloatKind.f64.format.order 0 0 == some .eq) = true := rfl
    have hcase : round < 0 ∨ (0 ≤ round ∧ 1125899906842624 < round) ∨ (0 ≤ round ∧ round ≤ 1125899906842624 ∧ author < 0) ∨ (0 ≤ round ∧ round ≤ 1125899906842624 ∧ 0 ≤ author ∧ 6 < author) := by unfold inR at hin; omega
    have cO : ∀ w1, _ := fun w1 => plOf_no round author w1 hin
    go_enter Try.func3, Try.ntmps3
    go_wp2_with fail
    refine cW.mono ?_
    rintro e w1 ⟨rfl, hb1⟩
    clear cW
    go_wp2_with fail
    refine (cO w1).mono ?_
    rintro e wx ⟨rfl, rfl⟩
    clear cO hin
    rcases hcase with k1 | ⟨k1, k2⟩ | ⟨k1, k2, k3⟩ | ⟨k1, k2, k3, k4⟩
    all_goals
      go_wp2
      go_ret
      exact ⟨rfl, hb1⟩
end Go.Proofs.Ytmolcalbllbehaa
