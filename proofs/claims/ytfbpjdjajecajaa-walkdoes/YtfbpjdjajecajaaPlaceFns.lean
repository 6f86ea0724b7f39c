/- The program's places. -/
import Derived.Test.YtfbpjdjajecajaaPlaceMath
import Derived.Test.YtfbpjdjajecajaaProg
import Derived.WalkKit
import Derived.WalkLawsBesides
namespace Go.Proofs.Ytfbpjdjajecajaa
open Go Go.RowKit Ieee
set_option linter.unusedVariables false

theorem val_zero : val 0 = some 0 := rfl

theorem one64_nat : one64 = ((2 ^ E64 : Nat) : Int) := by
  unfold one64
  rw [Int.natCast_pow]
  rfl

theorem toIntVal {x a : Nat} (hx : val x = some (a : Int)) (ha : (a : Int) ≤ 9007199254740992 * one64) : floatToIntVal .f64 x .i64 = some ((a / 2 ^ E64 : Nat) : Int) := by
  unfold floatToIntVal
  rw [toInt_val hx]
  simp only
  have h : a / 2 ^ E64 ≤ 9007199254740992 := by
    rw [one64_nat] at ha
    have hp := Nat.two_pow_pos E64
    generalize 2 ^ E64 = q at *
    have h1 : a ≤ 9007199254740992 * q := by omega
    have := Nat.div_le_div_right (c := q) h1
    rwa [Nat.mul_div_cancel _ hp] at this
  rw [if_pos]
  constructor
  · exact Int.le_trans (by decide) (Int.natCast_nonneg _)
  · show _ ≤ (9223372036854775807 : Int)
    generalize a / 2 ^ E64 = q at *
    omega

/-- A part was looked at. -/
def GotWhole (x g : Nat) (e : Ending) : Prop := e = .returned (.tuple #[.int .i64 (((wholeN x g).getD 0 : Nat) : Int), .bool (wholeN x g).isSome])

theorem gotWhole_none {x g : Nat} (h : wholeN x g = none) : GotWhole x g (.returned (.tuple #[.int .i64 0, .bool false])) := by unfold GotWhole; rw [h]; rfl

set_option maxRecDepth 100000 in
theorem plWhole_any (x g : Nat) (w : World) (hg : g < 9007199254740992) :
    Calls Try.prog 45 #[.float .f64 x, .int .i64 (g : Int)] w fun e w' => GotWhole x g e ∧ w' = w := by
  cases hv : val x with
  | none =>
    have hG := ofInt_val (g : Int) (by omega)
    have hb := between_none hv val_zero hG
    have hn : wholeN x g = none := by unfold wholeN; rw [hv]
    obtain ⟨o1, h1⟩ : ∃ z, FloatKind.f64.format.order x 0 = z := ⟨_, rfl⟩
    obtain ⟨o2, h2⟩ : ∃ z, FloatKind.f64.format.order x (floatOfInt .f64 (g : Int)) = z := ⟨_, rfl⟩
    have hb : ((o1 == some .gt || o1 == some .eq) && (o2 == some .lt || o2 == some .eq)) = false := by rw [← h1, ← h2]; exact hb
    clear hv hG
    rcases o1 with _ | (_ | _ | _) <;> rcases o2 with _ | (_ | _ | _)
    all_goals first
      | (exfalso; revert hb; decide)
      | (clear hb
         go_enter Try.func45, Try.ntmps45
         go_wp2
         go_ret2
         exact ⟨gotWhole_none hn, rfl⟩)
  | some a =>
    have hG := ofInt_val (g : Int) (by omega)
    have e1 : FloatKind.f64.format.order x 0 = _ := order_val hv val_zero
    have e2 : FloatKind.f64.format.order x (floatOfInt .f64 (g : Int)) = _ := order_val hv hG
    by_cases hneg : a < 0
    · rw [(cmp_lt _ _).2 hneg] at e1
      have hn : wholeN x g = none := by unfold wholeN; rw [hv]; simp only; rw [if_neg (by omega)]
      go_enter Try.func45, Try.ntmps45
      go_wp2
      go_ret2
      exact ⟨gotWhole_none hn, rfl⟩
    · by_cases hbig : (g : Int) * one64 < a
      · rw [(cmp_gt _ _).2 hbig] at e2
        have hn : wholeN x g = none := by unfold wholeN; rw [hv]; simp only; rw [if_neg (by omega)]
        have e1' : compare a 0 = .gt := (cmp_gt _ _).2 (Int.lt_of_le_of_lt (Int.mul_nonneg (Int.natCast_nonneg _) (Int.le_of_lt one64_pos)) hbig)
        rw [e1'] at e1
        go_enter Try.func45, Try.ntmps45
        go_wp2
        go_ret2
        exact ⟨gotWhole_none hn, rfl⟩
      · obtain ⟨m, rfl⟩ : ∃ m : Nat, a = (m : Int) := ⟨a.toNat, by omega⟩
        have hle : (m : Int) ≤ 9007199254740992 * one64 := Int.le_trans (Int.not_lt.1 hbig) (Int.mul_le_mul_of_nonneg_right (by omega) (Int.le_of_lt one64_pos))
        have hci := toIntVal hv hle
        obtain ⟨q, hq⟩ : ∃ z, m / 2 ^ E64 = z := ⟨_, rfl⟩
        rw [hq] at hci
        have hcv : ∀ w, (convert 65 3 (.float .f64 x)).run Try.prog w = .ok (.int .i64 (q : Int)) w := fun w => run_convert_float_int w 65 3 .f64 .i64 x (q : Int) (by rw [Try.underlying65]; rfl) Try.underlying3 hci
        have hw : wholeN x g = if (q : Int) * one64 = (m : Int) then some q else none := by
          by_cases h : (q : Int) * one64 = (m : Int)
          · rw [if_pos h]
            refine wholeN_of (by rw [hv, h]) ?_
            rw [← h] at hbig
            have := Int.le_of_mul_le_mul_right (Int.not_lt.1 hbig) one64_pos
            omega
          · rw [if_neg h]
            cases hw : wholeN x g with
            | none => rfl
            | some k =>
              exfalso
              have h1 := (wholeN_val hw).1
              rw [hv] at h1
              simp only [Option.some.injEq] at h1
              refine h ?_
              rw [h1]
              congr 1
              rw [one64_nat] at h1
              have hp := Nat.two_pow_pos E64
              generalize 2 ^ E64 = u at *
              have h2 : m = k * u := by have : ((k * u : Nat) : Int) = (k : Int) * (u : Int) := by push_cast; rfl
                                        omega
              rw [h2, Nat.mul_div_cancel _ hp] at hq
              omega
        have hqg : q < 9007199254740992 := by
          rw [one64_nat] at hbig
          have hp := Nat.two_pow_pos E64
          generalize 2 ^ E64 = u at *
          have h1 : m ≤ g * u := by have : ((g * u : Nat) : Int) = (g : Int) * (u : Int) := by push_cast; rfl
                                    omega
          have := Nat.div_le_div_right (c := u) h1
          rw [Nat.mul_div_cancel _ hp, hq] at this
          omega
        have hqv := ofInt_val (q : Int) (by omega)
        have e3 : FloatKind.f64.format.order (floatOfInt .f64 (q : Int)) x = _ := order_val hqv hv
        have k1 : compare (m : Int) 0 = .gt ∨ compare (m : Int) 0 = .eq := by
          by_cases h : (m : Int) = 0
          · exact Or.inr ((cmp_eq _ _).2 h)
          · exact Or.inl ((cmp_gt _ _).2 (by omega))
        have k2 : compare (m : Int) ((g : Int) * one64) = .lt ∨ compare (m : Int) ((g : Int) * one64) = .eq := by
          by_cases h : (m : Int) = (g : Int) * one64
          · exact Or.inr ((cmp_eq _ _).2 h)
          · exact Or.inl ((cmp_lt _ _).2 (by omega))
        have k3 : (compare ((q : Int) * one64) (m : Int) = .eq ∧ wholeN x g = some q) ∨ (compare ((q : Int) * one64) (m : Int) = .lt ∧ wholeN x g = none) ∨ (compare ((q : Int) * one64) (m : Int) = .gt ∧ wholeN x g = none) := by
          cases hc : compare ((q : Int) * one64) (m : Int) with
          | eq => rw [hw, if_pos ((cmp_eq _ _).1 hc)]; exact Or.inl ⟨rfl, rfl⟩
          | lt => rw [hw, if_neg (fun e => by have := (cmp_lt _ _).1 hc; omega)]; exact Or.inr (Or.inl ⟨rfl, rfl⟩)
          | gt => rw [hw, if_neg (fun e => by have := (cmp_gt _ _).1 hc; omega)]; exact Or.inr (Or.inr ⟨rfl, rfl⟩)
        clear hw hqv hq hci hle hbig hneg hG hv
        obtain ⟨GW, hGW⟩ : ∃ G : Ending → Prop, G = GotWhole x g := ⟨_, rfl⟩
        rw [← hGW]
        rcases k1 with k1 | k1 <;> rcases k2 with k2 | k2 <;> rcases k3 with ⟨k3, k4⟩ | ⟨k3, k4⟩ | ⟨k3, k4⟩
        all_goals
          rw [k1] at e1
          rw [k2] at e2
          rw [k3] at e3
          have hyes : Hid (GW (.returned (.tuple #[.int .i64 (((wholeN x g).getD 0 : Nat) : Int), .bool (wholeN x g).isSome]))) := by
            show GW _
            rw [hGW]
            rfl
          rw [k4] at hyes
          simp only [Option.isSome_some, Option.isSome_none, Option.getD_some, Option.getD_none] at hyes
          clear k1 k2 k3 k4 hGW
          go_enter Try.func45, Try.ntmps45
          go_wp2
          go_ret2
          exact ⟨hyes.out, rfl⟩
end Go.Proofs.Ytfbpjdjajecajaa
