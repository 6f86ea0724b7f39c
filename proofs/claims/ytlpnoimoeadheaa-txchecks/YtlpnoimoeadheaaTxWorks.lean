/- tusklaw04.works answers true; nothing old in memory is turned. -/
import Derived.Test.YtlpnoimoeadheaaTxOwn
namespace Go.Proofs.Ytlpnoimoeadheaa
open Go.RowKit
set_option linter.unusedVariables false

def badD : TxD := { payD with frm := ⟨#[65, 98]⟩ }

theorem pay_check : checkL payD = 0 := by decide +kernel
theorem bad_check : checkL badD = 3 := by decide +kernel
theorem pay_fits : fitsL payD = true := by decide +kernel
theorem pay_enc : encL payD = [1, 2, 97, 98, 1, 99, 5, 1, 0, 0, 0, 2, 4, 97, 58, 97, 98, 3, 97, 58, 99] := by decide +kernel

set_option maxRecDepth 100000 in
set_option maxHeartbeats 1000000 in
theorem works_any (w : World) : Calls Try.prog 22 #[] w fun e w' => e = .returned (.bool true) ∧ Below w.heap.size w w' := by
  have cE : ∀ ra rc wa wc w1, TxAt w1 payD ra wa → Calls Try.prog 10 #[txV payD ra rc wa wc] w1 fun e w' => e = .returned (.tuple #[.string ⟨#[1, 2, 97, 98, 1, 99, 5, 1, 0, 0, 0, 2, 4, 97, 58, 97, 98, 3, 97, 58, 99]⟩, .int .i64 0]) ∧ Below w1.heap.size w1 w' := by
    intro ra rc wa wc w1 h
    have := encode_yes payD ra rc wa wc w1 h pay_check
    rw [pay_enc] at this
    exact this
  have cF : ∀ ra rc wa wc w1, TxAt w1 payD ra wa → Calls Try.prog 17 #[txV payD ra rc wa wc] w1 fun e w' => e = .returned (.bool true) ∧ Below w1.heap.size w1 w' := by
    intro ra rc wa wc w1 h
    have := fits_any payD ra rc wa wc w1 h (by decide)
    rw [pay_fits] at this
    exact this
  have cC : ∀ ra rc wa wc w1, TxAt w1 badD ra wa → Calls Try.prog 12 #[txV badD ra rc wa wc] w1 fun e w' => e = .returned (.int .i64 3) ∧ Below w1.heap.size w1 w' := by
    intro ra rc wa wc w1 h
    have := check_any badD ra rc wa wc w1 h
    rw [bad_check] at this
    exact this
  go_enter Try.func22, Try.ntmps22
  go_wp2_with fail
  refine (pay_any _).mono ?_
  rintro e w1 ⟨ra, rc, wa, wc, rfl, hA, _, _, hb1⟩
  go_wp2_with fail
  refine (cE ra rc wa wc _ hA).mono ?_
  rintro e w2 ⟨rfl, hb2⟩
  have hB2 := hb1.trans (hb2.mono hb1.size)
  clear hb1 hb2 hA
  go_wp2_with fail
  refine (pay_any _).mono ?_
  rintro e w3 ⟨ra3, rc3, wa3, wc3, rfl, hA3, _, _, hb3⟩
  have hB3 := hB2.trans (hb3.mono hB2.size)
  clear hB2 hb3
  unfold txV payD
  have hX := Arr.new w3 25 (txC badD ra3 rc3 wa3 wc3)
  have hB4 := hB3.alloc hB3.size (.cells (txC badD ra3 rc3 wa3 wc3).toArray 25)
  have hA4 : TxAt _ badD ra3 wa3 := (⟨hA3.rd, hA3.wr⟩ : TxAt w3 badD ra3 wa3).below (belowNew w3 (.cells (txC badD ra3 rc3 wa3 wc3).toArray 25))
  go_wp2_with fail
  refine (pay_any _).mono ?_
  rintro e w5 ⟨ra5, rc5, wa5, wc5, rfl, hA5, _, _, hb5⟩
  replace hb5 : Below (w3.alloc (.cells (txC badD ra3 rc3 wa3 wc3).toArray 25)).heap.size (w3.alloc (.cells (txC badD ra3 rc3 wa3 wc3).toArray 25)) w5 := hb5
  have hX5 := hX.below hb5 hX.lt
  have hB5 := hB4.trans (hb5.mono hB4.size)
  have hD5 := hA4.below hb5
  clear hb5 hX hA4 hB4
  go_wp2_with fail
  refine (cF ra5 rc5 wa5 wc5 _ hA5).mono ?_
  rintro e w6 ⟨rfl, hb6⟩
  have hX6 := hX5.below hb6 hX5.lt
  have hB6 := hB5.trans (hb6.mono hB5.size)
  have hD6 := hD5.below hb6
  clear hb6 hX5 hD5 hB5 hA5
  have x0 := hX6.cell (i := 0) rfl
  have x1 := hX6.cell (i := 1) rfl
  have x2 := hX6.cell (i := 2) rfl
  have x3 := hX6.cell (i := 3) rfl
  have x4 := hX6.cell (i := 4) rfl
  have x5 := hX6.cell (i := 5) rfl
  have x6 := hX6.cell (i := 6) rfl
  have x7 := hX6.cell (i := 7) rfl
  have x8 := hX6.cell (i := 8) rfl
  go_wp2_with fail
  refine (cC ra3 rc3 wa3 wc3 _ hD6).mono ?_
  rintro e w7 ⟨rfl, hb7⟩
  have hB7 := hB6.trans (hb7.mono hB6.size)
  clear hb7 hX6 hD6 hB6
  go_wp2
  go_ret
  exact ⟨rfl, hB7⟩
end Go.Proofs.Ytlpnoimoeadheaa
