/- WavesChecks: of any plan for any transactions it is told what is wrong with it. -/
import Derived.Test.YtkgidmifgfoeiaaWavOpen
import Derived.Test.YtkgidmifgfoeiaaRefWavCheck
import Derived.Test.YtkgidmifgfoeiaaAccOwnL
namespace Go.Proofs.Ytkgidmifgfoeiaa
open Go Go.RowKit
set_option linter.unusedVariables false

theorem GotOwnL.to {W w : World} {l : List TxA} {e : Ending} (h : GotOwnL W l e w) : ∃ ao cap m, e = .returned (.slice ao m.length cap) ∧ m.length = l.length ∧ RowAt txA w ao m ∧ rwL m = rwL l ∧ Below W.heap.size W w := h

set_option maxRecDepth 100000 in
set_option maxHeartbeats 1000000 in
theorem wavesChecks_walk (ao : Option Addr) (cp : Nat) (l : List TxA) (pa : Option Addr) (pc : Nat) (p : List IRow) (W : World) (hl : RowAt txA W ao l) (hm : l.length ≤ maxLen) (hw : Wide l) (hp : RowAt irowK W pa p) (hpm : p.length ≤ maxLen) (hpl : RowsLen p) :
    Calls Try.prog 4 #[.slice ao l.length cp, .slice pa p.length pc] W fun e w' => e = .returned (.bool true) ∧ Below W.heap.size W w' := by
  have cG := great_any l ao cp W hl hw
  obtain ⟨hp1, hp2⟩ := hpl
  clear hm hpm
  cases hg : greatA l with
  | true =>
    rw [hg] at cG
    go_enter Try.func4, Try.ntmps4
    go_wp2_with (go_at_call 8; refine cG.mono ?_; rintro _ w1 ⟨rfl, hb1⟩)
    go_ret
    exact ⟨rfl, hb1⟩
  | false =>
    have hf := few_of hg
    rw [hg] at cG
    by_cases hp100 : 100 < p.length
    · have g1 : (100 : Int) < (p.length : Int) := by omega
      go_enter Try.func4, Try.ntmps4
      go_wp2_with (go_at_call 8; refine cG.mono ?_; rintro _ w1 ⟨rfl, hb1⟩)
      go_ret
      exact ⟨rfl, hb1⟩
    · have g1 : ¬ (100 : Int) < (p.length : Int) := by omega
      have hfit : RowsFit p := ⟨by omega, hp2⟩
      go_enter Try.func4, Try.ntmps4
      go_wp2_with (first
        | (go_at_call 8; refine cG.mono ?_; rintro _ w1 ⟨rfl, hb1⟩; have cO := ownL_any l ao cp w1 (hl.below hb1) hf)
        | (go_at_call 10; refine cO.mono ?_; rintro _ w2 ⟨oa, oc, m, rfl, hml, hmr, hmw, hb2⟩
           have hb12 := hb1.trans (hb2.mono hb1.size)
           have cC := check_any m oa oc p pa pc w2 hmr (few_same hf hmw) (hp.below hb12) hfit
           replace hml : Hid _ := hml)
        | (go_at_call 15; refine cC.mono ?_; rintro _ w3 ⟨rfl, hb3⟩
           have hb13 := hb12.trans (hb3.mono hb12.size)
           have cR := refCheck_any l ao cp p pa pc w3 (hl.below hb13) hf (hp.below hb13) hfit
           rw [hmw])
        | (go_at_call 16; refine cR.mono ?_; rintro _ w4 ⟨rfl, hb4⟩))
      go_ret
      exact ⟨by simp, hb13.trans (hb4.mono hb13.size)⟩
end Go.Proofs.Ytkgidmifgfoeiaa
