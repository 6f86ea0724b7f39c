/- WavesPlans: the waves of any transactions, and the plan, are what the chapter says. -/
import Derived.Test.YtkgidmifgfoeiaaWavWords
import Derived.Test.YtkgidmifgfoeiaaRefWavSame
import Derived.Test.YtkgidmifgfoeiaaAccOwnL
namespace Go.Proofs.Ytkgidmifgfoeiaa
open Go Go.RowKit
set_option linter.unusedVariables false

set_option maxRecDepth 100000 in
set_option maxHeartbeats 1000000 in
theorem wavesPlans_walk (ao : Option Addr) (cp : Nat) (l : List TxA) (W : World) (hl : RowAt txA W ao l) (hm : l.length ≤ maxLen) (hw : Wide l) :
    Calls Try.prog 3 #[.slice ao l.length cp] W fun e w' => e = .returned (.bool true) ∧ Below W.heap.size W w' := by
  have cG := great_any l ao cp W hl hw
  clear hm
  cases hg : greatA l with
  | true =>
    rw [hg] at cG
    go_enter Try.func3, Try.ntmps3
    go_wp2_with (go_at_call 8; refine cG.mono ?_; rintro _ w1 ⟨rfl, hb1⟩)
    go_ret
    exact ⟨rfl, hb1⟩
  | false =>
    have hf := few_of hg
    have hl1 := hf.1
    have hlen : Hid ((rwL l).length = l.length) := rwL_length l
    rw [hg] at cG
    go_enter Try.func3, Try.ntmps3
    go_wp2_with (first
      | (go_at_call 8; refine cG.mono ?_; rintro _ w1 ⟨rfl, hb1⟩; have cO := ownL_any l ao cp w1 (hl.below hb1) hf)
      | (go_at_call 10; refine cO.mono ?_; rintro _ w2 ⟨oa, oc, m, rfl, hml, hmr, hmw, hb2⟩
         have hb12 := hb1.trans (hb2.mono hb1.size)
         have cC := of_any m oa oc w2 hmr (few_same hf hmw)
         replace hml : Hid _ := hml
         clear cO)
      | (go_at_call 9; refine cC.mono ?_; rintro _ w3 ⟨g, rfl, hq, hb3⟩
         rw [hmw] at hq ⊢
         have hb13 := hb12.trans (hb3.mono hb12.size)
         have cR := refOf_any l ao cp w3 (hl.below hb13) hf)
      | (go_at_call 11; refine cR.mono ?_; rintro _ w4 ⟨ra, rc, rfl, hq2, hb4⟩
         have hb14 := hb13.trans (hb4.mono hb13.size)
         have hn1 : (rwL l).length ≤ 1000 := by rw [hlen.out]; exact hl1
         have cS := same_rows w4 _ _ _ _ _ _ _ _ _ _ (hq.below hb4) hq2 hn1 hn1
         rw [decide_eq_true (by rfl)] at cS
         clear hq hq2 cC cR)
      | (go_at_call 12; refine cS.mono ?_; rintro _ w7 ⟨rfl, hb7⟩
         have hb17 := hb14.trans (hb7.mono hb14.size)
         have cO := ownL_any l ao cp w7 (hl.below hb17) hf
         clear cS)
      | (go_at_call 10; refine cO.mono ?_; rintro _ w8 ⟨oa2, oc2, m2, rfl, hml2, hmr2, hmw2, hb8⟩
         have hb18 := hb17.trans (hb8.mono hb17.size)
         have cP := plan_any m2 oa2 oc2 w8 hmr2 (few_same hf hmw2)
         replace hml2 : Hid _ := hml2)
      | (go_at_call 13; refine cP.mono ?_; rintro _ w9 ⟨q, p, rfl, hP, hls, hb9⟩
         rw [hmw2] at hls
         have hb19 := hb18.trans (hb9.mono hb18.size)
         have cR2 := refPlan_any l ao cp w9 (hl.below hb19) hf)
      | (go_at_call 14; refine cR2.mono ?_; rintro _ w10 ⟨q2, p2, rfl, hP2, hls2, hb10⟩
         have hb110 := hb19.trans (hb10.mono hb19.size)
         obtain ⟨qa, qc, rfl, -, hr1⟩ := (hP.below hb10).form
         obtain ⟨qa2, qc2, rfl, -, hr2⟩ := hP2.form
         have hn2 : (rwL l).length ≤ 1000 := by rw [hlen.out]; exact hl1
         have cS := refSame21_any p p2 qa qa2 qc qc2 w10 hr1 hr2 (plan_fit hls hn2).2 (plan_fit hls2 hn2).2
         rw [decide_eq_true (by rw [hls, hls2])] at cS
         clear hP hP2 cP cR2 hls hls2 hr1 hr2)
      | (go_at_call 12; refine cS.mono ?_; rintro _ w11 ⟨rfl, hb11⟩))
    go_ret
    exact ⟨rfl, hb110.trans (hb11.mono hb110.size)⟩
end Go.Proofs.Ytkgidmifgfoeiaa
