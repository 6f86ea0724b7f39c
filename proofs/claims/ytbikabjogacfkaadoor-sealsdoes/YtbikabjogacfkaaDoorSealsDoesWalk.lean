/- SealsDoes: the walk. -/
import Derived.Test.YtbikabjogacfkaaDoorBoard12
import Derived.Test.YtbikabjogacfkaaDoorTabSame
import Derived.Test.YtbikabjogacfkaaDoorRefHdrSame
import Derived.Test.YtbikabjogacfkaaDoorHdrWorks
import Derived.Deep.RegionHeld3
namespace Go.Proofs.YtbikabjogacfkaaDoor
open Go.RowKit
set_option linter.unusedVariables false

set_option maxRecDepth 100000 in
set_option maxHeartbeats 4000000 in
theorem sealsDoes_walk (f most : Int) (ao : Option Addr) (cap : Nat) (ls : List ActD) (W : World) (hvf : (Lit.int .i64 f).wf = true) (hvm : (Lit.int .i64 most).wf = true) (hR : RowAt actK W ao ls) (hm : ls.length ≤ maxLen) (hG : Mx.Glob W) :
    Calls Tryd.prog 3 #[.int .i64 f, .int .i64 most, .slice ao ls.length cap] W fun e w' => e = .returned (.bool true) ∧ Below W.heap.size W w' := by
  have hm' : ls.length ≤ 9223372036854775807 := by unfold maxLen at hm; omega
  clear hm
  have cB := both_any f W hG
  go_enter Tryd.func3, Tryd.ntmps3
  go_wp2_with fail
  refine cB.mono ?_
  rintro e w2 ⟨n, tb, rt, n2, n1, rfl, hT2, hR2, hB2⟩
  have hk32 : ∀ k ∈ Mx.keysL seedW (3 * n + 1), k.size ≤ 32 := Mx.keysL_size _ _
  have hkl : Hid ((Mx.keysL seedW (3 * n + 1)).length = 3 * n + 1) := Mx.keysL_len _ _
  generalize Mx.keysL seedW (3 * n + 1) = ks at *
  have envP : BEnv w2 tb n ks ⟨#[107]⟩ := ⟨hT2, n2, hkl.out, hk32, by decide, hG.below hB2⟩
  have envR : BEnv w2 rt n ks ⟨#[107]⟩ := ⟨hR2, n2, hkl.out, hk32, by decide, hG.below hB2⟩
  clear cB hT2 hR2 hk32 hG
  go_wp2_with fail
  refine (pbNew_any tb ⟨#[107]⟩ most w2).mono ?_
  rintro e w3 ⟨pb, rfl, S0, hp3, hs3, hb3⟩
  go_wp2_with fail
  refine (refBNew_any rt ⟨#[107]⟩ most w3).mono ?_
  rintro e w4 ⟨rfl, hr4, hb4⟩
  obtain ⟨rb, hrb⟩ : ∃ b, Hid (w3.heap.size = b) := ⟨_, rfl⟩
  have hT0 : Two12 w2 tb rt n ks ⟨#[107]⟩ pb rb S0 (fun k => k = rb) (max 0 most) [] w4 := by
    have h1 := hrb.out
    rw [h1] at hr4
    have hs := hb3.size
    exact ⟨envP, envR, bok_nil _ _ _, hp3.below hb4, hr4, fun k e e' => by have := hp3.lt k e; have e2 : k = rb := e'; omega, hs3, fun k e => by have e2 : k = rb := e; omega, hb3.trans (hb4.mono hb3.size)⟩
  rw [hrb.out]
  have hkl' := hkl.out
  have hkk : Hid (ks.length = 3 * n + 1) := hkl'
  clear hp3 hs3 hb3 hr4 hb4 envP envR hkl hkl'
  obtain ⟨mz, hmz⟩ : ∃ z, Hid (max 0 most = z) := ⟨_, rfl⟩
  rw [hmz.out] at hT0
  have hRW := hR.below hB2
  clear hR
  go_wp2_with fail
  go_loopw [12] (fun v12 wr => ∃ (i : Nat) (S R : Nat → Prop) (bs : List WordB), i ≤ ls.length ∧ i ≤ 80 ∧ v12 = .int .i64 (i : Int) ∧ bs.length ≤ i ∧ Two12 w2 tb rt n ks ⟨#[107]⟩ pb rb S R mz bs wr) (fun v _ => 80 - (intOf v).toNat)
  case atStart => exact ⟨0, _, _, [], Nat.zero_le _, Nat.zero_le _, rfl, Nat.zero_le _, hT0⟩
  case round =>
    obtain ⟨i, S, R, bs, hil, hi1, rfl, hn, hT⟩ := hrel
    clear hT0
    by_cases hgo : i < ls.length ∧ i < 80
    · have g1 : (i : Int) < (ls.length : Int) := by omega
      have g2 : (i : Int) < 80 := by omega
      obtain ⟨⟨kd, word, who, mac⟩, ho⟩ : ∃ o, ls[i]? = some o := ⟨_, List.getElem?_eq_getElem hgo.1⟩
      have hwz : word.size ≤ maxLen := hRW.at_ _ (List.mem_of_getElem? ho)
      obtain ⟨g, off, rfl, hg, y0, y1, y2, y3⟩ := (hRW.below hT.bel).act ho
      have hA := belowNew wr (.cells #[.int .i64 kd, .string word, .int .i64 who, .string mac] 34)
      have hX : ActAt (wr.alloc (.cells #[.int .i64 kd, .string word, .int .i64 who, .string mac] 34)) wr.heap.size ⟨kd, word, who, mac⟩ S R :=
        ⟨Arr.new wr 34 [.int .i64 kd, .string word, .int .i64 who, .string mac], fun e => by have := hT.p.lt _ e; omega, fun e => by have := (hT.r.lt e).2; omega⟩
      have hT2 := hT.below hA
      have hbe := hB2.trans (hT2.bel.mono hB2.size)
      clear ho hT hA
      by_cases hw5 : 500 < word.size
      · have hw5' : (500 : Int) < (word.size : Int) := by omega
        go_wp2
        go_ret
        exact ⟨rfl, hbe⟩
      have hw5' : ¬ (500 : Int) < (word.size : Int) := by omega
      have hw2k : word.size ≤ 2000 := by omega
      clear hbe
      rcases (by omega : kd = 0 ∨ kd = 1 ∨ kd = 2 ∨ (¬ kd = 0 ∧ ¬ kd = 1 ∧ ¬ kd = 2)) with rfl | rfl | rfl | ⟨n0, n1', n2'⟩
      · go_wp2_with fail
        generalize World.alloc _ _ = w5 at hX hT2 ⊢
        clear y0 y1 y2 y3
        generalize wr.heap.size = ob at hX ⊢
        have bl := below_drewN (Below.refl w5.heap.size w5) 1
        have hTd : Two12 w2 tb rt n ks ⟨#[107]⟩ pb rb S R mz bs w5.drew := hT2.below bl
        have hXd : ActAt w5.drew ob ⟨0, word, who, mac⟩ S R := hX.below bl
        have cA := pbOpen_any word hwz pb S tb ⟨#[107]⟩ mz bs w5.drew hTd.p (by omega)
        have cC := fun w h => refBOpen_any word rb R rt ⟨#[107]⟩ mz bs w h (by omega)
        have hok := hTd.ok.open_ mz word hw2k
        have hle := openB_len mz bs word
        obtain ⟨bz, hbz⟩ : ∃ z, Hid (openB mz bs word = z) := ⟨_, rfl⟩
        obtain ⟨ee, hee⟩ : ∃ z, Hid (openE mz bs word = z) := ⟨_, rfl⟩
        simp only [hbz.out, hee.out] at cA cC hok hle
        clear hX hT2
        go_region_held3 (fun w' => w'.cell? ⟨ob, 1, none⟩ = some (.string word) ∧ w'.cell? ⟨ob, 2, none⟩ = some (.int .i64 who) ∧ w'.cell? ⟨ob, 3, none⟩ = some (.string mac)) (exact ActAt.cells (by assumption))
          (first
          | (go_at_call 9; refine cA.mono ?_; rintro e wA ⟨rfl, SA, hA1, hA2, hA3⟩; have hXA := hXd.stepA hA2 hA3; have hRA := (hTd.stepP hA1 hA2 hA3).1)
          | (go_at_call 10; refine (cC _ hRA).mono ?_; rintro e wB ⟨rfl, RB_, hB1, hB2', hB3⟩; have hTB := hTd.both hA1 hA2 hA3 hok hB1 hB2' hB3; have hXB := hXA.stepB hB2' hB3))
        clear hA1 hA2 hA3 hXA hRA hB1 hB2' hB3 hTd hXd bl cA cC hok hXB
        have hn2 : bz.length ≤ i + 1 := by omega
        clear hle
        have cP := fun w h => pbWords_any pb SA tb ⟨#[107]⟩ mz bz w h
        have cR := fun w h => refBWords_any rb RB_ rt ⟨#[107]⟩ mz bz w h
        have hwl : (bz.map (·.word)).length ≤ 9223372036854775807 := by rw [List.length_map]; omega
        obtain ⟨ws, hws⟩ : ∃ z, Hid (bz.map (·.word) = z) := ⟨_, rfl⟩
        simp only [hws.out] at cP cR hwl
        go_wp2_with fail
        refine (cP _ hTB.p).mono ?_
        rintro e wI ⟨vI, rfl, hQI, hbI⟩
        obtain ⟨aoI, capI, rfl, _, hRI⟩ := hQI.form
        have hTI := hTB.below hbI
        clear hTB hbI cP hQI
        go_wp2_with fail
        refine (cR _ hTI.r).mono ?_
        rintro e wJ ⟨vJ, rfl, hQJ, hbJ⟩
        obtain ⟨aoJ, capJ, rfl, _, hRJ⟩ := hQJ.form
        have hRK := hRI.below hbJ
        have hTJ := hTI.below hbJ
        clear hTI hbJ cR hQJ hRI
        go_wp2_with fail
        refine (sameTx_any aoI aoJ capI capJ ws wJ hRK hRJ hwl).mono ?_
        rintro e wK ⟨rfl, hbK⟩
        have hTK := hTJ.below hbK
        clear hTJ hbK hRK hRJ hwl
        go_wp2
        go_roundw
        case rel => exact ⟨i + 1, SA, RB_, bz, by omega, by omega, by go_num, hn2, hTK⟩
        case measure => simp [intOf]; omega
      · go_wp2_with fail
        generalize World.alloc _ _ = w5 at hX hT2 ⊢
        clear y0 y1 y2 y3
        generalize wr.heap.size = ob at hX ⊢
        have k1 := hX.row.cell (i := 1) rfl
        have k2 := hX.row.cell (i := 2) rfl
        have k3 := hX.row.cell (i := 3) rfl
        have cA := pbAdd_any word hwz ⟨who, mac⟩ pb S tb ⟨#[107]⟩ mz bs w5 hT2.p (hT2.envP.v hw2k) hT2.ok hT2.bel hT2.gp
        have cC := fun w h hb => refBAdd_any word ⟨who, mac⟩ rb R rt ⟨#[107]⟩ mz bs w h (hT2.envR.v hw2k) hT2.ok hb hT2.gr
        have hok := hT2.ok.seal hkk.out word ⟨who, mac⟩
        have hfw := hT2.ok.seal_few hkk.out word ⟨who, mac⟩
        have hle := sealB_len n ks ⟨#[107]⟩ bs word ⟨who, mac⟩
        obtain ⟨bz, hbz⟩ : ∃ z, Hid (sealB n ks ⟨#[107]⟩ bs word ⟨who, mac⟩ = z) := ⟨_, rfl⟩
        obtain ⟨ee, hee⟩ : ∃ z, Hid (sealE ks ⟨#[107]⟩ bs word ⟨who, mac⟩ = z) := ⟨_, rfl⟩
        obtain ⟨le, hll⟩ : ∃ z, Hid (sealL n ks ⟨#[107]⟩ bs word ⟨who, mac⟩ = z) := ⟨_, rfl⟩
        simp only [hbz.out, hee.out, hll.out] at cA cC hok hle hfw
        go_wp2_with fail
        refine cA.mono ?_
        rintro e wA ⟨aoP, cP, rfl, hrP, hfP, SA, hA1, hA2, hA3⟩
        have hXA := hX.stepA hA2 hA3
        obtain ⟨hRA, _, _, hbA⟩ := hT2.stepP hA1 hA2 hA3
        have j1 := hXA.row.cell (i := 1) rfl
        have j2 := hXA.row.cell (i := 2) rfl
        have j3 := hXA.row.cell (i := 3) rfl
        clear k1 k2 k3 cA hX
        go_wp2_with fail
        refine (cC _ hRA hbA).mono ?_
        rintro e wB ⟨aoQ, cQ, rfl, hrQ, RB_, hB1, hB2', hB3⟩
        have hTC := hT2.both hA1 hA2 hA3 hok hB1 hB2' hB3
        have hrP2 := hrP.kept hB3 (fun b hb e => by have := hfP b hb; have := (hT2.r.lt e).2; omega)
        clear hA1 hA2 hA3 hXA hRA hB1 hB2' hB3 hT2 cC hok j1 j2 j3 hrP hfP
        have hn2 : bz.length ≤ i + 1 := by omega
        go_wp2_with fail
        refine (sameTags_any aoP aoQ cP cQ le wB hrP2 hrQ (by omega)).mono ?_
        rintro e wS ⟨rfl, hbS⟩
        have hTB := hTC.below hbS
        clear hle hfw hTC hrP2 hrQ hbS
        have cP := fun w h => pbWords_any pb SA tb ⟨#[107]⟩ mz bz w h
        have cR := fun w h => refBWords_any rb RB_ rt ⟨#[107]⟩ mz bz w h
        have hwl : (bz.map (·.word)).length ≤ 9223372036854775807 := by rw [List.length_map]; omega
        obtain ⟨ws, hws⟩ : ∃ z, Hid (bz.map (·.word) = z) := ⟨_, rfl⟩
        simp only [hws.out] at cP cR hwl
        go_wp2_with fail
        refine (cP _ hTB.p).mono ?_
        rintro e wI ⟨vI, rfl, hQI, hbI⟩
        obtain ⟨aoI, capI, rfl, _, hRI⟩ := hQI.form
        have hTI := hTB.below hbI
        clear hTB hbI cP hQI
        go_wp2_with fail
        refine (cR _ hTI.r).mono ?_
        rintro e wJ ⟨vJ, rfl, hQJ, hbJ⟩
        obtain ⟨aoJ, capJ, rfl, _, hRJ⟩ := hQJ.form
        have hRK := hRI.below hbJ
        have hTJ := hTI.below hbJ
        clear hTI hbJ cR hQJ hRI
        go_wp2_with fail
        refine (sameTx_any aoI aoJ capI capJ ws wJ hRK hRJ hwl).mono ?_
        rintro e wK ⟨rfl, hbK⟩
        have hTK := hTJ.below hbK
        clear hTJ hbK hRK hRJ hwl
        go_wp2
        go_roundw
        case rel => exact ⟨i + 1, SA, RB_, bz, by omega, by omega, by go_num, hn2, hTK⟩
        case measure => simp [intOf]; omega
      · go_wp2_with fail
        generalize World.alloc _ _ = w5 at hX hT2 ⊢
        clear y0 y1 y2 y3
        generalize wr.heap.size = ob at hX ⊢
        have k1 := hX.row.cell (i := 1) rfl
        have cA := pbClose_any word hwz pb S tb ⟨#[107]⟩ mz bs w5 hT2.p hT2.ok.nod
        have cC := fun w h => refBClose_any word rb R rt ⟨#[107]⟩ mz bs w h hT2.ok.nod
        have hok := hT2.ok.close word
        have hle := closeB_len word bs
        obtain ⟨bz, hbz⟩ : ∃ z, Hid (closeB word bs = z) := ⟨_, rfl⟩
        simp only [hbz.out] at cA cC hok hle
        go_wp2_with fail
        refine cA.mono ?_
        rintro e wA ⟨rfl, SA, hA1, hA2, hA3⟩
        have hXA := hX.stepA hA2 hA3
        obtain ⟨hRA, _, _, hbA⟩ := hT2.stepP hA1 hA2 hA3
        have j1 := hXA.row.cell (i := 1) rfl
        clear k1 cA hX
        go_wp2_with fail
        refine (cC _ hRA).mono ?_
        rintro e wB ⟨rfl, RB_, hB1, hB2', hB3⟩
        have hTB := hT2.both hA1 hA2 hA3 hok hB1 hB2' hB3
        clear hA1 hA2 hA3 hXA hRA hB1 hB2' hB3 hT2 cC hok j1
        have hn2 : bz.length ≤ i + 1 := by omega
        clear hle
        have cP := fun w h => pbWords_any pb SA tb ⟨#[107]⟩ mz bz w h
        have cR := fun w h => refBWords_any rb RB_ rt ⟨#[107]⟩ mz bz w h
        have hwl : (bz.map (·.word)).length ≤ 9223372036854775807 := by rw [List.length_map]; omega
        obtain ⟨ws, hws⟩ : ∃ z, Hid (bz.map (·.word) = z) := ⟨_, rfl⟩
        simp only [hws.out] at cP cR hwl
        go_wp2_with fail
        refine (cP _ hTB.p).mono ?_
        rintro e wI ⟨vI, rfl, hQI, hbI⟩
        obtain ⟨aoI, capI, rfl, _, hRI⟩ := hQI.form
        have hTI := hTB.below hbI
        clear hTB hbI cP hQI
        go_wp2_with fail
        refine (cR _ hTI.r).mono ?_
        rintro e wJ ⟨vJ, rfl, hQJ, hbJ⟩
        obtain ⟨aoJ, capJ, rfl, _, hRJ⟩ := hQJ.form
        have hRK := hRI.below hbJ
        have hTJ := hTI.below hbJ
        clear hTI hbJ cR hQJ hRI
        go_wp2_with fail
        refine (sameTx_any aoI aoJ capI capJ ws wJ hRK hRJ hwl).mono ?_
        rintro e wK ⟨rfl, hbK⟩
        have hTK := hTJ.below hbK
        clear hTJ hbK hRK hRJ hwl
        go_wp2
        go_roundw
        case rel => exact ⟨i + 1, SA, RB_, bz, by omega, by omega, by go_num, hn2, hTK⟩
        case measure => simp [intOf]; omega
      · have n0' : (kd == 0) = false := by simpa using n0
        have n1'' : (kd == 1) = false := by simpa using n1'
        have n2'' : (kd == 2) = false := by simpa using n2'
        go_wp2_with fail
        generalize World.alloc _ _ = w5 at hX hT2 ⊢
        clear y0 y1 y2 y3 hX
        have hTB := hT2
        have hn2 : bs.length ≤ i + 1 := by omega
        clear hT2 n0 n1' n2'
        have cP := fun w h => pbWords_any pb S tb ⟨#[107]⟩ mz bs w h
        have cR := fun w h => refBWords_any rb R rt ⟨#[107]⟩ mz bs w h
        have hwl : (bs.map (·.word)).length ≤ 9223372036854775807 := by rw [List.length_map]; omega
        obtain ⟨ws, hws⟩ : ∃ z, Hid (bs.map (·.word) = z) := ⟨_, rfl⟩
        simp only [hws.out] at cP cR hwl
        go_wp2_with fail
        refine (cP _ hTB.p).mono ?_
        rintro e wI ⟨vI, rfl, hQI, hbI⟩
        obtain ⟨aoI, capI, rfl, _, hRI⟩ := hQI.form
        have hTI := hTB.below hbI
        clear hTB hbI cP hQI
        go_wp2_with fail
        refine (cR _ hTI.r).mono ?_
        rintro e wJ ⟨vJ, rfl, hQJ, hbJ⟩
        obtain ⟨aoJ, capJ, rfl, _, hRJ⟩ := hQJ.form
        have hRK := hRI.below hbJ
        have hTJ := hTI.below hbJ
        clear hTI hbJ cR hQJ hRI
        go_wp2_with fail
        refine (sameTx_any aoI aoJ capI capJ ws wJ hRK hRJ hwl).mono ?_
        rintro e wK ⟨rfl, hbK⟩
        have hTK := hTJ.below hbK
        clear hTJ hbK hRK hRJ hwl
        go_wp2
        go_roundw
        case rel => exact ⟨i + 1, S, R, bs, by omega, by omega, by go_num, hn2, hTK⟩
        case measure => simp [intOf]; omega
    · have hbe := hB2.trans (hT.bel.mono hB2.size)
      rcases (by omega : ls.length ≤ i ∨ ¬ ls.length ≤ i ∧ 80 ≤ i) with g1 | ⟨g0, g1⟩
      · have g1' : (ls.length : Int) ≤ (i : Int) := by omega
        go_wp2
        go_ret
        exact ⟨rfl, hbe⟩
      · have g0' : (i : Int) < (ls.length : Int) := by omega
        have g1' : (80 : Int) ≤ (i : Int) := by omega
        go_wp2
        go_ret
        exact ⟨rfl, hbe⟩
end Go.Proofs.YtbikabjogacfkaaDoor
