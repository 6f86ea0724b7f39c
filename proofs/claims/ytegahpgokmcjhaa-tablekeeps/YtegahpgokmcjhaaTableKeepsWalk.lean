/- TableKeeps: the walk. -/
import Derived.Test.YtegahpgokmcjhaaTabTwo
import Derived.Test.YtegahpgokmcjhaaTabSame
import Derived.Deep.RegionHeld3
namespace Go.Proofs.Ytegahpgokmcjhaa
open Go.RowKit
set_option linter.unusedVariables false

set_option maxRecDepth 100000 in
set_option maxHeartbeats 4000000 in
theorem tableKeeps_walk (most : Int) (ao : Option Addr) (cap : Nat) (ls : List OpD) (ao2 : Option Addr) (cap2 : Nat) (lq : List OpD) (W : World) (hv : (Lit.int .i64 most).wf = true) (hR : RowAt opK W ao ls) (hm : ls.length ≤ maxLen) (hR2 : RowAt opK W ao2 lq) (hm2 : lq.length ≤ maxLen) :
    Calls Try.prog 3 #[.int .i64 most, .slice ao ls.length cap, .slice ao2 lq.length cap2] W fun e w' => e = .returned (.bool true) ∧ Below W.heap.size W w' := by
  have hm' : ls.length ≤ 9223372036854775807 := by unfold maxLen at hm; omega
  have hm2' : lq.length ≤ 9223372036854775807 := by unfold maxLen at hm2; omega
  clear hm hm2
  go_enter Try.func3, Try.ntmps3
  go_wp2_with fail
  refine (ptNew_any most W).mono ?_
  rintro e w0 ⟨tb, rfl, S0, hp0, hs0, hb0⟩
  go_wp2_with fail
  refine (refTabNew_any most w0).mono ?_
  rintro e w1 ⟨rfl, hr0, hb1⟩
  obtain ⟨rb, hrb⟩ : ∃ b, Hid (w0.heap.size = b) := ⟨_, rfl⟩
  have hT0 : Two11 W tb rb S0 (.slice none 0 0) (max 0 most) [] false 0 w1 := by
    have h1 := hrb.out
    rw [h1] at hr0
    refine ⟨hp0.below hb1, hr0, fun k e e' => ?_, hs0, by have := hb0.size; omega, hb0.trans (hb1.mono hb0.size)⟩
    have := hp0.lt e
    rcases e' with e' | e'
    · omega
    · cases e'
  rw [hrb.out]
  clear hp0 hs0 hb0 hr0 hb1
  obtain ⟨mz, hmz⟩ : ∃ z, Hid (max 0 most = z) := ⟨_, rfl⟩
  rw [hmz.out] at hT0
  go_wp2_with fail
  go_loopw [9] (fun v9 wr => ∃ (i : Nat) (S : Nat → Prop) (q : Value) (l : List ThingD) (cut : Bool) (low : Int), i ≤ ls.length ∧ i ≤ 150 ∧ v9 = .int .i64 (i : Int) ∧ l.length ≤ i ∧ Two11 W tb rb S q mz l cut low wr) (fun v _ => 150 - (intOf v).toNat)
  case atStart => exact ⟨0, _, _, [], false, 0, Nat.zero_le _, Nat.zero_le _, rfl, Nat.zero_le _, hT0⟩
  case round =>
    obtain ⟨i, S, q, l, cut, low, hil, hi1, rfl, hn, hT⟩ := hrel
    clear hT0
    by_cases hgo : i < ls.length ∧ i < 150
    · have g1 : (i : Int) < (ls.length : Int) := by omega
      have g2 : (i : Int) < 150 := by omega
      obtain ⟨⟨dr, id, rd, s⟩, ho⟩ : ∃ o, ls[i]? = some o := ⟨_, List.getElem?_eq_getElem hgo.1⟩
      obtain ⟨hid, hrd⟩ := hR.at_ _ (List.mem_of_getElem? ho)
      obtain ⟨g, off, rfl, hg, y0, y1, y2, y3⟩ := (hR.below hT.bel).op ho
      have hA := belowNew wr (.cells #[.bool dr, .string id, .int .i64 rd, .string s] 28)
      have hX : OpAt (wr.alloc (.cells #[.bool dr, .string id, .int .i64 rd, .string s] 28)) wr.heap.size ⟨dr, id, rd, s⟩ S rb q :=
        ⟨Arr.new wr 28 [.bool dr, .string id, .int .i64 rd, .string s], fun e => by have := hT.p.lt e; omega, fun e => by have := (hT.r.lt e).2; omega⟩
      have hT2 := hT.below hA
      have hTw := hT.bel.size
      clear ho hT hA
      cases dr with
      | true =>
        go_wp2_with fail
        generalize World.alloc _ _ = w2 at hX hT2 ⊢
        clear y0 y1 y2 y3
        have hob : W.heap.size ≤ wr.heap.size := hTw
        generalize wr.heap.size = ob at hX hob ⊢
        have bl := below_drewN (Below.refl w2.heap.size w2) 1
        have hTd : Two11 W tb rb S q mz l cut low w2.drew := hT2.below bl
        have hXd : OpAt w2.drew ob ⟨true, id, rd, s⟩ S rb q := hX.below bl
        have cA := ptDrop_any rd tb S mz _ l w2.drew hTd.p
        have cB := fun w h => refDrop_any rd rb q mz l cut low w h
        have hle := dropL_le l rd
        have elow := lowP_drop (cut := cut) (low := low) hrd
        obtain ⟨lz, hlz⟩ : ∃ z, Hid (dropL l rd = z) := ⟨_, rfl⟩
        obtain ⟨lw, hlw⟩ : ∃ z, Hid (lowR cut low rd = z) := ⟨_, rfl⟩
        simp only [hlz.out, hlw.out] at cA cB hle elow
        clear hX hT2
        go_region_held3 (fun w' => w'.cell? ⟨ob, 1, none⟩ = some (.string id) ∧ w'.cell? ⟨ob, 2, none⟩ = some (.int .i64 rd) ∧ w'.cell? ⟨ob, 3, none⟩ = some (.string s)) (exact OpAt.cells (by assumption))
          (first
          | (go_at_call 8; refine cA.mono ?_; rintro e wA ⟨rfl, SA, hA1, hA2, hA3⟩; have hXA := hXd.stepA hA2 hA3; have hRA := (hTd.stepP hA1 hA2 hA3).1)
          | (go_at_call 9; refine (cB _ hRA).mono ?_; rintro e wB ⟨rfl, qB, hB1, hB2, hB3⟩; have hTB := hTd.both hA1 hA2 hA3 elow hB1 hB2 hB3; have hXB := hXA.stepB hB2 hB3))
        clear hA1 hA2 hA3 hXA hRA hB1 hB2 hB3 hTd hXd bl cA cB
        have hn2 : lz.length ≤ i + 1 := by omega
        clear hle elow hlz hlw hrd
        obtain ⟨cu, hcu⟩ : ∃ c, Hid (true = c) := ⟨_, rfl⟩
        rw [hcu.out] at hTB
        by_cases hq : i < lq.length
        · have g3 : (i : Int) < (lq.length : Int) := by omega
          obtain ⟨⟨dr2, id2, rd2, s2⟩, ho2⟩ : ∃ o, lq[i]? = some o := ⟨_, List.getElem?_eq_getElem hq⟩
          obtain ⟨hid2, hrd2⟩ := hR2.at_ _ (List.mem_of_getElem? ho2)
          obtain ⟨gq, offq, rfl, hgq, z0, z1, z2, z3⟩ := (hR2.below hTB.bel).op ho2
          have fz := hXB.row.frozen
          have f0 := fz 0
          have f1 := fz 1
          have f2 := fz 2
          have f3 := fz 3
          have k0 := hXB.row.cell (i := 0) rfl
          have k1 := hXB.row.cell (i := 1) rfl
          have k2 := hXB.row.cell (i := 2) rfl
          have k3 := hXB.row.cell (i := 3) rfl
          have hT4 := hTB.put hXB hob ⟨dr2, id2, rd2, s2⟩
          have hX4 := hXB.put ⟨dr2, id2, rd2, s2⟩
          unfold setOp at hT4 hX4
          clear hTB hXB ho2 fz
          go_wp2_with fail
          generalize World.setCell _ _ _ = w4 at hT4 hX4 ⊢
          clear z0 z1 z2 z3 f0 f1 f2 f3 k0 k1 k2 k3
          obtain ⟨gs, hgs⟩ : ∃ z, Hid (gotS (getR lz id2) = z) := ⟨_, rfl⟩
          obtain ⟨gr, hgr⟩ : ∃ z, Hid (gotR (getR lz id2) = z) := ⟨_, rfl⟩
          obtain ⟨gb, hgb⟩ : ∃ z, Hid ((getR lz id2).isSome = z) := ⟨_, rfl⟩
          have cG := ptGet_any id2 hid2 tb SA mz _ lz w4 hT4.p
          have cH := fun w h => refGet_any id2 rb qB mz lz cu lw w h
          simp only [hgs.out, hgr.out, hgb.out] at cG cH
          refine cG.mono ?_
          rintro e w5 ⟨rfl, hb5⟩
          have hT5 := hT4.below hb5
          have hX5 := hX4.below hb5
          have j1 := hX5.row.cell (i := 1) rfl
          clear hT4 hX4 hb5 cG
          go_wp2_with fail
          refine (cH _ hT5.r).mono ?_
          rintro e w6 ⟨rfl, hb6⟩
          have hT6 := hT5.below hb6
          have hX6 := hX5.below hb6
          clear hT5 hX5 hb6 cH j1 hgs hgr hgb
          obtain ⟨aoR, capR, rfl, _, _⟩ := hT6.r.row.form
          go_wp2_with fail
          have bl6 := below_drewN (Below.refl w6.heap.size w6) 1
          have hTe : Two11 W tb rb SA (.slice aoR lz.length capR) mz lz cu lw w6.drew := hT6.below bl6
          have hXe : OpAt w6.drew ob _ SA rb (.slice aoR lz.length capR) := hX6.below bl6
          clear hT6 hX6 bl6
          have hlI := idsL_le lz rd2
          have cI := fun w h => ptIds_any rd2 tb SA mz (lowP cu lw) lz w h
          have cJ := fun w h => refIds_any rd2 rb (.slice aoR lz.length capR) mz lz cu lw w h
          obtain ⟨li, hli⟩ : ∃ z, Hid (idsL lz rd2 = z) := ⟨_, rfl⟩
          simp only [hli.out] at cI cJ hlI
          have hli9 : li.length ≤ 9223372036854775807 := by omega
          go_region_held3 (fun w' => w'.cell? ⟨ob, 2, none⟩ = some (.int .i64 rd2) ∧ w'.cell? ⟨rb, 1, none⟩ = some (.slice aoR lz.length capR)) (exact Two11.held (by assumption) (by assumption))
            (first
            | (go_at_call 14; refine (ptLen_any tb SA mz (lowP cu lw) lz _ hTe.p).mono ?_; rintro e wL ⟨rfl, hbL⟩; have hTL := hTe.below hbL; have hXL := hXe.below hbL)
            | (go_at_call 16; refine (cI _ hTL.p).mono ?_; rintro e wI ⟨vI, rfl, hQI, hbI⟩; obtain ⟨aoI, capI, rfl, _, hRI⟩ := hQI.form; have hTI := hTL.below hbI; have hXI := hXL.below hbI)
            | (go_at_call 17; refine (cJ _ hTI.r).mono ?_; rintro e wJ ⟨vJ, rfl, hQJ, hbJ⟩; obtain ⟨aoJ, capJ, rfl, _, hRJ⟩ := hQJ.form; have hRK := hRI.below hbJ; have hTJ := hTI.below hbJ; have hXJ := hXI.below hbJ)
            | (go_at_call 15; refine (sameTx_any aoI aoJ capI capJ li _ hRK hRJ hli9).mono ?_; rintro e wS ⟨rfl, hbS⟩; have hTS := hTJ.below hbS; have hXS := hXJ.below hbS))
          clear hTe hXe hTL hXL hTI hXI hTJ hXJ hQI hQJ hRI hRJ hRK hbL hbI hbJ hbS cI cJ hXS
          go_wp2
          go_roundw
          case rel => exact ⟨i + 1, SA, _, lz, cu, lw, by omega, by omega, by go_num, hn2, hTS⟩
          case measure => simp [intOf]; omega
        · have g3 : (lq.length : Int) ≤ (i : Int) := by omega
          have k1 := hXB.row.cell (i := 1) rfl
          have hT4 := hTB
          have hX4 := hXB
          clear hTB hXB
          go_wp2_with fail
          clear k1
          obtain ⟨gs, hgs⟩ : ∃ z, Hid (gotS (getR lz id) = z) := ⟨_, rfl⟩
          obtain ⟨gr, hgr⟩ : ∃ z, Hid (gotR (getR lz id) = z) := ⟨_, rfl⟩
          obtain ⟨gb, hgb⟩ : ∃ z, Hid ((getR lz id).isSome = z) := ⟨_, rfl⟩
          have cG := ptGet_any id hid tb SA mz _ lz wB hT4.p
          have cH := fun w h => refGet_any id rb qB mz lz cu lw w h
          simp only [hgs.out, hgr.out, hgb.out] at cG cH
          refine cG.mono ?_
          rintro e w5 ⟨rfl, hb5⟩
          have hT5 := hT4.below hb5
          have hX5 := hX4.below hb5
          have j1 := hX5.row.cell (i := 1) rfl
          clear hT4 hX4 hb5 cG
          go_wp2_with fail
          refine (cH _ hT5.r).mono ?_
          rintro e w6 ⟨rfl, hb6⟩
          have hT6 := hT5.below hb6
          have hX6 := hX5.below hb6
          clear hT5 hX5 hb6 cH j1 hgs hgr hgb
          obtain ⟨aoR, capR, rfl, _, _⟩ := hT6.r.row.form
          go_wp2_with fail
          have bl6 := below_drewN (Below.refl w6.heap.size w6) 1
          have hTe : Two11 W tb rb SA (.slice aoR lz.length capR) mz lz cu lw w6.drew := hT6.below bl6
          have hXe : OpAt w6.drew ob _ SA rb (.slice aoR lz.length capR) := hX6.below bl6
          clear hT6 hX6 bl6
          have hlI := idsL_le lz rd
          have cI := fun w h => ptIds_any rd tb SA mz (lowP cu lw) lz w h
          have cJ := fun w h => refIds_any rd rb (.slice aoR lz.length capR) mz lz cu lw w h
          obtain ⟨li, hli⟩ : ∃ z, Hid (idsL lz rd = z) := ⟨_, rfl⟩
          simp only [hli.out] at cI cJ hlI
          have hli9 : li.length ≤ 9223372036854775807 := by omega
          go_region_held3 (fun w' => w'.cell? ⟨ob, 2, none⟩ = some (.int .i64 rd) ∧ w'.cell? ⟨rb, 1, none⟩ = some (.slice aoR lz.length capR)) (exact Two11.held (by assumption) (by assumption))
            (first
            | (go_at_call 14; refine (ptLen_any tb SA mz (lowP cu lw) lz _ hTe.p).mono ?_; rintro e wL ⟨rfl, hbL⟩; have hTL := hTe.below hbL; have hXL := hXe.below hbL)
            | (go_at_call 16; refine (cI _ hTL.p).mono ?_; rintro e wI ⟨vI, rfl, hQI, hbI⟩; obtain ⟨aoI, capI, rfl, _, hRI⟩ := hQI.form; have hTI := hTL.below hbI; have hXI := hXL.below hbI)
            | (go_at_call 17; refine (cJ _ hTI.r).mono ?_; rintro e wJ ⟨vJ, rfl, hQJ, hbJ⟩; obtain ⟨aoJ, capJ, rfl, _, hRJ⟩ := hQJ.form; have hRK := hRI.below hbJ; have hTJ := hTI.below hbJ; have hXJ := hXI.below hbJ)
            | (go_at_call 15; refine (sameTx_any aoI aoJ capI capJ li _ hRK hRJ hli9).mono ?_; rintro e wS ⟨rfl, hbS⟩; have hTS := hTJ.below hbS; have hXS := hXJ.below hbS))
          clear hTe hXe hTL hXL hTI hXI hTJ hXJ hQI hQJ hRI hRJ hRK hbL hbI hbJ hbS cI cJ hXS
          go_wp2
          go_roundw
          case rel => exact ⟨i + 1, SA, _, lz, cu, lw, by omega, by omega, by go_num, hn2, hTS⟩
          case measure => simp [intOf]; omega
      | false =>
        go_wp2_with fail
        generalize World.alloc _ _ = w2 at hX hT2 ⊢
        clear y0 y1 y2 y3
        have hob : W.heap.size ≤ wr.heap.size := hTw
        generalize wr.heap.size = ob at hX hob ⊢
        have bl := below_drewN (Below.refl w2.heap.size w2) 1
        have hTd : Two11 W tb rb S q mz l cut low w2.drew := hT2.below bl
        have hXd : OpAt w2.drew ob ⟨false, id, rd, s⟩ S rb q := hX.below bl
        have cA := ptPut_any id hid rd s tb S mz _ l w2.drew hTd.p (by omega)
        have cB := fun w h => refPut_any id rd s rb q mz l cut low w h (by omega)
        have hle := putT_le mz l cut low ⟨id, rd, s⟩
        have elow : True := trivial
        rw [putEP_eq hrd, putTP_eq (x := ⟨id, rd, s⟩) hrd] at cA
        obtain ⟨lz, hlz⟩ : ∃ z, Hid (putT mz l cut low ⟨id, rd, s⟩ = z) := ⟨_, rfl⟩
        obtain ⟨ee, hee⟩ : ∃ z, Hid (putE mz l cut low id rd = z) := ⟨_, rfl⟩
        simp only [hlz.out, hee.out] at cA cB hle
        obtain ⟨lw, hlw⟩ : ∃ z, Hid (low = z) := ⟨_, rfl⟩
        clear hX hT2
        go_region_held3 (fun w' => w'.cell? ⟨ob, 1, none⟩ = some (.string id) ∧ w'.cell? ⟨ob, 2, none⟩ = some (.int .i64 rd) ∧ w'.cell? ⟨ob, 3, none⟩ = some (.string s)) (exact OpAt.cells (by assumption))
          (first
          | (go_at_call 10; refine cA.mono ?_; rintro e wA ⟨rfl, SA, hA1, hA2, hA3⟩; have hXA := hXd.stepA hA2 hA3; have hRA := (hTd.stepP hA1 hA2 hA3).1)
          | (go_at_call 11; refine (cB _ hRA).mono ?_; rintro e wB ⟨rfl, qB, hB1, hB2, hB3⟩; have hTB := hTd.both hA1 hA2 hA3 rfl hB1 hB2 hB3; have hXB := hXA.stepB hB2 hB3))
        rw [hlw.out] at hTB
        clear hA1 hA2 hA3 hXA hRA hB1 hB2 hB3 hTd hXd bl cA cB
        have hn2 : lz.length ≤ i + 1 := by omega
        clear hle elow hlz hlw hrd
        obtain ⟨cu, hcu⟩ : ∃ c, Hid (cut = c) := ⟨_, rfl⟩
        rw [hcu.out] at hTB
        by_cases hq : i < lq.length
        · have g3 : (i : Int) < (lq.length : Int) := by omega
          obtain ⟨⟨dr2, id2, rd2, s2⟩, ho2⟩ : ∃ o, lq[i]? = some o := ⟨_, List.getElem?_eq_getElem hq⟩
          obtain ⟨hid2, hrd2⟩ := hR2.at_ _ (List.mem_of_getElem? ho2)
          obtain ⟨gq, offq, rfl, hgq, z0, z1, z2, z3⟩ := (hR2.below hTB.bel).op ho2
          have fz := hXB.row.frozen
          have f0 := fz 0
          have f1 := fz 1
          have f2 := fz 2
          have f3 := fz 3
          have k0 := hXB.row.cell (i := 0) rfl
          have k1 := hXB.row.cell (i := 1) rfl
          have k2 := hXB.row.cell (i := 2) rfl
          have k3 := hXB.row.cell (i := 3) rfl
          have hT4 := hTB.put hXB hob ⟨dr2, id2, rd2, s2⟩
          have hX4 := hXB.put ⟨dr2, id2, rd2, s2⟩
          unfold setOp at hT4 hX4
          clear hTB hXB ho2 fz
          go_wp2_with fail
          generalize World.setCell _ _ _ = w4 at hT4 hX4 ⊢
          clear z0 z1 z2 z3 f0 f1 f2 f3 k0 k1 k2 k3
          obtain ⟨gs, hgs⟩ : ∃ z, Hid (gotS (getR lz id2) = z) := ⟨_, rfl⟩
          obtain ⟨gr, hgr⟩ : ∃ z, Hid (gotR (getR lz id2) = z) := ⟨_, rfl⟩
          obtain ⟨gb, hgb⟩ : ∃ z, Hid ((getR lz id2).isSome = z) := ⟨_, rfl⟩
          have cG := ptGet_any id2 hid2 tb SA mz _ lz w4 hT4.p
          have cH := fun w h => refGet_any id2 rb qB mz lz cu lw w h
          simp only [hgs.out, hgr.out, hgb.out] at cG cH
          refine cG.mono ?_
          rintro e w5 ⟨rfl, hb5⟩
          have hT5 := hT4.below hb5
          have hX5 := hX4.below hb5
          have j1 := hX5.row.cell (i := 1) rfl
          clear hT4 hX4 hb5 cG
          go_wp2_with fail
          refine (cH _ hT5.r).mono ?_
          rintro e w6 ⟨rfl, hb6⟩
          have hT6 := hT5.below hb6
          have hX6 := hX5.below hb6
          clear hT5 hX5 hb6 cH j1 hgs hgr hgb
          obtain ⟨aoR, capR, rfl, _, _⟩ := hT6.r.row.form
          go_wp2_with fail
          have bl6 := below_drewN (Below.refl w6.heap.size w6) 1
          have hTe : Two11 W tb rb SA (.slice aoR lz.length capR) mz lz cu lw w6.drew := hT6.below bl6
          have hXe : OpAt w6.drew ob _ SA rb (.slice aoR lz.length capR) := hX6.below bl6
          clear hT6 hX6 bl6
          have hlI := idsL_le lz rd2
          have cI := fun w h => ptIds_any rd2 tb SA mz (lowP cu lw) lz w h
          have cJ := fun w h => refIds_any rd2 rb (.slice aoR lz.length capR) mz lz cu lw w h
          obtain ⟨li, hli⟩ : ∃ z, Hid (idsL lz rd2 = z) := ⟨_, rfl⟩
          simp only [hli.out] at cI cJ hlI
          have hli9 : li.length ≤ 9223372036854775807 := by omega
          go_region_held3 (fun w' => w'.cell? ⟨ob, 2, none⟩ = some (.int .i64 rd2) ∧ w'.cell? ⟨rb, 1, none⟩ = some (.slice aoR lz.length capR)) (exact Two11.held (by assumption) (by assumption))
            (first
            | (go_at_call 14; refine (ptLen_any tb SA mz (lowP cu lw) lz _ hTe.p).mono ?_; rintro e wL ⟨rfl, hbL⟩; have hTL := hTe.below hbL; have hXL := hXe.below hbL)
            | (go_at_call 16; refine (cI _ hTL.p).mono ?_; rintro e wI ⟨vI, rfl, hQI, hbI⟩; obtain ⟨aoI, capI, rfl, _, hRI⟩ := hQI.form; have hTI := hTL.below hbI; have hXI := hXL.below hbI)
            | (go_at_call 17; refine (cJ _ hTI.r).mono ?_; rintro e wJ ⟨vJ, rfl, hQJ, hbJ⟩; obtain ⟨aoJ, capJ, rfl, _, hRJ⟩ := hQJ.form; have hRK := hRI.below hbJ; have hTJ := hTI.below hbJ; have hXJ := hXI.below hbJ)
            | (go_at_call 15; refine (sameTx_any aoI aoJ capI capJ li _ hRK hRJ hli9).mono ?_; rintro e wS ⟨rfl, hbS⟩; have hTS := hTJ.below hbS; have hXS := hXJ.below hbS))
          clear hTe hXe hTL hXL hTI hXI hTJ hXJ hQI hQJ hRI hRJ hRK hbL hbI hbJ hbS cI cJ hXS
          go_wp2
          go_roundw
          case rel => exact ⟨i + 1, SA, _, lz, cu, lw, by omega, by omega, by go_num, hn2, hTS⟩
          case measure => simp [intOf]; omega
        · have g3 : (lq.length : Int) ≤ (i : Int) := by omega
          have k1 := hXB.row.cell (i := 1) rfl
          have hT4 := hTB
          have hX4 := hXB
          clear hTB hXB
          go_wp2_with fail
          clear k1
          obtain ⟨gs, hgs⟩ : ∃ z, Hid (gotS (getR lz id) = z) := ⟨_, rfl⟩
          obtain ⟨gr, hgr⟩ : ∃ z, Hid (gotR (getR lz id) = z) := ⟨_, rfl⟩
          obtain ⟨gb, hgb⟩ : ∃ z, Hid ((getR lz id).isSome = z) := ⟨_, rfl⟩
          have cG := ptGet_any id hid tb SA mz _ lz wB hT4.p
          have cH := fun w h => refGet_any id rb qB mz lz cu lw w h
          simp only [hgs.out, hgr.out, hgb.out] at cG cH
          refine cG.mono ?_
          rintro e w5 ⟨rfl, hb5⟩
          have hT5 := hT4.below hb5
          have hX5 := hX4.below hb5
          have j1 := hX5.row.cell (i := 1) rfl
          clear hT4 hX4 hb5 cG
          go_wp2_with fail
          refine (cH _ hT5.r).mono ?_
          rintro e w6 ⟨rfl, hb6⟩
          have hT6 := hT5.below hb6
          have hX6 := hX5.below hb6
          clear hT5 hX5 hb6 cH j1 hgs hgr hgb
          obtain ⟨aoR, capR, rfl, _, _⟩ := hT6.r.row.form
          go_wp2_with fail
          have bl6 := below_drewN (Below.refl w6.heap.size w6) 1
          have hTe : Two11 W tb rb SA (.slice aoR lz.length capR) mz lz cu lw w6.drew := hT6.below bl6
          have hXe : OpAt w6.drew ob _ SA rb (.slice aoR lz.length capR) := hX6.below bl6
          clear hT6 hX6 bl6
          have hlI := idsL_le lz rd
          have cI := fun w h => ptIds_any rd tb SA mz (lowP cu lw) lz w h
          have cJ := fun w h => refIds_any rd rb (.slice aoR lz.length capR) mz lz cu lw w h
          obtain ⟨li, hli⟩ : ∃ z, Hid (idsL lz rd = z) := ⟨_, rfl⟩
          simp only [hli.out] at cI cJ hlI
          have hli9 : li.length ≤ 9223372036854775807 := by omega
          go_region_held3 (fun w' => w'.cell? ⟨ob, 2, none⟩ = some (.int .i64 rd) ∧ w'.cell? ⟨rb, 1, none⟩ = some (.slice aoR lz.length capR)) (exact Two11.held (by assumption) (by assumption))
            (first
            | (go_at_call 14; refine (ptLen_any tb SA mz (lowP cu lw) lz _ hTe.p).mono ?_; rintro e wL ⟨rfl, hbL⟩; have hTL := hTe.below hbL; have hXL := hXe.below hbL)
            | (go_at_call 16; refine (cI _ hTL.p).mono ?_; rintro e wI ⟨vI, rfl, hQI, hbI⟩; obtain ⟨aoI, capI, rfl, _, hRI⟩ := hQI.form; have hTI := hTL.below hbI; have hXI := hXL.below hbI)
            | (go_at_call 17; refine (cJ _ hTI.r).mono ?_; rintro e wJ ⟨vJ, rfl, hQJ, hbJ⟩; obtain ⟨aoJ, capJ, rfl, _, hRJ⟩ := hQJ.form; have hRK := hRI.below hbJ; have hTJ := hTI.below hbJ; have hXJ := hXI.below hbJ)
            | (go_at_call 15; refine (sameTx_any aoI aoJ capI capJ li _ hRK hRJ hli9).mono ?_; rintro e wS ⟨rfl, hbS⟩; have hTS := hTJ.below hbS; have hXS := hXJ.below hbS))
          clear hTe hXe hTL hXL hTI hXI hTJ hXJ hQI hQJ hRI hRJ hRK hbL hbI hbJ hbS cI cJ hXS
          go_wp2
          go_roundw
          case rel => exact ⟨i + 1, SA, _, lz, cu, lw, by omega, by omega, by go_num, hn2, hTS⟩
          case measure => simp [intOf]; omega
    · have hbe := hT.bel
      rcases (by omega : ls.length ≤ i ∨ ¬ ls.length ≤ i ∧ 150 ≤ i) with g1 | ⟨g0, g1⟩
      · have g1' : (ls.length : Int) ≤ (i : Int) := by omega
        go_wp2
        go_ret
        exact ⟨rfl, hbe⟩
      · have g0' : (i : Int) < (ls.length : Int) := by omega
        have g1' : (150 : Int) ≤ (i : Int) := by omega
        go_wp2
        go_ret
        exact ⟨rfl, hbe⟩
end Go.Proofs.Ytegahpgokmcjhaa
