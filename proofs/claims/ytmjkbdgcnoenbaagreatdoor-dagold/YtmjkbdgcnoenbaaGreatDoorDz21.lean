/- DagOld: for every input the statement answers true, and each argument reads afterwards as it read before. Condition: the two tables of package mix read as the program's text lays them; no other. -/
import Derived.Test.YtmjkbdgcnoenbaaGreatDoorDz20
import Derived.Test.YtmjkbdgcnoenbaaGreatDoorDz11
import Derived.Deep.DeepCutAuto
import Derived.Test.YtmjkbdgcnoenbaaGreatDoorDz04
import Derived.Test.YtmjkbdgcnoenbaaGreatDoorCards
import Derived.Test.YtmjkbdgcnoenbaaGreatDoorTie
import Derived.SevenTiedAt
/- tusklaw14.DagOld answers true; nothing old in memory is turned. -/
namespace Go.Proofs.YtmjkbdgcnoenbaaGreatDoor
open Go Go.RowKit Go.Sort
set_option linter.unusedVariables false

set_option maxRecDepth 100000 in
set_option maxHeartbeats 4000000 in
theorem dagOld_walk (f rounds low : Int) (w : World) (hG : Mx.Glob w) :
    Calls Tryz.prog 8 #[.int .i64 f, .int .i64 rounds, .int .i64 low] w fun e w' => e = .returned (.bool true) ∧ Below w.heap.size w w' := by
  have cW := works14_any w hG
  go_enter Tryz.func8, Tryz.ntmps8
  go_wp2_with fail
  refine cW.mono ?_
  rintro e w1 ⟨rfl, hb1⟩
  have cB := both14_any f 0 w1 (hG.below hb1)
  generalize nF f = n at cB
  clear cW
  go_wp2_with fail
  refine cB.mono ?_
  rintro e w2 ⟨V, tb, rt, db, gb, pb, S, rfl, hB⟩
  have hE := hB.env
  have h2 := hB.d1
  have hbw := hb1.trans (hB.bw.mono hb1.size)
  generalize pickN 0 (3 * n + 1) = me at *
  have hkl : Hid ((ksF n).length = 3 * n + 1) := hE.T.kl
  have hn2 := hE.T.f2
  have hn1 := hE.T.f1
  obtain ⟨ND, hND⟩ : ∃ z, Hid (2 * n + 1 = z) := ⟨_, rfl⟩
  have hN7 : 3 ≤ ND ∧ ND ≤ 5 := by have := hND.out; omega
  obtain ⟨hr6, hre, hre2⟩ := pickN_spec rounds 6 (by decide) (by decide)
  obtain ⟨hl7, hle, hle2⟩ := pickN_spec low 7 (by decide) (by decide)
  generalize pickN rounds 6 = R0 at *
  generalize pickN low 7 = m at *
  have hb3 := belowNew w2 (.cells #[.int .i64 0, .int .i64 0, .slice none 0 0, .slice none 0 0, .slice none 0 0] 48)
  have hX3 := Arr.new w2 48 [.int .i64 0, .int .i64 0, .slice none 0 0, .slice none 0 0, .slice none 0 0]
  have h3 := h2.below hb3
  have hF3 : FP V S (fun k => k = pb) w2.heap.size cert0 (w2.alloc (.cells #[.int .i64 0, .int .i64 0, .slice none 0 0, .slice none 0 0, .slice none 0 0] 48)) := ⟨hX3, cert0_at _, ⟨h2.bel.size, (h2.old (Or.inr (Nat.le_refl _))).1, (h2.old (Or.inr (Nat.le_refl _))).2⟩, fun b hf => by
    rcases hf with hf | hf
    · rcases hf with hf | hf
      · exact (nil_foot hf).elim
      · exact (nil_foot hf).elim
    · exact (nil_foot hf).elim⟩
  clear cB hB hb1 h2 hb3 hX3
  have hq1 : wrap64 (1 + wrap64 ((IntKind.u64.wrap rounds).tmod 6)) = ((R0 + 1 : Nat) : Int) := by
    have e : wrap64 ((IntKind.u64.wrap rounds).tmod 6) = (R0 : Int) := hre2
    rw [e, Mx.wrap64_small _ (by omega) (by omega)]
    omega
  have hq2 : wrap64 (1 + wrap64 ((IntKind.u64.wrap low).tmod 7)) = (m : Int) + 1 := by
    have e : wrap64 ((IntKind.u64.wrap low).tmod 7) = (m : Int) := hle2
    rw [e, Mx.wrap64_small _ (by omega) (by omega)]
    omega
  replace hq1 : Hid _ := hq1
  replace hq2 : Hid _ := hq2
  obtain ⟨R, hR⟩ : ∃ z, Hid (R0 + 1 = z) := ⟨_, rfl⟩
  have hR6 : 1 ≤ R ∧ R ≤ 6 := by have := hR.out; omega
  clear hre hre2 hle hle2
  go_upto_region 9 with fail
  rw [hq1.out, hq2.out, hR.out]
  obtain ⟨fb, hfb⟩ : ∃ z, Hid (w2.heap.size = z) := ⟨_, rfl⟩
  rw [hfb.out] at hF3 ⊢
  generalize w2.alloc _ = w3 at *
  clear hq1 hq2 hfb
  go_wp2_with fail
  go_loopw [13, 14, 15, 16] (fun v13 _ _ _ wr => ∃ (r : Nat) (d : DagD) (SD SP : Nat → Prop) (cf : CertM), r ≤ R ∧ v13 = .int .i64 (r : Int) ∧ D1 V n tb rt db pb me SD SP d (idsR (2 * n + 1) r 0) wr ∧ Old (ksF n) n r 0 d ∧ FP V SD SP fb cf wr ∧ Hid (0 < r → cf.d = certR (ksF n) n 0 0 ∧ cf.Good)) (fun v _ _ _ _ => R - (intOf v).toNat)
  case atStart => exact ⟨0, dag0, S, _, cert0, by omega, rfl, h3, ⟨List.Perm.refl _, rfl⟩, hF3, fun h => absurd h (Nat.lt_irrefl _)⟩
  case round =>
    obtain ⟨r, d, SD, SP, cf, hrR, rfl, hD, hO, hF, hcf⟩ := hrel
    clear h3 hF3
    by_cases hrl : r < R
    · have g1 : (r : Int) < (R : Int) := by omega
      generalize wr = w0 at *
      obtain ⟨i0, z0, hi0, hz0, hz1, hz2, hz3⟩ := certInfo14
      go_wp2_with fail
      go_loopw [14, 15] (fun v14 v15 wx => ∃ (i : Nat) (L : List CertM), i ≤ ND ∧ v15 = .int .i64 (i : Int) ∧ Below w0.heap.size w0 wx ∧ LO V w0.heap.size SD SP v14 L ((List.range i).map (certR (ksF n) n r)) wx) (fun _ v _ => ND - (intOf v).toNat)
      case atStart => exact ⟨0, [], Nat.zero_le _, rfl, Below.refl _ _, ⟨KQ.empty _ _ _ _, rfl, (fun c hc => by cases hc), (fun c hc => by cases hc), (fun k hk => by simp [Value.ownBlock] at hk), (fun c hc => by cases hc)⟩⟩
      case round =>
        obtain ⟨i, L, hi, rfl, hbx, hL⟩ := hrel
        have hDx := hD.below hbx
        have cNe := Mx.need_any tb n (ksF n) wr (hE.T.below hDx.bel).T hn2
        rw [hND.out] at cNe
        obtain ⟨la, lc, rfl, _, _⟩ := hL.row.form
        have hLl : Hid (L.length = i) := by show _ = _; rw [hL.len, List.length_map, List.length_range]
        go_wp2_with fail
        refine cNe.mono ?_
        rintro e wx ⟨rfl, rfl⟩
        clear cNe
        by_cases hil : i < ND
        · have g2 : (i : Int) < (ND : Int) := by omega
          have cC := hDx.cert hE (opA_in V (i : Int) 0)
          rw [certO_R (ksF n) hn1 hn2 (by omega) (by have := hND.out; omega)] at cC
          unfold opA OpM.v at cC
          simp only [List.length_nil] at cC
          go_wp2_with fail
          refine cC.mono ?_
          rintro e w4 ⟨c, rfl, hcd, hcA, hcf2, hcl, hcL, hcv, hcfo, hb4⟩
          replace hcd : Hid _ := hcd
          have hb5 := belowNew w4 (.cells #[.int .i64 c.hdr.author, .int .i64 c.hdr.round, .slice c.hdr.ra c.hdr.refs.length c.hdr.rc, .slice c.hdr.pa c.hdr.parents.length c.hdr.pc, .slice c.va c.votes.length c.vc] 48)
          have hR5 := certOne w4 c hcA
          have hnw := hR5.news
          rw [flatK_single] at hnw
          have hcA5 := hcA.below hb5
          have hb45 := hb4.trans (hb5.mono hb4.size)
          have hL5 := hL.below hb45
          have hbb := hbx.trans (hb45.mono hbx.size)
          have hbs5 := hbb.size
          have hco : ∀ b, certK.foot c b → (Value.slice la L.length lc).ownBlock ≠ some b := fun b hf e => by
            have h1 := hL.row.lt b e
            have h2 := hD.bel.size
            rcases hcfo b hf with h | h <;> omega
          have hcS := fun b hf => hDx.old (hcfo b hf)
          have hcB : ∀ b, c.foot b → b < V.heap.size ∨ w0.heap.size ≤ b := fun b hf => (hcfo b hf).imp id (fun h => Nat.le_trans hbx.size h)
          have m1 : L.length + 1 ≤ maxLen := by have := hLl.out; unfold maxLen; omega
          have m2 : (L.length + 1) * 88 ≤ 140737488355328 := by have := hLl.out; omega
          unfold CertM.v
          clear cC hb4 hb5 hb45 hR5 hcA
          go_wp2_with (at_builtin; refine wpList_pushF (K := certK) rfl _ _ 82 rfl w0.heap.size 48 i0 _ 88 Tryz.underlying82 hi0 hz0 hz1 hz2 hz3 _ L rfl hL5.row c hcA5 hco ⟨w4.heap.size, 0, none⟩ 1 rfl hnw m1 m2 hbs5 ?_)
          intro ao3 cap3 w7 hQ7 hk7 hf7
          have hb7 := hbb.trans (Kept.below hk7 hbb.size (fun k hk => (hL5.row.lt k hk).1))
          have hL7 : LO V w0.heap.size SD SP (.slice ao3 (L.length + 1) cap3) (L ++ [c]) ((List.range (i + 1)).map (certR (ksF n) n r)) w7 := by
            refine ⟨hQ7, ?_, fun y hy => ?_, fun y hy => ?_, fun k hk => ?_, fun y hy => ?_⟩
            · rw [List.map_append, List.range_succ, List.map_append, hL5.dat]
              show _ ++ [c.d] = _ ++ [certR (ksF n) n r i]
              rw [hcd.out]
            · rcases List.mem_append.1 hy with h | h
              · exact hL5.fit y h
              · rw [List.mem_singleton.1 h]; exact ⟨hcf2, hcl, hcL, hcv⟩
            · rcases List.mem_append.1 hy with h | h
              · exact hL5.foot y h
              · rw [List.mem_singleton.1 h]; exact hcB
            · rcases hf7 k hk with h | h
              · exact hL5.offq k h
              · exact hD.old (Or.inr (Nat.le_trans hbs5 h))
            · rcases List.mem_append.1 hy with h | h
              · exact hL5.off y h
              · rw [List.mem_singleton.1 h]; exact hcS
          clear hQ7 hk7 hf7 hL5 hL hDx hcA5 hnw hbb m1 m2 hbs5 hco hcS hcB hbx
          go_wp2
          go_roundw
          case rel => exact ⟨i + 1, L ++ [c], by omega, by go_num, hb7, hL7⟩
          case measure => simp [intOf]; omega
        · have g2 : ¬ (i : Int) < (ND : Int) := by omega
          obtain rfl : ND = i := by omega
          rw [hLl.out] at hL ⊢
          clear hi0 hz0 hz1 hz2 hz3 hil hi
          have hFx := hF.below hbx
          have hfbB : V.heap.size ≤ fb ∧ fb < w0.heap.size := ⟨hF.offb.1, hF.box.lt⟩
          generalize wx = w5 at *
          clear hD hF hbx hLl
          go_upto_if 63 with fail
          go_cut [] (fun wx => ∃ cf' : CertM, D1 V n tb rt db pb me SD SP d (idsR (2 * n + 1) r 0) wx ∧ LO V w0.heap.size SD SP (.slice la ND lc) L ((List.range ND).map (certR (ksF n) n r)) wx ∧ FP V SD SP fb cf' wx ∧ Hid (cf'.d = certR (ksF n) n 0 0 ∧ cf'.Good))
          case first =>
            by_cases hr0 : r = 0
            · subst hr0
              obtain ⟨c, hc0, hcd⟩ := hL.get (i := 0) (x := certR (ksF n) n 0 0) (by rw [List.getElem?_map, List.getElem?_range (by omega)]; rfl)
              have hcm := List.mem_of_getElem? hc0
              have hrow : RowAt certK w5 la L := by
                obtain ⟨la', lc', e1, _, h1⟩ := hL.row.form
                simp only [Value.slice.injEq] at e1
                rw [e1.1]; exact h1
              obtain ⟨b, off, hla, hbl, y0, y1, y2, y3, y4⟩ := hrow.cert5 hc0
              simp only [Nat.zero_mul, Nat.add_zero] at y0 y1 y2 y3 y4
              have hcg := hL.fit c hcm
              have hcA := hL.row.at_ c hcm
              have hco := hL.off c hcm
              have hcfo := hL.foot c hcm
              have hX := hFx.box
              have x0 := hX.cell (i := 0) rfl
              have x1 := hX.cell (i := 1) rfl
              have x2 := hX.cell (i := 2) rfl
              have x3 := hX.cell (i := 3) rfl
              have x4 := hX.cell (i := 4) rfl
              have f0 := hX.frozen 0
              have f1 := hX.frozen 1
              have f2 := hX.frozen 2
              have f3 := hX.frozen 3
              have f4 := hX.frozen 4
              have kF := kept_set5 w5 fb (.int .i64 c.hdr.author) (.int .i64 c.hdr.round) (.slice c.hdr.ra c.hdr.refs.length c.hdr.rc) (.slice c.hdr.pa c.hdr.parents.length c.hdr.pc) (.slice c.va c.votes.length c.vc)
              have hZ := hX.set5 (.int .i64 c.hdr.author) (.int .i64 c.hdr.round) (.slice c.hdr.ra c.hdr.refs.length c.hdr.rc) (.slice c.hdr.pa c.hdr.parents.length c.hdr.pc) (.slice c.va c.votes.length c.vc)
              have hD6 := hDx.kept kF (fun k e => by have e' : k = fb := e; rw [e']; exact hFx.offb)
              have hL6 := hL.kept kF hfbB.1 hfbB.2
              have hF6 : FP V SD SP fb c (set5 w5 fb (.int .i64 c.hdr.author) (.int .i64 c.hdr.round) (.slice c.hdr.ra c.hdr.refs.length c.hdr.rc) (.slice c.hdr.pa c.hdr.parents.length c.hdr.pc) (.slice c.va c.votes.length c.vc)) := ⟨hZ, Kind.kept certK hcA kF (fun b hf e => by have e' : b = fb := e; have := hcfo b hf; omega), hFx.offb, hco⟩
              have hcd' : Hid (c.d = certR (ksF n) n 0 0 ∧ c.Good) := ⟨hcd, hcg⟩
              clear hcd hcg
              subst hla
              unfold set5 at hD6 hL6 hF6
              clear kF hZ hX hcA hrow hco hcfo hDx hL hFx
              go_wp2_with fail
              go_meet
              case rel => exact ⟨c, hD6, hL6, hF6, hcd'⟩
            · have g3 : ¬ (r : Int) = 0 := by omega
              have g4 : ((r : Int) == 0) = false := by rw [beq_eq_false_iff_ne]; omega
              go_wp2_with fail
              go_meet
              case rel => exact ⟨cf, hDx, hL, hFx, hcf.out (by omega)⟩
          case rest =>
            obtain ⟨cf', hDc, hLc, hFc, hcf'⟩ := hcut
            generalize wc = w6 at *
            clear hDx hL hFx hcf
            go_wp2_with fail
            go_loopw [16] (fun v16 wr => ∃ (i : Nat) (d : DagD) (SD SP : Nat → Prop), i ≤ ND ∧ v16 = .int .i64 (i : Int) ∧ D1 V n tb rt db pb me SD SP d (idsR (2 * n + 1) r i) wr ∧ Old (ksF n) n r i d ∧ LO V w0.heap.size SD SP (.slice la ND lc) L ((List.range ND).map (certR (ksF n) n r)) wr ∧ FP V SD SP fb cf' wr) (fun v _ => ND - (intOf v).toNat)
            case atStart => exact ⟨0, d, SD, SP, Nat.zero_le _, rfl, hDc, hO, hLc, hFc⟩
            case round =>
              clear hDc hO hLc hFc
              obtain ⟨i, d, SD, SP, hi, rfl, hD, hO, hL, hF⟩ := hrel
              by_cases hil : i < ND
              · have g3 : (i : Int) < (ND : Int) := by omega
                obtain ⟨c, hci, hcd⟩ := hL.get (i := i) (x := certR (ksF n) n r i) (by rw [List.getElem?_map, List.getElem?_range hil]; rfl)
                have hcm := List.mem_of_getElem? hci
                have hfit := hL.fit c hcm
                have hrow : RowAt certK wr la L := by
                  obtain ⟨la', lc', e1, _, h1⟩ := hL.row.form
                  simp only [Value.slice.injEq] at e1
                  rw [e1.1]; exact h1
                obtain ⟨b, off, hla, hbl, y0, y1, y2, y3, y4⟩ := hrow.cert5 hci
                have cO := own14_any c wr (hL.row.at_ c hcm) hfit.2.2.1 (by have := hfit.2.2.2; omega)
                have hi2 : i < 2 * n + 1 := by have := hND.out; omega
                have e0 := hO.addE hn1 hn2 hkl.out (by omega) hi2
                have hO9 := hO.add hn1 hn2 hkl.out (by omega) hi2
                have hch : Hid (c.hdr.d = hdrR (2 * n + 1) r i) := congrArg CertD.header hcd
                replace hcd : Hid _ := hcd
                subst hla
                unfold CertM.v at cO
                replace hfit : Hid _ := hfit
                clear hrow
                go_wp2_with fail
                refine cO.mono ?_
                rintro e wa ⟨y, rfl, hyd, hyA, hyf, hba⟩
                have hDa := hD.below hba
                have hLa := hL.below hba
                have hFa := hF.below hba
                have hyh : y.hdr.d = c.hdr.d := congrArg CertD.header hyd
                have hyv : y.votes = c.votes := congrArg CertD.votes hyd
                have hszk : V.heap.size ≤ wr.heap.size := hD.bel.size
                have cA := hDa.add hE y hyA (fit_same14 hyh hfit.out.1) (by rw [hyh]; exact hfit.out.2.1) (by rw [hyv]; have := hfit.out.2.2.2; omega) (fun b hf => by
                  have h1 := hyf b hf
                  exact ⟨Nat.le_trans hszk h1, fun e => by have := hD.dag.lt e; omega, fun e => by have := (hD.ply.lt e).2; omega⟩)
                rw [hyd, hcd.out, hyh, hch.out, e0] at cA
                generalize addD (chkC (ksF n) n (certR (ksF n) n r i)) (3 * n + 1) d (certR (ksF n) n r i) (idB (hdrR (2 * n + 1) r i)) = d9 at *
                clear cO y0 y1 y2 y3 y4 hyd hyh hyv e0
                unfold CertM.v at cA ⊢
                go_wp2_with fail
                refine cA.mono ?_
                rintro e wb ⟨rfl, SDb, hDb, hfb, hkb⟩
                have hfb' : ∀ k, SDb k → SD k ∨ wr.heap.size ≤ k := fun k e => by
                  rcases hfb k e with e | e | e
                  · exact Or.inl e
                  · exact Or.inr (hyf k e)
                  · exact Or.inr (Nat.le_trans hba.size e)
                have hLb := hL.move hLa hkb (fun k e => Or.inl e) hfb' (fun k e => Or.inl e)
                have hFb := hF.move hFa hkb (fun k e => Or.inl e) hfb' (fun k e => Or.inl e)
                clear cA hfb hkb hfb' hDa hLa hFa hba hD hL hF hyA hyf
                have hrow : RowAt certK wb (some ⟨b, off, none⟩) L := by
                  obtain ⟨la', lc', e1, _, h1⟩ := hLb.row.form
                  simp only [Value.slice.injEq] at e1
                  rw [e1.1]; exact h1
                obtain ⟨b', off', hla, _, y0, y1, y2, y3, y4⟩ := hrow.cert5 hci
                simp only [Option.some.injEq, Addr.mk.injEq, and_true] at hla
                obtain ⟨rfl, rfl⟩ := hla
                have hcr : c.hdr.round = (r : Int) + 1 := congrArg HdrD.round hch.out
                have hil5 := idsR_len (2 * n + 1) r i
                have cI := hDb.ins hE c (hLb.row.at_ c hcm) (by omega) (by omega) hfit.out.1 hfit.out.2.1 (by rw [hil5]; split <;> omega) (fun l hl => by have := idsR_small hn1 hn2 (by omega) (Or.inr (by omega)) (by omega) l hl; omega) (fun b hf => (hLb.off c hcm b (Or.inl hf)).2)
                have e1 : inI (2 * n + 1) (idsR (2 * n + 1) r i) c.hdr.round.toNat (idB c.hdr.d) = idsR (2 * n + 1) r (i + 1) := by
                  rw [hcr, hch.out, show ((r : Int) + 1).toNat = r + 1 by omega]
                  exact inI_R hn1 hn2 (by omega)
                rw [e1] at cI
                unfold CertM.v at cI
                clear e1 hrow hcr hil5
                go_wp2_with fail
                refine cI.mono ?_
                rintro e w8 ⟨rfl, SP', hD8, hf8, hk8⟩
                have hL8 := hLb.move hLb hk8 (fun k e => Or.inr e) (fun k e => Or.inl e) hf8
                have hF8 := hFb.move hFb hk8 (fun k e => Or.inr e) (fun k e => Or.inl e) hf8
                clear cI hf8 hk8 y0 y1 y2 y3 y4 hDb hLb hFb
                go_wp2
                go_roundw
                case rel => exact ⟨i + 1, d9, SDb, SP', by omega, by go_num, hD8, hO9, hL8, hF8⟩
                case measure => simp [intOf]; omega
              · have g3 : ¬ (i : Int) < (ND : Int) := by omega
                have hiN : 2 * n + 1 = i := by have := hND.out; omega
                have hD9 : D1 V n tb rt db pb me SD SP d (idsR (2 * n + 1) (r + 1) 0) wr := by rw [← idsR_next, hiN]; rw [hiN] at hD; exact hD
                have hO9 : Old (ksF n) n (r + 1) 0 d := by rw [← hiN] at hO; exact hO.next
                clear hiN hD hO hL
                go_wp2
                go_roundw
                case rel => exact ⟨r + 1, d, SD, SP, cf', by omega, by go_num, hD9, hO9, hF, fun _ => hcf'.out⟩
                case measure => simp [intOf]; omega
    · have g1 : ¬ (r : Int) < (R : Int) := by omega
      obtain rfl : R = r := by omega
      have hcfG := hcf.out (by omega)
      obtain ⟨hcd, hcg⟩ := hcfG
      have hch : Hid (cf.hdr.d = hdrR (2 * n + 1) 0 0) := congrArg CertD.header hcd
      replace hcd : Hid _ := hcd
      replace hcg : Hid _ := hcg
      have cL := hD.lows hE ((m : Int) + 1)
      rw [hO.lowN m] at cL
      obtain ⟨Z, hZ⟩ : ∃ z, Hid (min R m * (2 * n + 1) = z) := ⟨_, rfl⟩
      rw [hZ.out] at cL
      have hE1 := hO.lowE hn1 hn2 hkl.out hR6.1 m
      have hG1 := hO.lowGet hn1 hn2 hR6.1 hR6.2 m
      have hI1 : Hid (0 < m → idsC (lowD d ((m : Int) + 1)).L (m : Int) = []) := fun h => hO.lowIds m h
      generalize hdl : lowD d ((m : Int) + 1) = dl at *
      clear hdl hO hcf
      go_wp2_with fail
      refine cL.mono ?_
      rintro e w4 ⟨rfl, SD4, hD4, hf4, hk4⟩
      have hF4 := hF.move hF hk4 (fun k e => Or.inl e) hf4 (fun k e => Or.inl e)
      clear cL hf4 hk4 hD hF
      have x0 := hF4.box.cell (i := 0) rfl
      have x1 := hF4.box.cell (i := 1) rfl
      have x2 := hF4.box.cell (i := 2) rfl
      have x3 := hF4.box.cell (i := 3) rfl
      have x4 := hF4.box.cell (i := 4) rfl
      have cO := own14_any cf w4 hF4.at_ hcg.out.2.2.1 (by have := hcg.out.2.2.2; omega)
      unfold CertM.v at cO
      go_wp2_with fail
      refine cO.mono ?_
      rintro e wa ⟨y, rfl, hyd, hyA, hyf, hba⟩
      have hDa := hD4.below hba
      have hFa := hF4.below hba
      have hyh : y.hdr.d = cf.hdr.d := congrArg CertD.header hyd
      have hyv : y.votes = cf.votes := congrArg CertD.votes hyd
      have hszk : V.heap.size ≤ w4.heap.size := hD4.bel.size
      have cA := hDa.add hE y hyA (fit_same14 hyh hcg.out.1) (by rw [hyh]; exact hcg.out.2.1) (by rw [hyv]; have := hcg.out.2.2.2; omega) (fun b hf => by
        have h1 := hyf b hf
        exact ⟨Nat.le_trans hszk h1, fun e => by have := hD4.dag.lt e; omega, fun e => by have := (hD4.ply.lt e).2; omega⟩)
      rw [hyd, hcd.out, hyh, hch.out] at cA
      have ed : addD (chkC (ksF n) n (certR (ksF n) n 0 0)) (3 * n + 1) dl (certR (ksF n) n 0 0) (idB (hdrR (2 * n + 1) 0 0)) = dl := by
        unfold addD
        rw [if_neg]
        show ¬ addE _ _ _ (hdrR (2 * n + 1) 0 0) _ = 0
        rw [hE1]
        split <;> decide
      rw [ed, hE1] at cA
      obtain ⟨AE, hAE⟩ : ∃ z : Nat, Hid ((if m = 0 then 13 else 11) = z) := ⟨_, rfl⟩
      rw [hAE.out] at cA
      clear cO x0 x1 x2 x3 x4 hyd hyh hyv ed hE1
      unfold CertM.v at cA ⊢
      go_wp2_with fail
      refine cA.mono ?_
      rintro e wb ⟨rfl, SDb, hDb, hfb, hkb⟩
      have hfb' : ∀ k, SDb k → SD4 k ∨ w4.heap.size ≤ k := fun k e => by
        rcases hfb k e with e | e | e
        · exact Or.inl e
        · exact Or.inr (hyf k e)
        · exact Or.inr (Nat.le_trans hba.size e)
      have hFb := hF4.move hFa hkb (fun k e => Or.inl e) hfb' (fun k e => Or.inl e)
      clear cA hfb hkb hfb' hDa hFa hba hD4 hF4 hyA hyf
      have x0 := hFb.box.cell (i := 0) rfl
      have x1 := hFb.box.cell (i := 1) rfl
      have x2 := hFb.box.cell (i := 2) rfl
      have x3 := hFb.box.cell (i := 3) rfl
      have cI := refHdrId_any cf.hdr wb hFb.at_.hdr hcg.out.1 hcg.out.2.1
      have ei : Mx.bytes (Mx.sumL (encH cf.hdr.d)) = idB (hdrR (2 * n + 1) 0 0) := by rw [hch.out]; rfl
      rw [ei] at cI
      have hids := idB_size (hdrR (2 * n + 1) 0 0)
      generalize idB (hdrR (2 * n + 1) 0 0) = ID at *
      unfold HdrM.v at cI
      clear ei
      go_wp2_with fail
      refine cI.mono ?_
      rintro e wd ⟨rfl, hbd⟩
      have hDd := hDb.below hbd
      have cG := pdGet_any ID (by rw [hids]; decide) hDd.dag (hE.T.below hDd.bel)
      rw [hG1] at cG
      clear cI x0 x1 x2 x3 hDb hFb hbd hids hG1
      go_wp2_with fail
      refine cG.mono ?_
      rintro e wg ⟨cg, rfl, _, _, _, hbg⟩
      have hDg := hDd.below hbg
      have hDh := hDg.below (belowNew wg (.cells #[.int .i64 cg.hdr.author, .int .i64 cg.hdr.round, .slice cg.hdr.ra cg.hdr.refs.length cg.hdr.rc, .slice cg.hdr.pa cg.hdr.parents.length cg.hdr.pc, .slice cg.va cg.votes.length cg.vc] 48))
      unfold CertM.v
      clear cG hDd hbg hDg
      go_upto_region 28 with fail
      generalize wg.alloc _ = wh at *
      have cNe := Mx.need_any tb n (ksF n) wh (hE.T.below hDh.bel).T hn2
      rw [hND.out] at cNe hZ
      have hw1 : IntKind.i64.wrap ((m : Int) + 1 - 1) = (m : Int) := by rw [wrap_i64P, Int.add_sub_cancel]; exact Mx.wrap64_small _ (by omega) (by omega)
      have hbF : Below w.heap.size w wh := hbw.trans (hDh.bel.mono hbw.size)
      obtain ⟨K, hK⟩ : ∃ z, Hid (min R m = z) := ⟨_, rfl⟩
      have hK6 : K ≤ 6 := by have := hK.out; omega
      have hZK : Hid (K * ND = Z) := by show _ = _; rw [← hK.out]; exact hZ.out
      have hKN : K * ND ≤ 30 := by have := Nat.mul_le_mul hK6 hN7.2; omega
      have hmul : wrap64 (min (R : Int) (m : Int) * (ND : Int)) = (Z : Int) := by
        have e : min (R : Int) (m : Int) * (ND : Int) = ((K * ND : Nat) : Int) := by rw [Int.natCast_mul, show min (R : Int) (m : Int) = (K : Int) by have := hK.out; omega]
        rw [e, Mx.wrap64_small _ (by omega) (by omega), hZK.out]
      rcases Nat.eq_zero_or_pos m with hm0 | hm0
      · obtain rfl : AE = 13 := by have := hAE.out; rw [if_pos hm0] at this; omega
        have hZ0 : Z = 0 := by rw [← hZK.out, show K = 0 by have := hK.out; omega, Nat.zero_mul]
        subst hZ0
        have hd : decide (m = 0) = true := decide_eq_true hm0
        have g4 : ¬ (1 : Int) < (m : Int) + 1 := by omega
        replace hm0 : Hid _ := hm0
        rw [hd]
        clear hd
        go_wp2_with fail
        refine cNe.mono ?_
        rintro e wn ⟨rfl, rfl⟩
        go_wp2
        first
        | done
        | (go_ret; exact ⟨rfl, hbF⟩)
      · obtain rfl : AE = 11 := by have := hAE.out; rw [if_neg (by omega)] at this; omega
        have hd : decide (m = 0) = false := decide_eq_false (by omega)
        have g4 : (1 : Int) < (m : Int) + 1 := by omega
        have cId := pdIds_any (m : Int) hDh.dag
        rw [hI1.out hm0] at cId
        replace hm0 : Hid _ := hm0
        rw [hd]
        clear hd
        go_wp2_with fail
        refine cNe.mono ?_
        rintro e wn ⟨rfl, rfl⟩
        go_wp2_with fail
        refine cId.mono ?_
        rintro e wi ⟨v, rfl, hQ, hbi⟩
        obtain ⟨ia, ic, rfl, _, _⟩ := hQ.form
        have hbI := hbF.trans (hbi.mono hbF.size)
        go_wp2
        first
        | done
        | (go_ret; exact ⟨rfl, hbI⟩)
end Go.Proofs.YtmjkbdgcnoenbaaGreatDoor

/- DagOld: for every input the statement answers true, and each argument reads afterwards as it read before. Condition: the two tables of package mix read as the program's text lays them; no other. -/
namespace Go.Proofs.YtmjkbdgcnoenbaaGreatDoor
open Go.ChangeShapes Go.WideShapes Go.ChangeAt Go.RowKit
open Go.ChangeMaps (open_string shut_string)
set_option linter.unusedVariables false

set_option maxRecDepth 100000 in
theorem dagOld_lifted (os : Os) (started : os.Started) (H : Type) (enc : TypeId × Value → H) :
    ReturnsInHanded {} Tryz.checked os 8 .any (fun w args => (Rows.dagOldSpec.pre enc Tryz.prog Tryz.f8 [] false w args ∧ laidMetH Tryz.prog Mx.laid2 w) ∧ sizedMet enc Tryz.prog Tryz.f8 (OpenSpec.ofChange Rows.dagOldSpec) false w args)
      (Rows.dagOldSpec.post enc Tryz.prog Tryz.f8 false true false false) := by
  refine returnsInHanded_of_change_and (C := Tryz.checked) (X := fun w _ => laidMetH Tryz.prog Mx.laid2 w) (fun _ _ _ hh h => h.of_heap hh) ownKnob_none started (by kernel_rfl) Tryz.func8
    (ChangeSpec.witness_shaped (enc := enc) (C := Tryz.checked) (os := os) (X := fun w _ => laidMetH Tryz.prog Mx.laid2 w) false (World.doorLaid Tryz.prog 400 os) #[.int .i64 0, .int .i64 0, .int .i64 0] 8 rfl (World.shaped_of_RefB (by kernel_rfl) (by kernel_rfl)) (by kernel_rfl) (by kernel_rfl) (by kernel_rfl) (Mx.door_met os _)) ?_
  intro W base args ds gs before hval0 hW hcnd hsz0 hL _
  have hval : ∀ (j : Nat) t v, Tryz.f8.params[j]? = some t → args[j]? = some v → Value.okWide Tryz.prog W .any base t v := hval0
  have hsz : (DataW.weightsEach Tryz.prog (Tryz.f8.params.toList ++ Rows.dagOldSpec.plain.varTypes Tryz.prog) (ds ++ gs)).all (· ≤ reachBytes) = true := hsz0
  have hW' := hW
  obtain ⟨p, q, hA0, hV, rfl, hfz, hnd⟩ := hW
  have hA : DataW.TrodAll enc Tryz.prog W 0 (fun _ => true) true Tryz.f8.params.toList args.toList ds p := hA0
  rw [Tryz.params8] at hA hval hsz
  obtain ⟨v0, vs0, d0, ds0, p0, q0, hargs, rfl, rfl, h0, r0⟩ := trodAll_cons hA
  obtain ⟨v1, vs1, d1, ds1, p1, q1, rfl, rfl, rfl, h1, r1⟩ := trodAll_cons r0
  obtain ⟨v2, vs2, d2, ds2, p2, q2, rfl, rfl, rfl, h2, r2⟩ := trodAll_cons r1
  obtain ⟨rfl, rfl, rfl⟩ := trodAll_nil r2
  obtain rfl : args = #[v0, v1, v2] := by cases args; simp_all
  obtain ⟨rfl, rfl⟩ := trodVars_none hV
  have k0 := h0
  have lt0 : ∀ x ∈ p0, x.block < W.heap.size := by obtain ⟨m, hm⟩ := k0; exact DataW.trod_lt m _ _ _ hm
  obtain ⟨a0, rfl, hd0, hp0, w0⟩ := open_int Tryz.underlying3 (hval 0 3 v0 rfl rfl) h0
  have k1 := h1
  have lt1 : ∀ x ∈ p1, x.block < W.heap.size := by obtain ⟨m, hm⟩ := k1; exact DataW.trod_lt m _ _ _ hm
  obtain ⟨a1, rfl, hd1, hp1, w1⟩ := open_int Tryz.underlying3 (hval 1 3 v1 rfl rfl) h1
  have k2 := h2
  have lt2 : ∀ x ∈ p2, x.block < W.heap.size := by obtain ⟨m, hm⟩ := k2; exact DataW.trod_lt m _ _ _ hm
  obtain ⟨a2, rfl, hd2, hp2, w2⟩ := open_int Tryz.underlying3 (hval 2 3 v2 rfl rfl) h2
  clear hA0 hval0 hsz0
  refine (dagOld_walk a0 a1 a2 W  (Mx.of_laid hL)).mono fun e W' ⟨he, bel⟩ => ?_
  subst he
  exact ⟨_, rfl, _, _, _, [], _, [], hW', trodAll_mk1 (shut_bool Tryz.underlying4 _), (trodAll_cons_mk (Below.trod laidOut_true (by kernel_rfl) (of_decide_eq_true (by kernel_rfl)) k0 bel lt0) (trodAll_cons_mk (Below.trod laidOut_true (by kernel_rfl) (of_decide_eq_true (by kernel_rfl)) k1 bel lt1) (trodAll_cons_mk (Below.trod laidOut_true (by kernel_rfl) (of_decide_eq_true (by kernel_rfl)) k2 bel lt2) trodAll_mk0))), rfl, bel.frame _, fun h => by cases h⟩

theorem dagOld_holds : Rows.DagOldSaid :=
  OpenClaim.holds_of_wide 8 Tryz.f8 rfl rfl rfl rfl rfl rfl rfl ⟨rfl, rfl, rfl, rfl, rfl⟩ rfl rfl rfl rfl rfl (by kernel_rfl) Tryz.func8 (by kernel_rfl)
    (of_decide_eq_true (by kernel_rfl)) (by unfold Func.isWrapper; rw [if_neg (of_decide_eq_false (by kernel_rfl))]; exact ⟨rfl, rfl⟩)
    (fun os started H enc _ => dagOld_lifted os started H enc)

theorem dagOld_card : Rows.DagOldCardSaid :=
  Claim7.holds_tied_plain_at .later [] [.data, .data] true (true, "cb9ec11f0cffbdc1ea1207431f7b5a121590a4829560b15185c4dfb95d7ea019") false
    dagOld_holds (fun _ h => by cases h) (by kernel_rfl) (fun _ h => by cases h) dagOld_row_tie rfl ⟨rfl, rfl⟩ (by kernel_rfl) rfl
    (fun f fn hf hfn => by
      obtain rfl : f = 8 := Option.some.inj ((show Tryz.prog.funcNamed "tusk/tusklaw14.DagOld" = some 8 by kernel_rfl).symm.trans hf) |>.symm
      obtain rfl : fn = Tryz.f8 := (Option.some.inj (Tryz.func8.symm.trans hfn)).symm
      exact ⟨by kernel_rfl, fun j t ht => by
        rw [Tryz.params8] at ht
        have hall : ∀ t ∈ (#[3, 3, 3] : Array TypeId).toList, Tryz.prog.wantsStandIn t = false := by
          show ∀ t ∈ ([3, 3, 3] : List TypeId), Tryz.prog.wantsStandIn t = false
          refine List.forall_mem_cons.2 ⟨by kernel_rfl, ?_⟩
          refine List.forall_mem_cons.2 ⟨by kernel_rfl, ?_⟩
          refine List.forall_mem_cons.2 ⟨by kernel_rfl, ?_⟩
          exact fun _ h => by cases h
        exact hall t (Array.mem_toList_iff.2 (Array.mem_of_getElem? ht))⟩)
    (by kernel_rfl)
end Go.Proofs.YtmjkbdgcnoenbaaGreatDoor
