/- SealsApart: the walk. -/
import Derived.Test.YtbikabjogacfkaaDoorBoardPair
import Derived.Test.YtbikabjogacfkaaDoorRefHdrSame
import Derived.Test.YtbikabjogacfkaaDoorInts
import Derived.Deep.RegionHeld3
import Derived.Lib.QuietBelow
import Derived.BigQuiet
import Derived.Deep.DeepCutAuto
namespace Go.Proofs.YtbikabjogacfkaaDoor
open Go.RowKit
set_option linter.unusedVariables false

set_option maxRecDepth 100000 in
set_option maxHeartbeats 4000000 in
theorem sealsApart_walk (f : Int) (aw : Option Addr) (cw : Nat) (who : List Int) (ao : Option Addr) (cap : Nat) (ls : List ActD) (W : World) (hvf : (Lit.int .i64 f).wf = true) (hH : RowAt intK W aw who) (hhm : who.length ≤ maxLen) (hR : RowAt actK W ao ls) (hm : ls.length ≤ maxLen) (hG : Mx.Glob W) :
    Calls Tryd.prog 5 #[.int .i64 f, .slice aw who.length cw, .slice ao ls.length cap] W fun e w' => e = .returned (.bool true) ∧ Below W.heap.size W w' := by
  have hm' : ls.length ≤ 9223372036854775807 := by unfold maxLen at hm; omega
  have hhm' : who.length ≤ 9223372036854775807 := by unfold maxLen at hhm; omega
  clear hm hhm
  go_enter Tryd.func5, Tryd.ntmps5
  go_wp2_with fail
  refine (works12_any W hG).mono ?_
  rintro e w1 ⟨rfl, hB1⟩
  have cB := both_any f w1 (hG.below hB1)
  go_wp2_with fail
  refine cB.mono ?_
  rintro e w2 ⟨n, tb, rt, n2, n1, rfl, hT2, _, hB2'⟩
  have hB2 := hB1.trans (hB2'.mono hB1.size)
  have hk32 : ∀ k ∈ Mx.keysL seedW (3 * n + 1), k.size ≤ 32 := Mx.keysL_size _ _
  have hkl : Hid ((Mx.keysL seedW (3 * n + 1)).length = 3 * n + 1) := Mx.keysL_len _ _
  generalize Mx.keysL seedW (3 * n + 1) = ks at *
  have env : BEnv w2 tb n ks ⟨#[107]⟩ := ⟨hT2, n2, hkl.out, hk32, by decide, hG.below hB2⟩
  clear cB hT2 hB1 hB2'
  have cN := One12.new (most := 60) env (Below.refl _ w2)
  rw [show max (0 : Int) 60 = 60 by decide] at cN
  go_wp2_with fail
  refine cN.mono ?_
  rintro e w3 ⟨pa, rfl, A0, ha3, hs3, hb3⟩
  have cM := One12.new (most := 60) env hb3
  rw [show max (0 : Int) 60 = 60 by decide] at cM
  go_wp2_with fail
  refine cM.mono ?_
  rintro e w4 ⟨pb, rfl, B0, hb4, hs4, hbb4⟩
  have hP4 : Pr12 w2 tb n ks ⟨#[107]⟩ pa pb A0 B0 60 [] [] w4 := ⟨ha3.below hbb4, hb4, fun k e e' => by have := ha3.lt e; have := hs4 k e'; omega⟩
  clear cN cM ha3 hs3 hb3 hb4 hs4 hbb4
  have hoE : openE 60 [] ⟨#[119]⟩ = 0 := by unfold openE; rw [if_neg (by simp [atW]), if_neg (by simp)]
  have hoB : openB 60 [] ⟨#[119]⟩ = [⟨⟨#[119]⟩, noP⟩] := by unfold openB; rw [if_pos hoE]; rfl
  have cOA := hP4.a.open_ ⟨#[119]⟩ (by decide) (by simp)
  rw [hoE, hoB] at cOA
  go_wp2_with fail
  refine cOA.mono ?_
  rintro e w5 ⟨rfl, A5, ha5, hf5, hk5⟩
  have hP5 := hP4.stepA ha5 hf5 hk5
  have cOB := hP5.b.open_ ⟨#[119]⟩ (by decide) (by simp)
  rw [hoE, hoB] at cOB
  clear hP4 ha5 hf5 hk5 cOA
  go_wp2_with fail
  refine cOB.mono ?_
  rintro e w6 ⟨rfl, B6, hb6, hf6, hk6⟩
  have hP6 := hP5.stepB hb6 hf6 hk6
  clear hP5 hb6 hf6 hk6 cOB hoE hoB env
  have hHW := hH.below hB2
  have hRW := hR.below hB2
  have hk32' : Hid _ := hk32
  have hGW := hG.below hB2
  clear hH hR hk32 hG
  go_wp2_with fail
  go_loopw [12] (fun v12 wr => ∃ (i : Nat) (A B : Nat → Prop) (ab bs : List WordB), i ≤ who.length ∧ i ≤ 20 ∧ v12 = .int .i64 (i : Int) ∧ bs.length ≤ i + 1 ∧ Pr12 w2 tb n ks ⟨#[107]⟩ pa pb A B 60 ab bs wr ∧ Hid (getB ⟨#[119]⟩ ab = getB ⟨#[119]⟩ bs)) (fun v _ => 20 - (intOf v).toNat)
  case atStart => exact ⟨0, _, _, _, _, Nat.zero_le _, Nat.zero_le _, rfl, by simp, hP6, rfl⟩
  case round =>
    obtain ⟨i, A, B, ab, bs, hil, hi1, rfl, hn, hP, hsm⟩ := hrel
    clear hP6
    by_cases hgo : i < who.length ∧ i < 20
    · have g1 : (i : Int) < (who.length : Int) := by omega
      have g2 : (i : Int) < 20 := by omega
      obtain ⟨h, hh⟩ : ∃ o, who[i]? = some o := ⟨_, List.getElem?_eq_getElem hgo.1⟩
      obtain ⟨bq, hbq⟩ : ∃ z : Bool, Hid ((match ls[i]? with | some o => !(o.word.toList == [119]) && decide (o.word.size < 300) | none => false) = z) := ⟨_, rfl⟩
      go_upto_region 12 with fail
      go_cut [71] (fun s71 wx => s71 = .bool bq ∧ wx = wr)
      case first =>
        by_cases hlt : i < ls.length
        · have g3 : (i : Int) < (ls.length : Int) := by omega
          obtain ⟨⟨kd, word, tw, mac⟩, ho⟩ : ∃ o, ls[i]? = some o := ⟨_, List.getElem?_eq_getElem hlt⟩
          obtain ⟨g, off, rfl, hg, y0, y1, y2, y3⟩ := (hRW.below hP.a.bel).act ho
          have hbq2 := hbq.out
          rw [ho] at hbq2
          simp only at hbq2
          clear ho hbq
          cases hw : (word.toList == [119]) with
          | true =>
            obtain rfl : bq = false := by rw [← hbq2, hw]; rfl
            clear hbq2
            go_wp2_with fail
            go_meet
            case rel => exact ⟨rfl, rfl⟩
          | false =>
            by_cases hz : word.size < 300
            · have hz' : (word.size : Int) < 300 := by omega
              obtain rfl : bq = true := by rw [← hbq2, hw, decide_eq_true hz]; rfl
              clear hbq2
              go_wp2_with fail
              go_meet
              case rel => exact ⟨rfl, rfl⟩
            · have hz' : ¬ (word.size : Int) < 300 := by omega
              obtain rfl : bq = false := by rw [← hbq2, hw, decide_eq_false hz]; rfl
              clear hbq2
              go_wp2_with fail
              go_meet
              case rel => exact ⟨rfl, rfl⟩
        · have g3 : ¬ (i : Int) < (ls.length : Int) := by omega
          have hbq2 := hbq.out
          rw [List.getElem?_eq_none (by omega)] at hbq2
          obtain rfl : bq = false := hbq2.symm
          clear hbq2 hbq
          go_wp2_with fail
          go_meet
          case rel => exact ⟨rfl, rfl⟩
      case rest =>
        obtain ⟨rfl, rfl⟩ := hcut
        go_upto_if 71 with fail
        go_cut [] (fun wx => ∃ (B' : Nat → Prop) (bs' : List WordB), bs'.length ≤ i + 2 ∧ Pr12 w2 tb n ks ⟨#[107]⟩ pa pb A B' 60 ab bs' wx ∧ Hid (getB ⟨#[119]⟩ ab = getB ⟨#[119]⟩ bs'))
        case first =>
          cases bq with
          | false =>
            go_wp2_with fail
            go_meet
            case rel => exact ⟨B, bs, by omega, hP, hsm⟩
          | true =>
            have hlt : i < ls.length := by
              rcases Nat.lt_or_ge i ls.length with e | e
              · exact e
              · have h9 := hbq.out
                rw [List.getElem?_eq_none e] at h9
                cases h9
            have g3 : (i : Int) < (ls.length : Int) := by omega
            obtain ⟨⟨kd, word, tw, mac⟩, ho⟩ : ∃ o, ls[i]? = some o := ⟨_, List.getElem?_eq_getElem hlt⟩
            have hbq2 := hbq.out
            rw [ho] at hbq2
            change (!(word.toList == [119]) && decide (word.size < 300)) = true at hbq2
            rw [Bool.and_eq_true, decide_eq_true_eq, Bool.not_eq_true'] at hbq2
            obtain ⟨hb1, hz⟩ := hbq2
            have hwn : ¬ word = ⟨#[119]⟩ := by
              intro e
              rw [e, ByteArray.toList_eq] at hb1
              exact absurd hb1 (by decide)
            obtain ⟨g, off, rfl, hg, y0, y1, y2, y3⟩ := (hRW.below hP.a.bel).act ho
            have hkp : ∀ w', Below w2.heap.size w2 w' → w'.cell? ⟨g, off + i * 4 + 1, none⟩ = some (.string word) ∧ w'.cell? ⟨g, off + i * 4 + 2, none⟩ = some (.int .i64 tw) ∧ w'.cell? ⟨g, off + i * 4 + 3, none⟩ = some (.string mac) := fun w' hb => by
              obtain ⟨g', off', e', _, z0, z1, z2, z3⟩ := (hRW.below hb).act ho
              obtain ⟨rfl, rfl⟩ : g = g' ∧ off = off' := by simpa using e'
              exact ⟨z1, z2, z3⟩
            have hsm' := hsm.out
            clear hbq hb1 ho hsm
            rcases (by omega : kd = 0 ∨ kd = 1 ∨ kd = 2 ∨ (¬ kd = 0 ∧ ¬ kd = 1 ∧ ¬ kd = 2)) with rfl | rfl | rfl | ⟨n0, n1', n2'⟩
            · have cO := hP.b.open_ word (by omega) (by omega)
              have hg2 : Hid (getB ⟨#[119]⟩ ab = getB ⟨#[119]⟩ (openB 60 bs word)) := by rw [getB_openO hwn]; exact hsm'
              have hle := openB_len 60 bs word
              obtain ⟨bz, hbz⟩ : ∃ z, Hid (openB 60 bs word = z) := ⟨_, rfl⟩
              obtain ⟨ez, hez⟩ : ∃ z, Hid (openE 60 bs word = z) := ⟨_, rfl⟩
              rw [hbz.out] at cO hg2 hle
              rw [hez.out] at cO
              go_wp2_with fail
              refine cO.mono ?_
              rintro e wA ⟨rfl, B', hb', hf', hk'⟩
              have hP' := hP.stepB hb' hf' hk'
              clear cO hb' hf' hk' hP y0 y1 y2 y3
              go_wp2_with fail
              go_meet
              case rel => exact ⟨B', bz, by omega, hP', hg2⟩
            · have hb9 : Below w2.heap.size w2 wc.drew := hP.a.bel.trans ((below_drewN (Below.refl _ wc) 1).mono hP.a.bel.size)
              have hPd : Pr12 w2 tb n ks ⟨#[107]⟩ pa pb A B 60 ab bs wc.drew := hP.below (below_drewN (Below.refl _ wc) 1)
              have cO := hPd.b.add word (by omega) ⟨tw, mac⟩
              have hg2 : Hid (getB ⟨#[119]⟩ ab = getB ⟨#[119]⟩ (sealB n ks ⟨#[107]⟩ bs word ⟨tw, mac⟩)) := by rw [getB_sealO hwn]; exact hsm'
              have hle := sealB_len n ks ⟨#[107]⟩ bs word ⟨tw, mac⟩
              obtain ⟨bz, hbz⟩ : ∃ z, Hid (sealB n ks ⟨#[107]⟩ bs word ⟨tw, mac⟩ = z) := ⟨_, rfl⟩
              obtain ⟨ez, hez⟩ : ∃ z, Hid (sealE ks ⟨#[107]⟩ bs word ⟨tw, mac⟩ = z) := ⟨_, rfl⟩
              obtain ⟨lz, hlz⟩ : ∃ z, Hid (sealL n ks ⟨#[107]⟩ bs word ⟨tw, mac⟩ = z) := ⟨_, rfl⟩
              rw [hbz.out] at cO hg2 hle
              rw [hez.out, hlz.out] at cO
              have hS9 := hkp _ hb9
              go_wp2_with fail
              go_region_held3 (fun w' => w'.cell? ⟨g, off + i * 4 + 1, none⟩ = some (.string word) ∧ w'.cell? ⟨g, off + i * 4 + 2, none⟩ = some (.int .i64 tw) ∧ w'.cell? ⟨g, off + i * 4 + 3, none⟩ = some (.string mac)) (exact hkp _ (by assumption))
                (first
                | (go_at_call 11; refine cO.mono ?_; rintro e wA ⟨aoA, cpA, rfl, _, _, B', hb', hf', hk'⟩; have hP' := hPd.stepB hb' hf' hk'; have hbA := hP'.a.bel))
              clear cO hb' hf' hk' hP hPd y0 y1 y2 y3
              go_wp2_with fail
              go_meet
              case rel => exact ⟨B', bz, by omega, hP', hg2⟩
            · have cO := hP.b.close word (by omega)
              have hg2 : Hid (getB ⟨#[119]⟩ ab = getB ⟨#[119]⟩ (closeB word bs)) := by rw [getB_closeO hwn]; exact hsm'
              have hle := closeB_len word bs
              obtain ⟨bz, hbz⟩ : ∃ z, Hid (closeB word bs = z) := ⟨_, rfl⟩
              rw [hbz.out] at cO hg2 hle
              go_wp2_with fail
              refine cO.mono ?_
              rintro e wA ⟨rfl, B', hb', hf', hk'⟩
              have hP' := hP.stepB hb' hf' hk'
              clear cO hb' hf' hk' hP y0 y1 y2 y3
              go_wp2_with fail
              go_meet
              case rel => exact ⟨B', bz, by omega, hP', hg2⟩
            · have n0' : (kd == 0) = false := by simpa using n0
              have n1'' : (kd == 1) = false := by simpa using n1'
              have n2'' : (kd == 2) = false := by simpa using n2'
              clear n0 n1' n2'
              go_wp2_with fail
              go_meet
              case rel => exact ⟨B, bs, by omega, hP, hsm'⟩
        case rest =>
          obtain ⟨B', bs', hn', hP', hsm2⟩ := hcut
          clear hP hsm hn hbq
          go_upto_region 20 with fail
          obtain ⟨gw, ow, rfl, hgw, hwc⟩ := (hHW.below hP'.a.bel).int hh
          have hkp : ∀ w', Below w2.heap.size w2 w' → w'.cell? ⟨gw, ow + i, none⟩ = some (.int .i64 h) := fun w' hb => by
            obtain ⟨g', off', e', _, z0⟩ := (hHW.below hb).int hh
            obtain ⟨rfl, rfl⟩ : gw = g' ∧ ow = off' := by simpa using e'
            exact z0
          obtain ⟨N, hN⟩ : ∃ z, Hid (z = 3 * n + 1) := ⟨_, rfl⟩
          have hN7 : 0 < N ∧ N ≤ 7 := by have := hN.out; omega
          obtain ⟨j, hj, hje⟩ := Mx.pick_j h N (by omega) (by omega)
          have hje' : Hid (IntKind.i64.wrap ((IntKind.u64.wrap h).tmod (N : Int)) = (j : Int)) := by
            show _ = _
            rw [← hje]
            exact wrap_i64 _
          have hjk : j < ks.length := by have := hkl.out; have := hN.out; omega
          have cN := fun w hb => Mx.n_any tb n ks w (hP'.a.env.tab.below (w' := w) hb) n2
          simp only [← hN.out] at cN
          have cS := fun w hb => Mx.sign_yes tb n ks j ⟨#[107]⟩ ⟨#[119]⟩ w (hP'.a.env.tab.below (w' := w) hb) (ks.getD j ⟨#[]⟩) (Mx.getD_some hjk) hk32'.out (by decide) (by decide) (hGW.below hb)
          unfold Mx.tagV at cS
          obtain ⟨mac9, hmac⟩ : ∃ z, Hid (z = Mx.macOf (ks.getD j ⟨#[]⟩) ⟨#[107]⟩ ⟨#[119]⟩) := ⟨_, rfl⟩
          simp only [← hmac.out] at cS
          have hNu : IntKind.u64.wrap (N : Int) = (N : Int) := by simp [IntKind.wrap, IntKind.bits, IntKind.signed]; omega
          have hNz : ¬ N = 0 := by omega
          clear hje
          go_cut [13] (fun s13 wx => ∃ xb, s13 = .pointer (some ⟨xb, 0, none⟩) ∧ Arr wx xb 32 [.int .i64 (j : Int), .string mac9] ∧ wc.heap.size ≤ xb ∧ Below wc.heap.size wc wx)
          case first =>
            have e1 := below_drewN (Below.refl wc.heap.size wc) 1
            have bD : Below w2.heap.size w2 wc.drew := hP'.a.bel.trans (e1.mono hP'.a.bel.size)
            have hz0 := belowNew wc (.cells #[.int .i64 0, .string ⟨#[]⟩] 32)
            have e2 : Below wc.heap.size wc (wc.alloc (.cells #[.int .i64 0, .string ⟨#[]⟩] 32)).drew := hz0.drew
            have bE : Below w2.heap.size w2 (wc.alloc (.cells #[.int .i64 0, .string ⟨#[]⟩] 32)).drew := hP'.a.bel.trans (e2.mono hP'.a.bel.size)
            have hXz : Arr (wc.alloc (.cells #[.int .i64 0, .string ⟨#[]⟩] 32)).drew wc.heap.size 32 [.int .i64 0, .string ⟨#[]⟩] := Arr.new wc 32 [.int .i64 0, .string ⟨#[]⟩]
            have hkD := hkp _ bD
            go_region_held3 (fun w' => w'.cell? ⟨gw, ow + i, none⟩ = some (.int .i64 h)) (first | exact hkp _ (by assumption) | go_keep)
              (first
              | (go_at_call 20; first | (refine (cN _ bD).mono ?_; rintro e wN ⟨rfl, rfl⟩) | (refine (cN _ bE).mono ?_; rintro e wN ⟨rfl, rfl⟩))
              | (go_at_call 21; rw [hje'.out]; refine (cS _ bD).mono ?_; rintro e w7 ⟨rfl, hb7⟩; have b7 := bD.trans (hb7.mono bD.size); have b8 := b7.trans ((belowNew w7 (.cells #[.int .i64 0, .string ⟨#[]⟩] 32)).mono b7.size); have b9 := b7.trans ((belowNew w7 (.cells #[.int .i64 (j : Int), .string mac9] 32)).mono b7.size); have hX9 := Arr.new w7 32 [.int .i64 (j : Int), .string mac9]; have bt7 := e1.trans (hb7.mono e1.size); have bt9 := bt7.trans ((belowNew w7 (.cells #[.int .i64 (j : Int), .string mac9] 32)).mono bt7.size); have hs9 := bt7.size)
              | (go_at_call 21; rw [hje'.out]; refine (cS _ bE).mono ?_; rintro e w7 ⟨rfl, hb7⟩; have b7 := bE.trans (hb7.mono bE.size); have hY := hXz.below hb7 hXz.lt; have c0 := hY.cell (i := 0) rfl; have c1 := hY.cell (i := 1) rfl; have f0 := hY.frozen 0; have f1 := hY.frozen 1; have hk9 := kept2 w7 wc.heap.size (.int .i64 (j : Int)) (.string mac9); have b9 := b7.trans (hk9.below b7.size (fun k e => by have e' : k = wc.heap.size := e; have := hP'.a.bel.size; omega)); have hX9 : Arr ((w7.setCell ⟨wc.heap.size, 0, none⟩ (.int .i64 (j : Int))).setCell ⟨wc.heap.size, 1, none⟩ (.string mac9)) wc.heap.size 32 [.int .i64 (j : Int), .string mac9] := (hY.set 0 _).set 1 _; have bt7 := e2.trans (hb7.mono e2.size); have bt9 := bt7.trans (hk9.below bt7.size (fun k e => by have e' : k = wc.heap.size := e; omega)); have hs9 : wc.heap.size ≤ wc.heap.size := Nat.le_refl _))
            all_goals go_wp2_with fail
            all_goals go_meet
            all_goals exact ⟨_, rfl, hX9, hs9, bt9⟩
          case rest =>
            obtain ⟨xb, rfl, hX, hxs, hbx⟩ := hcut
            have hP2 := hP'.below hbx
            have hxA : ¬ A xb := fun e => by have := hP'.a.lt e; omega
            have hxB : ¬ B' xb := fun e => by have := hP'.b.lt e; omega
            obtain ⟨q1, q2, q3⟩ := seal_same (f := n) (ks := ks) (kind := ⟨#[107]⟩) hsm2.out ⟨(j : Int), mac9⟩
            have cA := hP2.a.add ⟨#[119]⟩ (by decide) ⟨(j : Int), mac9⟩
            have cB := fun w (h : One12 w2 tb n ks ⟨#[107]⟩ pb B' 60 bs' w) => h.add ⟨#[119]⟩ (by decide) ⟨(j : Int), mac9⟩
            have hfw := hP2.b.ok.seal_few hkl.out ⟨#[119]⟩ ⟨(j : Int), mac9⟩
            have hle := sealB_len n ks ⟨#[107]⟩ bs' ⟨#[119]⟩ ⟨(j : Int), mac9⟩
            rw [q1, q2] at cA
            obtain ⟨az, haz⟩ : ∃ z, Hid (sealB n ks ⟨#[107]⟩ ab ⟨#[119]⟩ ⟨(j : Int), mac9⟩ = z) := ⟨_, rfl⟩
            obtain ⟨bz, hbz⟩ : ∃ z, Hid (sealB n ks ⟨#[107]⟩ bs' ⟨#[119]⟩ ⟨(j : Int), mac9⟩ = z) := ⟨_, rfl⟩
            obtain ⟨ez, hez⟩ : ∃ z, Hid (sealE ks ⟨#[107]⟩ bs' ⟨#[119]⟩ ⟨(j : Int), mac9⟩ = z) := ⟨_, rfl⟩
            obtain ⟨lz, hlz⟩ : ∃ z, Hid (sealL n ks ⟨#[107]⟩ bs' ⟨#[119]⟩ ⟨(j : Int), mac9⟩ = z) := ⟨_, rfl⟩
            rw [haz.out, hbz.out] at q3
            rw [hbz.out] at hle
            rw [hlz.out] at hfw
            rw [haz.out, hez.out, hlz.out] at cA
            simp only [hbz.out, hez.out, hlz.out] at cB
            have q3' : Hid _ := q3
            have x0 := hX.cell (i := 0) rfl
            have x1 := hX.cell (i := 1) rfl
            clear q1 q2 q3 hP' hsm2 cN cS
            go_wp2_with fail
            refine cA.mono ?_
            rintro e w8 ⟨aoP, cP, rfl, hrP, hfP, A8, ha8, hf8, hk8⟩
            have hP8 := hP2.stepA ha8 hf8 hk8
            have hX8 := hX.kept hk8 hxA
            have y0 := hX8.cell (i := 0) rfl
            have y1 := hX8.cell (i := 1) rfl
            have hfB : ∀ b, rowFoot tagK aoP lz b → ¬ B' b := fun b hb e => by have := hfP b hb; have := hP2.b.lt e; omega
            clear x0 x1 cA ha8 hf8 hk8 hP2 hfP hX
            go_wp2_with fail
            refine (cB _ hP8.b).mono ?_
            rintro e w9 ⟨aoQ, cQ, rfl, hrQ, hfQ, B9, hb9, hf9, hk9⟩
            have hP9 := hP8.stepB hb9 hf9 hk9
            have hrP9 := hrP.kept hk9 hfB
            clear y0 y1 cB hb9 hf9 hk9 hP8 hfQ hX8 hrP hfB
            go_wp2_with fail
            refine (sameTags_any aoP aoQ cP cQ lz w9 hrP9 hrQ (by omega)).mono ?_
            rintro e wS ⟨rfl, hbS⟩
            have hPS := hP9.below hbS
            clear hP9 hrP9 hrQ hbS hfw
            go_wp2
            go_roundw
            case rel => exact ⟨i + 1, A8, B9, az, bz, by omega, by omega, by go_num, by omega, hPS, q3'⟩
            case measure => simp [intOf]; omega
    · have hbe := hB2.trans (hP.a.bel.mono hB2.size)
      rcases (by omega : who.length ≤ i ∨ ¬ who.length ≤ i ∧ 20 ≤ i) with g1 | ⟨g0, g1⟩
      · have g1' : (who.length : Int) ≤ (i : Int) := by omega
        go_wp2
        go_ret
        exact ⟨rfl, hbe⟩
      · have g0' : (i : Int) < (who.length : Int) := by omega
        have g1' : (20 : Int) ≤ (i : Int) := by omega
        go_wp2
        go_ret
        exact ⟨rfl, hbe⟩
end Go.Proofs.YtbikabjogacfkaaDoor
