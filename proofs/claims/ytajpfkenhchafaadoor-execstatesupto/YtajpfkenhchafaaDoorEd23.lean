/- ExecStates: for every input the statement answers true, and each argument reads afterwards as it read before. Condition: the two tables of package mix read as the program's text lays them; and what the arguments hold is together of bulk at most 1048576. -/
import Derived.Test.YtajpfkenhchafaaDoorEd21
import Derived.Test.YtajpfkenhchafaaDoorEd17
import Derived.Test.YtajpfkenhchafaaDoorEd18
import Derived.Test.YtajpfkenhchafaaDoorCards
import Derived.Test.YtajpfkenhchafaaDoorTie
import Derived.SevenTiedAt
import Derived.Deep.DeepHandedRow
/- ExecStates: the walk. -/
namespace Go.Proofs.YtajpfkenhchafaaDoor
open Go Go.RowKit
set_option linter.unusedVariables false

set_option maxRecDepth 100000 in
set_option maxHeartbeats 8000000 in
theorem execStates_walk (ro : Option Addr) (rc : Nat) (rich : List ByteArray) (funds : Nat) (ao : Option Addr) (ac : Nat) (a : List TxM) (bo : Option Addr) (bc : Nat) (b : List TxM) (W : World)
    (hR : RowAt strK W ro rich) (hrc : ro = none → rc = 0) (hrn : rich.length ≤ 1048576) (hrz : ∀ s ∈ rich, s.size ≤ 1048576) (hA : RowAt txK W ao a ∧ (ao = none → ac = 0)) (haw : Wide22 a) (hB : RowAt txK W bo b ∧ (bo = none → bc = 0)) (hbw : Wide22 b) (hG : Mx.Glob W) :
    Calls Tryd.prog 5 #[.slice ro rich.length rc, .int .u64 (funds : Int), .slice ao a.length ac, .slice bo b.length bc] W fun e w' => e = .returned (.bool true) ∧ Below W.heap.size W w' := by
  have cW := works23_any W
  go_enter Tryd.func5, Tryd.ntmps5
  go_wp2_with fail
  refine cW.mono ?_
  rintro e w0 ⟨rfl, hb0⟩
  have cR := rich_any rich ro rc w0 (hR.below hb0) hrn hrz
  clear cW
  go_wp2_with fail
  refine cR.mono ?_
  rintro e w1 ⟨rfl, hb01⟩
  have hb1 := hb0.trans (hb01.mono hb0.size)
  clear hb01 hb0 cR
  by_cases hri : richB rich = true
  · rw [hri]
    go_wp2
    go_ret
    exact ⟨rfl, hb1⟩
  obtain hri := Bool.eq_false_iff.2 hri
  have hrl := few_rich hri
  rw [hri]
  have hbn := belowNew w1 (.cells (flatK trowK (two23 a b ao bo ac bc)).toArray 24)
  have cL := great23_any (two23 a b ao bo ac bc) (some ⟨w1.heap.size, 0, none⟩) 2 _ (two23_row (hA.1.below hb1) hA.2 (hB.1.below hb1) hB.2) (two23_wide haw hbw)
  have hbN := hb1.trans (hbn.mono hb1.size)
  clear hbn hb1
  go_wp2_with fail
  refine cL.mono ?_
  rintro e w2 ⟨rfl, hb2⟩
  have hbB := hbN.trans (hb2.mono hbN.size)
  clear cL hb2 hbN
  by_cases hgl : greatR (two23 a b ao bo ac bc) = true
  · rw [hgl]
    go_wp2
    go_ret
    exact ⟨rfl, hbB⟩
  obtain hgl := Bool.eq_false_iff.2 hgl
  rw [hgl]
  obtain ⟨hga, hgb, hsum⟩ := two23_few hgl
  have hAm := RowsM.of hA.1 haw hga
  have hBm := RowsM.of hB.1 hbw hgb
  clear hri hgl hga hgb haw hbw hA hB
  have hown := own_made w2 w2.heap.size rfl
  have hbE := belowNew w2 (.cells #[] 9)
  have hS := ((hR.below hbB).below hbE).strs
  have hs3 : w2.heap.size ≤ (w2.alloc (.cells #[] 9)).heap.size := by rw [alloc_size]; omega
  go_wp2_with (at_builtin; refine wpList_append_strs rfl _ _ rfl w2.heap.size _ rfl hown ro rc rich rfl hS hrc (by omega) hs3 ?_)
  intro a1 c1 w4 h4 hn4 hb4
  have hbD := hbB.trans ((hbE.trans hb4).mono hbB.size)
  have hz4 : ∀ s ∈ rich, s.size ≤ maxLen := fun s hs => by have := hrz s hs; unfold maxLen; omega
  have cN := exNew_any rich a1 c1 funds w4 h4.at.row hz4 (by omega)
  clear hown hbE hS hs3 h4 hn4 hb4 hrz hbB hrc hR
  go_wp2_with fail
  refine cN.mono ?_
  rintro e w5 ⟨x, A, rfl, h5, hA5, hb5⟩
  have hbF := hbD.trans (hb5.mono hbD.size)
  have hgA : ∀ k, A k → W.heap.size ≤ k := fun k e => Nat.le_trans hbD.size (hA5 k e)
  have hlA := h5.lt
  generalize newF rich funds = s0 at *
  generalize rich.length = N at *
  clear cN hA5 hb5 hbD hz4
  have hOw := ownM_any a ao ac w5 (hAm.below hbF)
  obtain ⟨D, hDD⟩ : ∃ D, Hid (a.map TxM.d = D) := ⟨_, rfl⟩
  have hDl : Hid (D.length = a.length) := by unfold Hid; rw [← hDD.out, List.length_map]
  have hNr : N + 2 * a.length ≤ 100000 := by omega
  go_wp2_with fail
  refine hOw.mono ?_
  rintro e wa ⟨oa, cap, m, rfl, hm, hmf, hmd, hba⟩
  obtain ⟨hrm, hml, hmg⟩ := own_rows (hAm.below hbF) hm hmf hmd
  have h5a := h5.below hba
  have hbG := hbF.trans (hba.mono hbF.size)
  have cX := exRun_any m oa cap wa hrm x A s0 N [] 0 h5a (fun b h1 h2 => by have := hmg b h1; have := hlA b h2; omega) (by rw [hml]; exact hNr) (by decide) (by decide)
  rw [hmd, hDD.out, hml] at cX
  replace hml : Hid _ := hml
  rw [hml.out]
  clear hOw hm hmf hmd hba hrm hmg h5 h5a hbF hlA
  go_wp2_with fail
  refine cX.mono ?_
  rintro e wb ⟨ga, gc, A2, rfl, hQ1, hX1, hf1, hap1, hk1⟩
  have hbH := hbG.trans (hk1.below hbG.size hgA)
  have hgA2 : ∀ k, A2 k → W.heap.size ≤ k := fun k e => by
    rcases hf1 k e with e2 | e2
    · exact hgA k e2
    · exact Nat.le_trans hbG.size e2
  have hN1 : N + 2 * D.length ≤ 1000 := by rw [hDl.out]; omega
  generalize execS s0 D = s1 at *
  generalize N + 2 * D.length = N1 at *
  generalize [] ++ execR s0 D = r1 at *
  have cS := exState_any wb x A2 s1 N1 r1 1 hX1
  clear cX hQ1 hf1 hap1 hk1 hbG hgA hNr hDl hDD hml
  go_wp2_with fail
  refine cS.mono ?_
  rintro e wc ⟨p, T, rfl, h6, hT6, hb6⟩
  have hX2 := hX1.below hb6
  have hbI := hbH.trans (hb6.mono hbH.size)
  have hlX := hX1.lt
  have cT := exState_any wc x A2 s1 N1 r1 1 hX2
  go_wp2_with fail
  refine cT.mono ?_
  rintro e wd ⟨q, U, rfl, h7, hU7, hb7⟩
  have hX3 := hX2.below hb7
  have h6d := h6.below hb7
  have hlT : ∀ k, T k → k < wc.heap.size := fun k e => h6.lt e
  have hbJ := hbI.trans (hb7.mono hbI.size)
  have hgT : ∀ k, T k → W.heap.size ≤ k := fun k e => Nat.le_trans hbH.size (hT6 k e)
  have hTA : ∀ k, A2 k → ¬ T k := fun k h1 h2 => by have := hlX k h1; have := hT6 k h2; omega
  have hTU : ∀ k, U k → ¬ T k := fun k h1 h2 => by have := hU7 k h1; have := hlT k h2; omega
  clear cS cT hX1 hX2 hb6 hb7 h6 hbH hbI hT6 hU7 hlX hlT hgA2
  go_wp2_with fail
  go_loopw [12] (fun v12 wr => ∃ (i : Nat) (s : StF), i ≤ b.length ∧ i ≤ 30 ∧ v12 = .int .i64 (i : Int) ∧ PX wr x A2 s1 N1 r1 1 ∧ PS wr p T s (N1 + 2 * i) ∧ PS wr q U s1 N1 ∧ Below W.heap.size W wr) (fun v _ => b.length - (intOf v).toNat)
  case atStart => exact ⟨0, s1, Nat.zero_le _, by omega, rfl, hX3, h6d, h7, hbJ⟩
  case round =>
    clear hX3 h6d h7 hbJ
    obtain ⟨i, s, hi, hi2, rfl, hX, hP, hQ, hb⟩ := hrel
    by_cases hlt : i < b.length ∧ i < 30
    · obtain ⟨hil, hi30⟩ := hlt
      have g1 : (i : Int) < (b.length : Int) := by omega
      have g2 : (i : Int) < 30 := by omega
      have hOw := ownM_any b bo bc wr (hBm.below hb)
      go_wp2_with fail
      refine hOw.mono ?_
      rintro e wa ⟨oa, cap, m, rfl, hm, hmf, hmd, hba⟩
      obtain ⟨hrm, hml, hmg⟩ := own_rows (hBm.below hb) hm hmf hmd
      obtain ⟨y, hy⟩ : ∃ y, m[i]? = some y := ⟨_, List.getElem?_eq_getElem (by omega)⟩
      obtain ⟨bl, ol, rfl, hbl, t0, t1, t2, t3, t4, t5, t6, t7, t8, hyA⟩ := hrm.row.tx22 hy
      obtain ⟨hys, hyr⟩ := hrm.fit y (List.mem_of_getElem? hy)
      have hXa := hX.below hba
      have hPa := hP.below hba
      have hQa := hQ.below hba
      have hbK := hb.trans (hba.mono hb.size)
      have cA := apply_any y wa hyA hys hyr.2 p T (N1 + 2 * i) s hPa (by omega)
      have g3 : (i : Int) < (m.length : Int) := by omega
      unfold TxM.v txV at cA
      replace hml : Hid _ := hml
      clear hOw hm hmf hmd hba hmg hX hP hQ hb hyA hrm hy
      go_wp2_with fail
      refine cA.mono ?_
      rintro e wb ⟨rfl, hPb, hkb⟩
      have hXb := hXa.kept hkb hTA
      have hQb := hQa.kept hkb hTU
      have hbL := hbK.trans (hkb.below hbK.size hgT)
      clear cA hXa hPa hQa hbK hkb t0 t1 t2 t3 t4 t5 t6 t7 t8
      go_wp2
      go_roundw
      case rel => exact ⟨i + 1, _, by omega, by omega, by go_num, hXb, hPb, hQb, hbL⟩
      case measure => simp [intOf]; omega
    · have hg : ¬ (i : Int) < (b.length : Int) ∨ ((i : Int) < (b.length : Int) ∧ ¬ (i : Int) < 30) := by omega
      have cS := exState_any wr x A2 s1 N1 r1 1 hX
      have hNN : N1 ≤ 100000 := by omega
      clear hlt hi hi2 hP
      rcases hg with g1 | ⟨g1, g2⟩
      all_goals
        go_wp2_with fail
        refine cS.mono ?_
        rintro e we ⟨p2, T2, rfl, h8, hT8, hb8⟩
        have hQ8 := hQ.below hb8
        have hbM := hb.trans (hb8.mono hb.size)
        have cD := digest22_any we p2 T2 s1 N1 h8 hNN (hG.below hbM)
        clear cS
        go_wp2_with fail
        refine cD.mono ?_
        rintro e wf ⟨t1, hd1, rfl, hb9⟩
        have hbN := hbM.trans (hb9.mono hbM.size)
        have cE := digest22_any wf q U s1 N1 (hQ8.below hb9) hNN (hG.below hbN)
        clear cD
        go_wp2_with fail
        refine cE.mono ?_
        rintro e wg ⟨t2, hd2, rfl, hb10⟩
        obtain rfl := hd1.uniq hd2
        have hbO := hbN.trans (hb10.mono hbN.size)
        go_wp2
        go_ret
        exact ⟨rfl, hbO⟩
end Go.Proofs.YtajpfkenhchafaaDoor

/- ExecStates: for every input the statement answers true, and each argument reads afterwards as it read before. Condition: the two tables of package mix read as the program's text lays them; and what the arguments hold is together of bulk at most 1048576. -/
namespace Go.Proofs.YtajpfkenhchafaaDoor
open Go.ChangeShapes Go.WideShapes Go.ChangeAt Go.RowKit
open Go.ChangeMaps (open_string shut_string)
set_option linter.unusedVariables false

set_option maxRecDepth 100000 in
theorem execStates_reads (os : Os) {H : Type} (enc : TypeId × Value → H) : ∃ places, DataW.whole enc Tryd.prog ((World.doorLaid Tryd.prog 400 os).forCall (fun _ _ => 0) ⟨#[], #[.slice none 0 0, .int .u64 0, .slice none 0 0, .slice none 0 0], []⟩).memory Tryd.f5.params.toList Rows.execStatesSpec.vars false (#[.slice none 0 0, .int .u64 0, .slice none 0 0, .slice none 0 0] : Array Value).toList 8 = some ([.nil, .lit (.int .u64 0), .nil, .nil], [], places) :=
  ⟨[], by kernel_rfl⟩

set_option maxRecDepth 100000 in
theorem execStates_lifted (os : Os) (started : os.Started) (H : Type) (enc : TypeId × Value → H) (F : Stop.Interp) :
    ReturnsInHanded {} Tryd.checked os 5 .any ((Rows.OpenSpec.upto Rows.execStatesSpec).preRow enc Tryd.prog Tryd.f5 Rows.execStatesUptoRow.domain false Rows.execStatesUptoRow.laid) (((Rows.OpenSpec.upto Rows.execStatesSpec).at F).post enc Tryd.prog Tryd.f5 false true false false) := by
  obtain ⟨places, hx⟩ := execStates_reads os enc
  refine returnsInHanded_of_row (C := Tryd.checked) (s := Rows.OpenSpec.upto Rows.execStatesSpec) ownKnob_none started (by kernel_rfl) Tryd.func5
    ⟨World.doorLaid Tryd.prog 400 os, fun _ _ => 0, ⟨#[], #[.slice none 0 0, .int .u64 0, .slice none 0 0, .slice none 0 0], []⟩, rfl, World.shaped_of_RefB (by kernel_rfl) (by kernel_rfl), rfl, (Input.okWide_of_okWideB (by kernel_rfl)).2,
      OpenSpec.preRow_of_cond 8 hx (by kernel_rfl) (fun k hk => by cases hk; kernel_rfl) (by kernel_rfl) (Mx.door_met os _), by
      simp only [Assume.holds]
      exact ⟨by simp, by simp, fun _ => Modest.zero, by simp, by simp⟩⟩ ?_
  intro W base args ds gs before hval0 hW hcnd hcond hsz0 hL _ _
  have hk : Rows.uptoSmall H (ds ++ gs) = true := hcond _ rfl
  have hval : ∀ (j : Nat) t v, Tryd.f5.params[j]? = some t → args[j]? = some v → Value.okWide Tryd.prog W .any base t v := hval0
  have hsz : (DataW.weightsEach Tryd.prog (Tryd.f5.params.toList ++ Rows.execStatesSpec.plain.varTypes Tryd.prog) (ds ++ gs)).all (· ≤ reachBytes) = true := hsz0
  have hW' := hW
  obtain ⟨p, q, hA0, hV, rfl, hfz, hnd⟩ := hW
  have hA : DataW.TrodAll enc Tryd.prog W 0 (fun _ => true) true Tryd.f5.params.toList args.toList ds p := hA0
  rw [Tryd.params5] at hA hval hsz
  obtain ⟨v0, vs0, d0, ds0, p0, q0, hargs, rfl, rfl, h0, r0⟩ := trodAll_cons hA
  obtain ⟨v1, vs1, d1, ds1, p1, q1, rfl, rfl, rfl, h1, r1⟩ := trodAll_cons r0
  obtain ⟨v2, vs2, d2, ds2, p2, q2, rfl, rfl, rfl, h2, r2⟩ := trodAll_cons r1
  obtain ⟨v3, vs3, d3, ds3, p3, q3, rfl, rfl, rfl, h3, r3⟩ := trodAll_cons r2
  obtain ⟨rfl, rfl, rfl⟩ := trodAll_nil r3
  obtain rfl : args = #[v0, v1, v2, v3] := by cases args; simp_all
  obtain ⟨rfl, rfl⟩ := trodVars_none hV
  have k0 := h0
  have lt0 : ∀ x ∈ p0, x.block < W.heap.size := by obtain ⟨m, hm⟩ := k0; exact DataW.trod_lt m _ _ _ hm
  obtain ⟨a0, len0, cap0, rfl⟩ := okWide_slice Tryd.underlying22 (hval 0 22 v0 rfl rfl)
  obtain ⟨ss0, sl0, st0, sm0, sd0⟩ := strs_open h0
  subst sl0
  have bk0 := strs_few (upto_strs sd0 hk (by simp))
  have k1 := h1
  have lt1 : ∀ x ∈ p1, x.block < W.heap.size := by obtain ⟨m, hm⟩ := k1; exact DataW.trod_lt m _ _ _ hm
  obtain ⟨b1, rfl, hd1, hp1, w1⟩ := open_int Tryd.underlying23 (hval 1 23 v1 rfl rfl) h1
  obtain ⟨a1, rfl⟩ := nat_of_u64 w1
  have k2 := h2
  have lt2 : ∀ x ∈ p2, x.block < W.heap.size := by obtain ⟨m, hm⟩ := k2; exact DataW.trod_lt m _ _ _ hm
  obtain ⟨a2, len2, cap2, rfl⟩ := okWide_slice Tryd.underlying24 (hval 2 24 v2 rfl rfl)
  obtain ⟨l2, rfl, st2, sm2, sd2⟩ := open_txs23 h2
  have sz2 := txs22_sized hsz (j := 2) rfl rfl sd2
  have k3 := h3
  have lt3 : ∀ x ∈ p3, x.block < W.heap.size := by obtain ⟨m, hm⟩ := k3; exact DataW.trod_lt m _ _ _ hm
  obtain ⟨a3, len3, cap3, rfl⟩ := okWide_slice Tryd.underlying24 (hval 3 24 v3 rfl rfl)
  obtain ⟨l3, rfl, st3, sm3, sd3⟩ := open_txs23 h3
  have sz3 := txs22_sized hsz (j := 3) rfl rfl sd3
  clear hA0 hval0 hsz0
  refine (execStates_walk a0 cap0 ss0 a1 a2 cap2 l2 a3 cap3 l3 W st0.row (strs_cap k0) bk0.1 bk0.2 st2 sz2 st3 sz3 (Mx.of_laid hL)).mono fun e W' ⟨he, bel⟩ => ?_
  subst he
  exact ⟨_, rfl, _, _, _, [], _, [], hW', trodAll_mk1 (shut_bool Tryd.underlying4 _), (trodAll_cons_mk (Below.trod laidOut_true (by kernel_rfl) (of_decide_eq_true (by kernel_rfl)) k0 bel lt0) (trodAll_cons_mk (Below.trod laidOut_true (by kernel_rfl) (of_decide_eq_true (by kernel_rfl)) k1 bel lt1) (trodAll_cons_mk (Below.trod laidOut_true (by kernel_rfl) (of_decide_eq_true (by kernel_rfl)) k2 bel lt2) (trodAll_cons_mk (Below.trod laidOut_true (by kernel_rfl) (of_decide_eq_true (by kernel_rfl)) k3 bel lt3) trodAll_mk0)))), rfl, bel.frame _, fun h => by cases h⟩

theorem execStatesUpto_holds : Rows.ExecStatesUptoSaid :=
  OpenClaim.holds_of_cond 5 Tryd.f5 rfl rfl rfl rfl rfl rfl rfl ⟨rfl, rfl, rfl, rfl, rfl⟩ rfl rfl rfl rfl rfl (by kernel_rfl) Tryd.func5 (by kernel_rfl)
    (of_decide_eq_true (by kernel_rfl)) (by unfold Func.isWrapper; rw [if_neg (of_decide_eq_false (by kernel_rfl))]; exact ⟨rfl, rfl⟩)
    (fun os started H enc _ F => by rw [OpenClaim.pre_eq_preRow]; exact execStates_lifted os started H enc F)

theorem execStatesUpto_card : Rows.ExecStatesUptoCardSaid :=
  Claim7.holds_tied_plain_at .later [] [.data, .data] true (true, "63c74406102eb71d750242ea77a9e758dbb44944e77fd75c434c16d49e5861e2") true
    execStatesUpto_holds (fun _ h => by cases h) (by kernel_rfl) (fun _ h => by cases h) execStatesUpto_row_tie rfl ⟨rfl, rfl⟩ (by kernel_rfl) rfl
    (fun f fn hf hfn => by
      obtain rfl : f = 5 := Option.some.inj ((show Tryd.prog.funcNamed "tusk/tusklaw23.ExecStates" = some 5 by kernel_rfl).symm.trans hf) |>.symm
      obtain rfl : fn = Tryd.f5 := (Option.some.inj (Tryd.func5.symm.trans hfn)).symm
      exact ⟨by kernel_rfl, fun j t ht => by
        rw [Tryd.params5] at ht
        have hall : ∀ t ∈ (#[22, 23, 24, 24] : Array TypeId).toList, Tryd.prog.wantsStandIn t = false := by
          show ∀ t ∈ ([22, 23, 24, 24] : List TypeId), Tryd.prog.wantsStandIn t = false
          refine List.forall_mem_cons.2 ⟨by kernel_rfl, ?_⟩
          refine List.forall_mem_cons.2 ⟨by kernel_rfl, ?_⟩
          refine List.forall_mem_cons.2 ⟨by kernel_rfl, ?_⟩
          refine List.forall_mem_cons.2 ⟨by kernel_rfl, ?_⟩
          exact fun _ h => by cases h
        exact hall t (Array.mem_toList_iff.2 (Array.mem_of_getElem? ht))⟩)
    (by kernel_rfl)
end Go.Proofs.YtajpfkenhchafaaDoor
