/- ExecJoins: for every input the statement answers true, and each argument reads afterwards as it read before. Condition: the two tables of package mix read as the program's text lays them; and what the arguments hold is together of bulk at most 1048576. -/
import Derived.Test.YtajpfkenhchafaaDoorEd21
import Derived.Test.YtajpfkenhchafaaDoorEd17
import Derived.Test.YtajpfkenhchafaaDoorEd18
import Derived.Test.YtajpfkenhchafaaDoorCards
import Derived.Test.YtajpfkenhchafaaDoorTie
import Derived.SevenTiedAt
import Derived.Deep.DeepHandedRow
/- ExecJoins: the walk. -/
namespace Go.Proofs.YtajpfkenhchafaaDoor
open Go Go.RowKit
set_option linter.unusedVariables false

set_option maxRecDepth 100000 in
set_option maxHeartbeats 8000000 in
theorem execJoins_walk (ro : Option Addr) (rc : Nat) (rich : List ByteArray) (funds : Nat) (ao : Option Addr) (ac : Nat) (a : List TxM) (bo : Option Addr) (bc : Nat) (b : List TxM) (W : World)
    (hR : RowAt strK W ro rich) (hrc : ro = none → rc = 0) (hrn : rich.length ≤ 1048576) (hrz : ∀ s ∈ rich, s.size ≤ 1048576) (hA : RowAt txK W ao a ∧ (ao = none → ac = 0)) (haw : Wide22 a) (hB : RowAt txK W bo b ∧ (bo = none → bc = 0)) (hbw : Wide22 b) (hG : Mx.Glob W) :
    Calls Tryd.prog 4 #[.slice ro rich.length rc, .int .u64 (funds : Int), .slice ao a.length ac, .slice bo b.length bc] W fun e w' => e = .returned (.bool true) ∧ Below W.heap.size W w' := by
  have cW := works23_any W
  go_enter Tryd.func4, Tryd.ntmps4
  go_wp2_with fail
  refine cW.mono ?_
  rintro e w0 ⟨rfl, hb0⟩
  have cR := rich_any rich ro rc w0 (hR.below hb0) hrn hrz
  clear cW
  go_wp2_with fail
  refine cR.mono ?_
  rintro e w1 ⟨rfl, hb01⟩
  have hb1 := hb0.trans (hb01.mono hb0.size)
  clear hb01 hb0 cR
  by_cases hri : richB rich = true
  · rw [hri]
    go_wp2
    go_ret
    exact ⟨rfl, hb1⟩
  obtain hri := Bool.eq_false_iff.2 hri
  have hrl := few_rich hri
  rw [hri]
  have hbn := belowNew w1 (.cells (flatK trowK (two23 a b ao bo ac bc)).toArray 24)
  have cL := great23_any (two23 a b ao bo ac bc) (some ⟨w1.heap.size, 0, none⟩) 2 _ (two23_row (hA.1.below hb1) hA.2 (hB.1.below hb1) hB.2) (two23_wide haw hbw)
  have hbN := hb1.trans (hbn.mono hb1.size)
  clear hbn hb1
  go_wp2_with fail
  refine cL.mono ?_
  rintro e w2 ⟨rfl, hb2⟩
  have hbB := hbN.trans (hb2.mono hbN.size)
  clear cL hb2 hbN
  by_cases hgl : greatR (two23 a b ao bo ac bc) = true
  · rw [hgl]
    go_wp2
    go_ret
    exact ⟨rfl, hbB⟩
  obtain hgl := Bool.eq_false_iff.2 hgl
  rw [hgl]
  obtain ⟨hga, hgb, hsum⟩ := two23_few hgl
  have hAm := RowsM.of hA.1 haw hga
  have hBm := RowsM.of hB.1 hbw hgb
  clear hri hgl hga hgb haw hbw hA hB
  have hown := own_made w2 w2.heap.size rfl
  have hbE := belowNew w2 (.cells #[] 9)
  have hS := ((hR.below hbB).below hbE).strs
  have hs3 : w2.heap.size ≤ (w2.alloc (.cells #[] 9)).heap.size := by rw [alloc_size]; omega
  go_wp2_with (at_builtin; refine wpList_append_strs rfl _ _ rfl w2.heap.size _ rfl hown ro rc rich rfl hS hrc (by omega) hs3 ?_)
  intro a1 c1 w4 h4 hn4 hb4
  have hbD := hbB.trans ((hbE.trans hb4).mono hbB.size)
  have hz4 : ∀ s ∈ rich, s.size ≤ maxLen := fun s hs => by have := hrz s hs; unfold maxLen; omega
  have cN := exNew_any rich a1 c1 funds w4 h4.at.row hz4 (by omega)
  clear hown hbE hS hs3 h4 hn4 hb4 hrz hbB
  go_wp2_with fail
  refine cN.mono ?_
  rintro e w5 ⟨x, A, rfl, h5, hA5, hb5⟩
  have hbF := hbD.trans (hb5.mono hbD.size)
  have hgA : ∀ k, A k → W.heap.size ≤ k := fun k e => Nat.le_trans hbD.size (hA5 k e)
  have hown := own_made w5 w5.heap.size rfl
  have hbE := belowNew w5 (.cells #[] 9)
  have hS := ((hR.below hbF).below hbE).strs
  have hs3 : w5.heap.size ≤ (w5.alloc (.cells #[] 9)).heap.size := by rw [alloc_size]; omega
  clear cN hA5 hb5 hbD
  go_wp2_with (at_builtin; refine wpList_append_strs rfl _ _ rfl w5.heap.size _ rfl hown ro rc rich rfl hS hrc (by omega) hs3 ?_)
  intro a2 c2 w6 h6 hn6 hb6
  have hb56 : Below w5.heap.size w5 w6 := hbE.trans hb6
  have cN := exNew_any rich a2 c2 funds w6 h6.at.row hz4 (by omega)
  clear hown hbE hS hs3 h6 hn6 hb6 hrc hR
  go_wp2_with fail
  refine cN.mono ?_
  rintro e w7 ⟨y, B, rfl, h7, hB7, hb7⟩
  have hb57 : Below w5.heap.size w5 w7 := hb56.trans (hb7.mono hb56.size)
  have hD0 : Duo23 PX PX W w7 x y A B (newF rich funds) rich.length [] 0 (newF rich funds) rich.length [] 0 := Duo23.made lies_PX hbF h5 hgA hb57 h7 (fun k e => Nat.le_trans hb56.size (hB7 k e))
  generalize newF rich funds = s0 at *
  generalize rich.length = N at *
  clear cN hb57 hb7 hB7 h7 hb56 h5 hbF hgA hz4
  have hLa : ∀ w', Below W.heap.size W w' → RowsM w' ao a := fun w' hb => hAm.below hb
  have hLb : ∀ w', Below W.heap.size W w' → RowsM w' bo b := fun w' hb => hBm.below hb
  obtain ⟨Da, hDa⟩ : ∃ D, Hid (a.map TxM.d = D) := ⟨_, rfl⟩
  obtain ⟨Db, hDb⟩ : ∃ D, Hid (b.map TxM.d = D) := ⟨_, rfl⟩
  have hla : Hid (Da.length = a.length) := by unfold Hid; rw [← hDa.out, List.length_map]
  have hlb : Hid (Db.length = b.length) := by unfold Hid; rw [← hDb.out, List.length_map]
  clear hAm hBm
  -- x.Run(Own(a))
  have cO := ownM_any a ao ac w7 (hLa _ hD0.bl)
  go_wp2_with fail
  refine cO.mono ?_
  rintro e wa ⟨oa, cap, m, rfl, hm, hmf, hmd, hba⟩
  obtain ⟨hrm, hml, hmg⟩ := own_rows (hLa _ hD0.bl) hm hmf hmd
  have hD1 := hD0.below lies_PX lies_PX hba
  have cX := exRun_any m oa cap wa hrm x A s0 N [] 0 hD1.a (fun b h1 h2 => by have := hmg b h1; have := lies_PX.lt hD0.a b h2; omega) (by rw [hml]; omega) (by decide) (by decide)
  rw [hmd, hDa.out, hml] at cX
  replace hml : Hid _ := hml
  rw [hml.out]
  clear cO hm hmf hmd hba hrm hmg hD0
  go_wp2_with fail
  refine cX.mono ?_
  rintro e wb ⟨ga, gc, A2, rfl, hQ1, hX1, hf1, hap1, hk1⟩
  have hD2 := hD1.step lies_PX lies_PX hX1 hf1 hk1
  clear cX hQ1 hX1 hf1 hap1 hk1 hD1 hml
  rw [List.nil_append] at hD2
  -- x.Run(Own(b))
  have cO := ownM_any b bo bc wb (hLb _ hD2.bl)
  have hN1 : N + 2 * Da.length ≤ 1000 := by rw [hla.out]; omega
  have hN2 : N + 2 * Da.length + 2 * Db.length ≤ 1000 := by rw [hla.out, hlb.out]; omega
  have hR1 : (execR s0 Da).length ≤ 200 := by rw [execR_length, hla.out]; omega
  have hR2 : (execR s0 Da ++ execR (execS s0 Da) Db).length ≤ 200 := by rw [List.length_append, execR_length, execR_length, hla.out, hlb.out]; omega
  go_wp2_with fail
  refine cO.mono ?_
  rintro e wc ⟨ob, capb, mb, rfl, hm, hmf, hmd, hba⟩
  obtain ⟨hrm, hml, hmg⟩ := own_rows (hLb _ hD2.bl) hm hmf hmd
  have hD3 := hD2.below lies_PX lies_PX hba
  have cX := exRun_any mb ob capb wc hrm x A2 (execS s0 Da) (N + 2 * Da.length) (execR s0 Da) 1 hD3.a (fun b h1 h2 => by have := hmg b h1; have := lies_PX.lt hD2.a b h2; omega) (by rw [hml]; omega) (by omega) (by decide)
  rw [hmd, hDb.out, hml] at cX
  replace hml : Hid _ := hml
  rw [hml.out]
  clear cO hm hmf hmd hba hrm hmg hD2
  go_wp2_with fail
  refine cX.mono ?_
  rintro e wd ⟨gb, gcb, A3, rfl, hQ1, hX1, hf1, hap1, hk1⟩
  have hD4 := hD3.step lies_PX lies_PX hX1 hf1 hk1
  clear cX hQ1 hX1 hf1 hap1 hk1 hD3 hml
  -- y.Run(append(Own(a), Own(b)...))
  have cO := ownM_any a ao ac wd (hLa _ hD4.bl)
  go_wp2_with fail
  refine cO.mono ?_
  rintro e we ⟨pa, pac, pm, rfl, hm, hmf, hmd, hba⟩
  have hD5 := hD4.below lies_PX lies_PX hba
  have cP := ownM_any b bo bc we (hLb _ hD5.bl)
  obtain ⟨hpl, hps⟩ := rows_same (hLa _ hD4.bl) hmd
  replace hpl : Hid _ := hpl
  have hWd := hD4.bl.size
  have hlY := lies_PX.lt hD4.b
  have hlX := lies_PX.lt hD4.a
  have hsz := hba.size
  clear cO hD4 hba
  go_wp2_with fail
  refine cP.mono ?_
  rintro e wf ⟨qa, qac, qm, rfl, hn, hnf, hnd, hbb⟩
  have hD6 := hD5.below lies_PX lies_PX hbb
  obtain ⟨hql, hqs⟩ := rows_same (hLb _ hD5.bl) hnd
  replace hql : Hid _ := hql
  have hmW := hm.below hbb
  obtain ⟨i0, z0, hi0, hz0, hs0, hbb0, hzs0⟩ := txInfoA
  have hpq : pm.length + qm.length ≤ 200 := by have := hpl.out; have := hql.out; omega
  have m1 : pm.length + qm.length ≤ maxLen := by unfold maxLen; omega
  have m2 : (pm.length + qm.length) * 136 ≤ 140737488355328 := by omega
  have hoff : ∀ x ∈ qm, ∀ b, txK.foot x b → (Value.slice pa pm.length pac).ownBlock ≠ some b := fun x hx b hb e => by
    have h1 := hnf x hx b hb
    have h2 := (hm.lt b e).2
    omega
  have hdd : Hid ((pm ++ qm).map TxM.d = Da ++ Db) := by unfold Hid; rw [List.map_append, hmd, hnd, hDa.out, hDb.out]
  have hqr := hn.rowOf.1
  have hszf := hbb.size
  clear cP hD5
  go_wp2_with (at_builtin; refine wpList_joinsT (K := txK) rfl _ _ 24 rfl wd.heap.size 50 i0 _ 136 Tryd.underlying24 hi0 hz0 hs0 hbb0 hzs0 _ pm qm rfl hmW hoff qa _ qac rfl rfl hqr m1 m2 (by omega) ?_)
  intro pa2 pac2 wg hPQ hkP hfP
  have hkPB : Below wd.heap.size wf wg := hkP.below (by omega) (fun k e => (hmW.lt k e).1)
  have hDn : Duo23 PX PX W wg x y A3 B (execS (execS s0 Da) Db) (N + 2 * Da.length + 2 * Db.length) (execR s0 Da ++ execR (execS s0 Da) Db) (1 + 1) s0 N [] 0 := by
    have hnX : ∀ k, A3 k ∨ B k → ¬ (Value.slice pa pm.length pac).ownBlock = some k := fun k e e2 => by
      have h1 := (hm.lt k e2).1
      rcases e with e | e
      · have := hlX k e; omega
      · have := hlY k e; omega
    exact ⟨lies_PX.kept hD6.a hkP (fun k e => hnX k (Or.inl e)), lies_PX.kept hD6.b hkP (fun k e => hnX k (Or.inr e)), hD6.ap, hD6.na, hD6.nb, hD6.bl.trans (hkP.below hD6.bl.size (fun k e => by have := (hm.lt k e).1; omega))⟩
  have hrow : RowsM wg pa2 (pm ++ qm) := ⟨hPQ.rowOf.1, by rw [List.length_append]; omega, fun x hx => by
    rcases List.mem_append.1 hx with hx | hx
    · exact hps x hx
    · exact hqs x hx⟩
  have hft : ∀ b, rowFoot txK pa2 (pm ++ qm) b → wd.heap.size ≤ b := hPQ.foot_ge (Nat.le_refl _) (fun z hz b hb => by
    rcases List.mem_append.1 hz with hz | hz
    · exact hmf z hz b hb
    · have := hnf z hz b hb; omega)
  have hpql : Hid ((pm ++ qm).length = Da.length + Db.length) := by unfold Hid; rw [← List.length_map (f := TxM.d), hdd.out, List.length_append]
  have cY := exRun_any (pm ++ qm) pa2 pac2 wg hrow y B s0 N [] 0 hDn.b (fun b h1 h2 => by have := hft b h1; have := hlY b h2; omega) (by rw [hpql.out]; omega) (by decide) (by decide)
  rw [hdd.out, List.length_append] at cY
  clear hPQ hkP hfP hD6 hrow hft hmW hoff hqr hm hn hmf hnf hmd hnd hps hqs hbb
  have hRab : Hid (execR s0 (Da ++ Db) = execR s0 Da ++ execR (execS s0 Da) Db) := execR_append Da Db s0
  have hSab : Hid (execS s0 (Da ++ Db) = execS (execS s0 Da) Db) := execS_append Da Db s0
  have hNab : Hid (N + 2 * (Da ++ Db).length = N + 2 * Da.length + 2 * Db.length) := by unfold Hid; rw [List.length_append]; omega
  clear hdd hpql
  generalize Da ++ Db = Dab at *
  go_wp2_with fail
  refine cY.mono ?_
  rintro e wh ⟨gy, gcy, B2, rfl, hQ1, hX1, hf1, hap1, hk1⟩
  have hD7 := (hDn.swap.step lies_PX lies_PX hX1 hf1 hk1).swap
  rw [List.nil_append] at hD7
  rw [hRab.out, hSab.out, hNab.out] at hD7
  clear cY hQ1 hX1 hf1 hap1 hk1 hDn hRab hSab hNab hlX hlY hpl hql
  generalize execR s0 Da ++ execR (execS s0 Da) Db = R at *
  generalize execS (execS s0 Da) Db = s2 at *
  generalize N + 2 * Da.length + 2 * Db.length = N2 at *
  have hRb : R.length ≤ 100000 := by omega
  have hRc : R.length ≤ 1000 := by omega
  have hNN : N2 ≤ 100000 := by omega
  clear hla hlb hDa hDb hLa hLb hN1 hR1
  have cA := exResults_any wh x A3 s2 N2 R 2 hD7.a hRb
  go_wp2_with fail
  refine cA.mono ?_
  rintro e wi ⟨g1, k1, rfl, hQx, hbi⟩
  have hD8 := hD7.below lies_PX lies_PX hbi
  have cB := exResults_any wi y B2 s2 N2 R 1 hD8.b hRb
  clear cA hD7
  go_wp2_with fail
  refine cB.mono ?_
  rintro e wj ⟨g2, k2, rfl, hQy, hbj⟩
  have hD9 := hD8.below lies_PX lies_PX hbj
  have hQx2 := hQx.below hbj
  have cA := exState_any wj x A3 s2 N2 R 2 hD9.a
  clear cB hD8 hQx hbi hbj
  go_wp2_with fail
  refine cA.mono ?_
  rintro e wk ⟨p1, T1, rfl, h1, hT1, hbk⟩
  have hDa := hD9.below lies_PX lies_PX hbk
  have cB := exState_any wk y B2 s2 N2 R 1 hDa.b
  clear cA hD9
  go_wp2_with fail
  refine cB.mono ?_
  rintro e wl ⟨p2, T2, rfl, h2, hT2, hbl⟩
  have hDb := hDa.below lies_PX lies_PX hbl
  have h1l := h1.below hbl
  have hbkl : Below wj.heap.size wj wl := hbk.trans (hbl.mono hbk.size)
  have cI := ints23_any wl _ _ g1 g2 k1 k2 _ _ _ _ (hQx2.below hbkl) (hQy.below hbkl) hRc hRc
  rw [decide_eq_true rfl] at cI
  have hGl : Mx.Glob wl := hG.below hDb.bl
  clear cB hDa h1 hbk hbkl hQx2 hQy hT1 hT2
  go_wp2_with (first
    | (go_at_call 15; refine cI.mono ?_; rintro e wm ⟨rfl, hbm⟩; have cD := digest22_any wm p1 T1 s2 N2 (h1l.below hbm) hNN (hGl.below hbm))
    | (go_at_call 16; refine cD.mono ?_; rintro e wn ⟨t1, hd1, rfl, hbn⟩; have hB2 : Below wl.heap.size wl wn := hbm.trans (hbn.mono hbm.size); have cE := digest22_any wn p2 T2 s2 N2 (h2.below hB2) hNN (hGl.below hB2); clear cD)
    | (go_at_call 16; refine cE.mono ?_; rintro e wo ⟨t2, hd2, rfl, hbo⟩; obtain rfl := hd1.uniq hd2))
  have hbZ := ((hDb.below lies_PX lies_PX hB2).below lies_PX lies_PX hbo).bl
  clear hDb cI cE hB2 hbm hbn hbo hd1 hd2 h1l h2 hGl
  go_ret
  exact ⟨rfl, hbZ⟩
end Go.Proofs.YtajpfkenhchafaaDoor

/- ExecJoins: for every input the statement answers true, and each argument reads afterwards as it read before. Condition: the two tables of package mix read as the program's text lays them; and what the arguments hold is together of bulk at most 1048576. -/
namespace Go.Proofs.YtajpfkenhchafaaDoor
open Go.ChangeShapes Go.WideShapes Go.ChangeAt Go.RowKit
open Go.ChangeMaps (open_string shut_string)
set_option linter.unusedVariables false

set_option maxRecDepth 100000 in
theorem execJoins_reads (os : Os) {H : Type} (enc : TypeId × Value → H) : ∃ places, DataW.whole enc Tryd.prog ((World.doorLaid Tryd.prog 400 os).forCall (fun _ _ => 0) ⟨#[], #[.slice none 0 0, .int .u64 0, .slice none 0 0, .slice none 0 0], []⟩).memory Tryd.f4.params.toList Rows.execJoinsSpec.vars false (#[.slice none 0 0, .int .u64 0, .slice none 0 0, .slice none 0 0] : Array Value).toList 8 = some ([.nil, .lit (.int .u64 0), .nil, .nil], [], places) :=
  ⟨[], by kernel_rfl⟩

set_option maxRecDepth 100000 in
theorem execJoins_lifted (os : Os) (started : os.Started) (H : Type) (enc : TypeId × Value → H) (F : Stop.Interp) :
    ReturnsInHanded {} Tryd.checked os 4 .any ((Rows.OpenSpec.upto Rows.execJoinsSpec).preRow enc Tryd.prog Tryd.f4 Rows.execJoinsUptoRow.domain false Rows.execJoinsUptoRow.laid) (((Rows.OpenSpec.upto Rows.execJoinsSpec).at F).post enc Tryd.prog Tryd.f4 false true false false) := by
  obtain ⟨places, hx⟩ := execJoins_reads os enc
  refine returnsInHanded_of_row (C := Tryd.checked) (s := Rows.OpenSpec.upto Rows.execJoinsSpec) ownKnob_none started (by kernel_rfl) Tryd.func4
    ⟨World.doorLaid Tryd.prog 400 os, fun _ _ => 0, ⟨#[], #[.slice none 0 0, .int .u64 0, .slice none 0 0, .slice none 0 0], []⟩, rfl, World.shaped_of_RefB (by kernel_rfl) (by kernel_rfl), rfl, (Input.okWide_of_okWideB (by kernel_rfl)).2,
      OpenSpec.preRow_of_cond 8 hx (by kernel_rfl) (fun k hk => by cases hk; kernel_rfl) (by kernel_rfl) (Mx.door_met os _), by
      simp only [Assume.holds]
      exact ⟨by simp, by simp, fun _ => Modest.zero, by simp, by simp⟩⟩ ?_
  intro W base args ds gs before hval0 hW hcnd hcond hsz0 hL _ _
  have hk : Rows.uptoSmall H (ds ++ gs) = true := hcond _ rfl
  have hval : ∀ (j : Nat) t v, Tryd.f4.params[j]? = some t → args[j]? = some v → Value.okWide Tryd.prog W .any base t v := hval0
  have hsz : (DataW.weightsEach Tryd.prog (Tryd.f4.params.toList ++ Rows.execJoinsSpec.plain.varTypes Tryd.prog) (ds ++ gs)).all (· ≤ reachBytes) = true := hsz0
  have hW' := hW
  obtain ⟨p, q, hA0, hV, rfl, hfz, hnd⟩ := hW
  have hA : DataW.TrodAll enc Tryd.prog W 0 (fun _ => true) true Tryd.f4.params.toList args.toList ds p := hA0
  rw [Tryd.params4] at hA hval hsz
  obtain ⟨v0, vs0, d0, ds0, p0, q0, hargs, rfl, rfl, h0, r0⟩ := trodAll_cons hA
  obtain ⟨v1, vs1, d1, ds1, p1, q1, rfl, rfl, rfl, h1, r1⟩ := trodAll_cons r0
  obtain ⟨v2, vs2, d2, ds2, p2, q2, rfl, rfl, rfl, h2, r2⟩ := trodAll_cons r1
  obtain ⟨v3, vs3, d3, ds3, p3, q3, rfl, rfl, rfl, h3, r3⟩ := trodAll_cons r2
  obtain ⟨rfl, rfl, rfl⟩ := trodAll_nil r3
  obtain rfl : args = #[v0, v1, v2, v3] := by cases args; simp_all
  obtain ⟨rfl, rfl⟩ := trodVars_none hV
  have k0 := h0
  have lt0 : ∀ x ∈ p0, x.block < W.heap.size := by obtain ⟨m, hm⟩ := k0; exact DataW.trod_lt m _ _ _ hm
  obtain ⟨a0, len0, cap0, rfl⟩ := okWide_slice Tryd.underlying22 (hval 0 22 v0 rfl rfl)
  obtain ⟨ss0, sl0, st0, sm0, sd0⟩ := strs_open h0
  subst sl0
  have bk0 := strs_few (upto_strs sd0 hk (by simp))
  have k1 := h1
  have lt1 : ∀ x ∈ p1, x.block < W.heap.size := by obtain ⟨m, hm⟩ := k1; exact DataW.trod_lt m _ _ _ hm
  obtain ⟨b1, rfl, hd1, hp1, w1⟩ := open_int Tryd.underlying23 (hval 1 23 v1 rfl rfl) h1
  obtain ⟨a1, rfl⟩ := nat_of_u64 w1
  have k2 := h2
  have lt2 : ∀ x ∈ p2, x.block < W.heap.size := by obtain ⟨m, hm⟩ := k2; exact DataW.trod_lt m _ _ _ hm
  obtain ⟨a2, len2, cap2, rfl⟩ := okWide_slice Tryd.underlying24 (hval 2 24 v2 rfl rfl)
  obtain ⟨l2, rfl, st2, sm2, sd2⟩ := open_txs23 h2
  have sz2 := txs22_sized hsz (j := 2) rfl rfl sd2
  have k3 := h3
  have lt3 : ∀ x ∈ p3, x.block < W.heap.size := by obtain ⟨m, hm⟩ := k3; exact DataW.trod_lt m _ _ _ hm
  obtain ⟨a3, len3, cap3, rfl⟩ := okWide_slice Tryd.underlying24 (hval 3 24 v3 rfl rfl)
  obtain ⟨l3, rfl, st3, sm3, sd3⟩ := open_txs23 h3
  have sz3 := txs22_sized hsz (j := 3) rfl rfl sd3
  clear hA0 hval0 hsz0
  refine (execJoins_walk a0 cap0 ss0 a1 a2 cap2 l2 a3 cap3 l3 W st0.row (strs_cap k0) bk0.1 bk0.2 st2 sz2 st3 sz3 (Mx.of_laid hL)).mono fun e W' ⟨he, bel⟩ => ?_
  subst he
  exact ⟨_, rfl, _, _, _, [], _, [], hW', trodAll_mk1 (shut_bool Tryd.underlying4 _), (trodAll_cons_mk (Below.trod laidOut_true (by kernel_rfl) (of_decide_eq_true (by kernel_rfl)) k0 bel lt0) (trodAll_cons_mk (Below.trod laidOut_true (by kernel_rfl) (of_decide_eq_true (by kernel_rfl)) k1 bel lt1) (trodAll_cons_mk (Below.trod laidOut_true (by kernel_rfl) (of_decide_eq_true (by kernel_rfl)) k2 bel lt2) (trodAll_cons_mk (Below.trod laidOut_true (by kernel_rfl) (of_decide_eq_true (by kernel_rfl)) k3 bel lt3) trodAll_mk0)))), rfl, bel.frame _, fun h => by cases h⟩

theorem execJoinsUpto_holds : Rows.ExecJoinsUptoSaid :=
  OpenClaim.holds_of_cond 4 Tryd.f4 rfl rfl rfl rfl rfl rfl rfl ⟨rfl, rfl, rfl, rfl, rfl⟩ rfl rfl rfl rfl rfl (by kernel_rfl) Tryd.func4 (by kernel_rfl)
    (of_decide_eq_true (by kernel_rfl)) (by unfold Func.isWrapper; rw [if_neg (of_decide_eq_false (by kernel_rfl))]; exact ⟨rfl, rfl⟩)
    (fun os started H enc _ F => by rw [OpenClaim.pre_eq_preRow]; exact execJoins_lifted os started H enc F)

theorem execJoinsUpto_card : Rows.ExecJoinsUptoCardSaid :=
  Claim7.holds_tied_plain_at .later [] [.data, .data] true (true, "63c74406102eb71d750242ea77a9e758dbb44944e77fd75c434c16d49e5861e2") true
    execJoinsUpto_holds (fun _ h => by cases h) (by kernel_rfl) (fun _ h => by cases h) execJoinsUpto_row_tie rfl ⟨rfl, rfl⟩ (by kernel_rfl) rfl
    (fun f fn hf hfn => by
      obtain rfl : f = 4 := Option.some.inj ((show Tryd.prog.funcNamed "tusk/tusklaw23.ExecJoins" = some 4 by kernel_rfl).symm.trans hf) |>.symm
      obtain rfl : fn = Tryd.f4 := (Option.some.inj (Tryd.func4.symm.trans hfn)).symm
      exact ⟨by kernel_rfl, fun j t ht => by
        rw [Tryd.params4] at ht
        have hall : ∀ t ∈ (#[22, 23, 24, 24] : Array TypeId).toList, Tryd.prog.wantsStandIn t = false := by
          show ∀ t ∈ ([22, 23, 24, 24] : List TypeId), Tryd.prog.wantsStandIn t = false
          refine List.forall_mem_cons.2 ⟨by kernel_rfl, ?_⟩
          refine List.forall_mem_cons.2 ⟨by kernel_rfl, ?_⟩
          refine List.forall_mem_cons.2 ⟨by kernel_rfl, ?_⟩
          refine List.forall_mem_cons.2 ⟨by kernel_rfl, ?_⟩
          exact fun _ h => by cases h
        exact hall t (Array.mem_toList_iff.2 (Array.mem_of_getElem? ht))⟩)
    (by kernel_rfl)
end Go.Proofs.YtajpfkenhchafaaDoor
