/- ExecRuns: for every input the statement answers true, and each argument reads afterwards as it read before. Condition: the two tables of package mix read as the program's text lays them; and what the arguments hold is together of bulk at most 1048576. -/
import Derived.Test.YtajpfkenhchafaaGreatDoorEz19
import Derived.Test.YtajpfkenhchafaaGreatDoorEz27
import Derived.Test.YtajpfkenhchafaaGreatDoorEz29
import Derived.Test.YtajpfkenhchafaaGreatDoorEz17
import Derived.Test.YtajpfkenhchafaaGreatDoorEz18
import Derived.Test.YtajpfkenhchafaaGreatDoorCards
import Derived.Test.YtajpfkenhchafaaGreatDoorTie
import Derived.SevenTiedAt
import Derived.Deep.DeepHandedRow
/- ExecRuns: the walk. -/
namespace Go.Proofs.YtajpfkenhchafaaGreatDoor
open Go Go.RowKit
set_option linter.unusedVariables false

set_option maxRecDepth 100000 in
set_option maxHeartbeats 8000000 in
theorem execRuns_walk (ro : Option Addr) (rc : Nat) (rich : List ByteArray) (funds : Nat) (lo : Option Addr) (lc : Nat) (l : List TRow) (W : World)
    (hR : RowAt strK W ro rich) (hrc : ro = none → rc = 0) (hrn : rich.length ≤ 1048576) (hrz : ∀ s ∈ rich, s.size ≤ 1048576) (hL : RowAt trowK W lo l) (hlw : Wide23 l) (hG : Mx.Glob W) :
    Calls Tryz.prog 3 #[.slice ro rich.length rc, .int .u64 (funds : Int), .slice lo l.length lc] W fun e w' => e = .returned (.bool true) ∧ Below W.heap.size W w' := by
  have cR := rich_any rich ro rc W hR hrn hrz
  go_enter Tryz.func3, Tryz.ntmps3
  go_wp2_with fail
  refine cR.mono ?_
  rintro e w1 ⟨rfl, hb1⟩
  have cL := great23_any l lo lc w1 (hL.below hb1) hlw
  clear cR
  by_cases hri : richB rich = true
  · rw [hri]
    clear cL
    go_wp2
    go_ret
    exact ⟨rfl, hb1⟩
  obtain hri := Bool.eq_false_iff.2 hri
  have hrl := few_rich hri
  rw [hri]
  go_wp2_with fail
  refine cL.mono ?_
  rintro e w2 ⟨rfl, hb2⟩
  have hbB := hb1.trans (hb2.mono hb1.size)
  clear cL hb2 hb1
  by_cases hgl : greatR l = true
  · rw [hgl]
    go_wp2
    go_ret
    exact ⟨rfl, hbB⟩
  obtain hgl := Bool.eq_false_iff.2 hgl
  rw [hgl]
  have hsum := (fewR hgl).2
  have hLm : ∀ (w : World) (i : Nat) (y : TRow), Below W.heap.size W w → l[i]? = some y → RowsM w y.ao y.l := fun w i y hb hy => by
    obtain ⟨_, _, _, _, _, hrow, _⟩ := (hL.below hb).trow hy
    have hym := List.mem_of_getElem? hy
    exact RowsM.of hrow (hlw.2 y hym) ((fewR hgl).1 y hym)
  clear hri hgl hlw
  have hown := own_made w2 w2.heap.size rfl
  have hbE := belowNew w2 (.cells #[] 9)
  have hS := ((hR.below hbB).below hbE).strs
  have hs3 : w2.heap.size ≤ (w2.alloc (.cells #[] 9)).heap.size := by rw [alloc_size]; omega
  go_wp2_with (at_builtin; refine wpList_append_strs rfl _ _ rfl w2.heap.size _ rfl hown ro rc rich rfl hS hrc (by omega) hs3 ?_)
  intro a1 c1 w4 h4 hn4 hb4
  have hbD := hbB.trans ((hbE.trans hb4).mono hbB.size)
  have hz4 : ∀ s ∈ rich, s.size ≤ maxLen := fun s hs => by have := hrz s hs; unfold maxLen; omega
  have cN := exNew_any rich a1 c1 funds w4 h4.at.row hz4 (by omega)
  have hRD := hR.below hbD
  clear hown hbE hS hs3 h4 hn4 hb4 hrz hbB
  go_wp2_with fail
  refine cN.mono ?_
  rintro e w5 ⟨x, A, rfl, h5, hA5, hb5⟩
  have cM := refExeNew_any rich ro rc funds w5 (hRD.below hb5) hz4 (by omega)
  clear cN hz4 hrc hRD
  go_wp2_with fail
  refine cM.mono ?_
  rintro e w6 ⟨y, B, rfl, h6, hB6, hb6⟩
  have hD6 : Duo23 PX RX W w6 x y A B (newF rich funds) rich.length [] 0 (newF rich funds) rich.length [] 0 := Duo23.made lies_PX (hbD.trans (hb5.mono hbD.size)) h5 (fun k e => Nat.le_trans hbD.size (hA5 k e)) hb6 h6 hB6
  generalize newF rich funds = s0 at *
  clear cM h5 hA5 hb5 h6 hB6 hb6 hbD
  go_wp2_with fail
  go_loopw [9] (fun v9 wr => ∃ (i : Nat) (A B : Nat → Prop) (s : StF) (r : List Nat), i ≤ l.length ∧ i ≤ 20 ∧ v9 = .int .i64 (i : Int) ∧ r.length = sumR (l.take i) ∧ Duo23 PX RX W wr x y A B s (rich.length + 2 * sumR (l.take i)) r i s (rich.length + 2 * sumR (l.take i)) r i) (fun v _ => l.length - (intOf v).toNat)
  case atStart => exact ⟨0, A, B, s0, [], Nat.zero_le _, by omega, rfl, rfl, hD6⟩
  case round =>
    clear hD6
    obtain ⟨i, A, B, s, r, hi, hi2, rfl, hrl2, hD⟩ := hrel
    by_cases hlt : i < l.length ∧ i < 20
    · obtain ⟨hil, hi20⟩ := hlt
      have g1 : (i : Int) < (l.length : Int) := by omega
      have g2 : (i : Int) < 20 := by omega
      obtain ⟨t, ht⟩ : ∃ t, l[i]? = some t := ⟨_, List.getElem?_eq_getElem hil⟩
      have hst := sumR_step ht
      have hs1 := sumR_le (l := l) (i + 1)
      obtain ⟨b, off, rfl, hbl, -, -, -⟩ := (hL.below hD.bl).trow ht
      have hkp : ∀ w', Below W.heap.size W w' → w'.cell? ⟨b, off + i, none⟩ = some (.slice t.ao t.l.length t.cap) := fun w' hb => by
        obtain ⟨b', off', e, _, c, _⟩ := (hL.below hb).trow ht
        simp only [Option.some.injEq, Addr.mk.injEq, and_true] at e
        obtain ⟨rfl, rfl⟩ := e
        exact c
      have hBd : Below W.heap.size W wr.drew := hD.bl.trans (below_drewN (Below.refl _ _) 1)
      have hLt : ∀ w', Below W.heap.size W w' → RowsM w' t.ao t.l := fun w' hb => hLm w' i t hb ht
      have hft : ∀ b, rowFoot txK t.ao t.l b → b < W.heap.size := fun b hb => (hLt W (Below.refl _ _)).row.lt hb
      have cO := ownM_any t.l t.ao t.cap wr.drew (hLt _ hBd)
      have hN0 : rich.length + 2 * sumR (l.take i) + 2 * t.l.length = rich.length + 2 * sumR (l.take (i + 1)) := by omega
      have hN1 : rich.length + 2 * sumR (l.take (i + 1)) ≤ 1000 := by omega
      have hr1 : r.length + t.l.length = sumR (l.take (i + 1)) := by omega
      have hr2 : sumR (l.take (i + 1)) ≤ 200 := by omega
      generalize rich.length + 2 * sumR (l.take i) = N at *
      obtain ⟨N1, hNe⟩ : ∃ q, Hid (rich.length + 2 * sumR (l.take (i + 1)) = q) := ⟨_, rfl⟩
      obtain ⟨M1, hMe⟩ : ∃ q, Hid (sumR (l.take (i + 1)) = q) := ⟨_, rfl⟩
      rw [hNe.out] at hN0 hN1
      rw [hMe.out] at hr1 hr2
      generalize sumR (l.take i) = M at *
      have hDd : Duo23 PX RX W wr.drew x y A B s N r i s N r i := hD.below lies_PX lies_RX (below_drewN (Below.refl _ wr) 1)
      obtain ⟨D, hDD⟩ : ∃ D, Hid (t.l.map TxM.d = D) := ⟨_, rfl⟩
      have hDl : Hid (D.length = t.l.length) := by unfold Hid; rw [← hDD.out, List.length_map]
      have hD5 : D.length ≤ 1000 := by rw [hDl.out]; omega
      have hNr : N + 2 * t.l.length ≤ 100000 := by omega
      replace hN0 : Hid (N + 2 * D.length = N1) := by unfold Hid; rw [hDl.out]; exact hN0
      have hrr : r.length ≤ 100000 := by omega
      have hii : i ≤ 100000 := by omega
      have hER : Hid (r.length + (execR s D).length = M1) := by unfold Hid; rw [execR_length, hDl.out]; exact hr1
      clear hr1
      clear hst hs1 hD hbl
      go_wp2_with fail
      go_region_held3 (fun w' => w'.cell? ⟨b, off + i, none⟩ = some (.slice t.ao t.l.length t.cap)) (exact hkp _ (by assumption))
        (first
          | (go_at_call 12; refine cO.mono ?_; rintro e wa ⟨ao, cap, m, rfl, hm, hmf, hmd, hba⟩; obtain ⟨hrm, hml, hmg⟩ := own_rows (hLt _ hBd) hm hmf hmd; have hDa := hDd.below lies_PX lies_RX hba; have hBa : Below W.heap.size W wa := hDa.bl; have cX := exRun_any m ao cap wa hrm x A s N r i hDa.a (fun b h1 h2 => by have := hmg b h1; have := lies_PX.lt hDd.a b h2; omega) (by rw [hml]; exact hNr) hrr hii; rw [hmd, hDD.out, hml] at cX)
          | (go_at_call 11; refine cX.mono ?_; rintro e wb ⟨ga, gc, A2, rfl, hQ1, hX1, hf1, hap1, hk1⟩; have hDb := hDa.step lies_PX lies_RX hX1 hf1 hk1; have hBb : Below W.heap.size W wb := hDb.bl; have cY := refRun_any t.l t.ao t.cap wb (hLt _ hBb) y B s N r i hDb.b (fun b h1 h2 => by have := hft b h1; have := hDb.nb b h2; omega) hNr hrr hii; rw [hDD.out] at cY)
          | (go_at_call 13; refine cY.mono ?_; rintro e wc ⟨ga2, gc2, B2, rfl, hQ2, hX2, hf2, hap2, hk2⟩; have hDc := (hDb.swap.step lies_RX lies_PX hX2 hf2 hk2).swap; have hBc : Below W.heap.size W wc := hDc.bl; have hQ3 := hQ1.kept hk2 (fun k e h2 => by have := (hQ1.lt k e).1; have := lies_RX.lt hDa.b k h2; omega) (fun _ _ _ h => h.elim); have cI := ints23_any wc _ _ ga ga2 gc gc2 _ _ _ _ hQ3 hQ2 hD5 hD5; rw [decide_eq_true rfl] at cI)
          | (go_at_call 10; refine cI.mono ?_; rintro e wd ⟨rfl, hbd⟩; have hDe := hDc.below lies_PX lies_RX hbd; have hBe : Below W.heap.size W wd := hDe.bl))
      all_goals
        clear hDd hDa hDb hDc hQ1 hQ2 hQ3 hX1 hX2 hf1 hf2 hk1 hk2 hap1 hap2 hBa hBb hBc hba hbd hm hmf hmd hrm hml hmg cX cY cI cO hkp hLt hft hBd
        rw [hN0.out] at hDe
        generalize execS s D = s2 at hDe
        obtain ⟨r2, hrr2⟩ : ∃ q, Hid (r ++ execR s D = q) := ⟨_, rfl⟩
        have hr2l : r2.length = M1 := by rw [← hrr2.out, List.length_append]; exact hER.out
        rw [hrr2.out] at hDe
        have hr2b : r2.length ≤ 100000 := by omega
        have hr2c : r2.length ≤ 1000 := by omega
        have cX := exResults_any wd x A2 s2 N1 r2 (i + 1) hDe.a hr2b
        replace hr2l : Hid (r2.length = M1) := hr2l
        clear hN0 hER hrr2 hDD hDl hD5 hNr hrr hBe
        go_wp2_with fail
        refine cX.mono ?_
        rintro e we ⟨ga3, gc3, rfl, hQ5, hbe⟩
        have hDf := hDe.below lies_PX lies_RX hbe
        have cS := exState_any we x A2 s2 N1 r2 (i + 1) hDf.a
        clear cX hDe hbe
        go_wp2_with fail
        refine cS.mono ?_
        rintro e wf ⟨p, T, rfl, h7, hT7, hbf⟩
        have hDg := hDf.below lies_PX lies_RX hbf
        have hQ6 := hQ5.below hbf
        obtain ⟨rb, T2, q, k1, k2, k3, -⟩ := hDg.b.ex
        obtain ⟨qa, qc, rfl, -, -⟩ := k3.form
        have hkp : ∀ w', Below wf.heap.size wf w' → (w'.cell? ⟨y, 0, none⟩ = some (.pointer (some ⟨rb, 0, none⟩)) ∧ w'.cell? ⟨y, 1, none⟩ = some (.slice qa r2.length qc) ∧ w'.cell? ⟨y, 2, none⟩ = some (.int .i64 ((i + 1 : Nat) : Int))) := fun w' hb => by
          have := k1.below hb k1.lt
          exact ⟨this.cell (i := 0) rfl, this.cell (i := 1) rfl, this.cell (i := 2) rfl⟩
        have hB0 : Below wf.heap.size wf wf.drew := below_drewN (Below.refl _ wf) 1
        have cI := ints23_any wf.drew _ _ ga3 qa gc3 qc _ _ _ _ (hQ6.below hB0) (k3.below hB0) hr2c hr2c
        rw [decide_eq_true rfl] at cI
        have hNN : N1 ≤ 100000 := by omega
        have hGf : Mx.Glob wf := hG.below hDg.bl
        clear cS hDf hbf hQ5 hQ6 k3 hT7 hN1
        go_wp2_with fail
        go_region_held3 (fun w' => (w'.cell? ⟨y, 0, none⟩ = some (.pointer (some ⟨rb, 0, none⟩)) ∧ w'.cell? ⟨y, 1, none⟩ = some (.slice qa r2.length qc) ∧ w'.cell? ⟨y, 2, none⟩ = some (.int .i64 ((i + 1 : Nat) : Int)))) (exact hkp _ (by assumption))
          (first
            | (go_at_call 10; refine cI.mono ?_; rintro e wg ⟨rfl, hbg⟩; have hB1 : Below wf.heap.size wf wg := hB0.trans (hbg.mono hB0.size); have cD := digest22_any wg p T s2 N1 (h7.below hB1) hNN (hGf.below hB1))
            | (go_at_call 16; refine cD.mono ?_; rintro e wh ⟨t1, hd1, rfl, hbh⟩; have hB2 : Below wf.heap.size wf wh := hB1.trans (hbh.mono hB1.size); have cE := rsDigest_any (k2.below hB2) hNN)
            | (go_at_call 17; refine cE.mono ?_; rintro e wi ⟨t2, hd2, rfl, hbi⟩; obtain rfl := hd1.uniq hd2; have hB3 : Below wf.heap.size wf wi := hB2.trans (hbi.mono hB2.size)))
        all_goals
          have hDh := hDg.below lies_PX lies_RX hB3
          clear hDg cI cD cE hkp hB0 hB1 hB2 hB3 hbg hbh hbi hd1 hd2 k1 k2 h7
          go_wp2_with fail
          go_roundw
          case rel => exact ⟨i + 1, A2, B2, s2, r2, by omega, by omega, by go_num, by rw [hMe.out]; exact hr2l.out, by rw [hNe.out]; exact hDh⟩
          case measure => simp [intOf]; omega
    · have hg : ¬ (i : Int) < (l.length : Int) ∨ ((i : Int) < (l.length : Int) ∧ ¬ (i : Int) < 20) := by omega
      have hbZ := hD.bl
      clear hlt hi hi2 hrl2 hLm hD
      rcases hg with g1 | ⟨g1, g2⟩
      all_goals
        go_wp2
        go_ret
        exact ⟨rfl, hbZ⟩
end Go.Proofs.YtajpfkenhchafaaGreatDoor

/- ExecRuns: for every input the statement answers true, and each argument reads afterwards as it read before. Condition: the two tables of package mix read as the program's text lays them; and what the arguments hold is together of bulk at most 1048576. -/
namespace Go.Proofs.YtajpfkenhchafaaGreatDoor
open Go.ChangeShapes Go.WideShapes Go.ChangeAt Go.RowKit
open Go.ChangeMaps (open_string shut_string)
set_option linter.unusedVariables false

set_option maxRecDepth 100000 in
theorem execRuns_reads (os : Os) {H : Type} (enc : TypeId × Value → H) : ∃ places, DataW.whole enc Tryz.prog ((World.doorLaid Tryz.prog 400 os).forCall (fun _ _ => 0) ⟨#[], #[.slice none 0 0, .int .u64 0, .slice none 0 0], []⟩).memory Tryz.f3.params.toList Rows.execRunsSpec.vars false (#[.slice none 0 0, .int .u64 0, .slice none 0 0] : Array Value).toList 8 = some ([.nil, .lit (.int .u64 0), .nil], [], places) :=
  ⟨[], by kernel_rfl⟩

set_option maxRecDepth 100000 in
theorem execRuns_lifted (os : Os) (started : os.Started) (H : Type) (enc : TypeId × Value → H) (F : Stop.Interp) :
    ReturnsInHanded {} Tryz.checked os 3 .any ((Rows.OpenSpec.upto Rows.execRunsSpec).preRow enc Tryz.prog Tryz.f3 Rows.execRunsUptoRow.domain false Rows.execRunsUptoRow.laid) (((Rows.OpenSpec.upto Rows.execRunsSpec).at F).post enc Tryz.prog Tryz.f3 false true false false) := by
  obtain ⟨places, hx⟩ := execRuns_reads os enc
  refine returnsInHanded_of_row (C := Tryz.checked) (s := Rows.OpenSpec.upto Rows.execRunsSpec) ownKnob_none started (by kernel_rfl) Tryz.func3
    ⟨World.doorLaid Tryz.prog 400 os, fun _ _ => 0, ⟨#[], #[.slice none 0 0, .int .u64 0, .slice none 0 0], []⟩, rfl, World.shaped_of_RefB (by kernel_rfl) (by kernel_rfl), rfl, (Input.okWide_of_okWideB (by kernel_rfl)).2,
      OpenSpec.preRow_of_cond 8 hx (by kernel_rfl) (fun k hk => by cases hk; kernel_rfl) (by kernel_rfl) (Mx.door_met os _), by
      simp only [Assume.holds]
      exact ⟨by simp, by simp, fun _ => Modest.zero, by simp, by simp⟩⟩ ?_
  intro W base args ds gs before hval0 hW hcnd hcond hsz0 hL _ _
  have hk : Rows.uptoSmall H (ds ++ gs) = true := hcond _ rfl
  have hval : ∀ (j : Nat) t v, Tryz.f3.params[j]? = some t → args[j]? = some v → Value.okWide Tryz.prog W .any base t v := hval0
  have hsz : (DataW.weightsEach Tryz.prog (Tryz.f3.params.toList ++ Rows.execRunsSpec.plain.varTypes Tryz.prog) (ds ++ gs)).all (· ≤ reachBytes) = true := hsz0
  have hW' := hW
  obtain ⟨p, q, hA0, hV, rfl, hfz, hnd⟩ := hW
  have hA : DataW.TrodAll enc Tryz.prog W 0 (fun _ => true) true Tryz.f3.params.toList args.toList ds p := hA0
  rw [Tryz.params3] at hA hval hsz
  obtain ⟨v0, vs0, d0, ds0, p0, q0, hargs, rfl, rfl, h0, r0⟩ := trodAll_cons hA
  obtain ⟨v1, vs1, d1, ds1, p1, q1, rfl, rfl, rfl, h1, r1⟩ := trodAll_cons r0
  obtain ⟨v2, vs2, d2, ds2, p2, q2, rfl, rfl, rfl, h2, r2⟩ := trodAll_cons r1
  obtain ⟨rfl, rfl, rfl⟩ := trodAll_nil r2
  obtain rfl : args = #[v0, v1, v2] := by cases args; simp_all
  obtain ⟨rfl, rfl⟩ := trodVars_none hV
  have k0 := h0
  have lt0 : ∀ x ∈ p0, x.block < W.heap.size := by obtain ⟨m, hm⟩ := k0; exact DataW.trod_lt m _ _ _ hm
  obtain ⟨a0, len0, cap0, rfl⟩ := okWide_slice Tryz.underlying22 (hval 0 22 v0 rfl rfl)
  obtain ⟨ss0, sl0, st0, sm0, sd0⟩ := strs_open h0
  subst sl0
  have bk0 := strs_few (upto_strs sd0 hk (by simp))
  have k1 := h1
  have lt1 : ∀ x ∈ p1, x.block < W.heap.size := by obtain ⟨m, hm⟩ := k1; exact DataW.trod_lt m _ _ _ hm
  obtain ⟨b1, rfl, hd1, hp1, w1⟩ := open_int Tryz.underlying23 (hval 1 23 v1 rfl rfl) h1
  obtain ⟨a1, rfl⟩ := nat_of_u64 w1
  have k2 := h2
  have lt2 : ∀ x ∈ p2, x.block < W.heap.size := by obtain ⟨m, hm⟩ := k2; exact DataW.trod_lt m _ _ _ hm
  obtain ⟨a2, len2, cap2, rfl⟩ := okWide_slice Tryz.underlying24 (hval 2 24 v2 rfl rfl)
  obtain ⟨l2, rfl, st2, sm2, sd2⟩ := open_batches23 h2
  have sz2 := batches23_sized hsz (j := 2) rfl rfl sd2
  clear hA0 hval0 hsz0
  refine (execRuns_walk a0 cap0 ss0 a1 a2 cap2 l2 W st0.row (strs_cap k0) bk0.1 bk0.2 st2 sz2 (Mx.of_laid hL)).mono fun e W' ⟨he, bel⟩ => ?_
  subst he
  exact ⟨_, rfl, _, _, _, [], _, [], hW', trodAll_mk1 (shut_bool Tryz.underlying4 _), (trodAll_cons_mk (Below.trod laidOut_true (by kernel_rfl) (of_decide_eq_true (by kernel_rfl)) k0 bel lt0) (trodAll_cons_mk (Below.trod laidOut_true (by kernel_rfl) (of_decide_eq_true (by kernel_rfl)) k1 bel lt1) (trodAll_cons_mk (Below.trod laidOut_true (by kernel_rfl) (of_decide_eq_true (by kernel_rfl)) k2 bel lt2) trodAll_mk0))), rfl, bel.frame _, fun h => by cases h⟩

theorem execRunsUpto_holds : Rows.ExecRunsUptoSaid :=
  OpenClaim.holds_of_cond 3 Tryz.f3 rfl rfl rfl rfl rfl rfl rfl ⟨rfl, rfl, rfl, rfl, rfl⟩ rfl rfl rfl rfl rfl (by kernel_rfl) Tryz.func3 (by kernel_rfl)
    (of_decide_eq_true (by kernel_rfl)) (by unfold Func.isWrapper; rw [if_neg (of_decide_eq_false (by kernel_rfl))]; exact ⟨rfl, rfl⟩)
    (fun os started H enc _ F => by rw [OpenClaim.pre_eq_preRow]; exact execRuns_lifted os started H enc F)

theorem execRunsUpto_card : Rows.ExecRunsUptoCardSaid :=
  Claim7.holds_tied_plain_at .later [] [.data, .data] true (true, "183b17922d51dcf39495ff3feb06d9605b7bfc4995c33174130b2f78865611d7") true
    execRunsUpto_holds (fun _ h => by cases h) (by kernel_rfl) (fun _ h => by cases h) execRunsUpto_row_tie rfl ⟨rfl, rfl⟩ (by kernel_rfl) rfl
    (fun f fn hf hfn => by
      obtain rfl : f = 3 := Option.some.inj ((show Tryz.prog.funcNamed "tusk/tusklaw23.ExecRuns" = some 3 by kernel_rfl).symm.trans hf) |>.symm
      obtain rfl : fn = Tryz.f3 := (Option.some.inj (Tryz.func3.symm.trans hfn)).symm
      exact ⟨by kernel_rfl, fun j t ht => by
        rw [Tryz.params3] at ht
        have hall : ∀ t ∈ (#[22, 23, 24] : Array TypeId).toList, Tryz.prog.wantsStandIn t = false := by
          show ∀ t ∈ ([22, 23, 24] : List TypeId), Tryz.prog.wantsStandIn t = false
          refine List.forall_mem_cons.2 ⟨by kernel_rfl, ?_⟩
          refine List.forall_mem_cons.2 ⟨by kernel_rfl, ?_⟩
          refine List.forall_mem_cons.2 ⟨by kernel_rfl, ?_⟩
          exact fun _ h => by cases h
        exact hall t (Array.mem_toList_iff.2 (Array.mem_of_getElem? ht))⟩)
    (by kernel_rfl)
end Go.Proofs.YtajpfkenhchafaaGreatDoor
