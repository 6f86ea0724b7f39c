/- ExecOrders: for every input the statement answers true, and each argument reads afterwards as it read before. Condition: the two tables of package mix read as the program's text lays them; and what the arguments hold is together of bulk at most 1048576. -/
import Derived.Test.YtajpfkenhchafaaGreatDoorEz19
import Derived.Test.YtajpfkenhchafaaGreatDoorEz27
import Derived.Test.YtajpfkenhchafaaGreatDoorEz29
import Derived.Test.YtajpfkenhchafaaGreatDoorEz13
import Derived.Test.YtajpfkenhchafaaGreatDoorEz17
import Derived.Test.YtajpfkenhchafaaGreatDoorEz18
import Derived.Test.YtajpfkenhchafaaGreatDoorCards
import Derived.Test.YtajpfkenhchafaaGreatDoorTie
import Derived.SevenTiedAt
import Derived.Deep.DeepHandedRow
/- ExecOrders: the walk. -/
namespace Go.Proofs.YtajpfkenhchafaaGreatDoor
open Go Go.RowKit
set_option linter.unusedVariables false

/-- What Order does, as one: the row, what is told, and what the executor has. -/
structure OrdV where
  q : List Nat
  c : Nat
  s : StF
  N : Nat
  r : List Nat
  n : Nat

def ordV (D : List TxD) (P : List (List Int)) (s : StF) (N : Nat) (r : List Nat) (n : Nat) : OrdV :=
  if chkN (D.map TxD.rw) P = 0 then ⟨execR s D, 0, execS s D, N + 2 * D.length, r ++ execR s D, n + 1⟩ else ⟨[], chkN (D.map TxD.rw) P, s, N, r, n⟩

theorem ordV_few (D : List TxD) (P : List (List Int)) (s : StF) (N : Nat) (r : List Nat) (n : Nat) : (ordV D P s N r n).q.length ≤ D.length ∧ (ordV D P s N r n).N ≤ N + 2 * D.length ∧ (ordV D P s N r n).r.length ≤ r.length + D.length := by
  unfold ordV
  split
  · refine ⟨by rw [execR_length]; exact Nat.le_refl _, Nat.le_refl _, ?_⟩
    show (r ++ execR s D).length ≤ _
    rw [List.length_append, execR_length]
    exact Nat.le_refl _
  · exact ⟨Nat.zero_le _, Nat.le_add_right _ _, Nat.le_add_right _ _⟩

theorem got_ord {X : LieK} (hX : Lies X) {W w : World} {x : Nat} {S : Nat → Prop} {D : List TxD} {P : List (List Int)} {s : StF} {N : Nat} {r : List Nat} {n : Nat} {e : Ending} (hx : X W x S s N r n) (h : GotOrder X W x S D P s N r n e w) :
    ∃ ga gc S', e = .returned (.tuple #[.slice ga (ordV D P s N r n).q.length gc, .int .i64 ((ordV D P s N r n).c : Int)]) ∧ KQ natK 3 w W.heap.size (.slice ga (ordV D P s N r n).q.length gc) (ordV D P s N r n).q ∧ X w x S' (ordV D P s N r n).s (ordV D P s N r n).N (ordV D P s N r n).r (ordV D P s N r n).n ∧ FreshS W S S' ∧ Kept S W w := by
  rcases h with ⟨h1, rfl, h3⟩ | ⟨h1, ga, gc, S', rfl, h3, h4, h5, h6, h7⟩
  · have e1 : ordV D P s N r n = ⟨[], chkN (D.map TxD.rw) P, s, N, r, n⟩ := by unfold ordV; rw [if_neg h1]
    rw [e1]
    exact ⟨none, 0, S, rfl, KQ.empty _ _ _ _, hX.below hx h3, fun k e => Or.inl e, Kept.of_below h3⟩
  · have e1 : ordV D P s N r n = ⟨execR s D, 0, execS s D, N + 2 * D.length, r ++ execR s D, n + 1⟩ := by unfold ordV; rw [if_pos h1]
    rw [e1]
    refine ⟨ga, gc, S', ?_, ?_, h4, h5, h7⟩
    · show Ending.returned (.tuple #[.slice ga D.length gc, .int .i64 0]) = .returned (.tuple #[.slice ga (execR s D).length gc, .int .i64 ((0 : Nat) : Int)])
      rw [execR_length]
      rfl
    · show KQ natK 3 w W.heap.size (.slice ga (execR s D).length gc) (execR s D)
      rw [execR_length]
      exact h3

set_option maxRecDepth 100000 in
set_option maxHeartbeats 8000000 in
theorem execOrders_walk (ro : Option Addr) (rc : Nat) (rich : List ByteArray) (funds : Nat) (lo : Option Addr) (lc : Nat) (l : List TxM) (po : Option Addr) (pc : Nat) (p : List IRow) (W : World)
    (hR : RowAt strK W ro rich) (hrc : ro = none → rc = 0) (hrn : rich.length ≤ 1048576) (hrz : ∀ s ∈ rich, s.size ≤ 1048576) (hL : RowAt txK W lo l) (hlw : Wide22 l) (hP : RowAt irowK W po p) (hpl : RowsLen p) (hG : Mx.Glob W) :
    Calls Tryz.prog 4 #[.slice ro rich.length rc, .int .u64 (funds : Int), .slice lo l.length lc, .slice po p.length pc] W fun e w' => e = .returned (.bool true) ∧ Below W.heap.size W w' := by
  have cR := rich_any rich ro rc W hR hrn hrz
  go_enter Tryz.func4, Tryz.ntmps4
  go_wp2_with fail
  refine cR.mono ?_
  rintro e w1 ⟨rfl, hb1⟩
  have cL := greatM_any l lo lc w1 (hL.below hb1) hlw
  clear cR
  by_cases hri : richB rich = true
  · rw [hri]
    clear cL
    go_wp2
    go_ret
    exact ⟨rfl, hb1⟩
  obtain hri := Bool.eq_false_iff.2 hri
  have hrl := few_rich hri
  rw [hri]
  go_wp2_with fail
  refine cL.mono ?_
  rintro e w2 ⟨rfl, hb2⟩
  have hbB := hb1.trans (hb2.mono hb1.size)
  clear cL hb2 hb1
  by_cases hgl : greatM l = true
  · rw [hgl]
    go_wp2
    go_ret
    exact ⟨rfl, hbB⟩
  obtain hgl := Bool.eq_false_iff.2 hgl
  rw [hgl]
  have hLm := RowsM.of hL hlw hgl
  clear hri hgl hlw hL
  by_cases hp100 : 100 < p.length
  · have g1 : (100 : Int) < (p.length : Int) := by omega
    go_wp2
    go_ret
    exact ⟨rfl, hbB⟩
  have g1 : ¬ (100 : Int) < (p.length : Int) := by omega
  have hfit : RowsFit p := ⟨by omega, hpl.2⟩
  have hll := hLm.len
  have hown := own_made w2 w2.heap.size rfl
  have hbE := belowNew w2 (.cells #[] 9)
  have hS := ((hR.below hbB).below hbE).strs
  have hs3 : w2.heap.size ≤ (w2.alloc (.cells #[] 9)).heap.size := by rw [alloc_size]; omega
  go_wp2_with (at_builtin; refine wpList_append_strs rfl _ _ rfl w2.heap.size _ rfl hown ro rc rich rfl hS hrc (by omega) hs3 ?_)
  intro a1 c1 w4 h4 hn4 hb4
  have hbD := hbB.trans ((hbE.trans hb4).mono hbB.size)
  have hz4 : ∀ s ∈ rich, s.size ≤ maxLen := fun s hs => by have := hrz s hs; unfold maxLen; omega
  have cN := exNew_any rich a1 c1 funds w4 h4.at.row hz4 (by omega)
  have hRD := hR.below hbD
  clear hown hbE hS hs3 h4 hn4 hb4 hrz hbB
  go_wp2_with fail
  refine cN.mono ?_
  rintro e w5 ⟨x, A, rfl, h5, hA5, hb5⟩
  have cM := refExeNew_any rich ro rc funds w5 (hRD.below hb5) hz4 (by omega)
  clear cN hz4 hrc hRD
  go_wp2_with fail
  refine cM.mono ?_
  rintro e w6 ⟨y, B, rfl, h6, hB6, hb6⟩
  have hD6 : Duo23 PX RX W w6 x y A B (newF rich funds) rich.length [] 0 (newF rich funds) rich.length [] 0 := Duo23.made lies_PX (hbD.trans (hb5.mono hbD.size)) h5 (fun k e => Nat.le_trans hbD.size (hA5 k e)) hb6 h6 hB6
  generalize newF rich funds = s0 at *
  generalize rich.length = N at *
  clear cM h5 hA5 hb5 h6 hB6 hb6 hbD
  have hLt : ∀ w', Below W.heap.size W w' → RowsM w' lo l := fun w' hb => hLm.below hb
  have hft : ∀ b, rowFoot txK lo l b → b < W.heap.size := fun b hb => hLm.row.lt hb
  have hfp : ∀ b, rowFoot irowK po p b → b < W.heap.size := fun b hb => hP.lt hb
  have cO := ownM_any l lo lc w6 (hLt _ hD6.bl)
  obtain ⟨D, hDD⟩ : ∃ D, Hid (l.map TxM.d = D) := ⟨_, rfl⟩
  have hDl : Hid (D.length = l.length) := by unfold Hid; rw [← hDD.out, List.length_map]
  have hNr : N + 2 * l.length ≤ 100000 := by omega
  have hr0 : ([] : List Nat).length ≤ 100000 := by decide
  have hov := ordV_few D (lsP p) s0 N [] 0
  rw [hDl.out, List.length_nil] at hov
  obtain ⟨V, hV⟩ : ∃ V, Hid (ordV D (lsP p) s0 N [] 0 = V) := ⟨_, rfl⟩
  rw [hV.out] at hov
  obtain ⟨hv1, hv2, hv3⟩ := hov
  go_wp2_with fail
  refine cO.mono ?_
  rintro e wa ⟨ao, cap, m, rfl, hm, hmf, hmd, hba⟩
  obtain ⟨hrm, hml, hmg⟩ := own_rows (hLt _ hD6.bl) hm hmf hmd
  have hDa := hD6.below lies_PX lies_RX hba
  have cX := exOrder_any m ao cap p po pc wa hrm (hP.below hDa.bl) hfit x A s0 N [] 0 hDa.a (fun b h1 h2 => by have := hmg b h1; have := lies_PX.lt hD6.a b h2; omega) (fun b h1 h2 => by have := hfp b h1; have := hDa.na b h2; omega) (by rw [hml]; exact hNr) hr0 (by decide)
  rw [hmd, hDD.out, hml] at cX
  replace hml : Hid _ := hml
  rw [hml.out]
  clear cO hm hmf hmd hba hrm hD6 hmg
  go_wp2_with fail
  refine cX.mono ?_
  rintro e wb hgot
  obtain ⟨ga, gc, A2, rfl, hQ1, hX1, hf1, hk1⟩ := got_ord lies_PX hDa.a hgot
  rw [hV.out] at hQ1 hX1 ⊢
  have hDb := hDa.step lies_PX lies_RX hX1 hf1 hk1
  have cY := refOrder_any l lo lc p po pc wb (hLt _ hDb.bl) (hP.below hDb.bl) hfit y B s0 N [] 0 hDb.b (fun b h1 h2 => by have := hft b h1; have := hDb.nb b h2; omega) (fun b h1 h2 => by have := hfp b h1; have := hDb.nb b h2; omega) hNr hr0 (by decide)
  rw [hDD.out] at cY
  have hBa : ∀ k, B k → k < wa.heap.size := lies_RX.lt hDa.b
  clear cX hgot hX1 hf1 hk1 hDa
  go_wp2_with fail
  refine cY.mono ?_
  rintro e wc hgot
  obtain ⟨ga2, gc2, B2, rfl, hQ2, hX2, hf2, hk2⟩ := got_ord lies_RX hDb.b hgot
  rw [hV.out] at hQ2 hX2 ⊢
  have hDc := (hDb.swap.step lies_RX lies_PX hX2 hf2 hk2).swap
  have hQ3 := hQ1.kept hk2 (fun k e h2 => by have := (hQ1.lt k e).1; have := hBa k h2; omega) (fun _ _ _ h => h.elim)
  obtain ⟨q, c, s2, N1, r2, n2⟩ := V
  dsimp only at hv1 hv2 hv3 hQ2 hQ3 hDc ⊢
  have hr2b : r2.length ≤ 100000 := by omega
  have hr2c : r2.length ≤ 1000 := by omega
  have hqc : q.length ≤ 1000 := by omega
  have hNN : N1 ≤ 100000 := by omega
  have cX := exResults_any wc x A2 s2 N1 r2 n2 hDc.a hr2b
  clear cY hgot hX2 hf2 hk2 hDb hQ1 hV hv1 hv2 hv3 hBa hLt hft hfp hLm hP hfit hpl
  go_wp2_with fail
  refine cX.mono ?_
  rintro e we ⟨ga3, gc3, rfl, hQ5, hbe⟩
  have hDf := hDc.below lies_PX lies_RX hbe
  have hQ4 := hQ3.below hbe
  have hQ7 := hQ2.below hbe
  have cS := exState_any we x A2 s2 N1 r2 n2 hDf.a
  clear cX hDc hbe hQ3 hQ2
  go_wp2_with fail
  refine cS.mono ?_
  rintro e wf ⟨p0, T, rfl, h7, hT7, hbf⟩
  have hDg := hDf.below lies_PX lies_RX hbf
  have hB0 : Below wf.heap.size wf wf.drew := below_drewN (Below.refl _ wf) 1
  have hQ6 := (hQ5.below hbf).below hB0
  obtain ⟨rb, T2, q3, k1, k2, k3, -⟩ := hDg.b.ex
  obtain ⟨qa, qc, rfl, -, -⟩ := k3.form
  have hkp : ∀ w', Below wf.heap.size wf w' → (w'.cell? ⟨y, 0, none⟩ = some (.pointer (some ⟨rb, 0, none⟩)) ∧ w'.cell? ⟨y, 1, none⟩ = some (.slice qa r2.length qc) ∧ w'.cell? ⟨y, 2, none⟩ = some (.int .i64 (n2 : Int))) := fun w' hb => by
    have := k1.below hb k1.lt
    exact ⟨this.cell (i := 0) rfl, this.cell (i := 1) rfl, this.cell (i := 2) rfl⟩
  have cI := ints23_any wf.drew _ _ ga ga2 gc gc2 _ _ _ _ ((hQ4.below hbf).below hB0) ((hQ7.below hbf).below hB0) hqc hqc
  rw [decide_eq_true rfl] at cI
  have hGf : Mx.Glob wf := hG.below hDg.bl
  have k3d := k3.below hB0
  clear cS hDf hbf hQ5 hQ4 hQ7 hT7 hG k3
  go_wp2_with fail
  go_region_held3 (fun w' => (w'.cell? ⟨y, 0, none⟩ = some (.pointer (some ⟨rb, 0, none⟩)) ∧ w'.cell? ⟨y, 1, none⟩ = some (.slice qa r2.length qc) ∧ w'.cell? ⟨y, 2, none⟩ = some (.int .i64 (n2 : Int)))) (exact hkp _ (by assumption))
    (first
      | (go_at_call 10; refine cI.mono ?_; rintro e wg ⟨rfl, hbg⟩; have hB1 : Below wf.heap.size wf wg := hB0.trans (hbg.mono hB0.size); have cJ := ints23_any wg _ _ ga3 qa gc3 qc _ _ _ _ (hQ6.below hbg) (k3d.below hbg) hr2c hr2c; rw [decide_eq_true rfl] at cJ)
      | (go_at_call 10; refine cJ.mono ?_; rintro e wk ⟨rfl, hbk⟩; have hB4 : Below wf.heap.size wf wk := hB1.trans (hbk.mono hB1.size); have cD := digest22_any wk p0 T s2 N1 (h7.below hB4) hNN (hGf.below hB4))
      | (go_at_call 16; refine cD.mono ?_; rintro e wh ⟨t1, hd1, rfl, hbh⟩; have hB2 : Below wf.heap.size wf wh := hB4.trans (hbh.mono hB4.size); have cE := rsDigest_any (k2.below hB2) hNN)
      | (go_at_call 17; refine cE.mono ?_; rintro e wi ⟨t2, hd2, rfl, hbi⟩; obtain rfl := hd1.uniq hd2; have hB3 : Below wf.heap.size wf wi := hB2.trans (hbi.mono hB2.size)))
  all_goals
    have hbZ := (hDg.below lies_PX lies_RX hB3).bl
    clear hDg cI cJ cD cE hkp hB0 hB1 hB2 hB3 hB4 hbg hbh hbi hbk hd1 hd2 k1 k2 h7 hQ6 k3d
    go_wp2_with fail
    first | done | (go_ret; exact ⟨rfl, hbZ⟩) | exact ⟨rfl, hbZ⟩
end Go.Proofs.YtajpfkenhchafaaGreatDoor

/- ExecOrders: for every input the statement answers true, and each argument reads afterwards as it read before. Condition: the two tables of package mix read as the program's text lays them; and what the arguments hold is together of bulk at most 1048576. -/
namespace Go.Proofs.YtajpfkenhchafaaGreatDoor
open Go.ChangeShapes Go.WideShapes Go.ChangeAt Go.RowKit
open Go.ChangeMaps (open_string shut_string)
set_option linter.unusedVariables false

set_option maxRecDepth 100000 in
theorem execOrders_reads (os : Os) {H : Type} (enc : TypeId × Value → H) : ∃ places, DataW.whole enc Tryz.prog ((World.doorLaid Tryz.prog 400 os).forCall (fun _ _ => 0) ⟨#[], #[.slice none 0 0, .int .u64 0, .slice none 0 0, .slice none 0 0], []⟩).memory Tryz.f4.params.toList Rows.execOrdersSpec.vars false (#[.slice none 0 0, .int .u64 0, .slice none 0 0, .slice none 0 0] : Array Value).toList 8 = some ([.nil, .lit (.int .u64 0), .nil, .nil], [], places) :=
  ⟨[], by kernel_rfl⟩

set_option maxRecDepth 100000 in
theorem execOrders_lifted (os : Os) (started : os.Started) (H : Type) (enc : TypeId × Value → H) (F : Stop.Interp) :
    ReturnsInHanded {} Tryz.checked os 4 .any ((Rows.OpenSpec.upto Rows.execOrdersSpec).preRow enc Tryz.prog Tryz.f4 Rows.execOrdersUptoRow.domain false Rows.execOrdersUptoRow.laid) (((Rows.OpenSpec.upto Rows.execOrdersSpec).at F).post enc Tryz.prog Tryz.f4 false true false false) := by
  obtain ⟨places, hx⟩ := execOrders_reads os enc
  refine returnsInHanded_of_row (C := Tryz.checked) (s := Rows.OpenSpec.upto Rows.execOrdersSpec) ownKnob_none started (by kernel_rfl) Tryz.func4
    ⟨World.doorLaid Tryz.prog 400 os, fun _ _ => 0, ⟨#[], #[.slice none 0 0, .int .u64 0, .slice none 0 0, .slice none 0 0], []⟩, rfl, World.shaped_of_RefB (by kernel_rfl) (by kernel_rfl), rfl, (Input.okWide_of_okWideB (by kernel_rfl)).2,
      OpenSpec.preRow_of_cond 8 hx (by kernel_rfl) (fun k hk => by cases hk; kernel_rfl) (by kernel_rfl) (Mx.door_met os _), by
      simp only [Assume.holds]
      exact ⟨by simp, by simp, fun _ => Modest.zero, by simp, by simp⟩⟩ ?_
  intro W base args ds gs before hval0 hW hcnd hcond hsz0 hL _ _
  have hk : Rows.uptoSmall H (ds ++ gs) = true := hcond _ rfl
  have hval : ∀ (j : Nat) t v, Tryz.f4.params[j]? = some t → args[j]? = some v → Value.okWide Tryz.prog W .any base t v := hval0
  have hsz : (DataW.weightsEach Tryz.prog (Tryz.f4.params.toList ++ Rows.execOrdersSpec.plain.varTypes Tryz.prog) (ds ++ gs)).all (· ≤ reachBytes) = true := hsz0
  have hW' := hW
  obtain ⟨p, q, hA0, hV, rfl, hfz, hnd⟩ := hW
  have hA : DataW.TrodAll enc Tryz.prog W 0 (fun _ => true) true Tryz.f4.params.toList args.toList ds p := hA0
  rw [Tryz.params4] at hA hval hsz
  obtain ⟨v0, vs0, d0, ds0, p0, q0, hargs, rfl, rfl, h0, r0⟩ := trodAll_cons hA
  obtain ⟨v1, vs1, d1, ds1, p1, q1, rfl, rfl, rfl, h1, r1⟩ := trodAll_cons r0
  obtain ⟨v2, vs2, d2, ds2, p2, q2, rfl, rfl, rfl, h2, r2⟩ := trodAll_cons r1
  obtain ⟨v3, vs3, d3, ds3, p3, q3, rfl, rfl, rfl, h3, r3⟩ := trodAll_cons r2
  obtain ⟨rfl, rfl, rfl⟩ := trodAll_nil r3
  obtain rfl : args = #[v0, v1, v2, v3] := by cases args; simp_all
  obtain ⟨rfl, rfl⟩ := trodVars_none hV
  have k0 := h0
  have lt0 : ∀ x ∈ p0, x.block < W.heap.size := by obtain ⟨m, hm⟩ := k0; exact DataW.trod_lt m _ _ _ hm
  obtain ⟨a0, len0, cap0, rfl⟩ := okWide_slice Tryz.underlying22 (hval 0 22 v0 rfl rfl)
  obtain ⟨ss0, sl0, st0, sm0, sd0⟩ := strs_open h0
  subst sl0
  have bk0 := strs_few (upto_strs sd0 hk (by simp))
  have k1 := h1
  have lt1 : ∀ x ∈ p1, x.block < W.heap.size := by obtain ⟨m, hm⟩ := k1; exact DataW.trod_lt m _ _ _ hm
  obtain ⟨b1, rfl, hd1, hp1, w1⟩ := open_int Tryz.underlying23 (hval 1 23 v1 rfl rfl) h1
  obtain ⟨a1, rfl⟩ := nat_of_u64 w1
  have k2 := h2
  have lt2 : ∀ x ∈ p2, x.block < W.heap.size := by obtain ⟨m, hm⟩ := k2; exact DataW.trod_lt m _ _ _ hm
  obtain ⟨a2, len2, cap2, rfl⟩ := okWide_slice Tryz.underlying34 (hval 2 34 v2 rfl rfl)
  obtain ⟨l2, rfl, st2, sm2, sd2⟩ := open_txs22 h2
  have sz2 := txs22_sized hsz (j := 2) rfl rfl sd2
  have k3 := h3
  have lt3 : ∀ x ∈ p3, x.block < W.heap.size := by obtain ⟨m, hm⟩ := k3; exact DataW.trod_lt m _ _ _ hm
  obtain ⟨a3, len3, cap3, rfl⟩ := okWide_slice Tryz.underlying45 (hval 3 45 v3 rfl rfl)
  obtain ⟨l3, rfl, st3, sm3, sd3⟩ := open_plan21 h3
  have sz3 := plan21_sized hsz (j := 3) rfl rfl sd3
  clear hA0 hval0 hsz0
  refine (execOrders_walk a0 cap0 ss0 a1 a2 cap2 l2 a3 cap3 l3 W st0.row (strs_cap k0) bk0.1 bk0.2 st2 sz2 st3 sz3 (Mx.of_laid hL)).mono fun e W' ⟨he, bel⟩ => ?_
  subst he
  exact ⟨_, rfl, _, _, _, [], _, [], hW', trodAll_mk1 (shut_bool Tryz.underlying4 _), (trodAll_cons_mk (Below.trod laidOut_true (by kernel_rfl) (of_decide_eq_true (by kernel_rfl)) k0 bel lt0) (trodAll_cons_mk (Below.trod laidOut_true (by kernel_rfl) (of_decide_eq_true (by kernel_rfl)) k1 bel lt1) (trodAll_cons_mk (Below.trod laidOut_true (by kernel_rfl) (of_decide_eq_true (by kernel_rfl)) k2 bel lt2) (trodAll_cons_mk (Below.trod laidOut_true (by kernel_rfl) (of_decide_eq_true (by kernel_rfl)) k3 bel lt3) trodAll_mk0)))), rfl, bel.frame _, fun h => by cases h⟩

theorem execOrdersUpto_holds : Rows.ExecOrdersUptoSaid :=
  OpenClaim.holds_of_cond 4 Tryz.f4 rfl rfl rfl rfl rfl rfl rfl ⟨rfl, rfl, rfl, rfl, rfl⟩ rfl rfl rfl rfl rfl (by kernel_rfl) Tryz.func4 (by kernel_rfl)
    (of_decide_eq_true (by kernel_rfl)) (by unfold Func.isWrapper; rw [if_neg (of_decide_eq_false (by kernel_rfl))]; exact ⟨rfl, rfl⟩)
    (fun os started H enc _ F => by rw [OpenClaim.pre_eq_preRow]; exact execOrders_lifted os started H enc F)

theorem execOrdersUpto_card : Rows.ExecOrdersUptoCardSaid :=
  Claim7.holds_tied_plain_at .later [] [.data, .data] true (true, "183b17922d51dcf39495ff3feb06d9605b7bfc4995c33174130b2f78865611d7") true
    execOrdersUpto_holds (fun _ h => by cases h) (by kernel_rfl) (fun _ h => by cases h) execOrdersUpto_row_tie rfl ⟨rfl, rfl⟩ (by kernel_rfl) rfl
    (fun f fn hf hfn => by
      obtain rfl : f = 4 := Option.some.inj ((show Tryz.prog.funcNamed "tusk/tusklaw23.ExecOrders" = some 4 by kernel_rfl).symm.trans hf) |>.symm
      obtain rfl : fn = Tryz.f4 := (Option.some.inj (Tryz.func4.symm.trans hfn)).symm
      exact ⟨by kernel_rfl, fun j t ht => by
        rw [Tryz.params4] at ht
        have hall : ∀ t ∈ (#[22, 23, 34, 45] : Array TypeId).toList, Tryz.prog.wantsStandIn t = false := by
          show ∀ t ∈ ([22, 23, 34, 45] : List TypeId), Tryz.prog.wantsStandIn t = false
          refine List.forall_mem_cons.2 ⟨by kernel_rfl, ?_⟩
          refine List.forall_mem_cons.2 ⟨by kernel_rfl, ?_⟩
          refine List.forall_mem_cons.2 ⟨by kernel_rfl, ?_⟩
          refine List.forall_mem_cons.2 ⟨by kernel_rfl, ?_⟩
          exact fun _ h => by cases h
        exact hall t (Array.mem_toList_iff.2 (Array.mem_of_getElem? ht))⟩)
    (by kernel_rfl)
end Go.Proofs.YtajpfkenhchafaaGreatDoor
