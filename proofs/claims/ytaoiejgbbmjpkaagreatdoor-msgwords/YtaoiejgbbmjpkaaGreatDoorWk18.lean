/- Texts as one: MsgRefCheck. -/
import Derived.Test.YtaoiejgbbmjpkaaGreatDoorWk17
import Derived.Test.YtaoiejgbbmjpkaaGreatDoorWk11
import Derived.Lib.QuietBelow
import Derived.BigQuiet
/- What the reference's Check (tuskref09) says of a message; nothing old in memory is turned. -/
namespace Go.Proofs.YtaoiejgbbmjpkaaGreatDoor
open Go.RowKit Go.Sort
set_option linter.unusedVariables false

/-- A whole row is loaded in a region whose order is drawn. -/
theorem quiet_load_row {P : Program} {o : Oper} {a : Act} {C : World → Prop} {K : Act → Prop} (ty : TypeId) (x : Operand) (ho : o.op = .load ty x)
    (g : Nat) (hx : a.eval x = .pointer (some ⟨g, 0, none⟩)) (t : TypeId) (cs : Array Value) (fr : Nat × Nat) (d : TypeDesc) (hg : ∀ w, C w → w.heap[g]? = some (.cells cs t fr))
    (hu : P.underlying ty = some d) (hd : (match d with | .struct _ | .array _ _ => true | _ => false) = true) (hi : (P.info? ty).map (·.size) = some cs.size)
    (h : K (a.put o.dst (.agg cs))) : o.quiet P a C K :=
  ⟨_, fun w hw => by
    unfold Oper.quietAt execOp
    simp only [ho, hx, Instr.loadAt, Instr.sureAddr, Sem.run_bind, Sem.run_pure, Result.andThen_ok, run_loadVar_row w g t ty cs fr d (hg w hw) hu hd hi]
    exact ⟨rfl, rfl⟩, h⟩

theorem told_decide {W w : World} {P : Prop} [Decidable P] {e : Ending} (h : Told W P e w) : e = .returned (.bool (decide P)) ∧ Below W.heap.size W w := by
  obtain ⟨⟨p, he, hp⟩, hb⟩ := h
  refine ⟨?_, hb⟩
  rw [he]
  by_cases hP : P
  · rw [decide_eq_true hP, hp.2 hP]
  · rw [decide_eq_false hP]
    cases p
    · rfl
    · exact absurd (hp.1 rfl) hP

set_option maxRecDepth 100000 in
set_option maxHeartbeats 16000000 in
theorem refCheck_b (k : Int) (dg : ByteArray) (vi : Int) (tg : TagD) (ba : BatM) (he : HdrM) (ce : CertM) (bl : BlkM) (q : QcM) (w : World) (hA : MsgM.At w ⟨k, dg, vi, tg, ba, he, ce, bl, q⟩) (hn : MsgM.Num ⟨k, dg, vi, tg, ba, he, ce, bl, q⟩) (hS : ∀ t ∈ ba.txs, TxSizes t.d) (hk : fieldsK k = [98]) :
    Calls Tryz.prog 24 #[MsgM.v ⟨k, dg, vi, tg, ba, he, ce, bl, q⟩] w fun e w' => e = .returned (.int .i64 (chkM (MsgM.d ⟨k, dg, vi, tg, ba, he, ce, bl, q⟩) : Int)) ∧ Below w.heap.size w w' := by
  have gb : ∀ w1, Calls Tryz.prog 46 #[.string ⟨#[98]⟩, .int .u8 98] w1 fun e w' => e = .returned (.bool true) ∧ w' = w1 := fun w1 => refHas_any ⟨#[98]⟩ 98 w1 (by decide)
  obtain ⟨out, hout⟩ : ∃ n : Nat, Hid (n = chkM (MsgM.d ⟨k, dg, vi, tg, ba, he, ce, bl, q⟩)) := ⟨_, rfl⟩
  rw [← hout.out]
  have hX := Arr.new w 39 [.int .i64 k, .string dg, .int .i64 vi, .int .i64 tg.who, .string tg.mac, .int .i64 ba.author, .int .i64 ba.number, .slice ba.ta ba.txs.length ba.tc, .int .i64 he.author, .int .i64 he.round, .slice he.ra he.refs.length he.rc, .slice he.pa he.parents.length he.pc, .int .i64 ce.hdr.author, .int .i64 ce.hdr.round, .slice ce.hdr.ra ce.hdr.refs.length ce.hdr.rc, .slice ce.hdr.pa ce.hdr.parents.length ce.hdr.pc, .slice ce.va ce.votes.length ce.vc, .int .i64 bl.view, .int .i64 bl.qc.view, .string bl.qc.block, .slice bl.qc.va bl.qc.votes.length bl.qc.vc, .slice bl.ca bl.certs.length bl.cc, .int .i64 q.view, .string q.block, .slice q.va q.votes.length q.vc]
  have hB := belowNew w (.cells [.int .i64 k, .string dg, .int .i64 vi, .int .i64 tg.who, .string tg.mac, .int .i64 ba.author, .int .i64 ba.number, .slice ba.ta ba.txs.length ba.tc, .int .i64 he.author, .int .i64 he.round, .slice he.ra he.refs.length he.rc, .slice he.pa he.parents.length he.pc, .int .i64 ce.hdr.author, .int .i64 ce.hdr.round, .slice ce.hdr.ra ce.hdr.refs.length ce.hdr.rc, .slice ce.hdr.pa ce.hdr.parents.length ce.hdr.pc, .slice ce.va ce.votes.length ce.vc, .int .i64 bl.view, .int .i64 bl.qc.view, .string bl.qc.block, .slice bl.qc.va bl.qc.votes.length bl.qc.vc, .slice bl.ca bl.certs.length bl.cc, .int .i64 q.view, .string q.block, .slice q.va q.votes.length q.vc].toArray 39)
  have hAB := hA.below hB
  have hne : fieldsK k ≠ [] := by rw [hk]; simp
  have cF : ∀ w1, Calls Tryz.prog 43 #[.int .i64 k] w1 fun e w' => e = .returned (.string ⟨#[98]⟩) ∧ Below w1.heap.size w1 w' := fun w1 => by
    have := refFields_any k w1
    unfold fieldsS at this
    rw [hk] at this
    exact this
  have cBare := fun w1 => refBare_any ⟨k, dg, vi, tg, ba, he, ce, bl, q⟩ w1 hne
  have cSame := fun w1 h1 => (sameBare_any ⟨k, dg, vi, tg, ba, he, ce, bl, q⟩ w1 h1 hn).mono (fun e w' h => told_decide h)
  have HK : Hid (¬ fieldsK (MsgM.d ⟨k, dg, vi, tg, ba, he, ce, bl, q⟩).kind = []) := hne
  obtain ⟨br, hbr⟩ : ∃ b : Bool, Hid (b = decide (MsgM.d ⟨k, dg, vi, tg, ba, he, ce, bl, q⟩).Bare) := ⟨_, rfl⟩
  rw [← hbr.out] at cSame
  obtain ⟨bv, hbv⟩ : ∃ v, v = (bareM ⟨k, dg, vi, tg, ba, he, ce, bl, q⟩).v := ⟨_, rfl⟩
  rw [← hbv] at cBare cSame
  clear hbv
  unfold MsgM.v MsgM.c at cBare cSame ⊢
  simp only at cBare cSame ⊢
  obtain ⟨w1, hw1⟩ : ∃ q', w.alloc (.cells [.int .i64 k, .string dg, .int .i64 vi, .int .i64 tg.who, .string tg.mac, .int .i64 ba.author, .int .i64 ba.number, .slice ba.ta ba.txs.length ba.tc, .int .i64 he.author, .int .i64 he.round, .slice he.ra he.refs.length he.rc, .slice he.pa he.parents.length he.pc, .int .i64 ce.hdr.author, .int .i64 ce.hdr.round, .slice ce.hdr.ra ce.hdr.refs.length ce.hdr.rc, .slice ce.hdr.pa ce.hdr.parents.length ce.hdr.pc, .slice ce.va ce.votes.length ce.vc, .int .i64 bl.view, .int .i64 bl.qc.view, .string bl.qc.block, .slice bl.qc.va bl.qc.votes.length bl.qc.vc, .slice bl.ca bl.certs.length bl.cc, .int .i64 q.view, .string q.block, .slice q.va q.votes.length q.vc].toArray 39) = q' := ⟨_, rfl⟩
  rw [hw1] at hX hB hAB
  have x0 := hX.cell (i := 0) rfl
  go_enter Tryz.func24, Tryz.ntmps24
  go_wp2_with fail
  refine (cF _).mono ?_
  rintro e w2 ⟨rfl, hb2⟩
  have hX2 := hX.below hb2 hX.lt
  have hB2 := hB.trans (hb2.mono hB.size)
  have hA2 := hAB.below hb2
  clear hX hB hb2 x0 cF hw1 hA hAB
  have bl' := fun d os => below_regrown w2 d os
  have hLR : ∀ w', (∃ p : Regrown, w' = grow (redrawn w2 p.d) p.os) → w'.heap[w.heap.size]? = some (.cells [.int .i64 k, .string dg, .int .i64 vi, .int .i64 tg.who, .string tg.mac, .int .i64 ba.author, .int .i64 ba.number, .slice ba.ta ba.txs.length ba.tc, .int .i64 he.author, .int .i64 he.round, .slice he.ra he.refs.length he.rc, .slice he.pa he.parents.length he.pc, .int .i64 ce.hdr.author, .int .i64 ce.hdr.round, .slice ce.hdr.ra ce.hdr.refs.length ce.hdr.rc, .slice ce.hdr.pa ce.hdr.parents.length ce.hdr.pc, .slice ce.va ce.votes.length ce.vc, .int .i64 bl.view, .int .i64 bl.qc.view, .string bl.qc.block, .slice bl.qc.va bl.qc.votes.length bl.qc.vc, .slice bl.ca bl.certs.length bl.cc, .int .i64 q.view, .string q.block, .slice q.va q.votes.length q.vc].toArray 39 (0, 0)) := by
    rintro w' ⟨p, rfl⟩
    exact hX2.below (bl' p.d p.os) hX2.lt
  have k1 : ∀ d os, Calls Tryz.prog 45 #[.agg [.int .i64 k, .string dg, .int .i64 vi, .int .i64 tg.who, .string tg.mac, .int .i64 ba.author, .int .i64 ba.number, .slice ba.ta ba.txs.length ba.tc, .int .i64 he.author, .int .i64 he.round, .slice he.ra he.refs.length he.rc, .slice he.pa he.parents.length he.pc, .int .i64 ce.hdr.author, .int .i64 ce.hdr.round, .slice ce.hdr.ra ce.hdr.refs.length ce.hdr.rc, .slice ce.hdr.pa ce.hdr.parents.length ce.hdr.pc, .slice ce.va ce.votes.length ce.vc, .int .i64 bl.view, .int .i64 bl.qc.view, .string bl.qc.block, .slice bl.qc.va bl.qc.votes.length bl.qc.vc, .slice bl.ca bl.certs.length bl.cc, .int .i64 q.view, .string q.block, .slice q.va q.votes.length q.vc].toArray] (grow (redrawn w2 d) os) fun e w'' => e = .returned bv ∧ ∃ p : Regrown, w'' = grow (redrawn w2 p.d) p.os := fun d os => Calls.regrown_of (cBare _)
  have k2 : ∀ d os, Calls Tryz.prog 44 #[.agg [.int .i64 k, .string dg, .int .i64 vi, .int .i64 tg.who, .string tg.mac, .int .i64 ba.author, .int .i64 ba.number, .slice ba.ta ba.txs.length ba.tc, .int .i64 he.author, .int .i64 he.round, .slice he.ra he.refs.length he.rc, .slice he.pa he.parents.length he.pc, .int .i64 ce.hdr.author, .int .i64 ce.hdr.round, .slice ce.hdr.ra ce.hdr.refs.length ce.hdr.rc, .slice ce.hdr.pa ce.hdr.parents.length ce.hdr.pc, .slice ce.va ce.votes.length ce.vc, .int .i64 bl.view, .int .i64 bl.qc.view, .string bl.qc.block, .slice bl.qc.va bl.qc.votes.length bl.qc.vc, .slice bl.ca bl.certs.length bl.cc, .int .i64 q.view, .string q.block, .slice q.va q.votes.length q.vc].toArray, bv] (grow (redrawn w2 d) os) fun e w'' => e = .returned (.bool br) ∧ ∃ p : Regrown, w'' = grow (redrawn w2 p.d) p.os := fun d os => Calls.regrown_of (cSame _ (hA2.below (bl' d os)))
  have HXF : Hid (∀ d os, Arr (grow (redrawn w2 d) os) w.heap.size 39 [.int .i64 k, .string dg, .int .i64 vi, .int .i64 tg.who, .string tg.mac, .int .i64 ba.author, .int .i64 ba.number, .slice ba.ta ba.txs.length ba.tc, .int .i64 he.author, .int .i64 he.round, .slice he.ra he.refs.length he.rc, .slice he.pa he.parents.length he.pc, .int .i64 ce.hdr.author, .int .i64 ce.hdr.round, .slice ce.hdr.ra ce.hdr.refs.length ce.hdr.rc, .slice ce.hdr.pa ce.hdr.parents.length ce.hdr.pc, .slice ce.va ce.votes.length ce.vc, .int .i64 bl.view, .int .i64 bl.qc.view, .string bl.qc.block, .slice bl.qc.va bl.qc.votes.length bl.qc.vc, .slice bl.ca bl.certs.length bl.cc, .int .i64 q.view, .string q.block, .slice q.va q.votes.length q.vc] ∧ Below w.heap.size w (grow (redrawn w2 d) os) ∧ MsgM.At (grow (redrawn w2 d) os) ⟨k, dg, vi, tg, ba, he, ce, bl, q⟩) := fun d os => ⟨hX2.below (bl' d os) hX2.lt, hB2.trans ((bl' d os).mono hB2.size), hA2.below (bl' d os)⟩
  clear cBare cSame bl' hX2 hB2 hA2
  go_wp2_with fail
  refine wp_region_quiet_below (by kernel_rfl) (by kernel_rfl) ?_
  iterate 2
    go_big_quiet_want
    refine quiet_load_row 39 _ (by rfl) w.heap.size (by rfl) 39 _ (0, 0) _ hLR Tryz.underlying39 (by rfl) infoMsg9 ?_
    simp only [Act.put, List.setIfInBounds_toArray, List.set_cons_succ, List.set_cons_zero]
    go_big_quiet_on
  go_big_quiet_step (exact k1 _ _)
  go_big_quiet_step (exact k2 _ _)
  go_big_quiet_step (fail)
  refine wpQuiet_nil ?_
  rintro w' ⟨p, rfl⟩
  obtain ⟨hX, hB, hM⟩ := HXF.out p.d p.os
  generalize grow (redrawn w2 p.d) p.os = w3 at hX hB hM ⊢
  clear k1 k2 HXF hLR p
  cases br
  case false =>
    have ho : Hid (out = 3) := by
      show _ = _
      rw [hout.out]
      unfold chkM
      rw [if_neg HK.out, if_pos]
      exact of_decide_eq_false hbr.out.symm
    clear hout hbr HK hM hX
    go_wp2
    go_ret
    exact ⟨by rw [ho.out]; rfl, hB⟩
  have hbare0 : (MsgM.d ⟨k, dg, vi, tg, ba, he, ce, bl, q⟩).Bare := of_decide_eq_true hbr.out.symm
  have hbare : Hid (MsgM.d ⟨k, dg, vi, tg, ba, he, ce, bl, q⟩).Bare := hbare0
  clear hbr hbare0
  go_wp2_with fail
  refine (gb _).mono ?_
  rintro e w0 ⟨rfl, rfl⟩
  clear gb
  have cB := refBatCheck_any ba.author ba.number ba.ta ba.txs ba.tc w0 hM.bat.txs.txs hS
  have hr : Hid (chkM (MsgM.d ⟨k, dg, vi, tg, ba, he, ce, bl, q⟩) = checkB ⟨ba.author, ba.number, dl ba.txs⟩) := by
    show _ = _
    unfold chkM
    rw [if_neg HK.out, if_neg (fun h => h hbare.out), if_pos (by show (98 : UInt8) ∈ fieldsK k; rw [hk]; decide)]
    rfl
  rw [← hr.out, ← hout.out] at cB
  unfold batV at cB
  clear hM hr hn hS hout hbare HK
  have x5 := hX.cell (i := 5) rfl
  have x6 := hX.cell (i := 6) rfl
  have x7 := hX.cell (i := 7) rfl
  go_wp2_with fail
  refine cB.mono ?_
  rintro e w4 ⟨rfl, hb4⟩
  have hB4 := hB.trans (hb4.mono hB.size)
  clear cB hX hB hb4 x5 x6 x7
  go_wp2
  go_ret
  exact ⟨rfl, hB4⟩

set_option maxRecDepth 100000 in
set_option maxHeartbeats 16000000 in
theorem refCheck_dt (k : Int) (dg : ByteArray) (vi : Int) (tg : TagD) (ba : BatM) (he : HdrM) (ce : CertM) (bl : BlkM) (q : QcM) (w : World) (hA : MsgM.At w ⟨k, dg, vi, tg, ba, he, ce, bl, q⟩) (hn : MsgM.Num ⟨k, dg, vi, tg, ba, he, ce, bl, q⟩) (hS : ∀ t ∈ ba.txs, TxSizes t.d) (hk : fieldsK k = [100, 116]) :
    Calls Tryz.prog 24 #[MsgM.v ⟨k, dg, vi, tg, ba, he, ce, bl, q⟩] w fun e w' => e = .returned (.int .i64 (chkM (MsgM.d ⟨k, dg, vi, tg, ba, he, ce, bl, q⟩) : Int)) ∧ Below w.heap.size w w' := by
  have gb : ∀ w1, Calls Tryz.prog 46 #[.string ⟨#[100, 116]⟩, .int .u8 98] w1 fun e w' => e = .returned (.bool false) ∧ w' = w1 := fun w1 => refHas_any ⟨#[100, 116]⟩ 98 w1 (by decide)
  have gd : ∀ w1, Calls Tryz.prog 46 #[.string ⟨#[100, 116]⟩, .int .u8 100] w1 fun e w' => e = .returned (.bool true) ∧ w' = w1 := fun w1 => refHas_any ⟨#[100, 116]⟩ 100 w1 (by decide)
  have gt : ∀ w1, Calls Tryz.prog 46 #[.string ⟨#[100, 116]⟩, .int .u8 116] w1 fun e w' => e = .returned (.bool true) ∧ w' = w1 := fun w1 => refHas_any ⟨#[100, 116]⟩ 116 w1 (by decide)
  have gq : ∀ w1, Calls Tryz.prog 46 #[.string ⟨#[100, 116]⟩, .int .u8 113] w1 fun e w' => e = .returned (.bool false) ∧ w' = w1 := fun w1 => refHas_any ⟨#[100, 116]⟩ 113 w1 (by decide)
  have gk : ∀ w1, Calls Tryz.prog 46 #[.string ⟨#[100, 116]⟩, .int .u8 107] w1 fun e w' => e = .returned (.bool false) ∧ w' = w1 := fun w1 => refHas_any ⟨#[100, 116]⟩ 107 w1 (by decide)
  obtain ⟨out, hout⟩ : ∃ n : Nat, Hid (n = chkM (MsgM.d ⟨k, dg, vi, tg, ba, he, ce, bl, q⟩)) := ⟨_, rfl⟩
  rw [← hout.out]
  have hX := Arr.new w 39 [.int .i64 k, .string dg, .int .i64 vi, .int .i64 tg.who, .string tg.mac, .int .i64 ba.author, .int .i64 ba.number, .slice ba.ta ba.txs.length ba.tc, .int .i64 he.author, .int .i64 he.round, .slice he.ra he.refs.length he.rc, .slice he.pa he.parents.length he.pc, .int .i64 ce.hdr.author, .int .i64 ce.hdr.round, .slice ce.hdr.ra ce.hdr.refs.length ce.hdr.rc, .slice ce.hdr.pa ce.hdr.parents.length ce.hdr.pc, .slice ce.va ce.votes.length ce.vc, .int .i64 bl.view, .int .i64 bl.qc.view, .string bl.qc.block, .slice bl.qc.va bl.qc.votes.length bl.qc.vc, .slice bl.ca bl.certs.length bl.cc, .int .i64 q.view, .string q.block, .slice q.va q.votes.length q.vc]
  have hB := belowNew w (.cells [.int .i64 k, .string dg, .int .i64 vi, .int .i64 tg.who, .string tg.mac, .int .i64 ba.author, .int .i64 ba.number, .slice ba.ta ba.txs.length ba.tc, .int .i64 he.author, .int .i64 he.round, .slice he.ra he.refs.length he.rc, .slice he.pa he.parents.length he.pc, .int .i64 ce.hdr.author, .int .i64 ce.hdr.round, .slice ce.hdr.ra ce.hdr.refs.length ce.hdr.rc, .slice ce.hdr.pa ce.hdr.parents.length ce.hdr.pc, .slice ce.va ce.votes.length ce.vc, .int .i64 bl.view, .int .i64 bl.qc.view, .string bl.qc.block, .slice bl.qc.va bl.qc.votes.length bl.qc.vc, .slice bl.ca bl.certs.length bl.cc, .int .i64 q.view, .string q.block, .slice q.va q.votes.length q.vc].toArray 39)
  have hAB := hA.below hB
  have hne : fieldsK k ≠ [] := by rw [hk]; simp
  have cF : ∀ w1, Calls Tryz.prog 43 #[.int .i64 k] w1 fun e w' => e = .returned (.string ⟨#[100, 116]⟩) ∧ Below w1.heap.size w1 w' := fun w1 => by
    have := refFields_any k w1
    unfold fieldsS at this
    rw [hk] at this
    exact this
  have cBare := fun w1 => refBare_any ⟨k, dg, vi, tg, ba, he, ce, bl, q⟩ w1 hne
  have cSame := fun w1 h1 => (sameBare_any ⟨k, dg, vi, tg, ba, he, ce, bl, q⟩ w1 h1 hn).mono (fun e w' h => told_decide h)
  have HK : Hid (¬ fieldsK (MsgM.d ⟨k, dg, vi, tg, ba, he, ce, bl, q⟩).kind = []) := hne
  obtain ⟨br, hbr⟩ : ∃ b : Bool, Hid (b = decide (MsgM.d ⟨k, dg, vi, tg, ba, he, ce, bl, q⟩).Bare) := ⟨_, rfl⟩
  rw [← hbr.out] at cSame
  obtain ⟨bv, hbv⟩ : ∃ v, v = (bareM ⟨k, dg, vi, tg, ba, he, ce, bl, q⟩).v := ⟨_, rfl⟩
  rw [← hbv] at cBare cSame
  clear hbv
  unfold MsgM.v MsgM.c at cBare cSame ⊢
  simp only at cBare cSame ⊢
  obtain ⟨w1, hw1⟩ : ∃ q', w.alloc (.cells [.int .i64 k, .string dg, .int .i64 vi, .int .i64 tg.who, .string tg.mac, .int .i64 ba.author, .int .i64 ba.number, .slice ba.ta ba.txs.length ba.tc, .int .i64 he.author, .int .i64 he.round, .slice he.ra he.refs.length he.rc, .slice he.pa he.parents.length he.pc, .int .i64 ce.hdr.author, .int .i64 ce.hdr.round, .slice ce.hdr.ra ce.hdr.refs.length ce.hdr.rc, .slice ce.hdr.pa ce.hdr.parents.length ce.hdr.pc, .slice ce.va ce.votes.length ce.vc, .int .i64 bl.view, .int .i64 bl.qc.view, .string bl.qc.block, .slice bl.qc.va bl.qc.votes.length bl.qc.vc, .slice bl.ca bl.certs.length bl.cc, .int .i64 q.view, .string q.block, .slice q.va q.votes.length q.vc].toArray 39) = q' := ⟨_, rfl⟩
  rw [hw1] at hX hB hAB
  have x0 := hX.cell (i := 0) rfl
  go_enter Tryz.func24, Tryz.ntmps24
  go_wp2_with fail
  refine (cF _).mono ?_
  rintro e w2 ⟨rfl, hb2⟩
  have hX2 := hX.below hb2 hX.lt
  have hB2 := hB.trans (hb2.mono hB.size)
  have hA2 := hAB.below hb2
  clear hX hB hb2 x0 cF hw1 hA hAB
  have bl' := fun d os => below_regrown w2 d os
  have hLR : ∀ w', (∃ p : Regrown, w' = grow (redrawn w2 p.d) p.os) → w'.heap[w.heap.size]? = some (.cells [.int .i64 k, .string dg, .int .i64 vi, .int .i64 tg.who, .string tg.mac, .int .i64 ba.author, .int .i64 ba.number, .slice ba.ta ba.txs.length ba.tc, .int .i64 he.author, .int .i64 he.round, .slice he.ra he.refs.length he.rc, .slice he.pa he.parents.length he.pc, .int .i64 ce.hdr.author, .int .i64 ce.hdr.round, .slice ce.hdr.ra ce.hdr.refs.length ce.hdr.rc, .slice ce.hdr.pa ce.hdr.parents.length ce.hdr.pc, .slice ce.va ce.votes.length ce.vc, .int .i64 bl.view, .int .i64 bl.qc.view, .string bl.qc.block, .slice bl.qc.va bl.qc.votes.length bl.qc.vc, .slice bl.ca bl.certs.length bl.cc, .int .i64 q.view, .string q.block, .slice q.va q.votes.length q.vc].toArray 39 (0, 0)) := by
    rintro w' ⟨p, rfl⟩
    exact hX2.below (bl' p.d p.os) hX2.lt
  have k1 : ∀ d os, Calls Tryz.prog 45 #[.agg [.int .i64 k, .string dg, .int .i64 vi, .int .i64 tg.who, .string tg.mac, .int .i64 ba.author, .int .i64 ba.number, .slice ba.ta ba.txs.length ba.tc, .int .i64 he.author, .int .i64 he.round, .slice he.ra he.refs.length he.rc, .slice he.pa he.parents.length he.pc, .int .i64 ce.hdr.author, .int .i64 ce.hdr.round, .slice ce.hdr.ra ce.hdr.refs.length ce.hdr.rc, .slice ce.hdr.pa ce.hdr.parents.length ce.hdr.pc, .slice ce.va ce.votes.length ce.vc, .int .i64 bl.view, .int .i64 bl.qc.view, .string bl.qc.block, .slice bl.qc.va bl.qc.votes.length bl.qc.vc, .slice bl.ca bl.certs.length bl.cc, .int .i64 q.view, .string q.block, .slice q.va q.votes.length q.vc].toArray] (grow (redrawn w2 d) os) fun e w'' => e = .returned bv ∧ ∃ p : Regrown, w'' = grow (redrawn w2 p.d) p.os := fun d os => Calls.regrown_of (cBare _)
  have k2 : ∀ d os, Calls Tryz.prog 44 #[.agg [.int .i64 k, .string dg, .int .i64 vi, .int .i64 tg.who, .string tg.mac, .int .i64 ba.author, .int .i64 ba.number, .slice ba.ta ba.txs.length ba.tc, .int .i64 he.author, .int .i64 he.round, .slice he.ra he.refs.length he.rc, .slice he.pa he.parents.length he.pc, .int .i64 ce.hdr.author, .int .i64 ce.hdr.round, .slice ce.hdr.ra ce.hdr.refs.length ce.hdr.rc, .slice ce.hdr.pa ce.hdr.parents.length ce.hdr.pc, .slice ce.va ce.votes.length ce.vc, .int .i64 bl.view, .int .i64 bl.qc.view, .string bl.qc.block, .slice bl.qc.va bl.qc.votes.length bl.qc.vc, .slice bl.ca bl.certs.length bl.cc, .int .i64 q.view, .string q.block, .slice q.va q.votes.length q.vc].toArray, bv] (grow (redrawn w2 d) os) fun e w'' => e = .returned (.bool br) ∧ ∃ p : Regrown, w'' = grow (redrawn w2 p.d) p.os := fun d os => Calls.regrown_of (cSame _ (hA2.below (bl' d os)))
  have HXF : Hid (∀ d os, Arr (grow (redrawn w2 d) os) w.heap.size 39 [.int .i64 k, .string dg, .int .i64 vi, .int .i64 tg.who, .string tg.mac, .int .i64 ba.author, .int .i64 ba.number, .slice ba.ta ba.txs.length ba.tc, .int .i64 he.author, .int .i64 he.round, .slice he.ra he.refs.length he.rc, .slice he.pa he.parents.length he.pc, .int .i64 ce.hdr.author, .int .i64 ce.hdr.round, .slice ce.hdr.ra ce.hdr.refs.length ce.hdr.rc, .slice ce.hdr.pa ce.hdr.parents.length ce.hdr.pc, .slice ce.va ce.votes.length ce.vc, .int .i64 bl.view, .int .i64 bl.qc.view, .string bl.qc.block, .slice bl.qc.va bl.qc.votes.length bl.qc.vc, .slice bl.ca bl.certs.length bl.cc, .int .i64 q.view, .string q.block, .slice q.va q.votes.length q.vc] ∧ Below w.heap.size w (grow (redrawn w2 d) os) ∧ MsgM.At (grow (redrawn w2 d) os) ⟨k, dg, vi, tg, ba, he, ce, bl, q⟩) := fun d os => ⟨hX2.below (bl' d os) hX2.lt, hB2.trans ((bl' d os).mono hB2.size), hA2.below (bl' d os)⟩
  clear cBare cSame bl' hX2 hB2 hA2
  go_wp2_with fail
  refine wp_region_quiet_below (by kernel_rfl) (by kernel_rfl) ?_
  iterate 2
    go_big_quiet_want
    refine quiet_load_row 39 _ (by rfl) w.heap.size (by rfl) 39 _ (0, 0) _ hLR Tryz.underlying39 (by rfl) infoMsg9 ?_
    simp only [Act.put, List.setIfInBounds_toArray, List.set_cons_succ, List.set_cons_zero]
    go_big_quiet_on
  go_big_quiet_step (exact k1 _ _)
  go_big_quiet_step (exact k2 _ _)
  go_big_quiet_step (fail)
  refine wpQuiet_nil ?_
  rintro w' ⟨p, rfl⟩
  obtain ⟨hX, hB, hM⟩ := HXF.out p.d p.os
  generalize grow (redrawn w2 p.d) p.os = w3 at hX hB hM ⊢
  clear k1 k2 HXF hLR p
  cases br
  case false =>
    have ho : Hid (out = 3) := by
      show _ = _
      rw [hout.out]
      unfold chkM
      rw [if_neg HK.out, if_pos]
      exact of_decide_eq_false hbr.out.symm
    clear hout hbr HK hM hX
    go_wp2
    go_ret
    exact ⟨by rw [ho.out]; rfl, hB⟩
  have hbare0 : (MsgM.d ⟨k, dg, vi, tg, ba, he, ce, bl, q⟩).Bare := of_decide_eq_true hbr.out.symm
  have hbare : Hid (MsgM.d ⟨k, dg, vi, tg, ba, he, ce, bl, q⟩).Bare := hbare0
  clear hbr hbare0
  go_wp2_with fail
  refine (gb _).mono ?_
  rintro e w0 ⟨rfl, rfl⟩
  clear gb
  obtain ⟨P, hd⟩ : ∃ P : Prop, Hid (P ↔ MsgD.Ok (MsgM.d ⟨k, dg, vi, tg, ba, he, ce, bl, q⟩)) := ⟨_, Iff.rfl⟩
  have hr : Hid (chkM (MsgM.d ⟨k, dg, vi, tg, ba, he, ce, bl, q⟩) = if okM (MsgM.d ⟨k, dg, vi, tg, ba, he, ce, bl, q⟩) = true then 0 else 3) := by
    show _ = _
    unfold chkM
    rw [if_neg HK.out, if_neg (fun h => h hbare.out), if_neg (by show ¬ (98 : UInt8) ∈ fieldsK k; rw [hk]; decide)]
  have hY : Hid (P → out = 0) := fun h => by rw [hout.out, hr.out, if_pos (okM_iff.2 (hd.out.1 h))]
  have hN : Hid (¬ P → out = 3) := fun h => by rw [hout.out, hr.out, if_neg (fun h' => h (hd.out.2 (okM_iff.1 h')))]
  replace hd : Hid (P ↔ (dg.size = 32 ∧ numOk vi ∧ tagOk tg ∧ he.d.Plain ∧ ce.hdr.d.Plain ∧ tagsOk ce.votes)) := hd.out.trans ⟨fun h => ⟨h.dig (by show (100 : UInt8) ∈ fieldsK k; rw [hk]; decide), h.num, h.tag (by show (116 : UInt8) ∈ fieldsK k; rw [hk]; decide), h.hdr, h.cert.1, h.cert.2⟩, fun h => ⟨(fun _ => h.1), h.2.1, (fun _ => h.2.2.1), h.2.2.2.1, ⟨h.2.2.2.2.1, h.2.2.2.2.2⟩, (fun hc => absurd (hk ▸ hc) (by decide)), (fun hc => absurd (hk ▸ hc) (by decide))⟩⟩
  clear hout hr hbare HK hne
  go_wp2_with fail
  refine (gd _).mono ?_
  rintro e w0 ⟨rfl, rfl⟩
  clear gd
  have x1 := hX.cell (i := 1) rfl
  cases hz : ((dg.size : Int) == 32)
  case false =>
    have ho : Hid (out = 3) := hN.out (fun h => by rw [beq_eq_false_iff_ne] at hz; exact hz (by have := (hd.out.1 h).1; omega))
    clear hd hY hN
    go_wp2
    go_ret
    exact ⟨by rw [ho.out]; rfl, hB⟩
  replace hd : Hid (P ↔ (numOk vi ∧ tagOk tg ∧ he.d.Plain ∧ ce.hdr.d.Plain ∧ tagsOk ce.votes)) := ⟨fun h => (hd.out.1 h).2, fun h => hd.out.2 ⟨by rw [beq_iff_eq] at hz; omega, h⟩⟩
  have x2 := hX.cell (i := 2) rfl
  go_wp2_with fail
  refine (refNumber_any vi _).mono ?_
  rintro e w4 ⟨⟨p, rfl, hp⟩, hb⟩
  have hX2 := hX.below hb hX.lt
  have hB2 := hB.trans (hb.mono hB.size)
  have hM2 := hM.below hb
  clear hX hB hM hb x2 x1 hz
  obtain ⟨hX, hB, hM⟩ := And.intro hX2 (And.intro hB2 hM2)
  clear hX2 hB2 hM2
  cases p
  case false =>
    have ho : Hid (out = 3) := hN.out (fun h => by have := hp.2 (hd.out.1 h).1; cases this)
    clear hd hY hN hp
    go_wp2
    go_ret
    exact ⟨by rw [ho.out]; rfl, hB⟩
  replace hd : Hid (P ↔ (tagOk tg ∧ he.d.Plain ∧ ce.hdr.d.Plain ∧ tagsOk ce.votes)) := ⟨fun h => (hd.out.1 h).2, fun h => hd.out.2 ⟨hp.1 rfl, h⟩⟩
  clear hp
  go_wp2_with fail
  refine (gt _).mono ?_
  rintro e w0 ⟨rfl, rfl⟩
  clear gt
  have x3 := hX.cell (i := 3) rfl
  have x4 := hX.cell (i := 4) rfl
  go_wp2_with fail
  refine (refTag_any tg _).mono ?_
  rintro e w4 ⟨⟨p, rfl, hp⟩, hb⟩
  have hX2 := hX.below hb hX.lt
  have hB2 := hB.trans (hb.mono hB.size)
  have hM2 := hM.below hb
  clear hX hB hM hb x3 x4
  obtain ⟨hX, hB, hM⟩ := And.intro hX2 (And.intro hB2 hM2)
  clear hX2 hB2 hM2
  cases p
  case false =>
    have ho : Hid (out = 3) := hN.out (fun h => by have := hp.2 (hd.out.1 h).1; cases this)
    clear hd hY hN hp
    go_wp2
    go_ret
    exact ⟨by rw [ho.out]; rfl, hB⟩
  replace hd : Hid (P ↔ (he.d.Plain ∧ ce.hdr.d.Plain ∧ tagsOk ce.votes)) := ⟨fun h => (hd.out.1 h).2, fun h => hd.out.2 ⟨hp.1 rfl, h⟩⟩
  clear hp
  have x8 := hX.cell (i := 8) rfl
  have x9 := hX.cell (i := 9) rfl
  have x10 := hX.cell (i := 10) rfl
  have x11 := hX.cell (i := 11) rfl
  go_wp2_with fail
  refine (refHead_any he _ hM.hdr hn.refs hn.ps hn.acks).mono ?_
  rintro e w4 ⟨⟨p, rfl, hp⟩, hb⟩
  have hX2 := hX.below hb hX.lt
  have hB2 := hB.trans (hb.mono hB.size)
  have hM2 := hM.below hb
  clear hX hB hM hb x8 x9 x10 x11
  obtain ⟨hX, hB, hM⟩ := And.intro hX2 (And.intro hB2 hM2)
  clear hX2 hB2 hM2
  cases p
  case false =>
    have ho : Hid (out = 3) := hN.out (fun h => by have := hp.2 (hd.out.1 h).1; cases this)
    clear hd hY hN hp
    go_wp2
    go_ret
    exact ⟨by rw [ho.out]; rfl, hB⟩
  replace hd : Hid (P ↔ (ce.hdr.d.Plain ∧ tagsOk ce.votes)) := ⟨fun h => (hd.out.1 h).2, fun h => hd.out.2 ⟨hp.1 rfl, h⟩⟩
  clear hp
  have x12 := hX.cell (i := 12) rfl
  have x13 := hX.cell (i := 13) rfl
  have x14 := hX.cell (i := 14) rfl
  have x15 := hX.cell (i := 15) rfl
  go_wp2_with fail
  refine (refHead_any ce.hdr _ hM.cert.hdr hn.crefs hn.cps hn.cacks).mono ?_
  rintro e w4 ⟨⟨p, rfl, hp⟩, hb⟩
  have hX2 := hX.below hb hX.lt
  have hB2 := hB.trans (hb.mono hB.size)
  have hM2 := hM.below hb
  clear hX hB hM hb x12 x13 x14 x15
  obtain ⟨hX, hB, hM⟩ := And.intro hX2 (And.intro hB2 hM2)
  clear hX2 hB2 hM2
  cases p
  case false =>
    have ho : Hid (out = 3) := hN.out (fun h => by have := hp.2 (hd.out.1 h).1; cases this)
    clear hd hY hN hp
    go_wp2
    go_ret
    exact ⟨by rw [ho.out]; rfl, hB⟩
  replace hd : Hid (P ↔ (tagsOk ce.votes)) := ⟨fun h => (hd.out.1 h).2, fun h => hd.out.2 ⟨hp.1 rfl, h⟩⟩
  clear hp
  have x16 := hX.cell (i := 16) rfl
  go_wp2_with fail
  refine (refTags9_any ce.va ce.vc ce.votes _ hM.cert.votes hn.votes).mono ?_
  rintro e w4 ⟨⟨p, rfl, hp⟩, hb⟩
  have hX2 := hX.below hb hX.lt
  have hB2 := hB.trans (hb.mono hB.size)
  have hM2 := hM.below hb
  clear hX hB hM hb x16
  obtain ⟨hX, hB, hM⟩ := And.intro hX2 (And.intro hB2 hM2)
  clear hX2 hB2 hM2
  cases p
  case false =>
    have ho : Hid (out = 3) := hN.out (fun h => by have := hp.2 (hd.out.1 h); cases this)
    clear hd hY hN hp
    go_wp2
    go_ret
    exact ⟨by rw [ho.out]; rfl, hB⟩
  have ho : Hid (out = 0) := hY.out (hd.out.2 (hp.1 rfl))
  clear hp hd hY hN
  go_wp2_with fail
  refine (gq _).mono ?_
  rintro e w0 ⟨rfl, rfl⟩
  clear gq
  go_wp2_with fail
  refine (gk _).mono ?_
  rintro e w0 ⟨rfl, rfl⟩
  clear gk
  go_wp2
  go_ret
  exact ⟨by rw [ho.out]; rfl, hB⟩

set_option maxRecDepth 100000 in
set_option maxHeartbeats 16000000 in
theorem refCheck_h (k : Int) (dg : ByteArray) (vi : Int) (tg : TagD) (ba : BatM) (he : HdrM) (ce : CertM) (bl : BlkM) (q : QcM) (w : World) (hA : MsgM.At w ⟨k, dg, vi, tg, ba, he, ce, bl, q⟩) (hn : MsgM.Num ⟨k, dg, vi, tg, ba, he, ce, bl, q⟩) (hS : ∀ t ∈ ba.txs, TxSizes t.d) (hk : fieldsK k = [104]) :
    Calls Tryz.prog 24 #[MsgM.v ⟨k, dg, vi, tg, ba, he, ce, bl, q⟩] w fun e w' => e = .returned (.int .i64 (chkM (MsgM.d ⟨k, dg, vi, tg, ba, he, ce, bl, q⟩) : Int)) ∧ Below w.heap.size w w' := by
  have gb : ∀ w1, Calls Tryz.prog 46 #[.string ⟨#[104]⟩, .int .u8 98] w1 fun e w' => e = .returned (.bool false) ∧ w' = w1 := fun w1 => refHas_any ⟨#[104]⟩ 98 w1 (by decide)
  have gd : ∀ w1, Calls Tryz.prog 46 #[.string ⟨#[104]⟩, .int .u8 100] w1 fun e w' => e = .returned (.bool false) ∧ w' = w1 := fun w1 => refHas_any ⟨#[104]⟩ 100 w1 (by decide)
  have gt : ∀ w1, Calls Tryz.prog 46 #[.string ⟨#[104]⟩, .int .u8 116] w1 fun e w' => e = .returned (.bool false) ∧ w' = w1 := fun w1 => refHas_any ⟨#[104]⟩ 116 w1 (by decide)
  have gq : ∀ w1, Calls Tryz.prog 46 #[.string ⟨#[104]⟩, .int .u8 113] w1 fun e w' => e = .returned (.bool false) ∧ w' = w1 := fun w1 => refHas_any ⟨#[104]⟩ 113 w1 (by decide)
  have gk : ∀ w1, Calls Tryz.prog 46 #[.string ⟨#[104]⟩, .int .u8 107] w1 fun e w' => e = .returned (.bool false) ∧ w' = w1 := fun w1 => refHas_any ⟨#[104]⟩ 107 w1 (by decide)
  obtain ⟨out, hout⟩ : ∃ n : Nat, Hid (n = chkM (MsgM.d ⟨k, dg, vi, tg, ba, he, ce, bl, q⟩)) := ⟨_, rfl⟩
  rw [← hout.out]
  have hX := Arr.new w 39 [.int .i64 k, .string dg, .int .i64 vi, .int .i64 tg.who, .string tg.mac, .int .i64 ba.author, .int .i64 ba.number, .slice ba.ta ba.txs.length ba.tc, .int .i64 he.author, .int .i64 he.round, .slice he.ra he.refs.length he.rc, .slice he.pa he.parents.length he.pc, .int .i64 ce.hdr.author, .int .i64 ce.hdr.round, .slice ce.hdr.ra ce.hdr.refs.length ce.hdr.rc, .slice ce.hdr.pa ce.hdr.parents.length ce.hdr.pc, .slice ce.va ce.votes.length ce.vc, .int .i64 bl.view, .int .i64 bl.qc.view, .string bl.qc.block, .slice bl.qc.va bl.qc.votes.length bl.qc.vc, .slice bl.ca bl.certs.length bl.cc, .int .i64 q.view, .string q.block, .slice q.va q.votes.length q.vc]
  have hB := belowNew w (.cells [.int .i64 k, .string dg, .int .i64 vi, .int .i64 tg.who, .string tg.mac, .int .i64 ba.author, .int .i64 ba.number, .slice ba.ta ba.txs.length ba.tc, .int .i64 he.author, .int .i64 he.round, .slice he.ra he.refs.length he.rc, .slice he.pa he.parents.length he.pc, .int .i64 ce.hdr.author, .int .i64 ce.hdr.round, .slice ce.hdr.ra ce.hdr.refs.length ce.hdr.rc, .slice ce.hdr.pa ce.hdr.parents.length ce.hdr.pc, .slice ce.va ce.votes.length ce.vc, .int .i64 bl.view, .int .i64 bl.qc.view, .string bl.qc.block, .slice bl.qc.va bl.qc.votes.length bl.qc.vc, .slice bl.ca bl.certs.length bl.cc, .int .i64 q.view, .string q.block, .slice q.va q.votes.length q.vc].toArray 39)
  have hAB := hA.below hB
  have hne : fieldsK k ≠ [] := by rw [hk]; simp
  have cF : ∀ w1, Calls Tryz.prog 43 #[.int .i64 k] w1 fun e w' => e = .returned (.string ⟨#[104]⟩) ∧ Below w1.heap.size w1 w' := fun w1 => by
    have := refFields_any k w1
    unfold fieldsS at this
    rw [hk] at this
    exact this
  have cBare := fun w1 => refBare_any ⟨k, dg, vi, tg, ba, he, ce, bl, q⟩ w1 hne
  have cSame := fun w1 h1 => (sameBare_any ⟨k, dg, vi, tg, ba, he, ce, bl, q⟩ w1 h1 hn).mono (fun e w' h => told_decide h)
  have HK : Hid (¬ fieldsK (MsgM.d ⟨k, dg, vi, tg, ba, he, ce, bl, q⟩).kind = []) := hne
  obtain ⟨br, hbr⟩ : ∃ b : Bool, Hid (b = decide (MsgM.d ⟨k, dg, vi, tg, ba, he, ce, bl, q⟩).Bare) := ⟨_, rfl⟩
  rw [← hbr.out] at cSame
  obtain ⟨bv, hbv⟩ : ∃ v, v = (bareM ⟨k, dg, vi, tg, ba, he, ce, bl, q⟩).v := ⟨_, rfl⟩
  rw [← hbv] at cBare cSame
  clear hbv
  unfold MsgM.v MsgM.c at cBare cSame ⊢
  simp only at cBare cSame ⊢
  obtain ⟨w1, hw1⟩ : ∃ q', w.alloc (.cells [.int .i64 k, .string dg, .int .i64 vi, .int .i64 tg.who, .string tg.mac, .int .i64 ba.author, .int .i64 ba.number, .slice ba.ta ba.txs.length ba.tc, .int .i64 he.author, .int .i64 he.round, .slice he.ra he.refs.length he.rc, .slice he.pa he.parents.length he.pc, .int .i64 ce.hdr.author, .int .i64 ce.hdr.round, .slice ce.hdr.ra ce.hdr.refs.length ce.hdr.rc, .slice ce.hdr.pa ce.hdr.parents.length ce.hdr.pc, .slice ce.va ce.votes.length ce.vc, .int .i64 bl.view, .int .i64 bl.qc.view, .string bl.qc.block, .slice bl.qc.va bl.qc.votes.length bl.qc.vc, .slice bl.ca bl.certs.length bl.cc, .int .i64 q.view, .string q.block, .slice q.va q.votes.length q.vc].toArray 39) = q' := ⟨_, rfl⟩
  rw [hw1] at hX hB hAB
  have x0 := hX.cell (i := 0) rfl
  go_enter Tryz.func24, Tryz.ntmps24
  go_wp2_with fail
  refine (cF _).mono ?_
  rintro e w2 ⟨rfl, hb2⟩
  have hX2 := hX.below hb2 hX.lt
  have hB2 := hB.trans (hb2.mono hB.size)
  have hA2 := hAB.below hb2
  clear hX hB hb2 x0 cF hw1 hA hAB
  have bl' := fun d os => below_regrown w2 d os
  have hLR : ∀ w', (∃ p : Regrown, w' = grow (redrawn w2 p.d) p.os) → w'.heap[w.heap.size]? = some (.cells [.int .i64 k, .string dg, .int .i64 vi, .int .i64 tg.who, .string tg.mac, .int .i64 ba.author, .int .i64 ba.number, .slice ba.ta ba.txs.length ba.tc, .int .i64 he.author, .int .i64 he.round, .slice he.ra he.refs.length he.rc, .slice he.pa he.parents.length he.pc, .int .i64 ce.hdr.author, .int .i64 ce.hdr.round, .slice ce.hdr.ra ce.hdr.refs.length ce.hdr.rc, .slice ce.hdr.pa ce.hdr.parents.length ce.hdr.pc, .slice ce.va ce.votes.length ce.vc, .int .i64 bl.view, .int .i64 bl.qc.view, .string bl.qc.block, .slice bl.qc.va bl.qc.votes.length bl.qc.vc, .slice bl.ca bl.certs.length bl.cc, .int .i64 q.view, .string q.block, .slice q.va q.votes.length q.vc].toArray 39 (0, 0)) := by
    rintro w' ⟨p, rfl⟩
    exact hX2.below (bl' p.d p.os) hX2.lt
  have k1 : ∀ d os, Calls Tryz.prog 45 #[.agg [.int .i64 k, .string dg, .int .i64 vi, .int .i64 tg.who, .string tg.mac, .int .i64 ba.author, .int .i64 ba.number, .slice ba.ta ba.txs.length ba.tc, .int .i64 he.author, .int .i64 he.round, .slice he.ra he.refs.length he.rc, .slice he.pa he.parents.length he.pc, .int .i64 ce.hdr.author, .int .i64 ce.hdr.round, .slice ce.hdr.ra ce.hdr.refs.length ce.hdr.rc, .slice ce.hdr.pa ce.hdr.parents.length ce.hdr.pc, .slice ce.va ce.votes.length ce.vc, .int .i64 bl.view, .int .i64 bl.qc.view, .string bl.qc.block, .slice bl.qc.va bl.qc.votes.length bl.qc.vc, .slice bl.ca bl.certs.length bl.cc, .int .i64 q.view, .string q.block, .slice q.va q.votes.length q.vc].toArray] (grow (redrawn w2 d) os) fun e w'' => e = .returned bv ∧ ∃ p : Regrown, w'' = grow (redrawn w2 p.d) p.os := fun d os => Calls.regrown_of (cBare _)
  have k2 : ∀ d os, Calls Tryz.prog 44 #[.agg [.int .i64 k, .string dg, .int .i64 vi, .int .i64 tg.who, .string tg.mac, .int .i64 ba.author, .int .i64 ba.number, .slice ba.ta ba.txs.length ba.tc, .int .i64 he.author, .int .i64 he.round, .slice he.ra he.refs.length he.rc, .slice he.pa he.parents.length he.pc, .int .i64 ce.hdr.author, .int .i64 ce.hdr.round, .slice ce.hdr.ra ce.hdr.refs.length ce.hdr.rc, .slice ce.hdr.pa ce.hdr.parents.length ce.hdr.pc, .slice ce.va ce.votes.length ce.vc, .int .i64 bl.view, .int .i64 bl.qc.view, .string bl.qc.block, .slice bl.qc.va bl.qc.votes.length bl.qc.vc, .slice bl.ca bl.certs.length bl.cc, .int .i64 q.view, .string q.block, .slice q.va q.votes.length q.vc].toArray, bv] (grow (redrawn w2 d) os) fun e w'' => e = .returned (.bool br) ∧ ∃ p : Regrown, w'' = grow (redrawn w2 p.d) p.os := fun d os => Calls.regrown_of (cSame _ (hA2.below (bl' d os)))
  have HXF : Hid (∀ d os, Arr (grow (redrawn w2 d) os) w.heap.size 39 [.int .i64 k, .string dg, .int .i64 vi, .int .i64 tg.who, .string tg.mac, .int .i64 ba.author, .int .i64 ba.number, .slice ba.ta ba.txs.length ba.tc, .int .i64 he.author, .int .i64 he.round, .slice he.ra he.refs.length he.rc, .slice he.pa he.parents.length he.pc, .int .i64 ce.hdr.author, .int .i64 ce.hdr.round, .slice ce.hdr.ra ce.hdr.refs.length ce.hdr.rc, .slice ce.hdr.pa ce.hdr.parents.length ce.hdr.pc, .slice ce.va ce.votes.length ce.vc, .int .i64 bl.view, .int .i64 bl.qc.view, .string bl.qc.block, .slice bl.qc.va bl.qc.votes.length bl.qc.vc, .slice bl.ca bl.certs.length bl.cc, .int .i64 q.view, .string q.block, .slice q.va q.votes.length q.vc] ∧ Below w.heap.size w (grow (redrawn w2 d) os) ∧ MsgM.At (grow (redrawn w2 d) os) ⟨k, dg, vi, tg, ba, he, ce, bl, q⟩) := fun d os => ⟨hX2.below (bl' d os) hX2.lt, hB2.trans ((bl' d os).mono hB2.size), hA2.below (bl' d os)⟩
  clear cBare cSame bl' hX2 hB2 hA2
  go_wp2_with fail
  refine wp_region_quiet_below (by kernel_rfl) (by kernel_rfl) ?_
  iterate 2
    go_big_quiet_want
    refine quiet_load_row 39 _ (by rfl) w.heap.size (by rfl) 39 _ (0, 0) _ hLR Tryz.underlying39 (by rfl) infoMsg9 ?_
    simp only [Act.put, List.setIfInBounds_toArray, List.set_cons_succ, List.set_cons_zero]
    go_big_quiet_on
  go_big_quiet_step (exact k1 _ _)
  go_big_quiet_step (exact k2 _ _)
  go_big_quiet_step (fail)
  refine wpQuiet_nil ?_
  rintro w' ⟨p, rfl⟩
  obtain ⟨hX, hB, hM⟩ := HXF.out p.d p.os
  generalize grow (redrawn w2 p.d) p.os = w3 at hX hB hM ⊢
  clear k1 k2 HXF hLR p
  cases br
  case false =>
    have ho : Hid (out = 3) := by
      show _ = _
      rw [hout.out]
      unfold chkM
      rw [if_neg HK.out, if_pos]
      exact of_decide_eq_false hbr.out.symm
    clear hout hbr HK hM hX
    go_wp2
    go_ret
    exact ⟨by rw [ho.out]; rfl, hB⟩
  have hbare0 : (MsgM.d ⟨k, dg, vi, tg, ba, he, ce, bl, q⟩).Bare := of_decide_eq_true hbr.out.symm
  have hbare : Hid (MsgM.d ⟨k, dg, vi, tg, ba, he, ce, bl, q⟩).Bare := hbare0
  clear hbr hbare0
  go_wp2_with fail
  refine (gb _).mono ?_
  rintro e w0 ⟨rfl, rfl⟩
  clear gb
  obtain ⟨P, hd⟩ : ∃ P : Prop, Hid (P ↔ MsgD.Ok (MsgM.d ⟨k, dg, vi, tg, ba, he, ce, bl, q⟩)) := ⟨_, Iff.rfl⟩
  have hr : Hid (chkM (MsgM.d ⟨k, dg, vi, tg, ba, he, ce, bl, q⟩) = if okM (MsgM.d ⟨k, dg, vi, tg, ba, he, ce, bl, q⟩) = true then 0 else 3) := by
    show _ = _
    unfold chkM
    rw [if_neg HK.out, if_neg (fun h => h hbare.out), if_neg (by show ¬ (98 : UInt8) ∈ fieldsK k; rw [hk]; decide)]
  have hY : Hid (P → out = 0) := fun h => by rw [hout.out, hr.out, if_pos (okM_iff.2 (hd.out.1 h))]
  have hN : Hid (¬ P → out = 3) := fun h => by rw [hout.out, hr.out, if_neg (fun h' => h (hd.out.2 (okM_iff.1 h')))]
  replace hd : Hid (P ↔ (numOk vi ∧ he.d.Plain ∧ ce.hdr.d.Plain ∧ tagsOk ce.votes)) := hd.out.trans ⟨fun h => ⟨h.num, h.hdr, h.cert.1, h.cert.2⟩, fun h => ⟨(fun hc => absurd (hk ▸ hc) (by decide)), h.1, (fun hc => absurd (hk ▸ hc) (by decide)), h.2.1, ⟨h.2.2.1, h.2.2.2⟩, (fun hc => absurd (hk ▸ hc) (by decide)), (fun hc => absurd (hk ▸ hc) (by decide))⟩⟩
  clear hout hr hbare HK hne
  go_wp2_with fail
  refine (gd _).mono ?_
  rintro e w0 ⟨rfl, rfl⟩
  clear gd
  have x2 := hX.cell (i := 2) rfl
  go_wp2_with fail
  refine (refNumber_any vi _).mono ?_
  rintro e w4 ⟨⟨p, rfl, hp⟩, hb⟩
  have hX2 := hX.below hb hX.lt
  have hB2 := hB.trans (hb.mono hB.size)
  have hM2 := hM.below hb
  clear hX hB hM hb x2
  obtain ⟨hX, hB, hM⟩ := And.intro hX2 (And.intro hB2 hM2)
  clear hX2 hB2 hM2
  cases p
  case false =>
    have ho : Hid (out = 3) := hN.out (fun h => by have := hp.2 (hd.out.1 h).1; cases this)
    clear hd hY hN hp
    go_wp2
    go_ret
    exact ⟨by rw [ho.out]; rfl, hB⟩
  replace hd : Hid (P ↔ (he.d.Plain ∧ ce.hdr.d.Plain ∧ tagsOk ce.votes)) := ⟨fun h => (hd.out.1 h).2, fun h => hd.out.2 ⟨hp.1 rfl, h⟩⟩
  clear hp
  go_wp2_with fail
  refine (gt _).mono ?_
  rintro e w0 ⟨rfl, rfl⟩
  clear gt
  have x8 := hX.cell (i := 8) rfl
  have x9 := hX.cell (i := 9) rfl
  have x10 := hX.cell (i := 10) rfl
  have x11 := hX.cell (i := 11) rfl
  go_wp2_with fail
  refine (refHead_any he _ hM.hdr hn.refs hn.ps hn.acks).mono ?_
  rintro e w4 ⟨⟨p, rfl, hp⟩, hb⟩
  have hX2 := hX.below hb hX.lt
  have hB2 := hB.trans (hb.mono hB.size)
  have hM2 := hM.below hb
  clear hX hB hM hb x8 x9 x10 x11
  obtain ⟨hX, hB, hM⟩ := And.intro hX2 (And.intro hB2 hM2)
  clear hX2 hB2 hM2
  cases p
  case false =>
    have ho : Hid (out = 3) := hN.out (fun h => by have := hp.2 (hd.out.1 h).1; cases this)
    clear hd hY hN hp
    go_wp2
    go_ret
    exact ⟨by rw [ho.out]; rfl, hB⟩
  replace hd : Hid (P ↔ (ce.hdr.d.Plain ∧ tagsOk ce.votes)) := ⟨fun h => (hd.out.1 h).2, fun h => hd.out.2 ⟨hp.1 rfl, h⟩⟩
  clear hp
  have x12 := hX.cell (i := 12) rfl
  have x13 := hX.cell (i := 13) rfl
  have x14 := hX.cell (i := 14) rfl
  have x15 := hX.cell (i := 15) rfl
  go_wp2_with fail
  refine (refHead_any ce.hdr _ hM.cert.hdr hn.crefs hn.cps hn.cacks).mono ?_
  rintro e w4 ⟨⟨p, rfl, hp⟩, hb⟩
  have hX2 := hX.below hb hX.lt
  have hB2 := hB.trans (hb.mono hB.size)
  have hM2 := hM.below hb
  clear hX hB hM hb x12 x13 x14 x15
  obtain ⟨hX, hB, hM⟩ := And.intro hX2 (And.intro hB2 hM2)
  clear hX2 hB2 hM2
  cases p
  case false =>
    have ho : Hid (out = 3) := hN.out (fun h => by have := hp.2 (hd.out.1 h).1; cases this)
    clear hd hY hN hp
    go_wp2
    go_ret
    exact ⟨by rw [ho.out]; rfl, hB⟩
  replace hd : Hid (P ↔ (tagsOk ce.votes)) := ⟨fun h => (hd.out.1 h).2, fun h => hd.out.2 ⟨hp.1 rfl, h⟩⟩
  clear hp
  have x16 := hX.cell (i := 16) rfl
  go_wp2_with fail
  refine (refTags9_any ce.va ce.vc ce.votes _ hM.cert.votes hn.votes).mono ?_
  rintro e w4 ⟨⟨p, rfl, hp⟩, hb⟩
  have hX2 := hX.below hb hX.lt
  have hB2 := hB.trans (hb.mono hB.size)
  have hM2 := hM.below hb
  clear hX hB hM hb x16
  obtain ⟨hX, hB, hM⟩ := And.intro hX2 (And.intro hB2 hM2)
  clear hX2 hB2 hM2
  cases p
  case false =>
    have ho : Hid (out = 3) := hN.out (fun h => by have := hp.2 (hd.out.1 h); cases this)
    clear hd hY hN hp
    go_wp2
    go_ret
    exact ⟨by rw [ho.out]; rfl, hB⟩
  have ho : Hid (out = 0) := hY.out (hd.out.2 (hp.1 rfl))
  clear hp hd hY hN
  go_wp2_with fail
  refine (gq _).mono ?_
  rintro e w0 ⟨rfl, rfl⟩
  clear gq
  go_wp2_with fail
  refine (gk _).mono ?_
  rintro e w0 ⟨rfl, rfl⟩
  clear gk
  go_wp2
  go_ret
  exact ⟨by rw [ho.out]; rfl, hB⟩

set_option maxRecDepth 100000 in
set_option maxHeartbeats 16000000 in
theorem refCheck_c (k : Int) (dg : ByteArray) (vi : Int) (tg : TagD) (ba : BatM) (he : HdrM) (ce : CertM) (bl : BlkM) (q : QcM) (w : World) (hA : MsgM.At w ⟨k, dg, vi, tg, ba, he, ce, bl, q⟩) (hn : MsgM.Num ⟨k, dg, vi, tg, ba, he, ce, bl, q⟩) (hS : ∀ t ∈ ba.txs, TxSizes t.d) (hk : fieldsK k = [99]) :
    Calls Tryz.prog 24 #[MsgM.v ⟨k, dg, vi, tg, ba, he, ce, bl, q⟩] w fun e w' => e = .returned (.int .i64 (chkM (MsgM.d ⟨k, dg, vi, tg, ba, he, ce, bl, q⟩) : Int)) ∧ Below w.heap.size w w' := by
  have gb : ∀ w1, Calls Tryz.prog 46 #[.string ⟨#[99]⟩, .int .u8 98] w1 fun e w' => e = .returned (.bool false) ∧ w' = w1 := fun w1 => refHas_any ⟨#[99]⟩ 98 w1 (by decide)
  have gd : ∀ w1, Calls Tryz.prog 46 #[.string ⟨#[99]⟩, .int .u8 100] w1 fun e w' => e = .returned (.bool false) ∧ w' = w1 := fun w1 => refHas_any ⟨#[99]⟩ 100 w1 (by decide)
  have gt : ∀ w1, Calls Tryz.prog 46 #[.string ⟨#[99]⟩, .int .u8 116] w1 fun e w' => e = .returned (.bool false) ∧ w' = w1 := fun w1 => refHas_any ⟨#[99]⟩ 116 w1 (by decide)
  have gq : ∀ w1, Calls Tryz.prog 46 #[.string ⟨#[99]⟩, .int .u8 113] w1 fun e w' => e = .returned (.bool false) ∧ w' = w1 := fun w1 => refHas_any ⟨#[99]⟩ 113 w1 (by decide)
  have gk : ∀ w1, Calls Tryz.prog 46 #[.string ⟨#[99]⟩, .int .u8 107] w1 fun e w' => e = .returned (.bool false) ∧ w' = w1 := fun w1 => refHas_any ⟨#[99]⟩ 107 w1 (by decide)
  obtain ⟨out, hout⟩ : ∃ n : Nat, Hid (n = chkM (MsgM.d ⟨k, dg, vi, tg, ba, he, ce, bl, q⟩)) := ⟨_, rfl⟩
  rw [← hout.out]
  have hX := Arr.new w 39 [.int .i64 k, .string dg, .int .i64 vi, .int .i64 tg.who, .string tg.mac, .int .i64 ba.author, .int .i64 ba.number, .slice ba.ta ba.txs.length ba.tc, .int .i64 he.author, .int .i64 he.round, .slice he.ra he.refs.length he.rc, .slice he.pa he.parents.length he.pc, .int .i64 ce.hdr.author, .int .i64 ce.hdr.round, .slice ce.hdr.ra ce.hdr.refs.length ce.hdr.rc, .slice ce.hdr.pa ce.hdr.parents.length ce.hdr.pc, .slice ce.va ce.votes.length ce.vc, .int .i64 bl.view, .int .i64 bl.qc.view, .string bl.qc.block, .slice bl.qc.va bl.qc.votes.length bl.qc.vc, .slice bl.ca bl.certs.length bl.cc, .int .i64 q.view, .string q.block, .slice q.va q.votes.length q.vc]
  have hB := belowNew w (.cells [.int .i64 k, .string dg, .int .i64 vi, .int .i64 tg.who, .string tg.mac, .int .i64 ba.author, .int .i64 ba.number, .slice ba.ta ba.txs.length ba.tc, .int .i64 he.author, .int .i64 he.round, .slice he.ra he.refs.length he.rc, .slice he.pa he.parents.length he.pc, .int .i64 ce.hdr.author, .int .i64 ce.hdr.round, .slice ce.hdr.ra ce.hdr.refs.length ce.hdr.rc, .slice ce.hdr.pa ce.hdr.parents.length ce.hdr.pc, .slice ce.va ce.votes.length ce.vc, .int .i64 bl.view, .int .i64 bl.qc.view, .string bl.qc.block, .slice bl.qc.va bl.qc.votes.length bl.qc.vc, .slice bl.ca bl.certs.length bl.cc, .int .i64 q.view, .string q.block, .slice q.va q.votes.length q.vc].toArray 39)
  have hAB := hA.below hB
  have hne : fieldsK k ≠ [] := by rw [hk]; simp
  have cF : ∀ w1, Calls Tryz.prog 43 #[.int .i64 k] w1 fun e w' => e = .returned (.string ⟨#[99]⟩) ∧ Below w1.heap.size w1 w' := fun w1 => by
    have := refFields_any k w1
    unfold fieldsS at this
    rw [hk] at this
    exact this
  have cBare := fun w1 => refBare_any ⟨k, dg, vi, tg, ba, he, ce, bl, q⟩ w1 hne
  have cSame := fun w1 h1 => (sameBare_any ⟨k, dg, vi, tg, ba, he, ce, bl, q⟩ w1 h1 hn).mono (fun e w' h => told_decide h)
  have HK : Hid (¬ fieldsK (MsgM.d ⟨k, dg, vi, tg, ba, he, ce, bl, q⟩).kind = []) := hne
  obtain ⟨br, hbr⟩ : ∃ b : Bool, Hid (b = decide (MsgM.d ⟨k, dg, vi, tg, ba, he, ce, bl, q⟩).Bare) := ⟨_, rfl⟩
  rw [← hbr.out] at cSame
  obtain ⟨bv, hbv⟩ : ∃ v, v = (bareM ⟨k, dg, vi, tg, ba, he, ce, bl, q⟩).v := ⟨_, rfl⟩
  rw [← hbv] at cBare cSame
  clear hbv
  unfold MsgM.v MsgM.c at cBare cSame ⊢
  simp only at cBare cSame ⊢
  obtain ⟨w1, hw1⟩ : ∃ q', w.alloc (.cells [.int .i64 k, .string dg, .int .i64 vi, .int .i64 tg.who, .string tg.mac, .int .i64 ba.author, .int .i64 ba.number, .slice ba.ta ba.txs.length ba.tc, .int .i64 he.author, .int .i64 he.round, .slice he.ra he.refs.length he.rc, .slice he.pa he.parents.length he.pc, .int .i64 ce.hdr.author, .int .i64 ce.hdr.round, .slice ce.hdr.ra ce.hdr.refs.length ce.hdr.rc, .slice ce.hdr.pa ce.hdr.parents.length ce.hdr.pc, .slice ce.va ce.votes.length ce.vc, .int .i64 bl.view, .int .i64 bl.qc.view, .string bl.qc.block, .slice bl.qc.va bl.qc.votes.length bl.qc.vc, .slice bl.ca bl.certs.length bl.cc, .int .i64 q.view, .string q.block, .slice q.va q.votes.length q.vc].toArray 39) = q' := ⟨_, rfl⟩
  rw [hw1] at hX hB hAB
  have x0 := hX.cell (i := 0) rfl
  go_enter Tryz.func24, Tryz.ntmps24
  go_wp2_with fail
  refine (cF _).mono ?_
  rintro e w2 ⟨rfl, hb2⟩
  have hX2 := hX.below hb2 hX.lt
  have hB2 := hB.trans (hb2.mono hB.size)
  have hA2 := hAB.below hb2
  clear hX hB hb2 x0 cF hw1 hA hAB
  have bl' := fun d os => below_regrown w2 d os
  have hLR : ∀ w', (∃ p : Regrown, w' = grow (redrawn w2 p.d) p.os) → w'.heap[w.heap.size]? = some (.cells [.int .i64 k, .string dg, .int .i64 vi, .int .i64 tg.who, .string tg.mac, .int .i64 ba.author, .int .i64 ba.number, .slice ba.ta ba.txs.length ba.tc, .int .i64 he.author, .int .i64 he.round, .slice he.ra he.refs.length he.rc, .slice he.pa he.parents.length he.pc, .int .i64 ce.hdr.author, .int .i64 ce.hdr.round, .slice ce.hdr.ra ce.hdr.refs.length ce.hdr.rc, .slice ce.hdr.pa ce.hdr.parents.length ce.hdr.pc, .slice ce.va ce.votes.length ce.vc, .int .i64 bl.view, .int .i64 bl.qc.view, .string bl.qc.block, .slice bl.qc.va bl.qc.votes.length bl.qc.vc, .slice bl.ca bl.certs.length bl.cc, .int .i64 q.view, .string q.block, .slice q.va q.votes.length q.vc].toArray 39 (0, 0)) := by
    rintro w' ⟨p, rfl⟩
    exact hX2.below (bl' p.d p.os) hX2.lt
  have k1 : ∀ d os, Calls Tryz.prog 45 #[.agg [.int .i64 k, .string dg, .int .i64 vi, .int .i64 tg.who, .string tg.mac, .int .i64 ba.author, .int .i64 ba.number, .slice ba.ta ba.txs.length ba.tc, .int .i64 he.author, .int .i64 he.round, .slice he.ra he.refs.length he.rc, .slice he.pa he.parents.length he.pc, .int .i64 ce.hdr.author, .int .i64 ce.hdr.round, .slice ce.hdr.ra ce.hdr.refs.length ce.hdr.rc, .slice ce.hdr.pa ce.hdr.parents.length ce.hdr.pc, .slice ce.va ce.votes.length ce.vc, .int .i64 bl.view, .int .i64 bl.qc.view, .string bl.qc.block, .slice bl.qc.va bl.qc.votes.length bl.qc.vc, .slice bl.ca bl.certs.length bl.cc, .int .i64 q.view, .string q.block, .slice q.va q.votes.length q.vc].toArray] (grow (redrawn w2 d) os) fun e w'' => e = .returned bv ∧ ∃ p : Regrown, w'' = grow (redrawn w2 p.d) p.os := fun d os => Calls.regrown_of (cBare _)
  have k2 : ∀ d os, Calls Tryz.prog 44 #[.agg [.int .i64 k, .string dg, .int .i64 vi, .int .i64 tg.who, .string tg.mac, .int .i64 ba.author, .int .i64 ba.number, .slice ba.ta ba.txs.length ba.tc, .int .i64 he.author, .int .i64 he.round, .slice he.ra he.refs.length he.rc, .slice he.pa he.parents.length he.pc, .int .i64 ce.hdr.author, .int .i64 ce.hdr.round, .slice ce.hdr.ra ce.hdr.refs.length ce.hdr.rc, .slice ce.hdr.pa ce.hdr.parents.length ce.hdr.pc, .slice ce.va ce.votes.length ce.vc, .int .i64 bl.view, .int .i64 bl.qc.view, .string bl.qc.block, .slice bl.qc.va bl.qc.votes.length bl.qc.vc, .slice bl.ca bl.certs.length bl.cc, .int .i64 q.view, .string q.block, .slice q.va q.votes.length q.vc].toArray, bv] (grow (redrawn w2 d) os) fun e w'' => e = .returned (.bool br) ∧ ∃ p : Regrown, w'' = grow (redrawn w2 p.d) p.os := fun d os => Calls.regrown_of (cSame _ (hA2.below (bl' d os)))
  have HXF : Hid (∀ d os, Arr (grow (redrawn w2 d) os) w.heap.size 39 [.int .i64 k, .string dg, .int .i64 vi, .int .i64 tg.who, .string tg.mac, .int .i64 ba.author, .int .i64 ba.number, .slice ba.ta ba.txs.length ba.tc, .int .i64 he.author, .int .i64 he.round, .slice he.ra he.refs.length he.rc, .slice he.pa he.parents.length he.pc, .int .i64 ce.hdr.author, .int .i64 ce.hdr.round, .slice ce.hdr.ra ce.hdr.refs.length ce.hdr.rc, .slice ce.hdr.pa ce.hdr.parents.length ce.hdr.pc, .slice ce.va ce.votes.length ce.vc, .int .i64 bl.view, .int .i64 bl.qc.view, .string bl.qc.block, .slice bl.qc.va bl.qc.votes.length bl.qc.vc, .slice bl.ca bl.certs.length bl.cc, .int .i64 q.view, .string q.block, .slice q.va q.votes.length q.vc] ∧ Below w.heap.size w (grow (redrawn w2 d) os) ∧ MsgM.At (grow (redrawn w2 d) os) ⟨k, dg, vi, tg, ba, he, ce, bl, q⟩) := fun d os => ⟨hX2.below (bl' d os) hX2.lt, hB2.trans ((bl' d os).mono hB2.size), hA2.below (bl' d os)⟩
  clear cBare cSame bl' hX2 hB2 hA2
  go_wp2_with fail
  refine wp_region_quiet_below (by kernel_rfl) (by kernel_rfl) ?_
  iterate 2
    go_big_quiet_want
    refine quiet_load_row 39 _ (by rfl) w.heap.size (by rfl) 39 _ (0, 0) _ hLR Tryz.underlying39 (by rfl) infoMsg9 ?_
    simp only [Act.put, List.setIfInBounds_toArray, List.set_cons_succ, List.set_cons_zero]
    go_big_quiet_on
  go_big_quiet_step (exact k1 _ _)
  go_big_quiet_step (exact k2 _ _)
  go_big_quiet_step (fail)
  refine wpQuiet_nil ?_
  rintro w' ⟨p, rfl⟩
  obtain ⟨hX, hB, hM⟩ := HXF.out p.d p.os
  generalize grow (redrawn w2 p.d) p.os = w3 at hX hB hM ⊢
  clear k1 k2 HXF hLR p
  cases br
  case false =>
    have ho : Hid (out = 3) := by
      show _ = _
      rw [hout.out]
      unfold chkM
      rw [if_neg HK.out, if_pos]
      exact of_decide_eq_false hbr.out.symm
    clear hout hbr HK hM hX
    go_wp2
    go_ret
    exact ⟨by rw [ho.out]; rfl, hB⟩
  have hbare0 : (MsgM.d ⟨k, dg, vi, tg, ba, he, ce, bl, q⟩).Bare := of_decide_eq_true hbr.out.symm
  have hbare : Hid (MsgM.d ⟨k, dg, vi, tg, ba, he, ce, bl, q⟩).Bare := hbare0
  clear hbr hbare0
  go_wp2_with fail
  refine (gb _).mono ?_
  rintro e w0 ⟨rfl, rfl⟩
  clear gb
  obtain ⟨P, hd⟩ : ∃ P : Prop, Hid (P ↔ MsgD.Ok (MsgM.d ⟨k, dg, vi, tg, ba, he, ce, bl, q⟩)) := ⟨_, Iff.rfl⟩
  have hr : Hid (chkM (MsgM.d ⟨k, dg, vi, tg, ba, he, ce, bl, q⟩) = if okM (MsgM.d ⟨k, dg, vi, tg, ba, he, ce, bl, q⟩) = true then 0 else 3) := by
    show _ = _
    unfold chkM
    rw [if_neg HK.out, if_neg (fun h => h hbare.out), if_neg (by show ¬ (98 : UInt8) ∈ fieldsK k; rw [hk]; decide)]
  have hY : Hid (P → out = 0) := fun h => by rw [hout.out, hr.out, if_pos (okM_iff.2 (hd.out.1 h))]
  have hN : Hid (¬ P → out = 3) := fun h => by rw [hout.out, hr.out, if_neg (fun h' => h (hd.out.2 (okM_iff.1 h')))]
  replace hd : Hid (P ↔ (numOk vi ∧ he.d.Plain ∧ ce.hdr.d.Plain ∧ tagsOk ce.votes)) := hd.out.trans ⟨fun h => ⟨h.num, h.hdr, h.cert.1, h.cert.2⟩, fun h => ⟨(fun hc => absurd (hk ▸ hc) (by decide)), h.1, (fun hc => absurd (hk ▸ hc) (by decide)), h.2.1, ⟨h.2.2.1, h.2.2.2⟩, (fun hc => absurd (hk ▸ hc) (by decide)), (fun hc => absurd (hk ▸ hc) (by decide))⟩⟩
  clear hout hr hbare HK hne
  go_wp2_with fail
  refine (gd _).mono ?_
  rintro e w0 ⟨rfl, rfl⟩
  clear gd
  have x2 := hX.cell (i := 2) rfl
  go_wp2_with fail
  refine (refNumber_any vi _).mono ?_
  rintro e w4 ⟨⟨p, rfl, hp⟩, hb⟩
  have hX2 := hX.below hb hX.lt
  have hB2 := hB.trans (hb.mono hB.size)
  have hM2 := hM.below hb
  clear hX hB hM hb x2
  obtain ⟨hX, hB, hM⟩ := And.intro hX2 (And.intro hB2 hM2)
  clear hX2 hB2 hM2
  cases p
  case false =>
    have ho : Hid (out = 3) := hN.out (fun h => by have := hp.2 (hd.out.1 h).1; cases this)
    clear hd hY hN hp
    go_wp2
    go_ret
    exact ⟨by rw [ho.out]; rfl, hB⟩
  replace hd : Hid (P ↔ (he.d.Plain ∧ ce.hdr.d.Plain ∧ tagsOk ce.votes)) := ⟨fun h => (hd.out.1 h).2, fun h => hd.out.2 ⟨hp.1 rfl, h⟩⟩
  clear hp
  go_wp2_with fail
  refine (gt _).mono ?_
  rintro e w0 ⟨rfl, rfl⟩
  clear gt
  have x8 := hX.cell (i := 8) rfl
  have x9 := hX.cell (i := 9) rfl
  have x10 := hX.cell (i := 10) rfl
  have x11 := hX.cell (i := 11) rfl
  go_wp2_with fail
  refine (refHead_any he _ hM.hdr hn.refs hn.ps hn.acks).mono ?_
  rintro e w4 ⟨⟨p, rfl, hp⟩, hb⟩
  have hX2 := hX.below hb hX.lt
  have hB2 := hB.trans (hb.mono hB.size)
  have hM2 := hM.below hb
  clear hX hB hM hb x8 x9 x10 x11
  obtain ⟨hX, hB, hM⟩ := And.intro hX2 (And.intro hB2 hM2)
  clear hX2 hB2 hM2
  cases p
  case false =>
    have ho : Hid (out = 3) := hN.out (fun h => by have := hp.2 (hd.out.1 h).1; cases this)
    clear hd hY hN hp
    go_wp2
    go_ret
    exact ⟨by rw [ho.out]; rfl, hB⟩
  replace hd : Hid (P ↔ (ce.hdr.d.Plain ∧ tagsOk ce.votes)) := ⟨fun h => (hd.out.1 h).2, fun h => hd.out.2 ⟨hp.1 rfl, h⟩⟩
  clear hp
  have x12 := hX.cell (i := 12) rfl
  have x13 := hX.cell (i := 13) rfl
  have x14 := hX.cell (i := 14) rfl
  have x15 := hX.cell (i := 15) rfl
  go_wp2_with fail
  refine (refHead_any ce.hdr _ hM.cert.hdr hn.crefs hn.cps hn.cacks).mono ?_
  rintro e w4 ⟨⟨p, rfl, hp⟩, hb⟩
  have hX2 := hX.below hb hX.lt
  have hB2 := hB.trans (hb.mono hB.size)
  have hM2 := hM.below hb
  clear hX hB hM hb x12 x13 x14 x15
  obtain ⟨hX, hB, hM⟩ := And.intro hX2 (And.intro hB2 hM2)
  clear hX2 hB2 hM2
  cases p
  case false =>
    have ho : Hid (out = 3) := hN.out (fun h => by have := hp.2 (hd.out.1 h).1; cases this)
    clear hd hY hN hp
    go_wp2
    go_ret
    exact ⟨by rw [ho.out]; rfl, hB⟩
  replace hd : Hid (P ↔ (tagsOk ce.votes)) := ⟨fun h => (hd.out.1 h).2, fun h => hd.out.2 ⟨hp.1 rfl, h⟩⟩
  clear hp
  have x16 := hX.cell (i := 16) rfl
  go_wp2_with fail
  refine (refTags9_any ce.va ce.vc ce.votes _ hM.cert.votes hn.votes).mono ?_
  rintro e w4 ⟨⟨p, rfl, hp⟩, hb⟩
  have hX2 := hX.below hb hX.lt
  have hB2 := hB.trans (hb.mono hB.size)
  have hM2 := hM.below hb
  clear hX hB hM hb x16
  obtain ⟨hX, hB, hM⟩ := And.intro hX2 (And.intro hB2 hM2)
  clear hX2 hB2 hM2
  cases p
  case false =>
    have ho : Hid (out = 3) := hN.out (fun h => by have := hp.2 (hd.out.1 h); cases this)
    clear hd hY hN hp
    go_wp2
    go_ret
    exact ⟨by rw [ho.out]; rfl, hB⟩
  have ho : Hid (out = 0) := hY.out (hd.out.2 (hp.1 rfl))
  clear hp hd hY hN
  go_wp2_with fail
  refine (gq _).mono ?_
  rintro e w0 ⟨rfl, rfl⟩
  clear gq
  go_wp2_with fail
  refine (gk _).mono ?_
  rintro e w0 ⟨rfl, rfl⟩
  clear gk
  go_wp2
  go_ret
  exact ⟨by rw [ho.out]; rfl, hB⟩

set_option maxRecDepth 100000 in
set_option maxHeartbeats 16000000 in
theorem refCheck_kt (k : Int) (dg : ByteArray) (vi : Int) (tg : TagD) (ba : BatM) (he : HdrM) (ce : CertM) (bl : BlkM) (q : QcM) (w : World) (hA : MsgM.At w ⟨k, dg, vi, tg, ba, he, ce, bl, q⟩) (hn : MsgM.Num ⟨k, dg, vi, tg, ba, he, ce, bl, q⟩) (hS : ∀ t ∈ ba.txs, TxSizes t.d) (hk : fieldsK k = [107, 116]) :
    Calls Tryz.prog 24 #[MsgM.v ⟨k, dg, vi, tg, ba, he, ce, bl, q⟩] w fun e w' => e = .returned (.int .i64 (chkM (MsgM.d ⟨k, dg, vi, tg, ba, he, ce, bl, q⟩) : Int)) ∧ Below w.heap.size w w' := by
  have gb : ∀ w1, Calls Tryz.prog 46 #[.string ⟨#[107, 116]⟩, .int .u8 98] w1 fun e w' => e = .returned (.bool false) ∧ w' = w1 := fun w1 => refHas_any ⟨#[107, 116]⟩ 98 w1 (by decide)
  have gd : ∀ w1, Calls Tryz.prog 46 #[.string ⟨#[107, 116]⟩, .int .u8 100] w1 fun e w' => e = .returned (.bool false) ∧ w' = w1 := fun w1 => refHas_any ⟨#[107, 116]⟩ 100 w1 (by decide)
  have gt : ∀ w1, Calls Tryz.prog 46 #[.string ⟨#[107, 116]⟩, .int .u8 116] w1 fun e w' => e = .returned (.bool true) ∧ w' = w1 := fun w1 => refHas_any ⟨#[107, 116]⟩ 116 w1 (by decide)
  have gq : ∀ w1, Calls Tryz.prog 46 #[.string ⟨#[107, 116]⟩, .int .u8 113] w1 fun e w' => e = .returned (.bool false) ∧ w' = w1 := fun w1 => refHas_any ⟨#[107, 116]⟩ 113 w1 (by decide)
  have gk : ∀ w1, Calls Tryz.prog 46 #[.string ⟨#[107, 116]⟩, .int .u8 107] w1 fun e w' => e = .returned (.bool true) ∧ w' = w1 := fun w1 => refHas_any ⟨#[107, 116]⟩ 107 w1 (by decide)
  obtain ⟨out, hout⟩ : ∃ n : Nat, Hid (n = chkM (MsgM.d ⟨k, dg, vi, tg, ba, he, ce, bl, q⟩)) := ⟨_, rfl⟩
  rw [← hout.out]
  have hX := Arr.new w 39 [.int .i64 k, .string dg, .int .i64 vi, .int .i64 tg.who, .string tg.mac, .int .i64 ba.author, .int .i64 ba.number, .slice ba.ta ba.txs.length ba.tc, .int .i64 he.author, .int .i64 he.round, .slice he.ra he.refs.length he.rc, .slice he.pa he.parents.length he.pc, .int .i64 ce.hdr.author, .int .i64 ce.hdr.round, .slice ce.hdr.ra ce.hdr.refs.length ce.hdr.rc, .slice ce.hdr.pa ce.hdr.parents.length ce.hdr.pc, .slice ce.va ce.votes.length ce.vc, .int .i64 bl.view, .int .i64 bl.qc.view, .string bl.qc.block, .slice bl.qc.va bl.qc.votes.length bl.qc.vc, .slice bl.ca bl.certs.length bl.cc, .int .i64 q.view, .string q.block, .slice q.va q.votes.length q.vc]
  have hB := belowNew w (.cells [.int .i64 k, .string dg, .int .i64 vi, .int .i64 tg.who, .string tg.mac, .int .i64 ba.author, .int .i64 ba.number, .slice ba.ta ba.txs.length ba.tc, .int .i64 he.author, .int .i64 he.round, .slice he.ra he.refs.length he.rc, .slice he.pa he.parents.length he.pc, .int .i64 ce.hdr.author, .int .i64 ce.hdr.round, .slice ce.hdr.ra ce.hdr.refs.length ce.hdr.rc, .slice ce.hdr.pa ce.hdr.parents.length ce.hdr.pc, .slice ce.va ce.votes.length ce.vc, .int .i64 bl.view, .int .i64 bl.qc.view, .string bl.qc.block, .slice bl.qc.va bl.qc.votes.length bl.qc.vc, .slice bl.ca bl.certs.length bl.cc, .int .i64 q.view, .string q.block, .slice q.va q.votes.length q.vc].toArray 39)
  have hAB := hA.below hB
  have hne : fieldsK k ≠ [] := by rw [hk]; simp
  have cF : ∀ w1, Calls Tryz.prog 43 #[.int .i64 k] w1 fun e w' => e = .returned (.string ⟨#[107, 116]⟩) ∧ Below w1.heap.size w1 w' := fun w1 => by
    have := refFields_any k w1
    unfold fieldsS at this
    rw [hk] at this
    exact this
  have cBare := fun w1 => refBare_any ⟨k, dg, vi, tg, ba, he, ce, bl, q⟩ w1 hne
  have cSame := fun w1 h1 => (sameBare_any ⟨k, dg, vi, tg, ba, he, ce, bl, q⟩ w1 h1 hn).mono (fun e w' h => told_decide h)
  have HK : Hid (¬ fieldsK (MsgM.d ⟨k, dg, vi, tg, ba, he, ce, bl, q⟩).kind = []) := hne
  obtain ⟨br, hbr⟩ : ∃ b : Bool, Hid (b = decide (MsgM.d ⟨k, dg, vi, tg, ba, he, ce, bl, q⟩).Bare) := ⟨_, rfl⟩
  rw [← hbr.out] at cSame
  obtain ⟨bv, hbv⟩ : ∃ v, v = (bareM ⟨k, dg, vi, tg, ba, he, ce, bl, q⟩).v := ⟨_, rfl⟩
  rw [← hbv] at cBare cSame
  clear hbv
  unfold MsgM.v MsgM.c at cBare cSame ⊢
  simp only at cBare cSame ⊢
  obtain ⟨w1, hw1⟩ : ∃ q', w.alloc (.cells [.int .i64 k, .string dg, .int .i64 vi, .int .i64 tg.who, .string tg.mac, .int .i64 ba.author, .int .i64 ba.number, .slice ba.ta ba.txs.length ba.tc, .int .i64 he.author, .int .i64 he.round, .slice he.ra he.refs.length he.rc, .slice he.pa he.parents.length he.pc, .int .i64 ce.hdr.author, .int .i64 ce.hdr.round, .slice ce.hdr.ra ce.hdr.refs.length ce.hdr.rc, .slice ce.hdr.pa ce.hdr.parents.length ce.hdr.pc, .slice ce.va ce.votes.length ce.vc, .int .i64 bl.view, .int .i64 bl.qc.view, .string bl.qc.block, .slice bl.qc.va bl.qc.votes.length bl.qc.vc, .slice bl.ca bl.certs.length bl.cc, .int .i64 q.view, .string q.block, .slice q.va q.votes.length q.vc].toArray 39) = q' := ⟨_, rfl⟩
  rw [hw1] at hX hB hAB
  have x0 := hX.cell (i := 0) rfl
  go_enter Tryz.func24, Tryz.ntmps24
  go_wp2_with fail
  refine (cF _).mono ?_
  rintro e w2 ⟨rfl, hb2⟩
  have hX2 := hX.below hb2 hX.lt
  have hB2 := hB.trans (hb2.mono hB.size)
  have hA2 := hAB.below hb2
  clear hX hB hb2 x0 cF hw1 hA hAB
  have bl' := fun d os => below_regrown w2 d os
  have hLR : ∀ w', (∃ p : Regrown, w' = grow (redrawn w2 p.d) p.os) → w'.heap[w.heap.size]? = some (.cells [.int .i64 k, .string dg, .int .i64 vi, .int .i64 tg.who, .string tg.mac, .int .i64 ba.author, .int .i64 ba.number, .slice ba.ta ba.txs.length ba.tc, .int .i64 he.author, .int .i64 he.round, .slice he.ra he.refs.length he.rc, .slice he.pa he.parents.length he.pc, .int .i64 ce.hdr.author, .int .i64 ce.hdr.round, .slice ce.hdr.ra ce.hdr.refs.length ce.hdr.rc, .slice ce.hdr.pa ce.hdr.parents.length ce.hdr.pc, .slice ce.va ce.votes.length ce.vc, .int .i64 bl.view, .int .i64 bl.qc.view, .string bl.qc.block, .slice bl.qc.va bl.qc.votes.length bl.qc.vc, .slice bl.ca bl.certs.length bl.cc, .int .i64 q.view, .string q.block, .slice q.va q.votes.length q.vc].toArray 39 (0, 0)) := by
    rintro w' ⟨p, rfl⟩
    exact hX2.below (bl' p.d p.os) hX2.lt
  have k1 : ∀ d os, Calls Tryz.prog 45 #[.agg [.int .i64 k, .string dg, .int .i64 vi, .int .i64 tg.who, .string tg.mac, .int .i64 ba.author, .int .i64 ba.number, .slice ba.ta ba.txs.length ba.tc, .int .i64 he.author, .int .i64 he.round, .slice he.ra he.refs.length he.rc, .slice he.pa he.parents.length he.pc, .int .i64 ce.hdr.author, .int .i64 ce.hdr.round, .slice ce.hdr.ra ce.hdr.refs.length ce.hdr.rc, .slice ce.hdr.pa ce.hdr.parents.length ce.hdr.pc, .slice ce.va ce.votes.length ce.vc, .int .i64 bl.view, .int .i64 bl.qc.view, .string bl.qc.block, .slice bl.qc.va bl.qc.votes.length bl.qc.vc, .slice bl.ca bl.certs.length bl.cc, .int .i64 q.view, .string q.block, .slice q.va q.votes.length q.vc].toArray] (grow (redrawn w2 d) os) fun e w'' => e = .returned bv ∧ ∃ p : Regrown, w'' = grow (redrawn w2 p.d) p.os := fun d os => Calls.regrown_of (cBare _)
  have k2 : ∀ d os, Calls Tryz.prog 44 #[.agg [.int .i64 k, .string dg, .int .i64 vi, .int .i64 tg.who, .string tg.mac, .int .i64 ba.author, .int .i64 ba.number, .slice ba.ta ba.txs.length ba.tc, .int .i64 he.author, .int .i64 he.round, .slice he.ra he.refs.length he.rc, .slice he.pa he.parents.length he.pc, .int .i64 ce.hdr.author, .int .i64 ce.hdr.round, .slice ce.hdr.ra ce.hdr.refs.length ce.hdr.rc, .slice ce.hdr.pa ce.hdr.parents.length ce.hdr.pc, .slice ce.va ce.votes.length ce.vc, .int .i64 bl.view, .int .i64 bl.qc.view, .string bl.qc.block, .slice bl.qc.va bl.qc.votes.length bl.qc.vc, .slice bl.ca bl.certs.length bl.cc, .int .i64 q.view, .string q.block, .slice q.va q.votes.length q.vc].toArray, bv] (grow (redrawn w2 d) os) fun e w'' => e = .returned (.bool br) ∧ ∃ p : Regrown, w'' = grow (redrawn w2 p.d) p.os := fun d os => Calls.regrown_of (cSame _ (hA2.below (bl' d os)))
  have HXF : Hid (∀ d os, Arr (grow (redrawn w2 d) os) w.heap.size 39 [.int .i64 k, .string dg, .int .i64 vi, .int .i64 tg.who, .string tg.mac, .int .i64 ba.author, .int .i64 ba.number, .slice ba.ta ba.txs.length ba.tc, .int .i64 he.author, .int .i64 he.round, .slice he.ra he.refs.length he.rc, .slice he.pa he.parents.length he.pc, .int .i64 ce.hdr.author, .int .i64 ce.hdr.round, .slice ce.hdr.ra ce.hdr.refs.length ce.hdr.rc, .slice ce.hdr.pa ce.hdr.parents.length ce.hdr.pc, .slice ce.va ce.votes.length ce.vc, .int .i64 bl.view, .int .i64 bl.qc.view, .string bl.qc.block, .slice bl.qc.va bl.qc.votes.length bl.qc.vc, .slice bl.ca bl.certs.length bl.cc, .int .i64 q.view, .string q.block, .slice q.va q.votes.length q.vc] ∧ Below w.heap.size w (grow (redrawn w2 d) os) ∧ MsgM.At (grow (redrawn w2 d) os) ⟨k, dg, vi, tg, ba, he, ce, bl, q⟩) := fun d os => ⟨hX2.below (bl' d os) hX2.lt, hB2.trans ((bl' d os).mono hB2.size), hA2.below (bl' d os)⟩
  clear cBare cSame bl' hX2 hB2 hA2
  go_wp2_with fail
  refine wp_region_quiet_below (by kernel_rfl) (by kernel_rfl) ?_
  iterate 2
    go_big_quiet_want
    refine quiet_load_row 39 _ (by rfl) w.heap.size (by rfl) 39 _ (0, 0) _ hLR Tryz.underlying39 (by rfl) infoMsg9 ?_
    simp only [Act.put, List.setIfInBounds_toArray, List.set_cons_succ, List.set_cons_zero]
    go_big_quiet_on
  go_big_quiet_step (exact k1 _ _)
  go_big_quiet_step (exact k2 _ _)
  go_big_quiet_step (fail)
  refine wpQuiet_nil ?_
  rintro w' ⟨p, rfl⟩
  obtain ⟨hX, hB, hM⟩ := HXF.out p.d p.os
  generalize grow (redrawn w2 p.d) p.os = w3 at hX hB hM ⊢
  clear k1 k2 HXF hLR p
  cases br
  case false =>
    have ho : Hid (out = 3) := by
      show _ = _
      rw [hout.out]
      unfold chkM
      rw [if_neg HK.out, if_pos]
      exact of_decide_eq_false hbr.out.symm
    clear hout hbr HK hM hX
    go_wp2
    go_ret
    exact ⟨by rw [ho.out]; rfl, hB⟩
  have hbare0 : (MsgM.d ⟨k, dg, vi, tg, ba, he, ce, bl, q⟩).Bare := of_decide_eq_true hbr.out.symm
  have hbare : Hid (MsgM.d ⟨k, dg, vi, tg, ba, he, ce, bl, q⟩).Bare := hbare0
  clear hbr hbare0
  go_wp2_with fail
  refine (gb _).mono ?_
  rintro e w0 ⟨rfl, rfl⟩
  clear gb
  obtain ⟨P, hd⟩ : ∃ P : Prop, Hid (P ↔ MsgD.Ok (MsgM.d ⟨k, dg, vi, tg, ba, he, ce, bl, q⟩)) := ⟨_, Iff.rfl⟩
  have hr : Hid (chkM (MsgM.d ⟨k, dg, vi, tg, ba, he, ce, bl, q⟩) = if okM (MsgM.d ⟨k, dg, vi, tg, ba, he, ce, bl, q⟩) = true then 0 else 3) := by
    show _ = _
    unfold chkM
    rw [if_neg HK.out, if_neg (fun h => h hbare.out), if_neg (by show ¬ (98 : UInt8) ∈ fieldsK k; rw [hk]; decide)]
  have hY : Hid (P → out = 0) := fun h => by rw [hout.out, hr.out, if_pos (okM_iff.2 (hd.out.1 h))]
  have hN : Hid (¬ P → out = 3) := fun h => by rw [hout.out, hr.out, if_neg (fun h' => h (hd.out.2 (okM_iff.1 h')))]
  replace hd : Hid (P ↔ (numOk vi ∧ tagOk tg ∧ he.d.Plain ∧ ce.hdr.d.Plain ∧ tagsOk ce.votes ∧ numOk bl.view ∧ bl.qc.d.Plain ∧ ((∀ c ∈ bl.certs, c.size = 40) ∧ bl.certs.length ≤ 8))) := hd.out.trans ⟨fun h => ⟨h.num, h.tag (by show (116 : UInt8) ∈ fieldsK k; rw [hk]; decide), h.hdr, h.cert.1, h.cert.2, (h.blk (by show (107 : UInt8) ∈ fieldsK k; rw [hk]; decide)).1, (h.blk (by show (107 : UInt8) ∈ fieldsK k; rw [hk]; decide)).2.1, ⟨(h.blk (by show (107 : UInt8) ∈ fieldsK k; rw [hk]; decide)).2.2.2, (h.blk (by show (107 : UInt8) ∈ fieldsK k; rw [hk]; decide)).2.2.1⟩⟩, fun h => ⟨(fun hc => absurd (hk ▸ hc) (by decide)), h.1, (fun _ => h.2.1), h.2.2.1, ⟨h.2.2.2.1, h.2.2.2.2.1⟩, (fun hc => absurd (hk ▸ hc) (by decide)), (fun _ => ⟨h.2.2.2.2.2.1, h.2.2.2.2.2.2.1, (h.2.2.2.2.2.2.2).2, (h.2.2.2.2.2.2.2).1⟩)⟩⟩
  clear hout hr hbare HK hne
  go_wp2_with fail
  refine (gd _).mono ?_
  rintro e w0 ⟨rfl, rfl⟩
  clear gd
  have x2 := hX.cell (i := 2) rfl
  go_wp2_with fail
  refine (refNumber_any vi _).mono ?_
  rintro e w4 ⟨⟨p, rfl, hp⟩, hb⟩
  have hX2 := hX.below hb hX.lt
  have hB2 := hB.trans (hb.mono hB.size)
  have hM2 := hM.below hb
  clear hX hB hM hb x2
  obtain ⟨hX, hB, hM⟩ := And.intro hX2 (And.intro hB2 hM2)
  clear hX2 hB2 hM2
  cases p
  case false =>
    have ho : Hid (out = 3) := hN.out (fun h => by have := hp.2 (hd.out.1 h).1; cases this)
    clear hd hY hN hp
    go_wp2
    go_ret
    exact ⟨by rw [ho.out]; rfl, hB⟩
  replace hd : Hid (P ↔ (tagOk tg ∧ he.d.Plain ∧ ce.hdr.d.Plain ∧ tagsOk ce.votes ∧ numOk bl.view ∧ bl.qc.d.Plain ∧ ((∀ c ∈ bl.certs, c.size = 40) ∧ bl.certs.length ≤ 8))) := ⟨fun h => (hd.out.1 h).2, fun h => hd.out.2 ⟨hp.1 rfl, h⟩⟩
  clear hp
  go_wp2_with fail
  refine (gt _).mono ?_
  rintro e w0 ⟨rfl, rfl⟩
  clear gt
  have x3 := hX.cell (i := 3) rfl
  have x4 := hX.cell (i := 4) rfl
  go_wp2_with fail
  refine (refTag_any tg _).mono ?_
  rintro e w4 ⟨⟨p, rfl, hp⟩, hb⟩
  have hX2 := hX.below hb hX.lt
  have hB2 := hB.trans (hb.mono hB.size)
  have hM2 := hM.below hb
  clear hX hB hM hb x3 x4
  obtain ⟨hX, hB, hM⟩ := And.intro hX2 (And.intro hB2 hM2)
  clear hX2 hB2 hM2
  cases p
  case false =>
    have ho : Hid (out = 3) := hN.out (fun h => by have := hp.2 (hd.out.1 h).1; cases this)
    clear hd hY hN hp
    go_wp2
    go_ret
    exact ⟨by rw [ho.out]; rfl, hB⟩
  replace hd : Hid (P ↔ (he.d.Plain ∧ ce.hdr.d.Plain ∧ tagsOk ce.votes ∧ numOk bl.view ∧ bl.qc.d.Plain ∧ ((∀ c ∈ bl.certs, c.size = 40) ∧ bl.certs.length ≤ 8))) := ⟨fun h => (hd.out.1 h).2, fun h => hd.out.2 ⟨hp.1 rfl, h⟩⟩
  clear hp
  have x8 := hX.cell (i := 8) rfl
  have x9 := hX.cell (i := 9) rfl
  have x10 := hX.cell (i := 10) rfl
  have x11 := hX.cell (i := 11) rfl
  go_wp2_with fail
  refine (refHead_any he _ hM.hdr hn.refs hn.ps hn.acks).mono ?_
  rintro e w4 ⟨⟨p, rfl, hp⟩, hb⟩
  have hX2 := hX.below hb hX.lt
  have hB2 := hB.trans (hb.mono hB.size)
  have hM2 := hM.below hb
  clear hX hB hM hb x8 x9 x10 x11
  obtain ⟨hX, hB, hM⟩ := And.intro hX2 (And.intro hB2 hM2)
  clear hX2 hB2 hM2
  cases p
  case false =>
    have ho : Hid (out = 3) := hN.out (fun h => by have := hp.2 (hd.out.1 h).1; cases this)
    clear hd hY hN hp
    go_wp2
    go_ret
    exact ⟨by rw [ho.out]; rfl, hB⟩
  replace hd : Hid (P ↔ (ce.hdr.d.Plain ∧ tagsOk ce.votes ∧ numOk bl.view ∧ bl.qc.d.Plain ∧ ((∀ c ∈ bl.certs, c.size = 40) ∧ bl.certs.length ≤ 8))) := ⟨fun h => (hd.out.1 h).2, fun h => hd.out.2 ⟨hp.1 rfl, h⟩⟩
  clear hp
  have x12 := hX.cell (i := 12) rfl
  have x13 := hX.cell (i := 13) rfl
  have x14 := hX.cell (i := 14) rfl
  have x15 := hX.cell (i := 15) rfl
  go_wp2_with fail
  refine (refHead_any ce.hdr _ hM.cert.hdr hn.crefs hn.cps hn.cacks).mono ?_
  rintro e w4 ⟨⟨p, rfl, hp⟩, hb⟩
  have hX2 := hX.below hb hX.lt
  have hB2 := hB.trans (hb.mono hB.size)
  have hM2 := hM.below hb
  clear hX hB hM hb x12 x13 x14 x15
  obtain ⟨hX, hB, hM⟩ := And.intro hX2 (And.intro hB2 hM2)
  clear hX2 hB2 hM2
  cases p
  case false =>
    have ho : Hid (out = 3) := hN.out (fun h => by have := hp.2 (hd.out.1 h).1; cases this)
    clear hd hY hN hp
    go_wp2
    go_ret
    exact ⟨by rw [ho.out]; rfl, hB⟩
  replace hd : Hid (P ↔ (tagsOk ce.votes ∧ numOk bl.view ∧ bl.qc.d.Plain ∧ ((∀ c ∈ bl.certs, c.size = 40) ∧ bl.certs.length ≤ 8))) := ⟨fun h => (hd.out.1 h).2, fun h => hd.out.2 ⟨hp.1 rfl, h⟩⟩
  clear hp
  have x16 := hX.cell (i := 16) rfl
  go_wp2_with fail
  refine (refTags9_any ce.va ce.vc ce.votes _ hM.cert.votes hn.votes).mono ?_
  rintro e w4 ⟨⟨p, rfl, hp⟩, hb⟩
  have hX2 := hX.below hb hX.lt
  have hB2 := hB.trans (hb.mono hB.size)
  have hM2 := hM.below hb
  clear hX hB hM hb x16
  obtain ⟨hX, hB, hM⟩ := And.intro hX2 (And.intro hB2 hM2)
  clear hX2 hB2 hM2
  cases p
  case false =>
    have ho : Hid (out = 3) := hN.out (fun h => by have := hp.2 (hd.out.1 h).1; cases this)
    clear hd hY hN hp
    go_wp2
    go_ret
    exact ⟨by rw [ho.out]; rfl, hB⟩
  replace hd : Hid (P ↔ (numOk bl.view ∧ bl.qc.d.Plain ∧ ((∀ c ∈ bl.certs, c.size = 40) ∧ bl.certs.length ≤ 8))) := ⟨fun h => (hd.out.1 h).2, fun h => hd.out.2 ⟨hp.1 rfl, h⟩⟩
  clear hp
  go_wp2_with fail
  refine (gq _).mono ?_
  rintro e w0 ⟨rfl, rfl⟩
  clear gq
  go_wp2_with fail
  refine (gk _).mono ?_
  rintro e w0 ⟨rfl, rfl⟩
  clear gk
  have x17 := hX.cell (i := 17) rfl
  go_wp2_with fail
  refine (refNumber_any bl.view _).mono ?_
  rintro e w4 ⟨⟨p, rfl, hp⟩, hb⟩
  have hX2 := hX.below hb hX.lt
  have hB2 := hB.trans (hb.mono hB.size)
  have hM2 := hM.below hb
  clear hX hB hM hb x17
  obtain ⟨hX, hB, hM⟩ := And.intro hX2 (And.intro hB2 hM2)
  clear hX2 hB2 hM2
  cases p
  case false =>
    have ho : Hid (out = 3) := hN.out (fun h => by have := hp.2 (hd.out.1 h).1; cases this)
    clear hd hY hN hp
    go_wp2
    go_ret
    exact ⟨by rw [ho.out]; rfl, hB⟩
  replace hd : Hid (P ↔ (bl.qc.d.Plain ∧ ((∀ c ∈ bl.certs, c.size = 40) ∧ bl.certs.length ≤ 8))) := ⟨fun h => (hd.out.1 h).2, fun h => hd.out.2 ⟨hp.1 rfl, h⟩⟩
  clear hp
  have x18 := hX.cell (i := 18) rfl
  have x19 := hX.cell (i := 19) rfl
  have x20 := hX.cell (i := 20) rfl
  go_wp2_with fail
  refine (refQc9_any bl.qc _ hM.blk.qc hn.bvotes).mono ?_
  rintro e w4 ⟨⟨p, rfl, hp⟩, hb⟩
  have hX2 := hX.below hb hX.lt
  have hB2 := hB.trans (hb.mono hB.size)
  have hM2 := hM.below hb
  clear hX hB hM hb x18 x19 x20
  obtain ⟨hX, hB, hM⟩ := And.intro hX2 (And.intro hB2 hM2)
  clear hX2 hB2 hM2
  cases p
  case false =>
    have ho : Hid (out = 3) := hN.out (fun h => by have := hp.2 (hd.out.1 h).1; cases this)
    clear hd hY hN hp
    go_wp2
    go_ret
    exact ⟨by rw [ho.out]; rfl, hB⟩
  replace hd : Hid (P ↔ (((∀ c ∈ bl.certs, c.size = 40) ∧ bl.certs.length ≤ 8))) := ⟨fun h => (hd.out.1 h).2, fun h => hd.out.2 ⟨hp.1 rfl, h⟩⟩
  clear hp
  have x21 := hX.cell (i := 21) rfl
  go_wp2_with fail
  refine (refDigests_any bl.ca bl.cc bl.certs 8 40 _ hM.blk.certs hn.certs).mono ?_
  rintro e w4 ⟨⟨p, rfl, hp⟩, hb⟩
  have hX2 := hX.below hb hX.lt
  have hB2 := hB.trans (hb.mono hB.size)
  have hM2 := hM.below hb
  clear hX hB hM hb x21
  obtain ⟨hX, hB, hM⟩ := And.intro hX2 (And.intro hB2 hM2)
  clear hX2 hB2 hM2
  cases p
  case false =>
    have ho : Hid (out = 3) := hN.out (fun h => by have := hp.2 (hd.out.1 h); cases this)
    clear hd hY hN hp
    go_wp2
    go_ret
    exact ⟨by rw [ho.out]; rfl, hB⟩
  have ho : Hid (out = 0) := hY.out (hd.out.2 (hp.1 rfl))
  clear hp hd hY hN
  go_wp2
  go_ret
  exact ⟨by rw [ho.out]; rfl, hB⟩

set_option maxRecDepth 100000 in
set_option maxHeartbeats 16000000 in
theorem refCheck_vdt (k : Int) (dg : ByteArray) (vi : Int) (tg : TagD) (ba : BatM) (he : HdrM) (ce : CertM) (bl : BlkM) (q : QcM) (w : World) (hA : MsgM.At w ⟨k, dg, vi, tg, ba, he, ce, bl, q⟩) (hn : MsgM.Num ⟨k, dg, vi, tg, ba, he, ce, bl, q⟩) (hS : ∀ t ∈ ba.txs, TxSizes t.d) (hk : fieldsK k = [118, 100, 116]) :
    Calls Tryz.prog 24 #[MsgM.v ⟨k, dg, vi, tg, ba, he, ce, bl, q⟩] w fun e w' => e = .returned (.int .i64 (chkM (MsgM.d ⟨k, dg, vi, tg, ba, he, ce, bl, q⟩) : Int)) ∧ Below w.heap.size w w' := by
  have gb : ∀ w1, Calls Tryz.prog 46 #[.string ⟨#[118, 100, 116]⟩, .int .u8 98] w1 fun e w' => e = .returned (.bool false) ∧ w' = w1 := fun w1 => refHas_any ⟨#[118, 100, 116]⟩ 98 w1 (by decide)
  have gd : ∀ w1, Calls Tryz.prog 46 #[.string ⟨#[118, 100, 116]⟩, .int .u8 100] w1 fun e w' => e = .returned (.bool true) ∧ w' = w1 := fun w1 => refHas_any ⟨#[118, 100, 116]⟩ 100 w1 (by decide)
  have gt : ∀ w1, Calls Tryz.prog 46 #[.string ⟨#[118, 100, 116]⟩, .int .u8 116] w1 fun e w' => e = .returned (.bool true) ∧ w' = w1 := fun w1 => refHas_any ⟨#[118, 100, 116]⟩ 116 w1 (by decide)
  have gq : ∀ w1, Calls Tryz.prog 46 #[.string ⟨#[118, 100, 116]⟩, .int .u8 113] w1 fun e w' => e = .returned (.bool false) ∧ w' = w1 := fun w1 => refHas_any ⟨#[118, 100, 116]⟩ 113 w1 (by decide)
  have gk : ∀ w1, Calls Tryz.prog 46 #[.string ⟨#[118, 100, 116]⟩, .int .u8 107] w1 fun e w' => e = .returned (.bool false) ∧ w' = w1 := fun w1 => refHas_any ⟨#[118, 100, 116]⟩ 107 w1 (by decide)
  obtain ⟨out, hout⟩ : ∃ n : Nat, Hid (n = chkM (MsgM.d ⟨k, dg, vi, tg, ba, he, ce, bl, q⟩)) := ⟨_, rfl⟩
  rw [← hout.out]
  have hX := Arr.new w 39 [.int .i64 k, .string dg, .int .i64 vi, .int .i64 tg.who, .string tg.mac, .int .i64 ba.author, .int .i64 ba.number, .slice ba.ta ba.txs.length ba.tc, .int .i64 he.author, .int .i64 he.round, .slice he.ra he.refs.length he.rc, .slice he.pa he.parents.length he.pc, .int .i64 ce.hdr.author, .int .i64 ce.hdr.round, .slice ce.hdr.ra ce.hdr.refs.length ce.hdr.rc, .slice ce.hdr.pa ce.hdr.parents.length ce.hdr.pc, .slice ce.va ce.votes.length ce.vc, .int .i64 bl.view, .int .i64 bl.qc.view, .string bl.qc.block, .slice bl.qc.va bl.qc.votes.length bl.qc.vc, .slice bl.ca bl.certs.length bl.cc, .int .i64 q.view, .string q.block, .slice q.va q.votes.length q.vc]
  have hB := belowNew w (.cells [.int .i64 k, .string dg, .int .i64 vi, .int .i64 tg.who, .string tg.mac, .int .i64 ba.author, .int .i64 ba.number, .slice ba.ta ba.txs.length ba.tc, .int .i64 he.author, .int .i64 he.round, .slice he.ra he.refs.length he.rc, .slice he.pa he.parents.length he.pc, .int .i64 ce.hdr.author, .int .i64 ce.hdr.round, .slice ce.hdr.ra ce.hdr.refs.length ce.hdr.rc, .slice ce.hdr.pa ce.hdr.parents.length ce.hdr.pc, .slice ce.va ce.votes.length ce.vc, .int .i64 bl.view, .int .i64 bl.qc.view, .string bl.qc.block, .slice bl.qc.va bl.qc.votes.length bl.qc.vc, .slice bl.ca bl.certs.length bl.cc, .int .i64 q.view, .string q.block, .slice q.va q.votes.length q.vc].toArray 39)
  have hAB := hA.below hB
  have hne : fieldsK k ≠ [] := by rw [hk]; simp
  have cF : ∀ w1, Calls Tryz.prog 43 #[.int .i64 k] w1 fun e w' => e = .returned (.string ⟨#[118, 100, 116]⟩) ∧ Below w1.heap.size w1 w' := fun w1 => by
    have := refFields_any k w1
    unfold fieldsS at this
    rw [hk] at this
    exact this
  have cBare := fun w1 => refBare_any ⟨k, dg, vi, tg, ba, he, ce, bl, q⟩ w1 hne
  have cSame := fun w1 h1 => (sameBare_any ⟨k, dg, vi, tg, ba, he, ce, bl, q⟩ w1 h1 hn).mono (fun e w' h => told_decide h)
  have HK : Hid (¬ fieldsK (MsgM.d ⟨k, dg, vi, tg, ba, he, ce, bl, q⟩).kind = []) := hne
  obtain ⟨br, hbr⟩ : ∃ b : Bool, Hid (b = decide (MsgM.d ⟨k, dg, vi, tg, ba, he, ce, bl, q⟩).Bare) := ⟨_, rfl⟩
  rw [← hbr.out] at cSame
  obtain ⟨bv, hbv⟩ : ∃ v, v = (bareM ⟨k, dg, vi, tg, ba, he, ce, bl, q⟩).v := ⟨_, rfl⟩
  rw [← hbv] at cBare cSame
  clear hbv
  unfold MsgM.v MsgM.c at cBare cSame ⊢
  simp only at cBare cSame ⊢
  obtain ⟨w1, hw1⟩ : ∃ q', w.alloc (.cells [.int .i64 k, .string dg, .int .i64 vi, .int .i64 tg.who, .string tg.mac, .int .i64 ba.author, .int .i64 ba.number, .slice ba.ta ba.txs.length ba.tc, .int .i64 he.author, .int .i64 he.round, .slice he.ra he.refs.length he.rc, .slice he.pa he.parents.length he.pc, .int .i64 ce.hdr.author, .int .i64 ce.hdr.round, .slice ce.hdr.ra ce.hdr.refs.length ce.hdr.rc, .slice ce.hdr.pa ce.hdr.parents.length ce.hdr.pc, .slice ce.va ce.votes.length ce.vc, .int .i64 bl.view, .int .i64 bl.qc.view, .string bl.qc.block, .slice bl.qc.va bl.qc.votes.length bl.qc.vc, .slice bl.ca bl.certs.length bl.cc, .int .i64 q.view, .string q.block, .slice q.va q.votes.length q.vc].toArray 39) = q' := ⟨_, rfl⟩
  rw [hw1] at hX hB hAB
  have x0 := hX.cell (i := 0) rfl
  go_enter Tryz.func24, Tryz.ntmps24
  go_wp2_with fail
  refine (cF _).mono ?_
  rintro e w2 ⟨rfl, hb2⟩
  have hX2 := hX.below hb2 hX.lt
  have hB2 := hB.trans (hb2.mono hB.size)
  have hA2 := hAB.below hb2
  clear hX hB hb2 x0 cF hw1 hA hAB
  have bl' := fun d os => below_regrown w2 d os
  have hLR : ∀ w', (∃ p : Regrown, w' = grow (redrawn w2 p.d) p.os) → w'.heap[w.heap.size]? = some (.cells [.int .i64 k, .string dg, .int .i64 vi, .int .i64 tg.who, .string tg.mac, .int .i64 ba.author, .int .i64 ba.number, .slice ba.ta ba.txs.length ba.tc, .int .i64 he.author, .int .i64 he.round, .slice he.ra he.refs.length he.rc, .slice he.pa he.parents.length he.pc, .int .i64 ce.hdr.author, .int .i64 ce.hdr.round, .slice ce.hdr.ra ce.hdr.refs.length ce.hdr.rc, .slice ce.hdr.pa ce.hdr.parents.length ce.hdr.pc, .slice ce.va ce.votes.length ce.vc, .int .i64 bl.view, .int .i64 bl.qc.view, .string bl.qc.block, .slice bl.qc.va bl.qc.votes.length bl.qc.vc, .slice bl.ca bl.certs.length bl.cc, .int .i64 q.view, .string q.block, .slice q.va q.votes.length q.vc].toArray 39 (0, 0)) := by
    rintro w' ⟨p, rfl⟩
    exact hX2.below (bl' p.d p.os) hX2.lt
  have k1 : ∀ d os, Calls Tryz.prog 45 #[.agg [.int .i64 k, .string dg, .int .i64 vi, .int .i64 tg.who, .string tg.mac, .int .i64 ba.author, .int .i64 ba.number, .slice ba.ta ba.txs.length ba.tc, .int .i64 he.author, .int .i64 he.round, .slice he.ra he.refs.length he.rc, .slice he.pa he.parents.length he.pc, .int .i64 ce.hdr.author, .int .i64 ce.hdr.round, .slice ce.hdr.ra ce.hdr.refs.length ce.hdr.rc, .slice ce.hdr.pa ce.hdr.parents.length ce.hdr.pc, .slice ce.va ce.votes.length ce.vc, .int .i64 bl.view, .int .i64 bl.qc.view, .string bl.qc.block, .slice bl.qc.va bl.qc.votes.length bl.qc.vc, .slice bl.ca bl.certs.length bl.cc, .int .i64 q.view, .string q.block, .slice q.va q.votes.length q.vc].toArray] (grow (redrawn w2 d) os) fun e w'' => e = .returned bv ∧ ∃ p : Regrown, w'' = grow (redrawn w2 p.d) p.os := fun d os => Calls.regrown_of (cBare _)
  have k2 : ∀ d os, Calls Tryz.prog 44 #[.agg [.int .i64 k, .string dg, .int .i64 vi, .int .i64 tg.who, .string tg.mac, .int .i64 ba.author, .int .i64 ba.number, .slice ba.ta ba.txs.length ba.tc, .int .i64 he.author, .int .i64 he.round, .slice he.ra he.refs.length he.rc, .slice he.pa he.parents.length he.pc, .int .i64 ce.hdr.author, .int .i64 ce.hdr.round, .slice ce.hdr.ra ce.hdr.refs.length ce.hdr.rc, .slice ce.hdr.pa ce.hdr.parents.length ce.hdr.pc, .slice ce.va ce.votes.length ce.vc, .int .i64 bl.view, .int .i64 bl.qc.view, .string bl.qc.block, .slice bl.qc.va bl.qc.votes.length bl.qc.vc, .slice bl.ca bl.certs.length bl.cc, .int .i64 q.view, .string q.block, .slice q.va q.votes.length q.vc].toArray, bv] (grow (redrawn w2 d) os) fun e w'' => e = .returned (.bool br) ∧ ∃ p : Regrown, w'' = grow (redrawn w2 p.d) p.os := fun d os => Calls.regrown_of (cSame _ (hA2.below (bl' d os)))
  have HXF : Hid (∀ d os, Arr (grow (redrawn w2 d) os) w.heap.size 39 [.int .i64 k, .string dg, .int .i64 vi, .int .i64 tg.who, .string tg.mac, .int .i64 ba.author, .int .i64 ba.number, .slice ba.ta ba.txs.length ba.tc, .int .i64 he.author, .int .i64 he.round, .slice he.ra he.refs.length he.rc, .slice he.pa he.parents.length he.pc, .int .i64 ce.hdr.author, .int .i64 ce.hdr.round, .slice ce.hdr.ra ce.hdr.refs.length ce.hdr.rc, .slice ce.hdr.pa ce.hdr.parents.length ce.hdr.pc, .slice ce.va ce.votes.length ce.vc, .int .i64 bl.view, .int .i64 bl.qc.view, .string bl.qc.block, .slice bl.qc.va bl.qc.votes.length bl.qc.vc, .slice bl.ca bl.certs.length bl.cc, .int .i64 q.view, .string q.block, .slice q.va q.votes.length q.vc] ∧ Below w.heap.size w (grow (redrawn w2 d) os) ∧ MsgM.At (grow (redrawn w2 d) os) ⟨k, dg, vi, tg, ba, he, ce, bl, q⟩) := fun d os => ⟨hX2.below (bl' d os) hX2.lt, hB2.trans ((bl' d os).mono hB2.size), hA2.below (bl' d os)⟩
  clear cBare cSame bl' hX2 hB2 hA2
  go_wp2_with fail
  refine wp_region_quiet_below (by kernel_rfl) (by kernel_rfl) ?_
  iterate 2
    go_big_quiet_want
    refine quiet_load_row 39 _ (by rfl) w.heap.size (by rfl) 39 _ (0, 0) _ hLR Tryz.underlying39 (by rfl) infoMsg9 ?_
    simp only [Act.put, List.setIfInBounds_toArray, List.set_cons_succ, List.set_cons_zero]
    go_big_quiet_on
  go_big_quiet_step (exact k1 _ _)
  go_big_quiet_step (exact k2 _ _)
  go_big_quiet_step (fail)
  refine wpQuiet_nil ?_
  rintro w' ⟨p, rfl⟩
  obtain ⟨hX, hB, hM⟩ := HXF.out p.d p.os
  generalize grow (redrawn w2 p.d) p.os = w3 at hX hB hM ⊢
  clear k1 k2 HXF hLR p
  cases br
  case false =>
    have ho : Hid (out = 3) := by
      show _ = _
      rw [hout.out]
      unfold chkM
      rw [if_neg HK.out, if_pos]
      exact of_decide_eq_false hbr.out.symm
    clear hout hbr HK hM hX
    go_wp2
    go_ret
    exact ⟨by rw [ho.out]; rfl, hB⟩
  have hbare0 : (MsgM.d ⟨k, dg, vi, tg, ba, he, ce, bl, q⟩).Bare := of_decide_eq_true hbr.out.symm
  have hbare : Hid (MsgM.d ⟨k, dg, vi, tg, ba, he, ce, bl, q⟩).Bare := hbare0
  clear hbr hbare0
  go_wp2_with fail
  refine (gb _).mono ?_
  rintro e w0 ⟨rfl, rfl⟩
  clear gb
  obtain ⟨P, hd⟩ : ∃ P : Prop, Hid (P ↔ MsgD.Ok (MsgM.d ⟨k, dg, vi, tg, ba, he, ce, bl, q⟩)) := ⟨_, Iff.rfl⟩
  have hr : Hid (chkM (MsgM.d ⟨k, dg, vi, tg, ba, he, ce, bl, q⟩) = if okM (MsgM.d ⟨k, dg, vi, tg, ba, he, ce, bl, q⟩) = true then 0 else 3) := by
    show _ = _
    unfold chkM
    rw [if_neg HK.out, if_neg (fun h => h hbare.out), if_neg (by show ¬ (98 : UInt8) ∈ fieldsK k; rw [hk]; decide)]
  have hY : Hid (P → out = 0) := fun h => by rw [hout.out, hr.out, if_pos (okM_iff.2 (hd.out.1 h))]
  have hN : Hid (¬ P → out = 3) := fun h => by rw [hout.out, hr.out, if_neg (fun h' => h (hd.out.2 (okM_iff.1 h')))]
  replace hd : Hid (P ↔ (dg.size = 32 ∧ numOk vi ∧ tagOk tg ∧ he.d.Plain ∧ ce.hdr.d.Plain ∧ tagsOk ce.votes)) := hd.out.trans ⟨fun h => ⟨h.dig (by show (100 : UInt8) ∈ fieldsK k; rw [hk]; decide), h.num, h.tag (by show (116 : UInt8) ∈ fieldsK k; rw [hk]; decide), h.hdr, h.cert.1, h.cert.2⟩, fun h => ⟨(fun _ => h.1), h.2.1, (fun _ => h.2.2.1), h.2.2.2.1, ⟨h.2.2.2.2.1, h.2.2.2.2.2⟩, (fun hc => absurd (hk ▸ hc) (by decide)), (fun hc => absurd (hk ▸ hc) (by decide))⟩⟩
  clear hout hr hbare HK hne
  go_wp2_with fail
  refine (gd _).mono ?_
  rintro e w0 ⟨rfl, rfl⟩
  clear gd
  have x1 := hX.cell (i := 1) rfl
  cases hz : ((dg.size : Int) == 32)
  case false =>
    have ho : Hid (out = 3) := hN.out (fun h => by rw [beq_eq_false_iff_ne] at hz; exact hz (by have := (hd.out.1 h).1; omega))
    clear hd hY hN
    go_wp2
    go_ret
    exact ⟨by rw [ho.out]; rfl, hB⟩
  replace hd : Hid (P ↔ (numOk vi ∧ tagOk tg ∧ he.d.Plain ∧ ce.hdr.d.Plain ∧ tagsOk ce.votes)) := ⟨fun h => (hd.out.1 h).2, fun h => hd.out.2 ⟨by rw [beq_iff_eq] at hz; omega, h⟩⟩
  have x2 := hX.cell (i := 2) rfl
  go_wp2_with fail
  refine (refNumber_any vi _).mono ?_
  rintro e w4 ⟨⟨p, rfl, hp⟩, hb⟩
  have hX2 := hX.below hb hX.lt
  have hB2 := hB.trans (hb.mono hB.size)
  have hM2 := hM.below hb
  clear hX hB hM hb x2 x1 hz
  obtain ⟨hX, hB, hM⟩ := And.intro hX2 (And.intro hB2 hM2)
  clear hX2 hB2 hM2
  cases p
  case false =>
    have ho : Hid (out = 3) := hN.out (fun h => by have := hp.2 (hd.out.1 h).1; cases this)
    clear hd hY hN hp
    go_wp2
    go_ret
    exact ⟨by rw [ho.out]; rfl, hB⟩
  replace hd : Hid (P ↔ (tagOk tg ∧ he.d.Plain ∧ ce.hdr.d.Plain ∧ tagsOk ce.votes)) := ⟨fun h => (hd.out.1 h).2, fun h => hd.out.2 ⟨hp.1 rfl, h⟩⟩
  clear hp
  go_wp2_with fail
  refine (gt _).mono ?_
  rintro e w0 ⟨rfl, rfl⟩
  clear gt
  have x3 := hX.cell (i := 3) rfl
  have x4 := hX.cell (i := 4) rfl
  go_wp2_with fail
  refine (refTag_any tg _).mono ?_
  rintro e w4 ⟨⟨p, rfl, hp⟩, hb⟩
  have hX2 := hX.below hb hX.lt
  have hB2 := hB.trans (hb.mono hB.size)
  have hM2 := hM.below hb
  clear hX hB hM hb x3 x4
  obtain ⟨hX, hB, hM⟩ := And.intro hX2 (And.intro hB2 hM2)
  clear hX2 hB2 hM2
  cases p
  case false =>
    have ho : Hid (out = 3) := hN.out (fun h => by have := hp.2 (hd.out.1 h).1; cases this)
    clear hd hY hN hp
    go_wp2
    go_ret
    exact ⟨by rw [ho.out]; rfl, hB⟩
  replace hd : Hid (P ↔ (he.d.Plain ∧ ce.hdr.d.Plain ∧ tagsOk ce.votes)) := ⟨fun h => (hd.out.1 h).2, fun h => hd.out.2 ⟨hp.1 rfl, h⟩⟩
  clear hp
  have x8 := hX.cell (i := 8) rfl
  have x9 := hX.cell (i := 9) rfl
  have x10 := hX.cell (i := 10) rfl
  have x11 := hX.cell (i := 11) rfl
  go_wp2_with fail
  refine (refHead_any he _ hM.hdr hn.refs hn.ps hn.acks).mono ?_
  rintro e w4 ⟨⟨p, rfl, hp⟩, hb⟩
  have hX2 := hX.below hb hX.lt
  have hB2 := hB.trans (hb.mono hB.size)
  have hM2 := hM.below hb
  clear hX hB hM hb x8 x9 x10 x11
  obtain ⟨hX, hB, hM⟩ := And.intro hX2 (And.intro hB2 hM2)
  clear hX2 hB2 hM2
  cases p
  case false =>
    have ho : Hid (out = 3) := hN.out (fun h => by have := hp.2 (hd.out.1 h).1; cases this)
    clear hd hY hN hp
    go_wp2
    go_ret
    exact ⟨by rw [ho.out]; rfl, hB⟩
  replace hd : Hid (P ↔ (ce.hdr.d.Plain ∧ tagsOk ce.votes)) := ⟨fun h => (hd.out.1 h).2, fun h => hd.out.2 ⟨hp.1 rfl, h⟩⟩
  clear hp
  have x12 := hX.cell (i := 12) rfl
  have x13 := hX.cell (i := 13) rfl
  have x14 := hX.cell (i := 14) rfl
  have x15 := hX.cell (i := 15) rfl
  go_wp2_with fail
  refine (refHead_any ce.hdr _ hM.cert.hdr hn.crefs hn.cps hn.cacks).mono ?_
  rintro e w4 ⟨⟨p, rfl, hp⟩, hb⟩
  have hX2 := hX.below hb hX.lt
  have hB2 := hB.trans (hb.mono hB.size)
  have hM2 := hM.below hb
  clear hX hB hM hb x12 x13 x14 x15
  obtain ⟨hX, hB, hM⟩ := And.intro hX2 (And.intro hB2 hM2)
  clear hX2 hB2 hM2
  cases p
  case false =>
    have ho : Hid (out = 3) := hN.out (fun h => by have := hp.2 (hd.out.1 h).1; cases this)
    clear hd hY hN hp
    go_wp2
    go_ret
    exact ⟨by rw [ho.out]; rfl, hB⟩
  replace hd : Hid (P ↔ (tagsOk ce.votes)) := ⟨fun h => (hd.out.1 h).2, fun h => hd.out.2 ⟨hp.1 rfl, h⟩⟩
  clear hp
  have x16 := hX.cell (i := 16) rfl
  go_wp2_with fail
  refine (refTags9_any ce.va ce.vc ce.votes _ hM.cert.votes hn.votes).mono ?_
  rintro e w4 ⟨⟨p, rfl, hp⟩, hb⟩
  have hX2 := hX.below hb hX.lt
  have hB2 := hB.trans (hb.mono hB.size)
  have hM2 := hM.below hb
  clear hX hB hM hb x16
  obtain ⟨hX, hB, hM⟩ := And.intro hX2 (And.intro hB2 hM2)
  clear hX2 hB2 hM2
  cases p
  case false =>
    have ho : Hid (out = 3) := hN.out (fun h => by have := hp.2 (hd.out.1 h); cases this)
    clear hd hY hN hp
    go_wp2
    go_ret
    exact ⟨by rw [ho.out]; rfl, hB⟩
  have ho : Hid (out = 0) := hY.out (hd.out.2 (hp.1 rfl))
  clear hp hd hY hN
  go_wp2_with fail
  refine (gq _).mono ?_
  rintro e w0 ⟨rfl, rfl⟩
  clear gq
  go_wp2_with fail
  refine (gk _).mono ?_
  rintro e w0 ⟨rfl, rfl⟩
  clear gk
  go_wp2
  go_ret
  exact ⟨by rw [ho.out]; rfl, hB⟩

set_option maxRecDepth 100000 in
set_option maxHeartbeats 16000000 in
theorem refCheck_vqt (k : Int) (dg : ByteArray) (vi : Int) (tg : TagD) (ba : BatM) (he : HdrM) (ce : CertM) (bl : BlkM) (q : QcM) (w : World) (hA : MsgM.At w ⟨k, dg, vi, tg, ba, he, ce, bl, q⟩) (hn : MsgM.Num ⟨k, dg, vi, tg, ba, he, ce, bl, q⟩) (hS : ∀ t ∈ ba.txs, TxSizes t.d) (hk : fieldsK k = [118, 113, 116]) :
    Calls Tryz.prog 24 #[MsgM.v ⟨k, dg, vi, tg, ba, he, ce, bl, q⟩] w fun e w' => e = .returned (.int .i64 (chkM (MsgM.d ⟨k, dg, vi, tg, ba, he, ce, bl, q⟩) : Int)) ∧ Below w.heap.size w w' := by
  have gb : ∀ w1, Calls Tryz.prog 46 #[.string ⟨#[118, 113, 116]⟩, .int .u8 98] w1 fun e w' => e = .returned (.bool false) ∧ w' = w1 := fun w1 => refHas_any ⟨#[118, 113, 116]⟩ 98 w1 (by decide)
  have gd : ∀ w1, Calls Tryz.prog 46 #[.string ⟨#[118, 113, 116]⟩, .int .u8 100] w1 fun e w' => e = .returned (.bool false) ∧ w' = w1 := fun w1 => refHas_any ⟨#[118, 113, 116]⟩ 100 w1 (by decide)
  have gt : ∀ w1, Calls Tryz.prog 46 #[.string ⟨#[118, 113, 116]⟩, .int .u8 116] w1 fun e w' => e = .returned (.bool true) ∧ w' = w1 := fun w1 => refHas_any ⟨#[118, 113, 116]⟩ 116 w1 (by decide)
  have gq : ∀ w1, Calls Tryz.prog 46 #[.string ⟨#[118, 113, 116]⟩, .int .u8 113] w1 fun e w' => e = .returned (.bool true) ∧ w' = w1 := fun w1 => refHas_any ⟨#[118, 113, 116]⟩ 113 w1 (by decide)
  have gk : ∀ w1, Calls Tryz.prog 46 #[.string ⟨#[118, 113, 116]⟩, .int .u8 107] w1 fun e w' => e = .returned (.bool false) ∧ w' = w1 := fun w1 => refHas_any ⟨#[118, 113, 116]⟩ 107 w1 (by decide)
  obtain ⟨out, hout⟩ : ∃ n : Nat, Hid (n = chkM (MsgM.d ⟨k, dg, vi, tg, ba, he, ce, bl, q⟩)) := ⟨_, rfl⟩
  rw [← hout.out]
  have hX := Arr.new w 39 [.int .i64 k, .string dg, .int .i64 vi, .int .i64 tg.who, .string tg.mac, .int .i64 ba.author, .int .i64 ba.number, .slice ba.ta ba.txs.length ba.tc, .int .i64 he.author, .int .i64 he.round, .slice he.ra he.refs.length he.rc, .slice he.pa he.parents.length he.pc, .int .i64 ce.hdr.author, .int .i64 ce.hdr.round, .slice ce.hdr.ra ce.hdr.refs.length ce.hdr.rc, .slice ce.hdr.pa ce.hdr.parents.length ce.hdr.pc, .slice ce.va ce.votes.length ce.vc, .int .i64 bl.view, .int .i64 bl.qc.view, .string bl.qc.block, .slice bl.qc.va bl.qc.votes.length bl.qc.vc, .slice bl.ca bl.certs.length bl.cc, .int .i64 q.view, .string q.block, .slice q.va q.votes.length q.vc]
  have hB := belowNew w (.cells [.int .i64 k, .string dg, .int .i64 vi, .int .i64 tg.who, .string tg.mac, .int .i64 ba.author, .int .i64 ba.number, .slice ba.ta ba.txs.length ba.tc, .int .i64 he.author, .int .i64 he.round, .slice he.ra he.refs.length he.rc, .slice he.pa he.parents.length he.pc, .int .i64 ce.hdr.author, .int .i64 ce.hdr.round, .slice ce.hdr.ra ce.hdr.refs.length ce.hdr.rc, .slice ce.hdr.pa ce.hdr.parents.length ce.hdr.pc, .slice ce.va ce.votes.length ce.vc, .int .i64 bl.view, .int .i64 bl.qc.view, .string bl.qc.block, .slice bl.qc.va bl.qc.votes.length bl.qc.vc, .slice bl.ca bl.certs.length bl.cc, .int .i64 q.view, .string q.block, .slice q.va q.votes.length q.vc].toArray 39)
  have hAB := hA.below hB
  have hne : fieldsK k ≠ [] := by rw [hk]; simp
  have cF : ∀ w1, Calls Tryz.prog 43 #[.int .i64 k] w1 fun e w' => e = .returned (.string ⟨#[118, 113, 116]⟩) ∧ Below w1.heap.size w1 w' := fun w1 => by
    have := refFields_any k w1
    unfold fieldsS at this
    rw [hk] at this
    exact this
  have cBare := fun w1 => refBare_any ⟨k, dg, vi, tg, ba, he, ce, bl, q⟩ w1 hne
  have cSame := fun w1 h1 => (sameBare_any ⟨k, dg, vi, tg, ba, he, ce, bl, q⟩ w1 h1 hn).mono (fun e w' h => told_decide h)
  have HK : Hid (¬ fieldsK (MsgM.d ⟨k, dg, vi, tg, ba, he, ce, bl, q⟩).kind = []) := hne
  obtain ⟨br, hbr⟩ : ∃ b : Bool, Hid (b = decide (MsgM.d ⟨k, dg, vi, tg, ba, he, ce, bl, q⟩).Bare) := ⟨_, rfl⟩
  rw [← hbr.out] at cSame
  obtain ⟨bv, hbv⟩ : ∃ v, v = (bareM ⟨k, dg, vi, tg, ba, he, ce, bl, q⟩).v := ⟨_, rfl⟩
  rw [← hbv] at cBare cSame
  clear hbv
  unfold MsgM.v MsgM.c at cBare cSame ⊢
  simp only at cBare cSame ⊢
  obtain ⟨w1, hw1⟩ : ∃ q', w.alloc (.cells [.int .i64 k, .string dg, .int .i64 vi, .int .i64 tg.who, .string tg.mac, .int .i64 ba.author, .int .i64 ba.number, .slice ba.ta ba.txs.length ba.tc, .int .i64 he.author, .int .i64 he.round, .slice he.ra he.refs.length he.rc, .slice he.pa he.parents.length he.pc, .int .i64 ce.hdr.author, .int .i64 ce.hdr.round, .slice ce.hdr.ra ce.hdr.refs.length ce.hdr.rc, .slice ce.hdr.pa ce.hdr.parents.length ce.hdr.pc, .slice ce.va ce.votes.length ce.vc, .int .i64 bl.view, .int .i64 bl.qc.view, .string bl.qc.block, .slice bl.qc.va bl.qc.votes.length bl.qc.vc, .slice bl.ca bl.certs.length bl.cc, .int .i64 q.view, .string q.block, .slice q.va q.votes.length q.vc].toArray 39) = q' := ⟨_, rfl⟩
  rw [hw1] at hX hB hAB
  have x0 := hX.cell (i := 0) rfl
  go_enter Tryz.func24, Tryz.ntmps24
  go_wp2_with fail
  refine (cF _).mono ?_
  rintro e w2 ⟨rfl, hb2⟩
  have hX2 := hX.below hb2 hX.lt
  have hB2 := hB.trans (hb2.mono hB.size)
  have hA2 := hAB.below hb2
  clear hX hB hb2 x0 cF hw1 hA hAB
  have bl' := fun d os => below_regrown w2 d os
  have hLR : ∀ w', (∃ p : Regrown, w' = grow (redrawn w2 p.d) p.os) → w'.heap[w.heap.size]? = some (.cells [.int .i64 k, .string dg, .int .i64 vi, .int .i64 tg.who, .string tg.mac, .int .i64 ba.author, .int .i64 ba.number, .slice ba.ta ba.txs.length ba.tc, .int .i64 he.author, .int .i64 he.round, .slice he.ra he.refs.length he.rc, .slice he.pa he.parents.length he.pc, .int .i64 ce.hdr.author, .int .i64 ce.hdr.round, .slice ce.hdr.ra ce.hdr.refs.length ce.hdr.rc, .slice ce.hdr.pa ce.hdr.parents.length ce.hdr.pc, .slice ce.va ce.votes.length ce.vc, .int .i64 bl.view, .int .i64 bl.qc.view, .string bl.qc.block, .slice bl.qc.va bl.qc.votes.length bl.qc.vc, .slice bl.ca bl.certs.length bl.cc, .int .i64 q.view, .string q.block, .slice q.va q.votes.length q.vc].toArray 39 (0, 0)) := by
    rintro w' ⟨p, rfl⟩
    exact hX2.below (bl' p.d p.os) hX2.lt
  have k1 : ∀ d os, Calls Tryz.prog 45 #[.agg [.int .i64 k, .string dg, .int .i64 vi, .int .i64 tg.who, .string tg.mac, .int .i64 ba.author, .int .i64 ba.number, .slice ba.ta ba.txs.length ba.tc, .int .i64 he.author, .int .i64 he.round, .slice he.ra he.refs.length he.rc, .slice he.pa he.parents.length he.pc, .int .i64 ce.hdr.author, .int .i64 ce.hdr.round, .slice ce.hdr.ra ce.hdr.refs.length ce.hdr.rc, .slice ce.hdr.pa ce.hdr.parents.length ce.hdr.pc, .slice ce.va ce.votes.length ce.vc, .int .i64 bl.view, .int .i64 bl.qc.view, .string bl.qc.block, .slice bl.qc.va bl.qc.votes.length bl.qc.vc, .slice bl.ca bl.certs.length bl.cc, .int .i64 q.view, .string q.block, .slice q.va q.votes.length q.vc].toArray] (grow (redrawn w2 d) os) fun e w'' => e = .returned bv ∧ ∃ p : Regrown, w'' = grow (redrawn w2 p.d) p.os := fun d os => Calls.regrown_of (cBare _)
  have k2 : ∀ d os, Calls Tryz.prog 44 #[.agg [.int .i64 k, .string dg, .int .i64 vi, .int .i64 tg.who, .string tg.mac, .int .i64 ba.author, .int .i64 ba.number, .slice ba.ta ba.txs.length ba.tc, .int .i64 he.author, .int .i64 he.round, .slice he.ra he.refs.length he.rc, .slice he.pa he.parents.length he.pc, .int .i64 ce.hdr.author, .int .i64 ce.hdr.round, .slice ce.hdr.ra ce.hdr.refs.length ce.hdr.rc, .slice ce.hdr.pa ce.hdr.parents.length ce.hdr.pc, .slice ce.va ce.votes.length ce.vc, .int .i64 bl.view, .int .i64 bl.qc.view, .string bl.qc.block, .slice bl.qc.va bl.qc.votes.length bl.qc.vc, .slice bl.ca bl.certs.length bl.cc, .int .i64 q.view, .string q.block, .slice q.va q.votes.length q.vc].toArray, bv] (grow (redrawn w2 d) os) fun e w'' => e = .returned (.bool br) ∧ ∃ p : Regrown, w'' = grow (redrawn w2 p.d) p.os := fun d os => Calls.regrown_of (cSame _ (hA2.below (bl' d os)))
  have HXF : Hid (∀ d os, Arr (grow (redrawn w2 d) os) w.heap.size 39 [.int .i64 k, .string dg, .int .i64 vi, .int .i64 tg.who, .string tg.mac, .int .i64 ba.author, .int .i64 ba.number, .slice ba.ta ba.txs.length ba.tc, .int .i64 he.author, .int .i64 he.round, .slice he.ra he.refs.length he.rc, .slice he.pa he.parents.length he.pc, .int .i64 ce.hdr.author, .int .i64 ce.hdr.round, .slice ce.hdr.ra ce.hdr.refs.length ce.hdr.rc, .slice ce.hdr.pa ce.hdr.parents.length ce.hdr.pc, .slice ce.va ce.votes.length ce.vc, .int .i64 bl.view, .int .i64 bl.qc.view, .string bl.qc.block, .slice bl.qc.va bl.qc.votes.length bl.qc.vc, .slice bl.ca bl.certs.length bl.cc, .int .i64 q.view, .string q.block, .slice q.va q.votes.length q.vc] ∧ Below w.heap.size w (grow (redrawn w2 d) os) ∧ MsgM.At (grow (redrawn w2 d) os) ⟨k, dg, vi, tg, ba, he, ce, bl, q⟩) := fun d os => ⟨hX2.below (bl' d os) hX2.lt, hB2.trans ((bl' d os).mono hB2.size), hA2.below (bl' d os)⟩
  clear cBare cSame bl' hX2 hB2 hA2
  go_wp2_with fail
  refine wp_region_quiet_below (by kernel_rfl) (by kernel_rfl) ?_
  iterate 2
    go_big_quiet_want
    refine quiet_load_row 39 _ (by rfl) w.heap.size (by rfl) 39 _ (0, 0) _ hLR Tryz.underlying39 (by rfl) infoMsg9 ?_
    simp only [Act.put, List.setIfInBounds_toArray, List.set_cons_succ, List.set_cons_zero]
    go_big_quiet_on
  go_big_quiet_step (exact k1 _ _)
  go_big_quiet_step (exact k2 _ _)
  go_big_quiet_step (fail)
  refine wpQuiet_nil ?_
  rintro w' ⟨p, rfl⟩
  obtain ⟨hX, hB, hM⟩ := HXF.out p.d p.os
  generalize grow (redrawn w2 p.d) p.os = w3 at hX hB hM ⊢
  clear k1 k2 HXF hLR p
  cases br
  case false =>
    have ho : Hid (out = 3) := by
      show _ = _
      rw [hout.out]
      unfold chkM
      rw [if_neg HK.out, if_pos]
      exact of_decide_eq_false hbr.out.symm
    clear hout hbr HK hM hX
    go_wp2
    go_ret
    exact ⟨by rw [ho.out]; rfl, hB⟩
  have hbare0 : (MsgM.d ⟨k, dg, vi, tg, ba, he, ce, bl, q⟩).Bare := of_decide_eq_true hbr.out.symm
  have hbare : Hid (MsgM.d ⟨k, dg, vi, tg, ba, he, ce, bl, q⟩).Bare := hbare0
  clear hbr hbare0
  go_wp2_with fail
  refine (gb _).mono ?_
  rintro e w0 ⟨rfl, rfl⟩
  clear gb
  obtain ⟨P, hd⟩ : ∃ P : Prop, Hid (P ↔ MsgD.Ok (MsgM.d ⟨k, dg, vi, tg, ba, he, ce, bl, q⟩)) := ⟨_, Iff.rfl⟩
  have hr : Hid (chkM (MsgM.d ⟨k, dg, vi, tg, ba, he, ce, bl, q⟩) = if okM (MsgM.d ⟨k, dg, vi, tg, ba, he, ce, bl, q⟩) = true then 0 else 3) := by
    show _ = _
    unfold chkM
    rw [if_neg HK.out, if_neg (fun h => h hbare.out), if_neg (by show ¬ (98 : UInt8) ∈ fieldsK k; rw [hk]; decide)]
  have hY : Hid (P → out = 0) := fun h => by rw [hout.out, hr.out, if_pos (okM_iff.2 (hd.out.1 h))]
  have hN : Hid (¬ P → out = 3) := fun h => by rw [hout.out, hr.out, if_neg (fun h' => h (hd.out.2 (okM_iff.1 h')))]
  replace hd : Hid (P ↔ (numOk vi ∧ tagOk tg ∧ he.d.Plain ∧ ce.hdr.d.Plain ∧ tagsOk ce.votes ∧ q.d.Plain)) := hd.out.trans ⟨fun h => ⟨h.num, h.tag (by show (116 : UInt8) ∈ fieldsK k; rw [hk]; decide), h.hdr, h.cert.1, h.cert.2, h.qc (by show (113 : UInt8) ∈ fieldsK k; rw [hk]; decide)⟩, fun h => ⟨(fun hc => absurd (hk ▸ hc) (by decide)), h.1, (fun _ => h.2.1), h.2.2.1, ⟨h.2.2.2.1, h.2.2.2.2.1⟩, (fun _ => h.2.2.2.2.2), (fun hc => absurd (hk ▸ hc) (by decide))⟩⟩
  clear hout hr hbare HK hne
  go_wp2_with fail
  refine (gd _).mono ?_
  rintro e w0 ⟨rfl, rfl⟩
  clear gd
  have x2 := hX.cell (i := 2) rfl
  go_wp2_with fail
  refine (refNumber_any vi _).mono ?_
  rintro e w4 ⟨⟨p, rfl, hp⟩, hb⟩
  have hX2 := hX.below hb hX.lt
  have hB2 := hB.trans (hb.mono hB.size)
  have hM2 := hM.below hb
  clear hX hB hM hb x2
  obtain ⟨hX, hB, hM⟩ := And.intro hX2 (And.intro hB2 hM2)
  clear hX2 hB2 hM2
  cases p
  case false =>
    have ho : Hid (out = 3) := hN.out (fun h => by have := hp.2 (hd.out.1 h).1; cases this)
    clear hd hY hN hp
    go_wp2
    go_ret
    exact ⟨by rw [ho.out]; rfl, hB⟩
  replace hd : Hid (P ↔ (tagOk tg ∧ he.d.Plain ∧ ce.hdr.d.Plain ∧ tagsOk ce.votes ∧ q.d.Plain)) := ⟨fun h => (hd.out.1 h).2, fun h => hd.out.2 ⟨hp.1 rfl, h⟩⟩
  clear hp
  go_wp2_with fail
  refine (gt _).mono ?_
  rintro e w0 ⟨rfl, rfl⟩
  clear gt
  have x3 := hX.cell (i := 3) rfl
  have x4 := hX.cell (i := 4) rfl
  go_wp2_with fail
  refine (refTag_any tg _).mono ?_
  rintro e w4 ⟨⟨p, rfl, hp⟩, hb⟩
  have hX2 := hX.below hb hX.lt
  have hB2 := hB.trans (hb.mono hB.size)
  have hM2 := hM.below hb
  clear hX hB hM hb x3 x4
  obtain ⟨hX, hB, hM⟩ := And.intro hX2 (And.intro hB2 hM2)
  clear hX2 hB2 hM2
  cases p
  case false =>
    have ho : Hid (out = 3) := hN.out (fun h => by have := hp.2 (hd.out.1 h).1; cases this)
    clear hd hY hN hp
    go_wp2
    go_ret
    exact ⟨by rw [ho.out]; rfl, hB⟩
  replace hd : Hid (P ↔ (he.d.Plain ∧ ce.hdr.d.Plain ∧ tagsOk ce.votes ∧ q.d.Plain)) := ⟨fun h => (hd.out.1 h).2, fun h => hd.out.2 ⟨hp.1 rfl, h⟩⟩
  clear hp
  have x8 := hX.cell (i := 8) rfl
  have x9 := hX.cell (i := 9) rfl
  have x10 := hX.cell (i := 10) rfl
  have x11 := hX.cell (i := 11) rfl
  go_wp2_with fail
  refine (refHead_any he _ hM.hdr hn.refs hn.ps hn.acks).mono ?_
  rintro e w4 ⟨⟨p, rfl, hp⟩, hb⟩
  have hX2 := hX.below hb hX.lt
  have hB2 := hB.trans (hb.mono hB.size)
  have hM2 := hM.below hb
  clear hX hB hM hb x8 x9 x10 x11
  obtain ⟨hX, hB, hM⟩ := And.intro hX2 (And.intro hB2 hM2)
  clear hX2 hB2 hM2
  cases p
  case false =>
    have ho : Hid (out = 3) := hN.out (fun h => by have := hp.2 (hd.out.1 h).1; cases this)
    clear hd hY hN hp
    go_wp2
    go_ret
    exact ⟨by rw [ho.out]; rfl, hB⟩
  replace hd : Hid (P ↔ (ce.hdr.d.Plain ∧ tagsOk ce.votes ∧ q.d.Plain)) := ⟨fun h => (hd.out.1 h).2, fun h => hd.out.2 ⟨hp.1 rfl, h⟩⟩
  clear hp
  have x12 := hX.cell (i := 12) rfl
  have x13 := hX.cell (i := 13) rfl
  have x14 := hX.cell (i := 14) rfl
  have x15 := hX.cell (i := 15) rfl
  go_wp2_with fail
  refine (refHead_any ce.hdr _ hM.cert.hdr hn.crefs hn.cps hn.cacks).mono ?_
  rintro e w4 ⟨⟨p, rfl, hp⟩, hb⟩
  have hX2 := hX.below hb hX.lt
  have hB2 := hB.trans (hb.mono hB.size)
  have hM2 := hM.below hb
  clear hX hB hM hb x12 x13 x14 x15
  obtain ⟨hX, hB, hM⟩ := And.intro hX2 (And.intro hB2 hM2)
  clear hX2 hB2 hM2
  cases p
  case false =>
    have ho : Hid (out = 3) := hN.out (fun h => by have := hp.2 (hd.out.1 h).1; cases this)
    clear hd hY hN hp
    go_wp2
    go_ret
    exact ⟨by rw [ho.out]; rfl, hB⟩
  replace hd : Hid (P ↔ (tagsOk ce.votes ∧ q.d.Plain)) := ⟨fun h => (hd.out.1 h).2, fun h => hd.out.2 ⟨hp.1 rfl, h⟩⟩
  clear hp
  have x16 := hX.cell (i := 16) rfl
  go_wp2_with fail
  refine (refTags9_any ce.va ce.vc ce.votes _ hM.cert.votes hn.votes).mono ?_
  rintro e w4 ⟨⟨p, rfl, hp⟩, hb⟩
  have hX2 := hX.below hb hX.lt
  have hB2 := hB.trans (hb.mono hB.size)
  have hM2 := hM.below hb
  clear hX hB hM hb x16
  obtain ⟨hX, hB, hM⟩ := And.intro hX2 (And.intro hB2 hM2)
  clear hX2 hB2 hM2
  cases p
  case false =>
    have ho : Hid (out = 3) := hN.out (fun h => by have := hp.2 (hd.out.1 h).1; cases this)
    clear hd hY hN hp
    go_wp2
    go_ret
    exact ⟨by rw [ho.out]; rfl, hB⟩
  replace hd : Hid (P ↔ (q.d.Plain)) := ⟨fun h => (hd.out.1 h).2, fun h => hd.out.2 ⟨hp.1 rfl, h⟩⟩
  clear hp
  go_wp2_with fail
  refine (gq _).mono ?_
  rintro e w0 ⟨rfl, rfl⟩
  clear gq
  have x22 := hX.cell (i := 22) rfl
  have x23 := hX.cell (i := 23) rfl
  have x24 := hX.cell (i := 24) rfl
  go_wp2_with fail
  refine (refQc9_any q _ hM.qc hn.qvotes).mono ?_
  rintro e w4 ⟨⟨p, rfl, hp⟩, hb⟩
  have hX2 := hX.below hb hX.lt
  have hB2 := hB.trans (hb.mono hB.size)
  have hM2 := hM.below hb
  clear hX hB hM hb x22 x23 x24
  obtain ⟨hX, hB, hM⟩ := And.intro hX2 (And.intro hB2 hM2)
  clear hX2 hB2 hM2
  cases p
  case false =>
    have ho : Hid (out = 3) := hN.out (fun h => by have := hp.2 (hd.out.1 h); cases this)
    clear hd hY hN hp
    go_wp2
    go_ret
    exact ⟨by rw [ho.out]; rfl, hB⟩
  have ho : Hid (out = 0) := hY.out (hd.out.2 (hp.1 rfl))
  clear hp hd hY hN
  go_wp2_with fail
  refine (gk _).mono ?_
  rintro e w0 ⟨rfl, rfl⟩
  clear gk
  go_wp2
  go_ret
  exact ⟨by rw [ho.out]; rfl, hB⟩

set_option maxRecDepth 100000 in
set_option maxHeartbeats 16000000 in
theorem refCheck_d (k : Int) (dg : ByteArray) (vi : Int) (tg : TagD) (ba : BatM) (he : HdrM) (ce : CertM) (bl : BlkM) (q : QcM) (w : World) (hA : MsgM.At w ⟨k, dg, vi, tg, ba, he, ce, bl, q⟩) (hn : MsgM.Num ⟨k, dg, vi, tg, ba, he, ce, bl, q⟩) (hS : ∀ t ∈ ba.txs, TxSizes t.d) (hk : fieldsK k = [100]) :
    Calls Tryz.prog 24 #[MsgM.v ⟨k, dg, vi, tg, ba, he, ce, bl, q⟩] w fun e w' => e = .returned (.int .i64 (chkM (MsgM.d ⟨k, dg, vi, tg, ba, he, ce, bl, q⟩) : Int)) ∧ Below w.heap.size w w' := by
  have gb : ∀ w1, Calls Tryz.prog 46 #[.string ⟨#[100]⟩, .int .u8 98] w1 fun e w' => e = .returned (.bool false) ∧ w' = w1 := fun w1 => refHas_any ⟨#[100]⟩ 98 w1 (by decide)
  have gd : ∀ w1, Calls Tryz.prog 46 #[.string ⟨#[100]⟩, .int .u8 100] w1 fun e w' => e = .returned (.bool true) ∧ w' = w1 := fun w1 => refHas_any ⟨#[100]⟩ 100 w1 (by decide)
  have gt : ∀ w1, Calls Tryz.prog 46 #[.string ⟨#[100]⟩, .int .u8 116] w1 fun e w' => e = .returned (.bool false) ∧ w' = w1 := fun w1 => refHas_any ⟨#[100]⟩ 116 w1 (by decide)
  have gq : ∀ w1, Calls Tryz.prog 46 #[.string ⟨#[100]⟩, .int .u8 113] w1 fun e w' => e = .returned (.bool false) ∧ w' = w1 := fun w1 => refHas_any ⟨#[100]⟩ 113 w1 (by decide)
  have gk : ∀ w1, Calls Tryz.prog 46 #[.string ⟨#[100]⟩, .int .u8 107] w1 fun e w' => e = .returned (.bool false) ∧ w' = w1 := fun w1 => refHas_any ⟨#[100]⟩ 107 w1 (by decide)
  obtain ⟨out, hout⟩ : ∃ n : Nat, Hid (n = chkM (MsgM.d ⟨k, dg, vi, tg, ba, he, ce, bl, q⟩)) := ⟨_, rfl⟩
  rw [← hout.out]
  have hX := Arr.new w 39 [.int .i64 k, .string dg, .int .i64 vi, .int .i64 tg.who, .string tg.mac, .int .i64 ba.author, .int .i64 ba.number, .slice ba.ta ba.txs.length ba.tc, .int .i64 he.author, .int .i64 he.round, .slice he.ra he.refs.length he.rc, .slice he.pa he.parents.length he.pc, .int .i64 ce.hdr.author, .int .i64 ce.hdr.round, .slice ce.hdr.ra ce.hdr.refs.length ce.hdr.rc, .slice ce.hdr.pa ce.hdr.parents.length ce.hdr.pc, .slice ce.va ce.votes.length ce.vc, .int .i64 bl.view, .int .i64 bl.qc.view, .string bl.qc.block, .slice bl.qc.va bl.qc.votes.length bl.qc.vc, .slice bl.ca bl.certs.length bl.cc, .int .i64 q.view, .string q.block, .slice q.va q.votes.length q.vc]
  have hB := belowNew w (.cells [.int .i64 k, .string dg, .int .i64 vi, .int .i64 tg.who, .string tg.mac, .int .i64 ba.author, .int .i64 ba.number, .slice ba.ta ba.txs.length ba.tc, .int .i64 he.author, .int .i64 he.round, .slice he.ra he.refs.length he.rc, .slice he.pa he.parents.length he.pc, .int .i64 ce.hdr.author, .int .i64 ce.hdr.round, .slice ce.hdr.ra ce.hdr.refs.length ce.hdr.rc, .slice ce.hdr.pa ce.hdr.parents.length ce.hdr.pc, .slice ce.va ce.votes.length ce.vc, .int .i64 bl.view, .int .i64 bl.qc.view, .string bl.qc.block, .slice bl.qc.va bl.qc.votes.length bl.qc.vc, .slice bl.ca bl.certs.length bl.cc, .int .i64 q.view, .string q.block, .slice q.va q.votes.length q.vc].toArray 39)
  have hAB := hA.below hB
  have hne : fieldsK k ≠ [] := by rw [hk]; simp
  have cF : ∀ w1, Calls Tryz.prog 43 #[.int .i64 k] w1 fun e w' => e = .returned (.string ⟨#[100]⟩) ∧ Below w1.heap.size w1 w' := fun w1 => by
    have := refFields_any k w1
    unfold fieldsS at this
    rw [hk] at this
    exact this
  have cBare := fun w1 => refBare_any ⟨k, dg, vi, tg, ba, he, ce, bl, q⟩ w1 hne
  have cSame := fun w1 h1 => (sameBare_any ⟨k, dg, vi, tg, ba, he, ce, bl, q⟩ w1 h1 hn).mono (fun e w' h => told_decide h)
  have HK : Hid (¬ fieldsK (MsgM.d ⟨k, dg, vi, tg, ba, he, ce, bl, q⟩).kind = []) := hne
  obtain ⟨br, hbr⟩ : ∃ b : Bool, Hid (b = decide (MsgM.d ⟨k, dg, vi, tg, ba, he, ce, bl, q⟩).Bare) := ⟨_, rfl⟩
  rw [← hbr.out] at cSame
  obtain ⟨bv, hbv⟩ : ∃ v, v = (bareM ⟨k, dg, vi, tg, ba, he, ce, bl, q⟩).v := ⟨_, rfl⟩
  rw [← hbv] at cBare cSame
  clear hbv
  unfold MsgM.v MsgM.c at cBare cSame ⊢
  simp only at cBare cSame ⊢
  obtain ⟨w1, hw1⟩ : ∃ q', w.alloc (.cells [.int .i64 k, .string dg, .int .i64 vi, .int .i64 tg.who, .string tg.mac, .int .i64 ba.author, .int .i64 ba.number, .slice ba.ta ba.txs.length ba.tc, .int .i64 he.author, .int .i64 he.round, .slice he.ra he.refs.length he.rc, .slice he.pa he.parents.length he.pc, .int .i64 ce.hdr.author, .int .i64 ce.hdr.round, .slice ce.hdr.ra ce.hdr.refs.length ce.hdr.rc, .slice ce.hdr.pa ce.hdr.parents.length ce.hdr.pc, .slice ce.va ce.votes.length ce.vc, .int .i64 bl.view, .int .i64 bl.qc.view, .string bl.qc.block, .slice bl.qc.va bl.qc.votes.length bl.qc.vc, .slice bl.ca bl.certs.length bl.cc, .int .i64 q.view, .string q.block, .slice q.va q.votes.length q.vc].toArray 39) = q' := ⟨_, rfl⟩
  rw [hw1] at hX hB hAB
  have x0 := hX.cell (i := 0) rfl
  go_enter Tryz.func24, Tryz.ntmps24
  go_wp2_with fail
  refine (cF _).mono ?_
  rintro e w2 ⟨rfl, hb2⟩
  have hX2 := hX.below hb2 hX.lt
  have hB2 := hB.trans (hb2.mono hB.size)
  have hA2 := hAB.below hb2
  clear hX hB hb2 x0 cF hw1 hA hAB
  have bl' := fun d os => below_regrown w2 d os
  have hLR : ∀ w', (∃ p : Regrown, w' = grow (redrawn w2 p.d) p.os) → w'.heap[w.heap.size]? = some (.cells [.int .i64 k, .string dg, .int .i64 vi, .int .i64 tg.who, .string tg.mac, .int .i64 ba.author, .int .i64 ba.number, .slice ba.ta ba.txs.length ba.tc, .int .i64 he.author, .int .i64 he.round, .slice he.ra he.refs.length he.rc, .slice he.pa he.parents.length he.pc, .int .i64 ce.hdr.author, .int .i64 ce.hdr.round, .slice ce.hdr.ra ce.hdr.refs.length ce.hdr.rc, .slice ce.hdr.pa ce.hdr.parents.length ce.hdr.pc, .slice ce.va ce.votes.length ce.vc, .int .i64 bl.view, .int .i64 bl.qc.view, .string bl.qc.block, .slice bl.qc.va bl.qc.votes.length bl.qc.vc, .slice bl.ca bl.certs.length bl.cc, .int .i64 q.view, .string q.block, .slice q.va q.votes.length q.vc].toArray 39 (0, 0)) := by
    rintro w' ⟨p, rfl⟩
    exact hX2.below (bl' p.d p.os) hX2.lt
  have k1 : ∀ d os, Calls Tryz.prog 45 #[.agg [.int .i64 k, .string dg, .int .i64 vi, .int .i64 tg.who, .string tg.mac, .int .i64 ba.author, .int .i64 ba.number, .slice ba.ta ba.txs.length ba.tc, .int .i64 he.author, .int .i64 he.round, .slice he.ra he.refs.length he.rc, .slice he.pa he.parents.length he.pc, .int .i64 ce.hdr.author, .int .i64 ce.hdr.round, .slice ce.hdr.ra ce.hdr.refs.length ce.hdr.rc, .slice ce.hdr.pa ce.hdr.parents.length ce.hdr.pc, .slice ce.va ce.votes.length ce.vc, .int .i64 bl.view, .int .i64 bl.qc.view, .string bl.qc.block, .slice bl.qc.va bl.qc.votes.length bl.qc.vc, .slice bl.ca bl.certs.length bl.cc, .int .i64 q.view, .string q.block, .slice q.va q.votes.length q.vc].toArray] (grow (redrawn w2 d) os) fun e w'' => e = .returned bv ∧ ∃ p : Regrown, w'' = grow (redrawn w2 p.d) p.os := fun d os => Calls.regrown_of (cBare _)
  have k2 : ∀ d os, Calls Tryz.prog 44 #[.agg [.int .i64 k, .string dg, .int .i64 vi, .int .i64 tg.who, .string tg.mac, .int .i64 ba.author, .int .i64 ba.number, .slice ba.ta ba.txs.length ba.tc, .int .i64 he.author, .int .i64 he.round, .slice he.ra he.refs.length he.rc, .slice he.pa he.parents.length he.pc, .int .i64 ce.hdr.author, .int .i64 ce.hdr.round, .slice ce.hdr.ra ce.hdr.refs.length ce.hdr.rc, .slice ce.hdr.pa ce.hdr.parents.length ce.hdr.pc, .slice ce.va ce.votes.length ce.vc, .int .i64 bl.view, .int .i64 bl.qc.view, .string bl.qc.block, .slice bl.qc.va bl.qc.votes.length bl.qc.vc, .slice bl.ca bl.certs.length bl.cc, .int .i64 q.view, .string q.block, .slice q.va q.votes.length q.vc].toArray, bv] (grow (redrawn w2 d) os) fun e w'' => e = .returned (.bool br) ∧ ∃ p : Regrown, w'' = grow (redrawn w2 p.d) p.os := fun d os => Calls.regrown_of (cSame _ (hA2.below (bl' d os)))
  have HXF : Hid (∀ d os, Arr (grow (redrawn w2 d) os) w.heap.size 39 [.int .i64 k, .string dg, .int .i64 vi, .int .i64 tg.who, .string tg.mac, .int .i64 ba.author, .int .i64 ba.number, .slice ba.ta ba.txs.length ba.tc, .int .i64 he.author, .int .i64 he.round, .slice he.ra he.refs.length he.rc, .slice he.pa he.parents.length he.pc, .int .i64 ce.hdr.author, .int .i64 ce.hdr.round, .slice ce.hdr.ra ce.hdr.refs.length ce.hdr.rc, .slice ce.hdr.pa ce.hdr.parents.length ce.hdr.pc, .slice ce.va ce.votes.length ce.vc, .int .i64 bl.view, .int .i64 bl.qc.view, .string bl.qc.block, .slice bl.qc.va bl.qc.votes.length bl.qc.vc, .slice bl.ca bl.certs.length bl.cc, .int .i64 q.view, .string q.block, .slice q.va q.votes.length q.vc] ∧ Below w.heap.size w (grow (redrawn w2 d) os) ∧ MsgM.At (grow (redrawn w2 d) os) ⟨k, dg, vi, tg, ba, he, ce, bl, q⟩) := fun d os => ⟨hX2.below (bl' d os) hX2.lt, hB2.trans ((bl' d os).mono hB2.size), hA2.below (bl' d os)⟩
  clear cBare cSame bl' hX2 hB2 hA2
  go_wp2_with fail
  refine wp_region_quiet_below (by kernel_rfl) (by kernel_rfl) ?_
  iterate 2
    go_big_quiet_want
    refine quiet_load_row 39 _ (by rfl) w.heap.size (by rfl) 39 _ (0, 0) _ hLR Tryz.underlying39 (by rfl) infoMsg9 ?_
    simp only [Act.put, List.setIfInBounds_toArray, List.set_cons_succ, List.set_cons_zero]
    go_big_quiet_on
  go_big_quiet_step (exact k1 _ _)
  go_big_quiet_step (exact k2 _ _)
  go_big_quiet_step (fail)
  refine wpQuiet_nil ?_
  rintro w' ⟨p, rfl⟩
  obtain ⟨hX, hB, hM⟩ := HXF.out p.d p.os
  generalize grow (redrawn w2 p.d) p.os = w3 at hX hB hM ⊢
  clear k1 k2 HXF hLR p
  cases br
  case false =>
    have ho : Hid (out = 3) := by
      show _ = _
      rw [hout.out]
      unfold chkM
      rw [if_neg HK.out, if_pos]
      exact of_decide_eq_false hbr.out.symm
    clear hout hbr HK hM hX
    go_wp2
    go_ret
    exact ⟨by rw [ho.out]; rfl, hB⟩
  have hbare0 : (MsgM.d ⟨k, dg, vi, tg, ba, he, ce, bl, q⟩).Bare := of_decide_eq_true hbr.out.symm
  have hbare : Hid (MsgM.d ⟨k, dg, vi, tg, ba, he, ce, bl, q⟩).Bare := hbare0
  clear hbr hbare0
  go_wp2_with fail
  refine (gb _).mono ?_
  rintro e w0 ⟨rfl, rfl⟩
  clear gb
  obtain ⟨P, hd⟩ : ∃ P : Prop, Hid (P ↔ MsgD.Ok (MsgM.d ⟨k, dg, vi, tg, ba, he, ce, bl, q⟩)) := ⟨_, Iff.rfl⟩
  have hr : Hid (chkM (MsgM.d ⟨k, dg, vi, tg, ba, he, ce, bl, q⟩) = if okM (MsgM.d ⟨k, dg, vi, tg, ba, he, ce, bl, q⟩) = true then 0 else 3) := by
    show _ = _
    unfold chkM
    rw [if_neg HK.out, if_neg (fun h => h hbare.out), if_neg (by show ¬ (98 : UInt8) ∈ fieldsK k; rw [hk]; decide)]
  have hY : Hid (P → out = 0) := fun h => by rw [hout.out, hr.out, if_pos (okM_iff.2 (hd.out.1 h))]
  have hN : Hid (¬ P → out = 3) := fun h => by rw [hout.out, hr.out, if_neg (fun h' => h (hd.out.2 (okM_iff.1 h')))]
  replace hd : Hid (P ↔ (dg.size = 32 ∧ numOk vi ∧ he.d.Plain ∧ ce.hdr.d.Plain ∧ tagsOk ce.votes)) := hd.out.trans ⟨fun h => ⟨h.dig (by show (100 : UInt8) ∈ fieldsK k; rw [hk]; decide), h.num, h.hdr, h.cert.1, h.cert.2⟩, fun h => ⟨(fun _ => h.1), h.2.1, (fun hc => absurd (hk ▸ hc) (by decide)), h.2.2.1, ⟨h.2.2.2.1, h.2.2.2.2⟩, (fun hc => absurd (hk ▸ hc) (by decide)), (fun hc => absurd (hk ▸ hc) (by decide))⟩⟩
  clear hout hr hbare HK hne
  go_wp2_with fail
  refine (gd _).mono ?_
  rintro e w0 ⟨rfl, rfl⟩
  clear gd
  have x1 := hX.cell (i := 1) rfl
  cases hz : ((dg.size : Int) == 32)
  case false =>
    have ho : Hid (out = 3) := hN.out (fun h => by rw [beq_eq_false_iff_ne] at hz; exact hz (by have := (hd.out.1 h).1; omega))
    clear hd hY hN
    go_wp2
    go_ret
    exact ⟨by rw [ho.out]; rfl, hB⟩
  replace hd : Hid (P ↔ (numOk vi ∧ he.d.Plain ∧ ce.hdr.d.Plain ∧ tagsOk ce.votes)) := ⟨fun h => (hd.out.1 h).2, fun h => hd.out.2 ⟨by rw [beq_iff_eq] at hz; omega, h⟩⟩
  have x2 := hX.cell (i := 2) rfl
  go_wp2_with fail
  refine (refNumber_any vi _).mono ?_
  rintro e w4 ⟨⟨p, rfl, hp⟩, hb⟩
  have hX2 := hX.below hb hX.lt
  have hB2 := hB.trans (hb.mono hB.size)
  have hM2 := hM.below hb
  clear hX hB hM hb x2 x1 hz
  obtain ⟨hX, hB, hM⟩ := And.intro hX2 (And.intro hB2 hM2)
  clear hX2 hB2 hM2
  cases p
  case false =>
    have ho : Hid (out = 3) := hN.out (fun h => by have := hp.2 (hd.out.1 h).1; cases this)
    clear hd hY hN hp
    go_wp2
    go_ret
    exact ⟨by rw [ho.out]; rfl, hB⟩
  replace hd : Hid (P ↔ (he.d.Plain ∧ ce.hdr.d.Plain ∧ tagsOk ce.votes)) := ⟨fun h => (hd.out.1 h).2, fun h => hd.out.2 ⟨hp.1 rfl, h⟩⟩
  clear hp
  go_wp2_with fail
  refine (gt _).mono ?_
  rintro e w0 ⟨rfl, rfl⟩
  clear gt
  have x8 := hX.cell (i := 8) rfl
  have x9 := hX.cell (i := 9) rfl
  have x10 := hX.cell (i := 10) rfl
  have x11 := hX.cell (i := 11) rfl
  go_wp2_with fail
  refine (refHead_any he _ hM.hdr hn.refs hn.ps hn.acks).mono ?_
  rintro e w4 ⟨⟨p, rfl, hp⟩, hb⟩
  have hX2 := hX.below hb hX.lt
  have hB2 := hB.trans (hb.mono hB.size)
  have hM2 := hM.below hb
  clear hX hB hM hb x8 x9 x10 x11
  obtain ⟨hX, hB, hM⟩ := And.intro hX2 (And.intro hB2 hM2)
  clear hX2 hB2 hM2
  cases p
  case false =>
    have ho : Hid (out = 3) := hN.out (fun h => by have := hp.2 (hd.out.1 h).1; cases this)
    clear hd hY hN hp
    go_wp2
    go_ret
    exact ⟨by rw [ho.out]; rfl, hB⟩
  replace hd : Hid (P ↔ (ce.hdr.d.Plain ∧ tagsOk ce.votes)) := ⟨fun h => (hd.out.1 h).2, fun h => hd.out.2 ⟨hp.1 rfl, h⟩⟩
  clear hp
  have x12 := hX.cell (i := 12) rfl
  have x13 := hX.cell (i := 13) rfl
  have x14 := hX.cell (i := 14) rfl
  have x15 := hX.cell (i := 15) rfl
  go_wp2_with fail
  refine (refHead_any ce.hdr _ hM.cert.hdr hn.crefs hn.cps hn.cacks).mono ?_
  rintro e w4 ⟨⟨p, rfl, hp⟩, hb⟩
  have hX2 := hX.below hb hX.lt
  have hB2 := hB.trans (hb.mono hB.size)
  have hM2 := hM.below hb
  clear hX hB hM hb x12 x13 x14 x15
  obtain ⟨hX, hB, hM⟩ := And.intro hX2 (And.intro hB2 hM2)
  clear hX2 hB2 hM2
  cases p
  case false =>
    have ho : Hid (out = 3) := hN.out (fun h => by have := hp.2 (hd.out.1 h).1; cases this)
    clear hd hY hN hp
    go_wp2
    go_ret
    exact ⟨by rw [ho.out]; rfl, hB⟩
  replace hd : Hid (P ↔ (tagsOk ce.votes)) := ⟨fun h => (hd.out.1 h).2, fun h => hd.out.2 ⟨hp.1 rfl, h⟩⟩
  clear hp
  have x16 := hX.cell (i := 16) rfl
  go_wp2_with fail
  refine (refTags9_any ce.va ce.vc ce.votes _ hM.cert.votes hn.votes).mono ?_
  rintro e w4 ⟨⟨p, rfl, hp⟩, hb⟩
  have hX2 := hX.below hb hX.lt
  have hB2 := hB.trans (hb.mono hB.size)
  have hM2 := hM.below hb
  clear hX hB hM hb x16
  obtain ⟨hX, hB, hM⟩ := And.intro hX2 (And.intro hB2 hM2)
  clear hX2 hB2 hM2
  cases p
  case false =>
    have ho : Hid (out = 3) := hN.out (fun h => by have := hp.2 (hd.out.1 h); cases this)
    clear hd hY hN hp
    go_wp2
    go_ret
    exact ⟨by rw [ho.out]; rfl, hB⟩
  have ho : Hid (out = 0) := hY.out (hd.out.2 (hp.1 rfl))
  clear hp hd hY hN
  go_wp2_with fail
  refine (gq _).mono ?_
  rintro e w0 ⟨rfl, rfl⟩
  clear gq
  go_wp2_with fail
  refine (gk _).mono ?_
  rintro e w0 ⟨rfl, rfl⟩
  clear gk
  go_wp2
  go_ret
  exact ⟨by rw [ho.out]; rfl, hB⟩

set_option maxRecDepth 100000 in
theorem refCheck_none (k : Int) (dg : ByteArray) (vi : Int) (tg : TagD) (ba : BatM) (he : HdrM) (ce : CertM) (bl : BlkM) (q : QcM) (w : World) (hk : fieldsK k = []) :
    Calls Tryz.prog 24 #[MsgM.v ⟨k, dg, vi, tg, ba, he, ce, bl, q⟩] w fun e w' => e = .returned (.int .i64 (chkM (MsgM.d ⟨k, dg, vi, tg, ba, he, ce, bl, q⟩) : Int)) ∧ Below w.heap.size w w' := by
  have ho : Hid (chkM (MsgM.d ⟨k, dg, vi, tg, ba, he, ce, bl, q⟩) = 5) := (if_pos hk : _ = _)
  rw [ho.out]
  have hX := Arr.new w 39 [.int .i64 k, .string dg, .int .i64 vi, .int .i64 tg.who, .string tg.mac, .int .i64 ba.author, .int .i64 ba.number, .slice ba.ta ba.txs.length ba.tc, .int .i64 he.author, .int .i64 he.round, .slice he.ra he.refs.length he.rc, .slice he.pa he.parents.length he.pc, .int .i64 ce.hdr.author, .int .i64 ce.hdr.round, .slice ce.hdr.ra ce.hdr.refs.length ce.hdr.rc, .slice ce.hdr.pa ce.hdr.parents.length ce.hdr.pc, .slice ce.va ce.votes.length ce.vc, .int .i64 bl.view, .int .i64 bl.qc.view, .string bl.qc.block, .slice bl.qc.va bl.qc.votes.length bl.qc.vc, .slice bl.ca bl.certs.length bl.cc, .int .i64 q.view, .string q.block, .slice q.va q.votes.length q.vc]
  have hB := belowNew w (.cells [.int .i64 k, .string dg, .int .i64 vi, .int .i64 tg.who, .string tg.mac, .int .i64 ba.author, .int .i64 ba.number, .slice ba.ta ba.txs.length ba.tc, .int .i64 he.author, .int .i64 he.round, .slice he.ra he.refs.length he.rc, .slice he.pa he.parents.length he.pc, .int .i64 ce.hdr.author, .int .i64 ce.hdr.round, .slice ce.hdr.ra ce.hdr.refs.length ce.hdr.rc, .slice ce.hdr.pa ce.hdr.parents.length ce.hdr.pc, .slice ce.va ce.votes.length ce.vc, .int .i64 bl.view, .int .i64 bl.qc.view, .string bl.qc.block, .slice bl.qc.va bl.qc.votes.length bl.qc.vc, .slice bl.ca bl.certs.length bl.cc, .int .i64 q.view, .string q.block, .slice q.va q.votes.length q.vc].toArray 39)
  have cF : ∀ w1, Calls Tryz.prog 43 #[.int .i64 k] w1 fun e w' => e = .returned (.string ⟨#[]⟩) ∧ Below w1.heap.size w1 w' := fun w1 => by
    have := refFields_any k w1
    unfold fieldsS at this
    rw [hk] at this
    exact this
  unfold MsgM.v MsgM.c
  simp only
  obtain ⟨w1, hw1⟩ : ∃ q', w.alloc (.cells [.int .i64 k, .string dg, .int .i64 vi, .int .i64 tg.who, .string tg.mac, .int .i64 ba.author, .int .i64 ba.number, .slice ba.ta ba.txs.length ba.tc, .int .i64 he.author, .int .i64 he.round, .slice he.ra he.refs.length he.rc, .slice he.pa he.parents.length he.pc, .int .i64 ce.hdr.author, .int .i64 ce.hdr.round, .slice ce.hdr.ra ce.hdr.refs.length ce.hdr.rc, .slice ce.hdr.pa ce.hdr.parents.length ce.hdr.pc, .slice ce.va ce.votes.length ce.vc, .int .i64 bl.view, .int .i64 bl.qc.view, .string bl.qc.block, .slice bl.qc.va bl.qc.votes.length bl.qc.vc, .slice bl.ca bl.certs.length bl.cc, .int .i64 q.view, .string q.block, .slice q.va q.votes.length q.vc].toArray 39) = q' := ⟨_, rfl⟩
  rw [hw1] at hX hB
  have x0 := hX.cell (i := 0) rfl
  clear ho hk
  go_enter Tryz.func24, Tryz.ntmps24
  go_wp2_with fail
  refine (cF _).mono ?_
  rintro e w2 ⟨rfl, hb2⟩
  have hB2 := hB.trans (hb2.mono hB.size)
  clear hX hB hb2 x0 cF hw1
  go_wp2
  go_ret
  exact ⟨rfl, hB2⟩

theorem refMsgCheck_any (x : MsgM) (w : World) (hA : x.At w) (hn : x.Num) (hS : ∀ t ∈ x.bat.txs, TxSizes t.d) :
    Calls Tryz.prog 24 #[x.v] w fun e w' => e = .returned (.int .i64 (chkM x.d : Int)) ∧ Below w.heap.size w w' := by
  obtain ⟨k, dg, vi, tg, ba, he, ce, bl, q⟩ := x
  by_cases h0 : fieldsK k = []
  · exact refCheck_none k dg vi tg ba he ce bl q w h0
  · have hK := kind_cases h0
    rcases hK with rfl | rfl | rfl | rfl | rfl | rfl | rfl | rfl | rfl | rfl | rfl
    · exact refCheck_b 1 dg vi tg ba he ce bl q w hA hn hS rfl
    · exact refCheck_dt 2 dg vi tg ba he ce bl q w hA hn hS rfl
    · exact refCheck_h 3 dg vi tg ba he ce bl q w hA hn hS rfl
    · exact refCheck_dt 4 dg vi tg ba he ce bl q w hA hn hS rfl
    · exact refCheck_c 5 dg vi tg ba he ce bl q w hA hn hS rfl
    · exact refCheck_kt 6 dg vi tg ba he ce bl q w hA hn hS rfl
    · exact refCheck_vdt 7 dg vi tg ba he ce bl q w hA hn hS rfl
    · exact refCheck_vqt 8 dg vi tg ba he ce bl q w hA hn hS rfl
    · exact refCheck_d 9 dg vi tg ba he ce bl q w hA hn hS rfl
    · exact refCheck_d 10 dg vi tg ba he ce bl q w hA hn hS rfl
    · exact refCheck_d 11 dg vi tg ba he ce bl q w hA hn hS rfl
end Go.Proofs.YtaoiejgbbmjpkaaGreatDoor
