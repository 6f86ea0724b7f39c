/- Texts as one: MsgField, RefTxName, RefTxCheck, RefTxRight, RefBatCheck, RefInt. -/
import Derived.Test.YtmngiekobmhpaaaGreatRk12
import Derived.Test.YtmngiekobmhpaaaGreatRk03
import Derived.Test.YtmngiekobmhpaaaGreatRk05
import Derived.Deep.QuietTactic
import Derived.BigQuiet
import Derived.Test.YtmngiekobmhpaaaGreatRk02
import Derived.Test.YtmngiekobmhpaaaGreatRk06
import Derived.Test.YtmngiekobmhpaaaGreatRk01
import Derived.Deep.RegionWith
/- How package msg's reader takes a field of a letter and puts it into the message. -/
namespace Go.Proofs.YtmngiekobmhpaaaGreat
open Go.RowKit
set_option linter.unusedVariables false

/-- What field does. -/
def GotField (rb N : Nat) (c : UInt8) (rest : ByteArray) (m : MsgM) (W : World) (e : Ending) (w : World) : Prop :=
  ∃ (er : Nat) (rest' : ByteArray) (m' : MsgM), e = .returned (.int .i64 (er : Int)) ∧ Arr w rb 58 (.string rest' :: m'.c) ∧ m'.At w ∧ (∀ b, m'.foot b → N ≤ b) ∧ rest'.size ≤ maxLen ∧ Kept (fun k => k = rb) W w ∧
    ((er = 0 ∧ stepF c m.d rest.data.toList = .ok (m'.d, rest'.data.toList)) ∨ (er ≠ 0 ∧ stepF c m.d rest.data.toList = .error er))

theorem step_v {p : MsgD} {l : List UInt8} {v k er : Nat} (h : getInt l = (v, k, er)) : stepF 118 p l = if er ≠ 0 then .error er else .ok ({ p with view := (v : Int) }, l.drop k) := by
  unfold stepF rdF
  simp only [if_true]
  unfold rdI
  rw [h]

theorem step_d {p : MsgD} {l t : List UInt8} {k er : Nat} (h : getText l = (t, k, er)) : stepF 100 p l = if er ≠ 0 then .error er else .ok ({ p with digest := ⟨t.toArray⟩ }, l.drop k) := by
  unfold stepF rdF
  simp only [if_neg (by decide : ¬ (100 : UInt8) = 118), if_neg (by decide : ¬ (100 : UInt8) = 116), if_true]
  unfold rdT
  rw [h]

theorem step_t_ok {p : MsgD} {l : List UInt8} {t : TagD} {k : Nat} (h : getTagsL l = ([t], k, 0)) : stepF 116 p l = .ok ({ p with tag := t }, l.drop k) := by
  unfold stepF rdF
  simp only [if_neg (by decide : ¬ (116 : UInt8) = 118), if_true]
  unfold rdG
  rw [h]
  rfl

theorem step_t_err {p : MsgD} {l : List UInt8} {ts : List TagD} {k er : Nat} (h : getTagsL l = (ts, k, er)) (he : er ≠ 0) : stepF 116 p l = .error er := by
  unfold stepF rdF
  simp only [if_neg (by decide : ¬ (116 : UInt8) = 118), if_true]
  unfold rdG
  rw [h]
  exact if_pos he

theorem step_t_few {p : MsgD} {l : List UInt8} {ts : List TagD} {k : Nat} (h : getTagsL l = (ts, k, 0)) (hl : ts.length ≠ 1) : stepF 116 p l = .error 12 := by
  unfold stepF rdF
  simp only [if_neg (by decide : ¬ (116 : UInt8) = 118), if_true]
  unfold rdG
  rw [h, if_neg (by simp)]
  rcases ts with _ | ⟨t, _ | ⟨t2, r⟩⟩
  · rfl
  · exact absurd rfl hl
  · rfl

theorem step_b {p : MsgD} {l t : List UInt8} {k er : Nat} (h : getText l = (t, k, er)) : stepF 98 p l = match (if er ≠ 0 then .error er else decBat t : Except Nat BatD) with
    | .error e => .error e
    | .ok b => .ok ({ p with batch := b }, l.drop k) := by
  unfold stepF rdF
  simp only [if_neg (by decide : ¬ (98 : UInt8) = 118), if_neg (by decide : ¬ (98 : UInt8) = 116), if_neg (by decide : ¬ (98 : UInt8) = 100), if_true]
  unfold rdT
  rw [h]
  by_cases he : er ≠ 0
  · rw [if_pos he, if_pos he]
  · rw [if_neg he, if_neg he]
    rfl

theorem step_h {p : MsgD} {l t : List UInt8} {k er : Nat} (h : getText l = (t, k, er)) : stepF 104 p l = match (if er ≠ 0 then .error er else decH t : Except Nat HdrD) with
    | .error e => .error e
    | .ok b => .ok ({ p with header := b }, l.drop k) := by
  unfold stepF rdF
  simp only [if_neg (by decide : ¬ (104 : UInt8) = 118), if_neg (by decide : ¬ (104 : UInt8) = 116), if_neg (by decide : ¬ (104 : UInt8) = 100), if_neg (by decide : ¬ (104 : UInt8) = 98), if_true]
  unfold rdT
  rw [h]
  by_cases he : er ≠ 0
  · rw [if_pos he, if_pos he]
  · rw [if_neg he, if_neg he]
    rfl

theorem step_c {p : MsgD} {l t : List UInt8} {k er : Nat} (h : getText l = (t, k, er)) : stepF 99 p l = match (if er ≠ 0 then .error er else decC t : Except Nat CertD) with
    | .error e => .error e
    | .ok b => .ok ({ p with cert := b }, l.drop k) := by
  unfold stepF rdF
  simp only [if_neg (by decide : ¬ (99 : UInt8) = 118), if_neg (by decide : ¬ (99 : UInt8) = 116), if_neg (by decide : ¬ (99 : UInt8) = 100), if_neg (by decide : ¬ (99 : UInt8) = 98), if_neg (by decide : ¬ (99 : UInt8) = 104), if_true]
  unfold rdT
  rw [h]
  by_cases he : er ≠ 0
  · rw [if_pos he, if_pos he]
  · rw [if_neg he, if_neg he]
    rfl

theorem step_k {p : MsgD} {l t : List UInt8} {k er : Nat} (h : getText l = (t, k, er)) : stepF 107 p l = match (if er ≠ 0 then .error er else decK t : Except Nat BlkD) with
    | .error e => .error e
    | .ok b => .ok ({ p with block := b }, l.drop k) := by
  unfold stepF rdF
  simp only [if_neg (by decide : ¬ (107 : UInt8) = 118), if_neg (by decide : ¬ (107 : UInt8) = 116), if_neg (by decide : ¬ (107 : UInt8) = 100), if_neg (by decide : ¬ (107 : UInt8) = 98), if_neg (by decide : ¬ (107 : UInt8) = 104), if_neg (by decide : ¬ (107 : UInt8) = 99), if_true]
  unfold rdT
  rw [h]
  by_cases he : er ≠ 0
  · rw [if_pos he, if_pos he]
  · rw [if_neg he, if_neg he]
    rfl

theorem step_q {p : MsgD} {l t : List UInt8} {k er : Nat} (h : getText l = (t, k, er)) : stepF 113 p l = match (if er ≠ 0 then .error er else decQ t : Except Nat QcD) with
    | .error e => .error e
    | .ok b => .ok ({ p with qc := b }, l.drop k) := by
  unfold stepF rdF
  simp only [if_neg (by decide : ¬ (113 : UInt8) = 118), if_neg (by decide : ¬ (113 : UInt8) = 116), if_neg (by decide : ¬ (113 : UInt8) = 100), if_neg (by decide : ¬ (113 : UInt8) = 98), if_neg (by decide : ¬ (113 : UInt8) = 104), if_neg (by decide : ¬ (113 : UInt8) = 99), if_neg (by decide : ¬ (113 : UInt8) = 107)]
  unfold rdT
  rw [h]
  by_cases he : er ≠ 0
  · rw [if_pos he, if_pos he]
  · rw [if_neg he, if_neg he]
    rfl

set_option maxRecDepth 100000 in
set_option maxHeartbeats 4000000 in
theorem field_d (rb N : Nat) (hN1 : rb < N) (rest : ByteArray) (k : Int) (dg : ByteArray) (vi : Int) (tg : TagD) (ba : BatM) (he : HdrM) (ce : CertM) (bl : BlkM) (q : QcM) (w : World) (hN2 : N ≤ w.heap.size) (hR : Arr w rb 58 [.string rest, .int .i64 k, .string dg, .int .i64 vi, .int .i64 tg.who, .string tg.mac, .int .i64 ba.author, .int .i64 ba.number, .slice ba.ta ba.txs.length ba.tc, .int .i64 he.author, .int .i64 he.round, .slice he.ra he.refs.length he.rc, .slice he.pa he.parents.length he.pc, .int .i64 ce.hdr.author, .int .i64 ce.hdr.round, .slice ce.hdr.ra ce.hdr.refs.length ce.hdr.rc, .slice ce.hdr.pa ce.hdr.parents.length ce.hdr.pc, .slice ce.va ce.votes.length ce.vc, .int .i64 bl.view, .int .i64 bl.qc.view, .string bl.qc.block, .slice bl.qc.va bl.qc.votes.length bl.qc.vc, .slice bl.ca bl.certs.length bl.cc, .int .i64 q.view, .string q.block, .slice q.va q.votes.length q.vc]) (hM : MsgM.At w ⟨k, dg, vi, tg, ba, he, ce, bl, q⟩) (hf : ∀ b, MsgM.foot ⟨k, dg, vi, tg, ba, he, ce, bl, q⟩ b → N ≤ b) (hs : rest.size ≤ maxLen) :
    Calls Tryz.prog 18 #[.pointer (some ⟨rb, 0, none⟩), .int .i32 100] w fun e w' => GotField rb N 100 rest ⟨k, dg, vi, tg, ba, he, ce, bl, q⟩ w e w' := by
  rcases hr : getText rest.data.toList with ⟨t, n, er⟩
  have cT := rtext_any rb rest [.int .i64 k, .string dg, .int .i64 vi, .int .i64 tg.who, .string tg.mac, .int .i64 ba.author, .int .i64 ba.number, .slice ba.ta ba.txs.length ba.tc, .int .i64 he.author, .int .i64 he.round, .slice he.ra he.refs.length he.rc, .slice he.pa he.parents.length he.pc, .int .i64 ce.hdr.author, .int .i64 ce.hdr.round, .slice ce.hdr.ra ce.hdr.refs.length ce.hdr.rc, .slice ce.hdr.pa ce.hdr.parents.length ce.hdr.pc, .slice ce.va ce.votes.length ce.vc, .int .i64 bl.view, .int .i64 bl.qc.view, .string bl.qc.block, .slice bl.qc.va bl.qc.votes.length bl.qc.vc, .slice bl.ca bl.certs.length bl.cc, .int .i64 q.view, .string q.block, .slice q.va q.votes.length q.vc] w hR hs t n er hr
  have hst := step_d (p := MsgM.d ⟨k, dg, vi, tg, ba, he, ce, bl, q⟩) hr
  obtain ⟨r1, hr1⟩ : ∃ o, o = rest.extract n rest.size := ⟨_, rfl⟩
  have hdr : r1.data.toList = rest.data.toList.drop n := by rw [hr1]; exact extract_drop _ _
  have hrs : r1.size ≤ maxLen := by rw [hr1]; exact rest_le rest n hs
  rw [← hr1] at cT
  rw [← hdr] at hst
  have hR1 := hR.set 0 (.string r1)
  have k1 := (Kept.refl (fun k => k = rb) w).set (p := ⟨rb, 0, none⟩) rfl (.string r1)
  replace hR1 : Arr _ rb 58 [.string r1, .int .i64 k, .string dg, .int .i64 vi, .int .i64 tg.who, .string tg.mac, .int .i64 ba.author, .int .i64 ba.number, .slice ba.ta ba.txs.length ba.tc, .int .i64 he.author, .int .i64 he.round, .slice he.ra he.refs.length he.rc, .slice he.pa he.parents.length he.pc, .int .i64 ce.hdr.author, .int .i64 ce.hdr.round, .slice ce.hdr.ra ce.hdr.refs.length ce.hdr.rc, .slice ce.hdr.pa ce.hdr.parents.length ce.hdr.pc, .slice ce.va ce.votes.length ce.vc, .int .i64 bl.view, .int .i64 bl.qc.view, .string bl.qc.block, .slice bl.qc.va bl.qc.votes.length bl.qc.vc, .slice bl.ca bl.certs.length bl.cc, .int .i64 q.view, .string q.block, .slice q.va q.votes.length q.vc] := hR1
  clear hr1 hr hdr
  obtain ⟨tt, htt⟩ : ∃ o, o = (⟨t.toArray⟩ : ByteArray) := ⟨_, rfl⟩
  rw [← htt] at cT hst
  clear htt
  have y1 := hR1.cell (i := 2) rfl
  have f1 := hR1.frozen 2
  have hRF := (hR1.set 2 (.string tt))
  have kF := (k1.set (p := ⟨rb, 2, none⟩) rfl (.string tt))
  replace hRF : Arr _ rb 58 [.string r1, .int .i64 k, .string tt, .int .i64 vi, .int .i64 tg.who, .string tg.mac, .int .i64 ba.author, .int .i64 ba.number, .slice ba.ta ba.txs.length ba.tc, .int .i64 he.author, .int .i64 he.round, .slice he.ra he.refs.length he.rc, .slice he.pa he.parents.length he.pc, .int .i64 ce.hdr.author, .int .i64 ce.hdr.round, .slice ce.hdr.ra ce.hdr.refs.length ce.hdr.rc, .slice ce.hdr.pa ce.hdr.parents.length ce.hdr.pc, .slice ce.va ce.votes.length ce.vc, .int .i64 bl.view, .int .i64 bl.qc.view, .string bl.qc.block, .slice bl.qc.va bl.qc.votes.length bl.qc.vc, .slice bl.ca bl.certs.length bl.cc, .int .i64 q.view, .string q.block, .slice q.va q.votes.length q.vc] := hRF
  have hM1 := hM.keptM kF (fun b hb e => by have := hf b hb; omega)
  have hM2 := (⟨hM1.bat, hM1.hdr, hM1.cert, hM1.blk, hM1.qc⟩ : MsgM.At _ ⟨k, tt, vi, tg, ba, he, ce, bl, q⟩)
  have hfin : ∀ e, e = .returned (.int .i64 (er : Int)) → GotField rb N 100 rest ⟨k, dg, vi, tg, ba, he, ce, bl, q⟩ w e _ := fun e h => ⟨er, r1, ⟨k, tt, vi, tg, ba, he, ce, bl, q⟩, h, hRF, hM2, hf, hrs, kF, by
    by_cases he : er = 0
    · subst he
      exact Or.inl ⟨rfl, hst⟩
    · exact Or.inr ⟨he, by rw [hst, if_pos he]⟩⟩
  clear hRF kF hM2 hM1 hst hrs hM hf hs hR
  go_enter Tryz.func18, Tryz.ntmps18
  go_wp2_with fail
  refine cT.mono ?_
  rintro e w2 ⟨rfl, hw2⟩
  rw [← hw2] at hR1 y1 f1 hfin
  clear hw2 cT k1
  go_wp2
  go_ret
  exact hfin _ rfl

set_option maxRecDepth 100000 in
set_option maxHeartbeats 4000000 in
theorem field_v (rb N : Nat) (hN1 : rb < N) (rest : ByteArray) (k : Int) (dg : ByteArray) (vi : Int) (tg : TagD) (ba : BatM) (he : HdrM) (ce : CertM) (bl : BlkM) (q : QcM) (w : World) (hN2 : N ≤ w.heap.size) (hR : Arr w rb 58 [.string rest, .int .i64 k, .string dg, .int .i64 vi, .int .i64 tg.who, .string tg.mac, .int .i64 ba.author, .int .i64 ba.number, .slice ba.ta ba.txs.length ba.tc, .int .i64 he.author, .int .i64 he.round, .slice he.ra he.refs.length he.rc, .slice he.pa he.parents.length he.pc, .int .i64 ce.hdr.author, .int .i64 ce.hdr.round, .slice ce.hdr.ra ce.hdr.refs.length ce.hdr.rc, .slice ce.hdr.pa ce.hdr.parents.length ce.hdr.pc, .slice ce.va ce.votes.length ce.vc, .int .i64 bl.view, .int .i64 bl.qc.view, .string bl.qc.block, .slice bl.qc.va bl.qc.votes.length bl.qc.vc, .slice bl.ca bl.certs.length bl.cc, .int .i64 q.view, .string q.block, .slice q.va q.votes.length q.vc]) (hM : MsgM.At w ⟨k, dg, vi, tg, ba, he, ce, bl, q⟩) (hf : ∀ b, MsgM.foot ⟨k, dg, vi, tg, ba, he, ce, bl, q⟩ b → N ≤ b) (hs : rest.size ≤ maxLen) :
    Calls Tryz.prog 18 #[.pointer (some ⟨rb, 0, none⟩), .int .i32 118] w fun e w' => GotField rb N 118 rest ⟨k, dg, vi, tg, ba, he, ce, bl, q⟩ w e w' := by
  rcases hr : getInt rest.data.toList with ⟨v, n, er⟩
  have cT := rnumber_any rb rest [.int .i64 k, .string dg, .int .i64 vi, .int .i64 tg.who, .string tg.mac, .int .i64 ba.author, .int .i64 ba.number, .slice ba.ta ba.txs.length ba.tc, .int .i64 he.author, .int .i64 he.round, .slice he.ra he.refs.length he.rc, .slice he.pa he.parents.length he.pc, .int .i64 ce.hdr.author, .int .i64 ce.hdr.round, .slice ce.hdr.ra ce.hdr.refs.length ce.hdr.rc, .slice ce.hdr.pa ce.hdr.parents.length ce.hdr.pc, .slice ce.va ce.votes.length ce.vc, .int .i64 bl.view, .int .i64 bl.qc.view, .string bl.qc.block, .slice bl.qc.va bl.qc.votes.length bl.qc.vc, .slice bl.ca bl.certs.length bl.cc, .int .i64 q.view, .string q.block, .slice q.va q.votes.length q.vc] w hR hs v n er hr
  have hst := step_v (p := MsgM.d ⟨k, dg, vi, tg, ba, he, ce, bl, q⟩) hr
  obtain ⟨r1, hr1⟩ : ∃ o, o = rest.extract n rest.size := ⟨_, rfl⟩
  have hdr : r1.data.toList = rest.data.toList.drop n := by rw [hr1]; exact extract_drop _ _
  have hrs : r1.size ≤ maxLen := by rw [hr1]; exact rest_le rest n hs
  rw [← hr1] at cT
  rw [← hdr] at hst
  have hR1 := hR.set 0 (.string r1)
  have k1 := (Kept.refl (fun k => k = rb) w).set (p := ⟨rb, 0, none⟩) rfl (.string r1)
  replace hR1 : Arr _ rb 58 [.string r1, .int .i64 k, .string dg, .int .i64 vi, .int .i64 tg.who, .string tg.mac, .int .i64 ba.author, .int .i64 ba.number, .slice ba.ta ba.txs.length ba.tc, .int .i64 he.author, .int .i64 he.round, .slice he.ra he.refs.length he.rc, .slice he.pa he.parents.length he.pc, .int .i64 ce.hdr.author, .int .i64 ce.hdr.round, .slice ce.hdr.ra ce.hdr.refs.length ce.hdr.rc, .slice ce.hdr.pa ce.hdr.parents.length ce.hdr.pc, .slice ce.va ce.votes.length ce.vc, .int .i64 bl.view, .int .i64 bl.qc.view, .string bl.qc.block, .slice bl.qc.va bl.qc.votes.length bl.qc.vc, .slice bl.ca bl.certs.length bl.cc, .int .i64 q.view, .string q.block, .slice q.va q.votes.length q.vc] := hR1
  clear hr1 hr hdr
  have y2 := hR1.cell (i := 3) rfl
  have f2 := hR1.frozen 3
  have hRF := (hR1.set 3 (.int .i64 (v : Int)))
  have kF := (k1.set (p := ⟨rb, 3, none⟩) rfl (.int .i64 (v : Int)))
  replace hRF : Arr _ rb 58 [.string r1, .int .i64 k, .string dg, .int .i64 (v : Int), .int .i64 tg.who, .string tg.mac, .int .i64 ba.author, .int .i64 ba.number, .slice ba.ta ba.txs.length ba.tc, .int .i64 he.author, .int .i64 he.round, .slice he.ra he.refs.length he.rc, .slice he.pa he.parents.length he.pc, .int .i64 ce.hdr.author, .int .i64 ce.hdr.round, .slice ce.hdr.ra ce.hdr.refs.length ce.hdr.rc, .slice ce.hdr.pa ce.hdr.parents.length ce.hdr.pc, .slice ce.va ce.votes.length ce.vc, .int .i64 bl.view, .int .i64 bl.qc.view, .string bl.qc.block, .slice bl.qc.va bl.qc.votes.length bl.qc.vc, .slice bl.ca bl.certs.length bl.cc, .int .i64 q.view, .string q.block, .slice q.va q.votes.length q.vc] := hRF
  have hM1 := hM.keptM kF (fun b hb e => by have := hf b hb; omega)
  have hM2 := (⟨hM1.bat, hM1.hdr, hM1.cert, hM1.blk, hM1.qc⟩ : MsgM.At _ ⟨k, dg, (v : Int), tg, ba, he, ce, bl, q⟩)
  have hfin : ∀ e, e = .returned (.int .i64 (er : Int)) → GotField rb N 118 rest ⟨k, dg, vi, tg, ba, he, ce, bl, q⟩ w e _ := fun e h => ⟨er, r1, ⟨k, dg, (v : Int), tg, ba, he, ce, bl, q⟩, h, hRF, hM2, hf, hrs, kF, by
    by_cases he : er = 0
    · subst he
      exact Or.inl ⟨rfl, hst⟩
    · exact Or.inr ⟨he, by rw [hst, if_pos he]⟩⟩
  clear hRF kF hM2 hM1 hst hrs hM hf hs hR
  go_enter Tryz.func18, Tryz.ntmps18
  go_wp2_with fail
  refine cT.mono ?_
  rintro e w2 ⟨rfl, hw2⟩
  rw [← hw2] at hR1 y2 f2 hfin
  clear hw2 cT k1
  go_wp2
  go_ret
  exact hfin _ rfl

set_option maxRecDepth 100000 in
set_option maxHeartbeats 4000000 in
theorem field_t (rb N : Nat) (hN1 : rb < N) (rest : ByteArray) (k : Int) (dg : ByteArray) (vi : Int) (tg : TagD) (ba : BatM) (he : HdrM) (ce : CertM) (bl : BlkM) (q : QcM) (w : World) (hN2 : N ≤ w.heap.size) (hR : Arr w rb 58 [.string rest, .int .i64 k, .string dg, .int .i64 vi, .int .i64 tg.who, .string tg.mac, .int .i64 ba.author, .int .i64 ba.number, .slice ba.ta ba.txs.length ba.tc, .int .i64 he.author, .int .i64 he.round, .slice he.ra he.refs.length he.rc, .slice he.pa he.parents.length he.pc, .int .i64 ce.hdr.author, .int .i64 ce.hdr.round, .slice ce.hdr.ra ce.hdr.refs.length ce.hdr.rc, .slice ce.hdr.pa ce.hdr.parents.length ce.hdr.pc, .slice ce.va ce.votes.length ce.vc, .int .i64 bl.view, .int .i64 bl.qc.view, .string bl.qc.block, .slice bl.qc.va bl.qc.votes.length bl.qc.vc, .slice bl.ca bl.certs.length bl.cc, .int .i64 q.view, .string q.block, .slice q.va q.votes.length q.vc]) (hM : MsgM.At w ⟨k, dg, vi, tg, ba, he, ce, bl, q⟩) (hf : ∀ b, MsgM.foot ⟨k, dg, vi, tg, ba, he, ce, bl, q⟩ b → N ≤ b) (hs : rest.size ≤ maxLen) :
    Calls Tryz.prog 18 #[.pointer (some ⟨rb, 0, none⟩), .int .i32 116] w fun e w' => GotField rb N 116 rest ⟨k, dg, vi, tg, ba, he, ce, bl, q⟩ w e w' := by
  have cT := rtag_any rb rest [.int .i64 k, .string dg, .int .i64 vi, .int .i64 tg.who, .string tg.mac, .int .i64 ba.author, .int .i64 ba.number, .slice ba.ta ba.txs.length ba.tc, .int .i64 he.author, .int .i64 he.round, .slice he.ra he.refs.length he.rc, .slice he.pa he.parents.length he.pc, .int .i64 ce.hdr.author, .int .i64 ce.hdr.round, .slice ce.hdr.ra ce.hdr.refs.length ce.hdr.rc, .slice ce.hdr.pa ce.hdr.parents.length ce.hdr.pc, .slice ce.va ce.votes.length ce.vc, .int .i64 bl.view, .int .i64 bl.qc.view, .string bl.qc.block, .slice bl.qc.va bl.qc.votes.length bl.qc.vc, .slice bl.ca bl.certs.length bl.cc, .int .i64 q.view, .string q.block, .slice q.va q.votes.length q.vc] w hR hs
  clear hR
  go_enter Tryz.func18, Tryz.ntmps18
  go_wp2_with fail
  refine cT.mono ?_
  rintro e w2 ⟨t, er, r1, rfl, hR1, hrs, k1, hres⟩
  clear cT
  have y3 := hR1.cell (i := 4) rfl
  have f3 := hR1.frozen 4
  have y4 := hR1.cell (i := 5) rfl
  have f4 := hR1.frozen 5
  have hRF := ((hR1.set 4 (.int .i64 t.who)).set 5 (.string t.mac))
  have kF := ((k1.set (p := ⟨rb, 4, none⟩) rfl (.int .i64 t.who)).set (p := ⟨rb, 5, none⟩) rfl (.string t.mac))
  replace hRF : Arr _ rb 58 [.string r1, .int .i64 k, .string dg, .int .i64 vi, .int .i64 t.who, .string t.mac, .int .i64 ba.author, .int .i64 ba.number, .slice ba.ta ba.txs.length ba.tc, .int .i64 he.author, .int .i64 he.round, .slice he.ra he.refs.length he.rc, .slice he.pa he.parents.length he.pc, .int .i64 ce.hdr.author, .int .i64 ce.hdr.round, .slice ce.hdr.ra ce.hdr.refs.length ce.hdr.rc, .slice ce.hdr.pa ce.hdr.parents.length ce.hdr.pc, .slice ce.va ce.votes.length ce.vc, .int .i64 bl.view, .int .i64 bl.qc.view, .string bl.qc.block, .slice bl.qc.va bl.qc.votes.length bl.qc.vc, .slice bl.ca bl.certs.length bl.cc, .int .i64 q.view, .string q.block, .slice q.va q.votes.length q.vc] := hRF
  have hM1 := hM.keptM kF (fun b hb e => by have := hf b hb; omega)
  have hM2 := (⟨hM1.bat, hM1.hdr, hM1.cert, hM1.blk, hM1.qc⟩ : MsgM.At _ ⟨k, dg, vi, t, ba, he, ce, bl, q⟩)
  have hfin : ∀ e, e = .returned (.int .i64 (er : Int)) → GotField rb N 116 rest ⟨k, dg, vi, tg, ba, he, ce, bl, q⟩ w e _ := fun e h => ⟨er, r1, ⟨k, dg, vi, t, ba, he, ce, bl, q⟩, h, hRF, hM2, hf, hrs, kF, by
    rcases hres with ⟨he, n, h1, h2⟩ | ⟨he, ⟨ts, n, h1⟩ | ⟨h0, ts, n, h1, h2⟩⟩
    · refine Or.inl ⟨he, ?_⟩
      rw [step_t_ok h1, h2]
      rfl
    · exact Or.inr ⟨he, step_t_err h1 he⟩
    · exact Or.inr ⟨he, by rw [h0]; exact step_t_few h1 h2⟩⟩
  clear hRF kF hM2 hM1 hres hrs hM hf hs k1
  go_wp2
  go_ret
  exact hfin _ rfl

set_option maxRecDepth 100000 in
set_option maxHeartbeats 4000000 in
theorem field_b (rb N : Nat) (hN1 : rb < N) (rest : ByteArray) (k : Int) (dg : ByteArray) (vi : Int) (tg : TagD) (ba : BatM) (he : HdrM) (ce : CertM) (bl : BlkM) (q : QcM) (w : World) (hN2 : N ≤ w.heap.size) (hR : Arr w rb 58 [.string rest, .int .i64 k, .string dg, .int .i64 vi, .int .i64 tg.who, .string tg.mac, .int .i64 ba.author, .int .i64 ba.number, .slice ba.ta ba.txs.length ba.tc, .int .i64 he.author, .int .i64 he.round, .slice he.ra he.refs.length he.rc, .slice he.pa he.parents.length he.pc, .int .i64 ce.hdr.author, .int .i64 ce.hdr.round, .slice ce.hdr.ra ce.hdr.refs.length ce.hdr.rc, .slice ce.hdr.pa ce.hdr.parents.length ce.hdr.pc, .slice ce.va ce.votes.length ce.vc, .int .i64 bl.view, .int .i64 bl.qc.view, .string bl.qc.block, .slice bl.qc.va bl.qc.votes.length bl.qc.vc, .slice bl.ca bl.certs.length bl.cc, .int .i64 q.view, .string q.block, .slice q.va q.votes.length q.vc]) (hM : MsgM.At w ⟨k, dg, vi, tg, ba, he, ce, bl, q⟩) (hf : ∀ b, MsgM.foot ⟨k, dg, vi, tg, ba, he, ce, bl, q⟩ b → N ≤ b) (hs : rest.size ≤ maxLen) :
    Calls Tryz.prog 18 #[.pointer (some ⟨rb, 0, none⟩), .int .i32 98] w fun e w' => GotField rb N 98 rest ⟨k, dg, vi, tg, ba, he, ce, bl, q⟩ w e w' := by
  rcases hr : getText rest.data.toList with ⟨t, n, er0⟩
  have cT := within_b rb rest [.int .i64 k, .string dg, .int .i64 vi, .int .i64 tg.who, .string tg.mac, .int .i64 ba.author, .int .i64 ba.number, .slice ba.ta ba.txs.length ba.tc, .int .i64 he.author, .int .i64 he.round, .slice he.ra he.refs.length he.rc, .slice he.pa he.parents.length he.pc, .int .i64 ce.hdr.author, .int .i64 ce.hdr.round, .slice ce.hdr.ra ce.hdr.refs.length ce.hdr.rc, .slice ce.hdr.pa ce.hdr.parents.length ce.hdr.pc, .slice ce.va ce.votes.length ce.vc, .int .i64 bl.view, .int .i64 bl.qc.view, .string bl.qc.block, .slice bl.qc.va bl.qc.votes.length bl.qc.vc, .slice bl.ca bl.certs.length bl.cc, .int .i64 q.view, .string q.block, .slice q.va q.votes.length q.vc] w hR hs t n er0 hr
  have hst := step_b (p := MsgM.d ⟨k, dg, vi, tg, ba, he, ce, bl, q⟩) hr
  obtain ⟨r1, hr1⟩ : ∃ o, o = rest.extract n rest.size := ⟨_, rfl⟩
  have hdr : r1.data.toList = rest.data.toList.drop n := by rw [hr1]; exact extract_drop _ _
  have hrs : r1.size ≤ maxLen := by rw [hr1]; exact rest_le rest n hs
  have hrl := hR.lt
  rw [← hr1] at cT
  rw [← hdr] at hst
  clear hr1 hr hdr hR
  generalize (if er0 ≠ 0 then .error er0 else decBat t : Except Nat BatD) = out at cT hst
  go_enter Tryz.func18, Tryz.ntmps18
  go_wp2_with fail
  refine cT.mono ?_
  rintro e w2 ⟨x, er, rfl, hx, hres, hfx, hR1, k1⟩
  unfold BatM.v
  clear cT
  have y5 := hR1.cell (i := 6) rfl
  have f5 := hR1.frozen 6
  have y6 := hR1.cell (i := 7) rfl
  have f6 := hR1.frozen 7
  have y7 := hR1.cell (i := 8) rfl
  have f7 := hR1.frozen 8
  have hRF := (((hR1.set 6 (.int .i64 x.author)).set 7 (.int .i64 x.number)).set 8 (.slice x.ta x.txs.length x.tc))
  have kF := (((k1.set (p := ⟨rb, 6, none⟩) rfl (.int .i64 x.author)).set (p := ⟨rb, 7, none⟩) rfl (.int .i64 x.number)).set (p := ⟨rb, 8, none⟩) rfl (.slice x.ta x.txs.length x.tc))
  replace hRF : Arr _ rb 58 [.string r1, .int .i64 k, .string dg, .int .i64 vi, .int .i64 tg.who, .string tg.mac, .int .i64 x.author, .int .i64 x.number, .slice x.ta x.txs.length x.tc, .int .i64 he.author, .int .i64 he.round, .slice he.ra he.refs.length he.rc, .slice he.pa he.parents.length he.pc, .int .i64 ce.hdr.author, .int .i64 ce.hdr.round, .slice ce.hdr.ra ce.hdr.refs.length ce.hdr.rc, .slice ce.hdr.pa ce.hdr.parents.length ce.hdr.pc, .slice ce.va ce.votes.length ce.vc, .int .i64 bl.view, .int .i64 bl.qc.view, .string bl.qc.block, .slice bl.qc.va bl.qc.votes.length bl.qc.vc, .slice bl.ca bl.certs.length bl.cc, .int .i64 q.view, .string q.block, .slice q.va q.votes.length q.vc] := hRF
  have hx2 := Kind.keptX batK hx (S := fun k => k = rb) (((((Kept.refl (fun k => k = rb) w2).set (p := ⟨rb, 6, none⟩) rfl (.int .i64 x.author)).set (p := ⟨rb, 7, none⟩) rfl (.int .i64 x.number)).set (p := ⟨rb, 8, none⟩) rfl (.slice x.ta x.txs.length x.tc))) (fun b hb e => by have := hfx b hb; omega)
  have hM1 := hM.keptM kF (fun b hb e => by have := hf b hb; omega)
  have hM2 := (⟨hx2, hM1.hdr, hM1.cert, hM1.blk, hM1.qc⟩ : MsgM.At _ ⟨k, dg, vi, tg, x, he, ce, bl, q⟩)
  have hf2 : ∀ b, MsgM.foot ⟨k, dg, vi, tg, x, he, ce, bl, q⟩ b → N ≤ b := by
    intro b hb
    rcases hb with hb | hb | hb | hb | hb
    · exact Nat.le_trans hN2 (hfx b hb)
    · exact hf b (Or.inr (Or.inl hb))
    · exact hf b (Or.inr (Or.inr (Or.inl hb)))
    · exact hf b (Or.inr (Or.inr (Or.inr (Or.inl hb))))
    · exact hf b (Or.inr (Or.inr (Or.inr (Or.inr (hb)))))
  have hfin : ∀ e, e = .returned (.int .i64 (er : Int)) → GotField rb N 98 rest ⟨k, dg, vi, tg, ba, he, ce, bl, q⟩ w e _ := fun e h => ⟨er, r1, ⟨k, dg, vi, tg, x, he, ce, bl, q⟩, h, hRF, hM2, hf2, hrs, kF, by
    rcases hres with ⟨he, ho⟩ | ⟨he, ho⟩
    · refine Or.inl ⟨he, ?_⟩
      rw [hst, ho]
      rfl
    · refine Or.inr ⟨he, ?_⟩
      rw [hst, ho]⟩
  clear hRF kF hM2 hM1 hf2 hres hrs hM hf hs k1 hx2 hx hfx hst
  go_wp2
  go_ret
  exact hfin _ rfl

set_option maxRecDepth 100000 in
set_option maxHeartbeats 4000000 in
theorem field_h (rb N : Nat) (hN1 : rb < N) (rest : ByteArray) (k : Int) (dg : ByteArray) (vi : Int) (tg : TagD) (ba : BatM) (he : HdrM) (ce : CertM) (bl : BlkM) (q : QcM) (w : World) (hN2 : N ≤ w.heap.size) (hR : Arr w rb 58 [.string rest, .int .i64 k, .string dg, .int .i64 vi, .int .i64 tg.who, .string tg.mac, .int .i64 ba.author, .int .i64 ba.number, .slice ba.ta ba.txs.length ba.tc, .int .i64 he.author, .int .i64 he.round, .slice he.ra he.refs.length he.rc, .slice he.pa he.parents.length he.pc, .int .i64 ce.hdr.author, .int .i64 ce.hdr.round, .slice ce.hdr.ra ce.hdr.refs.length ce.hdr.rc, .slice ce.hdr.pa ce.hdr.parents.length ce.hdr.pc, .slice ce.va ce.votes.length ce.vc, .int .i64 bl.view, .int .i64 bl.qc.view, .string bl.qc.block, .slice bl.qc.va bl.qc.votes.length bl.qc.vc, .slice bl.ca bl.certs.length bl.cc, .int .i64 q.view, .string q.block, .slice q.va q.votes.length q.vc]) (hM : MsgM.At w ⟨k, dg, vi, tg, ba, he, ce, bl, q⟩) (hf : ∀ b, MsgM.foot ⟨k, dg, vi, tg, ba, he, ce, bl, q⟩ b → N ≤ b) (hs : rest.size ≤ maxLen) :
    Calls Tryz.prog 18 #[.pointer (some ⟨rb, 0, none⟩), .int .i32 104] w fun e w' => GotField rb N 104 rest ⟨k, dg, vi, tg, ba, he, ce, bl, q⟩ w e w' := by
  rcases hr : getText rest.data.toList with ⟨t, n, er0⟩
  have cT := within_h rb rest [.int .i64 k, .string dg, .int .i64 vi, .int .i64 tg.who, .string tg.mac, .int .i64 ba.author, .int .i64 ba.number, .slice ba.ta ba.txs.length ba.tc, .int .i64 he.author, .int .i64 he.round, .slice he.ra he.refs.length he.rc, .slice he.pa he.parents.length he.pc, .int .i64 ce.hdr.author, .int .i64 ce.hdr.round, .slice ce.hdr.ra ce.hdr.refs.length ce.hdr.rc, .slice ce.hdr.pa ce.hdr.parents.length ce.hdr.pc, .slice ce.va ce.votes.length ce.vc, .int .i64 bl.view, .int .i64 bl.qc.view, .string bl.qc.block, .slice bl.qc.va bl.qc.votes.length bl.qc.vc, .slice bl.ca bl.certs.length bl.cc, .int .i64 q.view, .string q.block, .slice q.va q.votes.length q.vc] w hR hs t n er0 hr
  have hst := step_h (p := MsgM.d ⟨k, dg, vi, tg, ba, he, ce, bl, q⟩) hr
  obtain ⟨r1, hr1⟩ : ∃ o, o = rest.extract n rest.size := ⟨_, rfl⟩
  have hdr : r1.data.toList = rest.data.toList.drop n := by rw [hr1]; exact extract_drop _ _
  have hrs : r1.size ≤ maxLen := by rw [hr1]; exact rest_le rest n hs
  have hrl := hR.lt
  rw [← hr1] at cT
  rw [← hdr] at hst
  clear hr1 hr hdr hR
  generalize (if er0 ≠ 0 then .error er0 else decH t : Except Nat HdrD) = out at cT hst
  go_enter Tryz.func18, Tryz.ntmps18
  go_wp2_with fail
  refine cT.mono ?_
  rintro e w2 ⟨x, er, rfl, hx, hres, hfx, hR1, k1⟩
  unfold HdrM.v
  clear cT
  have y8 := hR1.cell (i := 9) rfl
  have f8 := hR1.frozen 9
  have y9 := hR1.cell (i := 10) rfl
  have f9 := hR1.frozen 10
  have y10 := hR1.cell (i := 11) rfl
  have f10 := hR1.frozen 11
  have y11 := hR1.cell (i := 12) rfl
  have f11 := hR1.frozen 12
  have hRF := ((((hR1.set 9 (.int .i64 x.author)).set 10 (.int .i64 x.round)).set 11 (.slice x.ra x.refs.length x.rc)).set 12 (.slice x.pa x.parents.length x.pc))
  have kF := ((((k1.set (p := ⟨rb, 9, none⟩) rfl (.int .i64 x.author)).set (p := ⟨rb, 10, none⟩) rfl (.int .i64 x.round)).set (p := ⟨rb, 11, none⟩) rfl (.slice x.ra x.refs.length x.rc)).set (p := ⟨rb, 12, none⟩) rfl (.slice x.pa x.parents.length x.pc))
  replace hRF : Arr _ rb 58 [.string r1, .int .i64 k, .string dg, .int .i64 vi, .int .i64 tg.who, .string tg.mac, .int .i64 ba.author, .int .i64 ba.number, .slice ba.ta ba.txs.length ba.tc, .int .i64 x.author, .int .i64 x.round, .slice x.ra x.refs.length x.rc, .slice x.pa x.parents.length x.pc, .int .i64 ce.hdr.author, .int .i64 ce.hdr.round, .slice ce.hdr.ra ce.hdr.refs.length ce.hdr.rc, .slice ce.hdr.pa ce.hdr.parents.length ce.hdr.pc, .slice ce.va ce.votes.length ce.vc, .int .i64 bl.view, .int .i64 bl.qc.view, .string bl.qc.block, .slice bl.qc.va bl.qc.votes.length bl.qc.vc, .slice bl.ca bl.certs.length bl.cc, .int .i64 q.view, .string q.block, .slice q.va q.votes.length q.vc] := hRF
  have hx2 := Kind.keptX hdrK hx (S := fun k => k = rb) ((((((Kept.refl (fun k => k = rb) w2).set (p := ⟨rb, 9, none⟩) rfl (.int .i64 x.author)).set (p := ⟨rb, 10, none⟩) rfl (.int .i64 x.round)).set (p := ⟨rb, 11, none⟩) rfl (.slice x.ra x.refs.length x.rc)).set (p := ⟨rb, 12, none⟩) rfl (.slice x.pa x.parents.length x.pc))) (fun b hb e => by have := hfx b hb; omega)
  have hM1 := hM.keptM kF (fun b hb e => by have := hf b hb; omega)
  have hM2 := (⟨hM1.bat, hx2, hM1.cert, hM1.blk, hM1.qc⟩ : MsgM.At _ ⟨k, dg, vi, tg, ba, x, ce, bl, q⟩)
  have hf2 : ∀ b, MsgM.foot ⟨k, dg, vi, tg, ba, x, ce, bl, q⟩ b → N ≤ b := by
    intro b hb
    rcases hb with hb | hb | hb | hb | hb
    · exact hf b (Or.inl hb)
    · exact Nat.le_trans hN2 (hfx b hb)
    · exact hf b (Or.inr (Or.inr (Or.inl hb)))
    · exact hf b (Or.inr (Or.inr (Or.inr (Or.inl hb))))
    · exact hf b (Or.inr (Or.inr (Or.inr (Or.inr (hb)))))
  have hfin : ∀ e, e = .returned (.int .i64 (er : Int)) → GotField rb N 104 rest ⟨k, dg, vi, tg, ba, he, ce, bl, q⟩ w e _ := fun e h => ⟨er, r1, ⟨k, dg, vi, tg, ba, x, ce, bl, q⟩, h, hRF, hM2, hf2, hrs, kF, by
    rcases hres with ⟨he, ho⟩ | ⟨he, ho⟩
    · refine Or.inl ⟨he, ?_⟩
      rw [hst, ho]
      rfl
    · refine Or.inr ⟨he, ?_⟩
      rw [hst, ho]⟩
  clear hRF kF hM2 hM1 hf2 hres hrs hM hf hs k1 hx2 hx hfx hst
  go_wp2
  go_ret
  exact hfin _ rfl

set_option maxRecDepth 100000 in
set_option maxHeartbeats 4000000 in
theorem field_c (rb N : Nat) (hN1 : rb < N) (rest : ByteArray) (k : Int) (dg : ByteArray) (vi : Int) (tg : TagD) (ba : BatM) (he : HdrM) (ce : CertM) (bl : BlkM) (q : QcM) (w : World) (hN2 : N ≤ w.heap.size) (hR : Arr w rb 58 [.string rest, .int .i64 k, .string dg, .int .i64 vi, .int .i64 tg.who, .string tg.mac, .int .i64 ba.author, .int .i64 ba.number, .slice ba.ta ba.txs.length ba.tc, .int .i64 he.author, .int .i64 he.round, .slice he.ra he.refs.length he.rc, .slice he.pa he.parents.length he.pc, .int .i64 ce.hdr.author, .int .i64 ce.hdr.round, .slice ce.hdr.ra ce.hdr.refs.length ce.hdr.rc, .slice ce.hdr.pa ce.hdr.parents.length ce.hdr.pc, .slice ce.va ce.votes.length ce.vc, .int .i64 bl.view, .int .i64 bl.qc.view, .string bl.qc.block, .slice bl.qc.va bl.qc.votes.length bl.qc.vc, .slice bl.ca bl.certs.length bl.cc, .int .i64 q.view, .string q.block, .slice q.va q.votes.length q.vc]) (hM : MsgM.At w ⟨k, dg, vi, tg, ba, he, ce, bl, q⟩) (hf : ∀ b, MsgM.foot ⟨k, dg, vi, tg, ba, he, ce, bl, q⟩ b → N ≤ b) (hs : rest.size ≤ maxLen) :
    Calls Tryz.prog 18 #[.pointer (some ⟨rb, 0, none⟩), .int .i32 99] w fun e w' => GotField rb N 99 rest ⟨k, dg, vi, tg, ba, he, ce, bl, q⟩ w e w' := by
  rcases hr : getText rest.data.toList with ⟨t, n, er0⟩
  have cT := within_c rb rest [.int .i64 k, .string dg, .int .i64 vi, .int .i64 tg.who, .string tg.mac, .int .i64 ba.author, .int .i64 ba.number, .slice ba.ta ba.txs.length ba.tc, .int .i64 he.author, .int .i64 he.round, .slice he.ra he.refs.length he.rc, .slice he.pa he.parents.length he.pc, .int .i64 ce.hdr.author, .int .i64 ce.hdr.round, .slice ce.hdr.ra ce.hdr.refs.length ce.hdr.rc, .slice ce.hdr.pa ce.hdr.parents.length ce.hdr.pc, .slice ce.va ce.votes.length ce.vc, .int .i64 bl.view, .int .i64 bl.qc.view, .string bl.qc.block, .slice bl.qc.va bl.qc.votes.length bl.qc.vc, .slice bl.ca bl.certs.length bl.cc, .int .i64 q.view, .string q.block, .slice q.va q.votes.length q.vc] w hR hs t n er0 hr
  have hst := step_c (p := MsgM.d ⟨k, dg, vi, tg, ba, he, ce, bl, q⟩) hr
  obtain ⟨r1, hr1⟩ : ∃ o, o = rest.extract n rest.size := ⟨_, rfl⟩
  have hdr : r1.data.toList = rest.data.toList.drop n := by rw [hr1]; exact extract_drop _ _
  have hrs : r1.size ≤ maxLen := by rw [hr1]; exact rest_le rest n hs
  have hrl := hR.lt
  rw [← hr1] at cT
  rw [← hdr] at hst
  clear hr1 hr hdr hR
  generalize (if er0 ≠ 0 then .error er0 else decC t : Except Nat CertD) = out at cT hst
  go_enter Tryz.func18, Tryz.ntmps18
  go_wp2_with fail
  refine cT.mono ?_
  rintro e w2 ⟨x, er, rfl, hx, hres, hfx, hR1, k1⟩
  unfold CertM.v
  clear cT
  have y12 := hR1.cell (i := 13) rfl
  have f12 := hR1.frozen 13
  have y13 := hR1.cell (i := 14) rfl
  have f13 := hR1.frozen 14
  have y14 := hR1.cell (i := 15) rfl
  have f14 := hR1.frozen 15
  have y15 := hR1.cell (i := 16) rfl
  have f15 := hR1.frozen 16
  have y16 := hR1.cell (i := 17) rfl
  have f16 := hR1.frozen 17
  have hRF := (((((hR1.set 13 (.int .i64 x.hdr.author)).set 14 (.int .i64 x.hdr.round)).set 15 (.slice x.hdr.ra x.hdr.refs.length x.hdr.rc)).set 16 (.slice x.hdr.pa x.hdr.parents.length x.hdr.pc)).set 17 (.slice x.va x.votes.length x.vc))
  have kF := (((((k1.set (p := ⟨rb, 13, none⟩) rfl (.int .i64 x.hdr.author)).set (p := ⟨rb, 14, none⟩) rfl (.int .i64 x.hdr.round)).set (p := ⟨rb, 15, none⟩) rfl (.slice x.hdr.ra x.hdr.refs.length x.hdr.rc)).set (p := ⟨rb, 16, none⟩) rfl (.slice x.hdr.pa x.hdr.parents.length x.hdr.pc)).set (p := ⟨rb, 17, none⟩) rfl (.slice x.va x.votes.length x.vc))
  replace hRF : Arr _ rb 58 [.string r1, .int .i64 k, .string dg, .int .i64 vi, .int .i64 tg.who, .string tg.mac, .int .i64 ba.author, .int .i64 ba.number, .slice ba.ta ba.txs.length ba.tc, .int .i64 he.author, .int .i64 he.round, .slice he.ra he.refs.length he.rc, .slice he.pa he.parents.length he.pc, .int .i64 x.hdr.author, .int .i64 x.hdr.round, .slice x.hdr.ra x.hdr.refs.length x.hdr.rc, .slice x.hdr.pa x.hdr.parents.length x.hdr.pc, .slice x.va x.votes.length x.vc, .int .i64 bl.view, .int .i64 bl.qc.view, .string bl.qc.block, .slice bl.qc.va bl.qc.votes.length bl.qc.vc, .slice bl.ca bl.certs.length bl.cc, .int .i64 q.view, .string q.block, .slice q.va q.votes.length q.vc] := hRF
  have hx2 := Kind.keptX certK hx (S := fun k => k = rb) (((((((Kept.refl (fun k => k = rb) w2).set (p := ⟨rb, 13, none⟩) rfl (.int .i64 x.hdr.author)).set (p := ⟨rb, 14, none⟩) rfl (.int .i64 x.hdr.round)).set (p := ⟨rb, 15, none⟩) rfl (.slice x.hdr.ra x.hdr.refs.length x.hdr.rc)).set (p := ⟨rb, 16, none⟩) rfl (.slice x.hdr.pa x.hdr.parents.length x.hdr.pc)).set (p := ⟨rb, 17, none⟩) rfl (.slice x.va x.votes.length x.vc))) (fun b hb e => by have := hfx b hb; omega)
  have hM1 := hM.keptM kF (fun b hb e => by have := hf b hb; omega)
  have hM2 := (⟨hM1.bat, hM1.hdr, hx2, hM1.blk, hM1.qc⟩ : MsgM.At _ ⟨k, dg, vi, tg, ba, he, x, bl, q⟩)
  have hf2 : ∀ b, MsgM.foot ⟨k, dg, vi, tg, ba, he, x, bl, q⟩ b → N ≤ b := by
    intro b hb
    rcases hb with hb | hb | hb | hb | hb
    · exact hf b (Or.inl hb)
    · exact hf b (Or.inr (Or.inl hb))
    · exact Nat.le_trans hN2 (hfx b hb)
    · exact hf b (Or.inr (Or.inr (Or.inr (Or.inl hb))))
    · exact hf b (Or.inr (Or.inr (Or.inr (Or.inr (hb)))))
  have hfin : ∀ e, e = .returned (.int .i64 (er : Int)) → GotField rb N 99 rest ⟨k, dg, vi, tg, ba, he, ce, bl, q⟩ w e _ := fun e h => ⟨er, r1, ⟨k, dg, vi, tg, ba, he, x, bl, q⟩, h, hRF, hM2, hf2, hrs, kF, by
    rcases hres with ⟨he, ho⟩ | ⟨he, ho⟩
    · refine Or.inl ⟨he, ?_⟩
      rw [hst, ho]
      rfl
    · refine Or.inr ⟨he, ?_⟩
      rw [hst, ho]⟩
  clear hRF kF hM2 hM1 hf2 hres hrs hM hf hs k1 hx2 hx hfx hst
  go_wp2
  go_ret
  exact hfin _ rfl

set_option maxRecDepth 100000 in
set_option maxHeartbeats 4000000 in
theorem field_k (rb N : Nat) (hN1 : rb < N) (rest : ByteArray) (k : Int) (dg : ByteArray) (vi : Int) (tg : TagD) (ba : BatM) (he : HdrM) (ce : CertM) (bl : BlkM) (q : QcM) (w : World) (hN2 : N ≤ w.heap.size) (hR : Arr w rb 58 [.string rest, .int .i64 k, .string dg, .int .i64 vi, .int .i64 tg.who, .string tg.mac, .int .i64 ba.author, .int .i64 ba.number, .slice ba.ta ba.txs.length ba.tc, .int .i64 he.author, .int .i64 he.round, .slice he.ra he.refs.length he.rc, .slice he.pa he.parents.length he.pc, .int .i64 ce.hdr.author, .int .i64 ce.hdr.round, .slice ce.hdr.ra ce.hdr.refs.length ce.hdr.rc, .slice ce.hdr.pa ce.hdr.parents.length ce.hdr.pc, .slice ce.va ce.votes.length ce.vc, .int .i64 bl.view, .int .i64 bl.qc.view, .string bl.qc.block, .slice bl.qc.va bl.qc.votes.length bl.qc.vc, .slice bl.ca bl.certs.length bl.cc, .int .i64 q.view, .string q.block, .slice q.va q.votes.length q.vc]) (hM : MsgM.At w ⟨k, dg, vi, tg, ba, he, ce, bl, q⟩) (hf : ∀ b, MsgM.foot ⟨k, dg, vi, tg, ba, he, ce, bl, q⟩ b → N ≤ b) (hs : rest.size ≤ maxLen) :
    Calls Tryz.prog 18 #[.pointer (some ⟨rb, 0, none⟩), .int .i32 107] w fun e w' => GotField rb N 107 rest ⟨k, dg, vi, tg, ba, he, ce, bl, q⟩ w e w' := by
  rcases hr : getText rest.data.toList with ⟨t, n, er0⟩
  have cT := within_k rb rest [.int .i64 k, .string dg, .int .i64 vi, .int .i64 tg.who, .string tg.mac, .int .i64 ba.author, .int .i64 ba.number, .slice ba.ta ba.txs.length ba.tc, .int .i64 he.author, .int .i64 he.round, .slice he.ra he.refs.length he.rc, .slice he.pa he.parents.length he.pc, .int .i64 ce.hdr.author, .int .i64 ce.hdr.round, .slice ce.hdr.ra ce.hdr.refs.length ce.hdr.rc, .slice ce.hdr.pa ce.hdr.parents.length ce.hdr.pc, .slice ce.va ce.votes.length ce.vc, .int .i64 bl.view, .int .i64 bl.qc.view, .string bl.qc.block, .slice bl.qc.va bl.qc.votes.length bl.qc.vc, .slice bl.ca bl.certs.length bl.cc, .int .i64 q.view, .string q.block, .slice q.va q.votes.length q.vc] w hR hs t n er0 hr
  have hst := step_k (p := MsgM.d ⟨k, dg, vi, tg, ba, he, ce, bl, q⟩) hr
  obtain ⟨r1, hr1⟩ : ∃ o, o = rest.extract n rest.size := ⟨_, rfl⟩
  have hdr : r1.data.toList = rest.data.toList.drop n := by rw [hr1]; exact extract_drop _ _
  have hrs : r1.size ≤ maxLen := by rw [hr1]; exact rest_le rest n hs
  have hrl := hR.lt
  rw [← hr1] at cT
  rw [← hdr] at hst
  clear hr1 hr hdr hR
  generalize (if er0 ≠ 0 then .error er0 else decK t : Except Nat BlkD) = out at cT hst
  go_enter Tryz.func18, Tryz.ntmps18
  go_wp2_with fail
  refine cT.mono ?_
  rintro e w2 ⟨x, er, rfl, hx, hres, hfx, hR1, k1⟩
  unfold BlkM.v
  clear cT
  have y17 := hR1.cell (i := 18) rfl
  have f17 := hR1.frozen 18
  have y18 := hR1.cell (i := 19) rfl
  have f18 := hR1.frozen 19
  have y19 := hR1.cell (i := 20) rfl
  have f19 := hR1.frozen 20
  have y20 := hR1.cell (i := 21) rfl
  have f20 := hR1.frozen 21
  have y21 := hR1.cell (i := 22) rfl
  have f21 := hR1.frozen 22
  have hRF := (((((hR1.set 18 (.int .i64 x.view)).set 19 (.int .i64 x.qc.view)).set 20 (.string x.qc.block)).set 21 (.slice x.qc.va x.qc.votes.length x.qc.vc)).set 22 (.slice x.ca x.certs.length x.cc))
  have kF := (((((k1.set (p := ⟨rb, 18, none⟩) rfl (.int .i64 x.view)).set (p := ⟨rb, 19, none⟩) rfl (.int .i64 x.qc.view)).set (p := ⟨rb, 20, none⟩) rfl (.string x.qc.block)).set (p := ⟨rb, 21, none⟩) rfl (.slice x.qc.va x.qc.votes.length x.qc.vc)).set (p := ⟨rb, 22, none⟩) rfl (.slice x.ca x.certs.length x.cc))
  replace hRF : Arr _ rb 58 [.string r1, .int .i64 k, .string dg, .int .i64 vi, .int .i64 tg.who, .string tg.mac, .int .i64 ba.author, .int .i64 ba.number, .slice ba.ta ba.txs.length ba.tc, .int .i64 he.author, .int .i64 he.round, .slice he.ra he.refs.length he.rc, .slice he.pa he.parents.length he.pc, .int .i64 ce.hdr.author, .int .i64 ce.hdr.round, .slice ce.hdr.ra ce.hdr.refs.length ce.hdr.rc, .slice ce.hdr.pa ce.hdr.parents.length ce.hdr.pc, .slice ce.va ce.votes.length ce.vc, .int .i64 x.view, .int .i64 x.qc.view, .string x.qc.block, .slice x.qc.va x.qc.votes.length x.qc.vc, .slice x.ca x.certs.length x.cc, .int .i64 q.view, .string q.block, .slice q.va q.votes.length q.vc] := hRF
  have hx2 := Kind.keptX blkK hx (S := fun k => k = rb) (((((((Kept.refl (fun k => k = rb) w2).set (p := ⟨rb, 18, none⟩) rfl (.int .i64 x.view)).set (p := ⟨rb, 19, none⟩) rfl (.int .i64 x.qc.view)).set (p := ⟨rb, 20, none⟩) rfl (.string x.qc.block)).set (p := ⟨rb, 21, none⟩) rfl (.slice x.qc.va x.qc.votes.length x.qc.vc)).set (p := ⟨rb, 22, none⟩) rfl (.slice x.ca x.certs.length x.cc))) (fun b hb e => by have := hfx b hb; omega)
  have hM1 := hM.keptM kF (fun b hb e => by have := hf b hb; omega)
  have hM2 := (⟨hM1.bat, hM1.hdr, hM1.cert, hx2, hM1.qc⟩ : MsgM.At _ ⟨k, dg, vi, tg, ba, he, ce, x, q⟩)
  have hf2 : ∀ b, MsgM.foot ⟨k, dg, vi, tg, ba, he, ce, x, q⟩ b → N ≤ b := by
    intro b hb
    rcases hb with hb | hb | hb | hb | hb
    · exact hf b (Or.inl hb)
    · exact hf b (Or.inr (Or.inl hb))
    · exact hf b (Or.inr (Or.inr (Or.inl hb)))
    · exact Nat.le_trans hN2 (hfx b hb)
    · exact hf b (Or.inr (Or.inr (Or.inr (Or.inr (hb)))))
  have hfin : ∀ e, e = .returned (.int .i64 (er : Int)) → GotField rb N 107 rest ⟨k, dg, vi, tg, ba, he, ce, bl, q⟩ w e _ := fun e h => ⟨er, r1, ⟨k, dg, vi, tg, ba, he, ce, x, q⟩, h, hRF, hM2, hf2, hrs, kF, by
    rcases hres with ⟨he, ho⟩ | ⟨he, ho⟩
    · refine Or.inl ⟨he, ?_⟩
      rw [hst, ho]
      rfl
    · refine Or.inr ⟨he, ?_⟩
      rw [hst, ho]⟩
  clear hRF kF hM2 hM1 hf2 hres hrs hM hf hs k1 hx2 hx hfx hst
  go_wp2
  go_ret
  exact hfin _ rfl

set_option maxRecDepth 100000 in
set_option maxHeartbeats 4000000 in
theorem field_q (rb N : Nat) (hN1 : rb < N) (rest : ByteArray) (k : Int) (dg : ByteArray) (vi : Int) (tg : TagD) (ba : BatM) (he : HdrM) (ce : CertM) (bl : BlkM) (q : QcM) (w : World) (hN2 : N ≤ w.heap.size) (hR : Arr w rb 58 [.string rest, .int .i64 k, .string dg, .int .i64 vi, .int .i64 tg.who, .string tg.mac, .int .i64 ba.author, .int .i64 ba.number, .slice ba.ta ba.txs.length ba.tc, .int .i64 he.author, .int .i64 he.round, .slice he.ra he.refs.length he.rc, .slice he.pa he.parents.length he.pc, .int .i64 ce.hdr.author, .int .i64 ce.hdr.round, .slice ce.hdr.ra ce.hdr.refs.length ce.hdr.rc, .slice ce.hdr.pa ce.hdr.parents.length ce.hdr.pc, .slice ce.va ce.votes.length ce.vc, .int .i64 bl.view, .int .i64 bl.qc.view, .string bl.qc.block, .slice bl.qc.va bl.qc.votes.length bl.qc.vc, .slice bl.ca bl.certs.length bl.cc, .int .i64 q.view, .string q.block, .slice q.va q.votes.length q.vc]) (hM : MsgM.At w ⟨k, dg, vi, tg, ba, he, ce, bl, q⟩) (hf : ∀ b, MsgM.foot ⟨k, dg, vi, tg, ba, he, ce, bl, q⟩ b → N ≤ b) (hs : rest.size ≤ maxLen) :
    Calls Tryz.prog 18 #[.pointer (some ⟨rb, 0, none⟩), .int .i32 113] w fun e w' => GotField rb N 113 rest ⟨k, dg, vi, tg, ba, he, ce, bl, q⟩ w e w' := by
  rcases hr : getText rest.data.toList with ⟨t, n, er0⟩
  have cT := within_q rb rest [.int .i64 k, .string dg, .int .i64 vi, .int .i64 tg.who, .string tg.mac, .int .i64 ba.author, .int .i64 ba.number, .slice ba.ta ba.txs.length ba.tc, .int .i64 he.author, .int .i64 he.round, .slice he.ra he.refs.length he.rc, .slice he.pa he.parents.length he.pc, .int .i64 ce.hdr.author, .int .i64 ce.hdr.round, .slice ce.hdr.ra ce.hdr.refs.length ce.hdr.rc, .slice ce.hdr.pa ce.hdr.parents.length ce.hdr.pc, .slice ce.va ce.votes.length ce.vc, .int .i64 bl.view, .int .i64 bl.qc.view, .string bl.qc.block, .slice bl.qc.va bl.qc.votes.length bl.qc.vc, .slice bl.ca bl.certs.length bl.cc, .int .i64 q.view, .string q.block, .slice q.va q.votes.length q.vc] w hR hs t n er0 hr
  have hst := step_q (p := MsgM.d ⟨k, dg, vi, tg, ba, he, ce, bl, q⟩) hr
  obtain ⟨r1, hr1⟩ : ∃ o, o = rest.extract n rest.size := ⟨_, rfl⟩
  have hdr : r1.data.toList = rest.data.toList.drop n := by rw [hr1]; exact extract_drop _ _
  have hrs : r1.size ≤ maxLen := by rw [hr1]; exact rest_le rest n hs
  have hrl := hR.lt
  rw [← hr1] at cT
  rw [← hdr] at hst
  clear hr1 hr hdr hR
  generalize (if er0 ≠ 0 then .error er0 else decQ t : Except Nat QcD) = out at cT hst
  go_enter Tryz.func18, Tryz.ntmps18
  go_wp2_with fail
  refine cT.mono ?_
  rintro e w2 ⟨x, er, rfl, hx, hres, hfx, hR1, k1⟩
  unfold QcM.v
  clear cT
  have y22 := hR1.cell (i := 23) rfl
  have f22 := hR1.frozen 23
  have y23 := hR1.cell (i := 24) rfl
  have f23 := hR1.frozen 24
  have y24 := hR1.cell (i := 25) rfl
  have f24 := hR1.frozen 25
  have hRF := (((hR1.set 23 (.int .i64 x.view)).set 24 (.string x.block)).set 25 (.slice x.va x.votes.length x.vc))
  have kF := (((k1.set (p := ⟨rb, 23, none⟩) rfl (.int .i64 x.view)).set (p := ⟨rb, 24, none⟩) rfl (.string x.block)).set (p := ⟨rb, 25, none⟩) rfl (.slice x.va x.votes.length x.vc))
  replace hRF : Arr _ rb 58 [.string r1, .int .i64 k, .string dg, .int .i64 vi, .int .i64 tg.who, .string tg.mac, .int .i64 ba.author, .int .i64 ba.number, .slice ba.ta ba.txs.length ba.tc, .int .i64 he.author, .int .i64 he.round, .slice he.ra he.refs.length he.rc, .slice he.pa he.parents.length he.pc, .int .i64 ce.hdr.author, .int .i64 ce.hdr.round, .slice ce.hdr.ra ce.hdr.refs.length ce.hdr.rc, .slice ce.hdr.pa ce.hdr.parents.length ce.hdr.pc, .slice ce.va ce.votes.length ce.vc, .int .i64 bl.view, .int .i64 bl.qc.view, .string bl.qc.block, .slice bl.qc.va bl.qc.votes.length bl.qc.vc, .slice bl.ca bl.certs.length bl.cc, .int .i64 x.view, .string x.block, .slice x.va x.votes.length x.vc] := hRF
  have hx2 := Kind.keptX qcK hx (S := fun k => k = rb) (((((Kept.refl (fun k => k = rb) w2).set (p := ⟨rb, 23, none⟩) rfl (.int .i64 x.view)).set (p := ⟨rb, 24, none⟩) rfl (.string x.block)).set (p := ⟨rb, 25, none⟩) rfl (.slice x.va x.votes.length x.vc))) (fun b hb e => by have := hfx b hb; omega)
  have hM1 := hM.keptM kF (fun b hb e => by have := hf b hb; omega)
  have hM2 := (⟨hM1.bat, hM1.hdr, hM1.cert, hM1.blk, hx2⟩ : MsgM.At _ ⟨k, dg, vi, tg, ba, he, ce, bl, x⟩)
  have hf2 : ∀ b, MsgM.foot ⟨k, dg, vi, tg, ba, he, ce, bl, x⟩ b → N ≤ b := by
    intro b hb
    rcases hb with hb | hb | hb | hb | hb
    · exact hf b (Or.inl hb)
    · exact hf b (Or.inr (Or.inl hb))
    · exact hf b (Or.inr (Or.inr (Or.inl hb)))
    · exact hf b (Or.inr (Or.inr (Or.inr (Or.inl hb))))
    · exact Nat.le_trans hN2 (hfx b hb)
  have hfin : ∀ e, e = .returned (.int .i64 (er : Int)) → GotField rb N 113 rest ⟨k, dg, vi, tg, ba, he, ce, bl, q⟩ w e _ := fun e h => ⟨er, r1, ⟨k, dg, vi, tg, ba, he, ce, bl, x⟩, h, hRF, hM2, hf2, hrs, kF, by
    rcases hres with ⟨he, ho⟩ | ⟨he, ho⟩
    · refine Or.inl ⟨he, ?_⟩
      rw [hst, ho]
      rfl
    · refine Or.inr ⟨he, ?_⟩
      rw [hst, ho]⟩
  clear hRF kF hM2 hM1 hf2 hres hrs hM hf hs k1 hx2 hx hfx hst
  go_wp2
  go_ret
  exact hfin _ rfl

theorem field_any (rb N : Nat) (hN1 : rb < N) (c : UInt8) (hc : c ∈ letters) (rest : ByteArray) (m : MsgM) (w : World) (hN2 : N ≤ w.heap.size) (hR : Arr w rb 58 (.string rest :: m.c)) (hM : m.At w) (hf : ∀ b, m.foot b → N ≤ b) (hs : rest.size ≤ maxLen) :
    Calls Tryz.prog 18 #[.pointer (some ⟨rb, 0, none⟩), .int .i32 (c.toNat : Int)] w fun e w' => GotField rb N c rest m w e w' := by
  obtain ⟨k, dg, vi, tg, ba, he, ce, bl, q⟩ := m
  simp only [letters, List.mem_cons, List.not_mem_nil, or_false] at hc
  rcases hc with rfl | rfl | rfl | rfl | rfl | rfl | rfl | rfl
  · exact field_v rb N hN1 rest k dg vi tg ba he ce bl q w hN2 hR hM hf hs
  · exact field_t rb N hN1 rest k dg vi tg ba he ce bl q w hN2 hR hM hf hs
  · exact field_d rb N hN1 rest k dg vi tg ba he ce bl q w hN2 hR hM hf hs
  · exact field_b rb N hN1 rest k dg vi tg ba he ce bl q w hN2 hR hM hf hs
  · exact field_h rb N hN1 rest k dg vi tg ba he ce bl q w hN2 hR hM hf hs
  · exact field_c rb N hN1 rest k dg vi tg ba he ce bl q w hN2 hR hM hf hs
  · exact field_k rb N hN1 rest k dg vi tg ba he ce bl q w hN2 hR hM hf hs
  · exact field_q rb N hN1 rest k dg vi tg ba he ce bl q w hN2 hR hM hf hs
end Go.Proofs.YtmngiekobmhpaaaGreat

/- What tuskref04.Name and Key do; memory stands. -/
namespace Go.Proofs.YtmngiekobmhpaaaGreat
open Go.RowKit
set_option linter.unusedVariables false

set_option maxRecDepth 100000 in
set_option maxHeartbeats 1000000 in
theorem refName_any (s : ByteArray) (w : World) (hs : s.size ≤ maxLen) :
    Calls Tryz.prog 119 #[.string s] w fun e w' => e = .returned (.bool (isNm s)) ∧ w' = w := by
  unfold maxLen at hs
  go_enter Tryz.func119, Tryz.ntmps119
  go_wp2
  go_loop [3] (fun v => ∃ k : Nat, k ≤ s.size ∧ v = .int .i64 k ∧ Hid ((s.data.toList.take k).all nameByte = true)) (fun v => s.size - (intOf v).toNat)
  case atStart => exact ⟨0, by omega, rfl, by show _ = _; simp⟩
  case round =>
    obtain ⟨k, hk, rfl, hall⟩ := hrel
    by_cases hlt : k < s.size
    · obtain ⟨c, hc⟩ : ∃ c, s[k].toNat = c := ⟨_, rfl⟩
      have hY : (97 ≤ c ∧ c ≤ 122 ∨ 48 ≤ c ∧ c ≤ 57) → Hid ((s.data.toList.take (k + 1)).all nameByte = true) := by
        intro h
        show _ = _
        rw [all_take_succ s k hlt, hall.out]
        unfold nameByte
        rw [hc]
        simp only [Bool.true_and, Bool.or_eq_true, Bool.and_eq_true, decide_eq_true_eq]
        exact h
      have hN : ¬ (97 ≤ c ∧ c ≤ 122 ∨ 48 ≤ c ∧ c ≤ 57) → Hid (isNm s = false) := by
        intro h
        show _ = _
        unfold isNm
        rw [all_of_take s k hlt _ (by
          unfold nameByte
          rw [hc]
          simp only [Bool.or_eq_false_iff, Bool.and_eq_false_iff, decide_eq_false_iff_not]
          omega)]
        simp
      clear hall
      have hI : ((c : Int) < 48 ∧ (c : Int) ≤ 57 ∧ (c : Int) < 97 ∧ (c : Int) ≤ 122) ∨ ((48 : Int) ≤ c ∧ (57 : Int) < c ∧ (c : Int) < 97 ∧ (c : Int) ≤ 122) ∨ ((48 : Int) ≤ c ∧ (57 : Int) < c ∧ (97 : Int) ≤ c ∧ (122 : Int) < c) ∨
          ((48 : Int) ≤ c ∧ (c : Int) ≤ 57 ∧ (c : Int) < 97 ∧ (c : Int) ≤ 122) ∨ ((48 : Int) ≤ c ∧ (57 : Int) < c ∧ (97 : Int) ≤ c ∧ (c : Int) ≤ 122) := by omega
      rcases hI with ⟨i1, i2, i3, i4⟩ | ⟨i1, i2, i3, i4⟩ | ⟨i1, i2, i3, i4⟩ | ⟨i1, i2, i3, i4⟩ | ⟨i1, i2, i3, i4⟩
      · have H := hN (by omega)
        clear hY hN
        go_wp2
        go_ret
        exact ⟨by rw [H.out]; rfl, rfl⟩
      · have H := hN (by omega)
        clear hY hN
        go_wp2
        go_ret
        exact ⟨by rw [H.out]; rfl, rfl⟩
      · have H := hN (by omega)
        clear hY hN
        go_wp2
        go_ret
        exact ⟨by rw [H.out]; rfl, rfl⟩
      · have H := hY (by omega)
        clear hY hN
        have d57 : decide ((57 : Int) < c) = false := decide_eq_false (by omega)
        go_wp2
        go_round
        case rel => exact ⟨k + 1, by omega, by go_num, H⟩
        case measure => simp [intOf]; omega
      · have H := hY (by omega)
        clear hY hN
        have d122 : decide ((122 : Int) < c) = false := decide_eq_false (by omega)
        go_wp2
        go_round
        case rel => exact ⟨k + 1, by omega, by go_num, H⟩
        case measure => simp [intOf]; omega
    · have H : Hid (isNm s = (decide (1 ≤ s.size) && decide (s.size ≤ 32))) := by
        show _ = _
        have h1 := hall.out
        rw [List.take_of_length_le (by simp; omega)] at h1
        unfold isNm
        rw [h1]
        simp
      clear hall
      by_cases h1 : 1 ≤ s.size
      · have h1' : (1 : Int) ≤ s.size := by omega
        replace H : Hid (isNm s = decide (s.size ≤ 32)) := by show _ = _; rw [H.out, decide_eq_true h1]; rfl
        by_cases h2 : s.size ≤ 32
        · replace H : Hid (isNm s = true) := by show _ = _; rw [H.out, decide_eq_true h2]
          have h2' : (s.size : Int) ≤ 32 := by omega
          go_wp2
          go_ret
          exact ⟨by rw [H.out]; rfl, rfl⟩
        · replace H : Hid (isNm s = false) := by show _ = _; rw [H.out, decide_eq_false h2]
          have h2' : (32 : Int) < s.size := by omega
          have d2 : decide ((s.size : Int) ≤ 32) = false := decide_eq_false (by omega)
          go_wp2
          go_ret
          exact ⟨by rw [H.out]; rfl, rfl⟩
      · replace H : Hid (isNm s = false) := by show _ = _; rw [H.out, decide_eq_false h1]; rfl
        have h1' : (s.size : Int) < 1 := by omega
        go_wp2
        go_ret
        exact ⟨by rw [H.out]; rfl, rfl⟩
end Go.Proofs.YtmngiekobmhpaaaGreat

/- What tuskref04.Key, keys and Check do; nothing old in memory is turned. -/
namespace Go.Proofs.YtmngiekobmhpaaaGreat
open Go.RowKit
set_option linter.unusedVariables false

theorem cut_two {s : ByteArray} (h : 2 < s.size) (a b : UInt8) : cutOk s ⟨#[a, b]⟩ = ((s.extract 0 2).toList == [a, b]) := by
  unfold cutOk
  have h1 : (⟨#[a, b]⟩ : ByteArray).size = 2 := rfl
  rw [h1, decide_eq_true (by omega), ByteArray.toList_eq ⟨#[a, b]⟩]
  rfl

theorem small_key {s : ByteArray} (h : s.size ≤ 2) : isKy s = false := by
  unfold isKy
  have h1 : isNm (s.extract 2 s.size) = false := by
    cases hn : isNm (s.extract 2 s.size) with
    | false => rfl
    | true =>
      unfold isNm at hn
      simp only [Bool.and_eq_true, decide_eq_true_eq, ByteArray.size_extract] at hn
      omega
  rw [h1]
  simp

set_option maxRecDepth 100000 in
set_option maxHeartbeats 400000 in
theorem refKey_any (s : ByteArray) (w : World) (hs : s.size ≤ maxLen) :
    Calls Tryz.prog 130 #[.string s] w fun e w' => e = .returned (.bool (isKy s)) ∧ w' = w := by
  by_cases h2 : 2 < s.size
  · have h2' : (2 : Int) < s.size := by omega
    have hsz : (2 : Int) ≤ s.size := by omega
    have cn := refName_any (s.extract 2 s.size) w (by rw [ByteArray.size_extract]; omega)
    have H : Hid (isKy s = ((((s.extract 0 2).toList == [97, 58]) || ((s.extract 0 2).toList == [107, 58])) && isNm (s.extract 2 s.size))) := by
      show _ = _
      unfold isKy aP kP
      rw [cut_two h2, cut_two h2]
    generalize isNm (s.extract 2 s.size) = b at cn H
    clear hs
    by_cases ha : (s.extract 0 2).toList = [97, 58]
    · replace H : Hid (isKy s = b) := by show _ = _; rw [H.out, ha]; simp
      go_enter Tryz.func130, Tryz.ntmps130
      go_wp2_with fail
      refine cn.mono ?_
      rintro e w' ⟨rfl, rfl⟩
      go_wp2
      go_ret
      exact ⟨by rw [H.out]; rfl, rfl⟩
    · have ha' : ((s.extract 0 2).toList == [97, 58]) = false := beq_eq_false_iff_ne.2 ha
      by_cases hk : (s.extract 0 2).toList = [107, 58]
      · replace H : Hid (isKy s = b) := by show _ = _; rw [H.out, ha', hk]; simp
        go_enter Tryz.func130, Tryz.ntmps130
        go_wp2_with fail
        refine cn.mono ?_
        rintro e w' ⟨rfl, rfl⟩
        go_wp2
        go_ret
        exact ⟨by rw [H.out]; rfl, rfl⟩
      · have hk' : ((s.extract 0 2).toList == [107, 58]) = false := beq_eq_false_iff_ne.2 hk
        replace H : Hid (isKy s = false) := by show _ = _; rw [H.out, ha', hk']; simp
        go_enter Tryz.func130, Tryz.ntmps130
        go_wp2
        go_ret
        exact ⟨by rw [H.out]; rfl, rfl⟩
  · have h2' : ¬ (2 : Int) < s.size := by omega
    have H : Hid (isKy s = false) := small_key (by omega)
    go_enter Tryz.func130, Tryz.ntmps130
    go_wp2
    go_ret
    exact ⟨by rw [H.out]; rfl, rfl⟩

/-- The one ahead. -/
def prevK (ss : List ByteArray) (k : Nat) : ByteArray := if k = 0 then ⟨#[]⟩ else ss.getD (k - 1) ⟨#[]⟩

set_option maxRecDepth 100000 in
set_option maxHeartbeats 1000000 in
theorem refKeys_any (ao : Option Addr) (cap : Nat) (ss : List ByteArray) (w : World) (hc : StrsAt w ao ss) (hz : ∀ s ∈ ss, s.size ≤ maxLen) :
    Calls Tryz.prog 120 #[.slice ao ss.length cap] w fun e w' => e = .returned (.int .i64 (keysL ss : Int)) ∧ Below w.heap.size w w' := by
  by_cases h8 : 8 < ss.length
  · have H : Hid (keysL ss = 8) := by show _ = _; unfold keysL; rw [if_pos h8]
    have h8' : (8 : Int) < ss.length := by omega
    go_enter Tryz.func120, Tryz.ntmps120
    go_wp2
    go_ret
    exact ⟨by rw [H.out]; rfl, Below.refl _ _⟩
  have h8' : ¬ (8 : Int) < ss.length := by omega
  have HK : Hid (keysL ss = keysGo ⟨#[]⟩ ss) := by show _ = _; unfold keysL; rw [if_neg h8]
  go_enter Tryz.func120, Tryz.ntmps120
  go_wp2
  go_loopw [3] (fun v wr => ∃ k : Nat, k ≤ ss.length ∧ v = .int .i64 k ∧ Hid (keysL ss = keysGo (prevK ss k) (ss.drop k)) ∧ Below w.heap.size w wr) (fun v _ => ss.length - (intOf v).toNat)
  case atStart => exact ⟨0, by omega, rfl, HK, Below.refl _ _⟩
  case round =>
    obtain ⟨k, hk, rfl, hK, hb⟩ := hrel
    by_cases hlt : k < ss.length
    · obtain ⟨b, off, rfl, hbl, hcell⟩ := (hc.below hb) k hlt
      have hd : ss.drop k = ss[k] :: ss.drop (k + 1) := List.drop_eq_getElem_cons hlt
      have hK2 := hK.out
      rw [hd, keysGo] at hK2
      have cn := fun w1 => refKey_any ss[k] w1 (hz _ (List.getElem_mem hlt))
      obtain ⟨x, hx⟩ : ∃ x, x = ss[k] := ⟨_, rfl⟩
      have hpr : prevK ss (k + 1) = x := by rw [hx]; unfold prevK; rw [if_neg (by omega)]; simp [List.getD, hlt]
      rw [← hx] at hK2 cn hcell
      clear hK hd HK
      cases hky : isKy x with
      | false =>
        have H : Hid (keysL ss = 3) := by show _ = _; rw [hK2, if_pos hky]
        simp only [hky] at cn
        clear hK2 hky hx hpr hc
        go_wp2_with fail
        refine (cn _).mono ?_
        rintro e w' ⟨rfl, rfl⟩
        go_wp2
        go_ret
        exact ⟨by rw [H.out]; rfl, hb⟩
      | true =>
        have hab := ky_above hky
        simp only [hky] at cn
        rw [if_neg (by rw [hky]; simp)] at hK2
        by_cases hk0 : k = 0
        · subst hk0
          have H : Hid (keysL ss = keysGo (prevK ss (0 + 1)) (ss.drop (0 + 1))) := by
            show _ = _
            rw [hpr, hK2]
            have : prevK ss 0 = ⟨#[]⟩ := rfl
            rw [this, hab, if_neg (by simp)]
          replace hcell : wr.cell? ⟨b, off, none⟩ = some (.string x) := hcell
          clear hK2 hky hx hpr hc hab
          go_wp2_with fail
          refine (cn _).mono ?_
          rintro e w' ⟨rfl, rfl⟩
          go_wp2_with fail
          go_quiet (fail)
          have hb2 := below_drewN hb nq
          clear hb hcell
          go_wp2
          go_roundw
          case rel => exact ⟨0 + 1, by omega, by go_num, H, hb2⟩
          case measure => simp [intOf]; omega
        · obtain ⟨j, rfl⟩ : ∃ j, k = j + 1 := ⟨k - 1, by omega⟩
          obtain ⟨b', off', e', _, hcell'⟩ := (hc.below hb) j (by omega)
          simp at e'
          obtain ⟨rfl, rfl⟩ := e'
          obtain ⟨y, hy⟩ : ∃ y, y = ss[j] := ⟨_, rfl⟩
          have hpy : prevK ss (j + 1) = y := by rw [hy]; unfold prevK; rw [if_neg (by omega)]; simp [List.getD, show j < ss.length by omega]
          rw [← hy] at hcell'
          rw [hpy] at hK2
          have hj1 : (((j + 1 : Nat) : Int)) - 1 = (j : Int) := by omega
          have hdk : decide ((0 : Int) < ((j + 1 : Nat) : Int)) = true := decide_eq_true (by omega)
          cases hle : (Op.bytesLess x.toList y.toList || x.toList == y.toList) with
          | true =>
            have H : Hid (keysL ss = 9) := by show _ = _; rw [hK2, if_pos hle]
            clear hK2 hky hx hpr hc hab hy hpy
            go_wp2_with fail
            refine (cn _).mono ?_
            rintro e w' ⟨rfl, rfl⟩
            go_wp2_with fail
            go_quiet (fail)
            have hb2 := below_drewN hb nq
            clear hb hcell hcell'
            go_wp2
            go_ret
            exact ⟨by rw [H.out]; rfl, hb2⟩
          | false =>
            have H : Hid (keysL ss = keysGo (prevK ss (j + 1 + 1)) (ss.drop (j + 1 + 1))) := by show _ = _; rw [hpr, hK2, if_neg (by rw [hle]; simp)]
            clear hK2 hky hx hpr hc hab hy hpy
            go_wp2_with fail
            refine (cn _).mono ?_
            rintro e w' ⟨rfl, rfl⟩
            go_wp2_with fail
            go_quiet (fail)
            have hb2 := below_drewN hb nq
            clear hb hcell hcell'
            go_wp2
            go_roundw
            case rel => exact ⟨j + 1 + 1, by omega, by go_num, H, hb2⟩
            case measure => simp [intOf]; omega
    · have H : Hid (keysL ss = 0) := by
        show _ = _
        rw [hK.out, List.drop_of_length_le (by omega), keysGo]
      clear hK
      go_wp2
      go_ret
      exact ⟨by rw [H.out]; rfl, hb⟩
end Go.Proofs.YtmngiekobmhpaaaGreat

/- What tuskref04.Check does; nothing old in memory is turned. -/
namespace Go.Proofs.YtmngiekobmhpaaaGreat
open Go.RowKit
set_option linter.unusedVariables false

theorem check_three {d : TxD} (hk : d.kind = 1 ∨ d.kind = 2) (h : fieldsR d = false) : checkL d = 3 := by
  unfold checkL
  rw [if_neg (by omega), if_pos h]

theorem check_two {d : TxD} (hk : d.kind = 1 ∨ d.kind = 2) (h : fieldsR d = true) (hr : 4611686018427387903 < d.amt ∨ 4611686018427387903 < d.non) : checkL d = 2 := by
  unfold checkL
  rw [if_neg (by omega), if_neg (by rw [h]; simp), if_pos hr]

theorem check_rs {d : TxD} (hk : d.kind = 1 ∨ d.kind = 2) (h : fieldsR d = true) (h1 : d.amt ≤ 4611686018427387903) (h2 : d.non ≤ 4611686018427387903) (hz : keysL d.rs ≠ 0) : checkL d = keysL d.rs := by
  unfold checkL
  rw [if_neg (by omega), if_neg (by rw [h]; simp), if_neg (by omega), if_pos hz]

theorem check_ws {d : TxD} (hk : d.kind = 1 ∨ d.kind = 2) (h : fieldsR d = true) (h1 : d.amt ≤ 4611686018427387903) (h2 : d.non ≤ 4611686018427387903) (hz : keysL d.rs = 0) : checkL d = keysL d.ws := by
  unfold checkL
  rw [if_neg (by omega), if_neg (by rw [h]; simp), if_neg (by omega), if_neg (by rw [hz]; simp)]

set_option maxRecDepth 100000 in
set_option maxHeartbeats 4000000 in
theorem refCheck_any (d : TxD) (ra : Option Addr) (rc : Nat) (wa : Option Addr) (wc : Nat) (w : World) (hA : TxAt w d ra wa) (hs : TxSizes d) :
    Calls Tryz.prog 88 #[txV d ra rc wa wc] w fun e w' => e = .returned (.int .i64 (checkL d : Int)) ∧ Below w.heap.size w w' := by
  have hX : Arr _ _ _ (txC d ra rc wa wc) := TxBox.new w d ra rc wa wc
  have hB := belowNew w (.cells (txC d ra rc wa wc).toArray 123)
  have hA0 := hA.below hB
  have cF := fun w1 => refName_any d.frm w1 hs.frm
  have cT := fun w1 => refName_any d.to w1 hs.to
  have cK := fun w1 => refName_any d.key w1 hs.key
  have ck1 := fun w1 (h : StrsAt w1 ra d.rs) => refKeys_any ra rc d.rs w1 h hs.rs
  have ck2 := fun w1 (h : StrsAt w1 wa d.ws) => refKeys_any wa wc d.ws w1 h hs.ws
  have hR0 := hA0.rd
  have hW0 := hA0.wr
  have t3 := check_three (d := d)
  have t2 := check_two (d := d)
  have tr := check_rs (d := d)
  have tw := check_ws (d := d)
  have t5 : d.kind ≠ 1 ∧ d.kind ≠ 2 → checkL d = 5 := fun h => by unfold checkL; rw [if_pos h]
  have F : fieldsR d = (isNm d.frm && (if d.kind = 1 then isNm d.to && (d.key.toList == []) && (d.val.toList == []) else isNm d.key && decide (d.val.size ≤ 64) && (d.to.toList == []) && decide (d.amt = 0))) := rfl
  simp only [bemp] at F
  clear hA hA0 hs
  obtain ⟨kind, frm, to, amt, non, key, val, rs, ws⟩ := d
  dsimp only at cF cT cK ck1 ck2 hR0 hW0 t3 t2 tr tw t5 F
  unfold txV
  generalize hchk : checkL ⟨kind, frm, to, amt, non, key, val, rs, ws⟩ = chk at *
  clear hchk
  generalize hfld : fieldsR ⟨kind, frm, to, amt, non, key, val, rs, ws⟩ = fld at *
  clear hfld
  by_cases hk : kind ≠ 1 ∧ kind ≠ 2
  · have H : Hid (chk = 5) := t5 hk
    have hk1 : (kind != 1) = true := by simpa using hk.1
    have hk2 : (kind != 2) = true := by simpa using hk.2
    clear t3 t2 tr tw t5 F hk cF cT cK ck1 ck2 hR0 hW0 hX
    go_enter Tryz.func88, Tryz.ntmps88
    go_wp2
    go_ret
    exact ⟨by rw [H.out]; rfl, hB⟩
  clear t5
  cases n1 : isNm frm with
  | false =>
    have hkk : kind = 1 ∨ kind = 2 := by omega
    clear hk
    simp only [n1] at cF
    replace F : fld = false := by rw [F, n1]; rfl
    rcases hkk with rfl | rfl
    · have hkk : (1 : Int) = 1 ∨ (1 : Int) = 2 := Or.inl rfl
      have H : Hid (chk = 3) := t3 hkk F
      clear t3 t2 tr tw F hkk hX
      clear ck1 ck2 hR0 hW0
      go_enter Tryz.func88, Tryz.ntmps88
      go_wp2_with fail
      refine (cF _).mono ?_
      rintro e w0 ⟨rfl, hw1⟩
      subst hw1
      go_wp2
      go_ret
      exact ⟨by rw [H.out]; rfl, hB⟩
    · have hkk : (2 : Int) = 1 ∨ (2 : Int) = 2 := Or.inr rfl
      have H : Hid (chk = 3) := t3 hkk F
      clear t3 t2 tr tw F hkk hX
      clear ck1 ck2 hR0 hW0
      go_enter Tryz.func88, Tryz.ntmps88
      go_wp2_with fail
      refine (cF _).mono ?_
      rintro e w0 ⟨rfl, hw1⟩
      subst hw1
      go_wp2
      go_ret
      exact ⟨by rw [H.out]; rfl, hB⟩
  | true =>
    simp only [n1] at cF
    rw [n1, Bool.true_and] at F
    by_cases hk1 : kind = 1
    · subst hk1
      have hkk : (1 : Int) = 1 ∨ (1 : Int) = 2 := Or.inl rfl
      rw [if_pos rfl] at F
      clear hk cK
      cases n2 : isNm to with
      | false =>
        simp only [n2] at cT
        replace F : fld = false := by rw [F, n2]; rfl
        have H : Hid (chk = 3) := t3 hkk F
        clear t3 t2 tr tw F hkk hX
        clear ck1 ck2 hR0 hW0
        go_enter Tryz.func88, Tryz.ntmps88
        go_wp2_with fail
        refine (cF _).mono ?_
        rintro e w0 ⟨rfl, hw1⟩
        subst hw1
        go_wp2_with fail
        refine (cT _).mono ?_
        rintro e w1 ⟨rfl, hw1⟩
        subst hw1
        go_wp2
        go_ret
        exact ⟨by rw [H.out]; rfl, hB⟩
      | true =>
        simp only [n2] at cT
        rw [n2, Bool.true_and] at F
        by_cases hkey : key.toList = []
        · have e1 : key.toList.isEmpty = true := by rw [hkey]; rfl
          rw [e1, Bool.true_and] at F
          by_cases hval : val.toList = []
          · have e2 : val.toList.isEmpty = true := by rw [hval]; rfl
            rw [e2] at F
            by_cases ha : 4611686018427387903 < amt
            · have H : Hid (chk = 2) := t2 hkk F (Or.inl ha)
              have ha' : (4611686018427387903 : Int) < amt := by omega
              clear t3 t2 tr tw F hkk hX
              clear ck1 ck2 hR0 hW0 ha
              go_enter Tryz.func88, Tryz.ntmps88
              go_wp2_with fail
              refine (cF _).mono ?_
              rintro e w0 ⟨rfl, hw1⟩
              subst hw1
              go_wp2_with fail
              refine (cT _).mono ?_
              rintro e w1 ⟨rfl, hw1⟩
              subst hw1
              go_wp2
              go_ret
              exact ⟨by rw [H.out]; rfl, hB⟩
            have ha' : (amt : Int) ≤ 4611686018427387903 := by omega
            by_cases hn : 4611686018427387903 < non
            · have H : Hid (chk = 2) := t2 hkk F (Or.inr hn)
              have hn' : (4611686018427387903 : Int) < non := by omega
              clear t3 t2 tr tw F hkk hX
              clear ck1 ck2 hR0 hW0 hn ha
              go_enter Tryz.func88, Tryz.ntmps88
              go_wp2_with fail
              refine (cF _).mono ?_
              rintro e w0 ⟨rfl, hw1⟩
              subst hw1
              go_wp2_with fail
              refine (cT _).mono ?_
              rintro e w1 ⟨rfl, hw1⟩
              subst hw1
              go_wp2
              go_ret
              exact ⟨by rw [H.out]; rfl, hB⟩
            have hn' : (non : Int) ≤ 4611686018427387903 := by omega
            by_cases hz : keysL rs = 0
            · have H : Hid (chk = keysL ws) := tw hkk F (by omega) (by omega) hz
              simp only [hz] at ck1
              generalize keysL ws = n2 at ck2 H
              clear t3 t2 tr tw F hkk hz hn ha
              go_enter Tryz.func88, Tryz.ntmps88
              go_wp2_with fail
              refine (cF _).mono ?_
              rintro e w0 ⟨rfl, hw1⟩
              subst hw1
              go_wp2_with fail
              refine (cT _).mono ?_
              rintro e w1 ⟨rfl, hw1⟩
              subst hw1
              go_wp2_with fail
              refine (ck1 _ hR0).mono ?_
              rintro e w5 ⟨rfl, hb5⟩
              have hB5 := hB.trans (hb5.mono hB.size)
              have x8 := (hX.below hb5 hX.lt).cell (i := 8) rfl
              have hW5 := hW0.below hb5
              clear hb5 hX hW0 hR0 ck1
              go_wp2_with fail
              refine (ck2 _ hW5).mono ?_
              rintro e w6 ⟨rfl, hb6⟩
              have hB6 := hB5.trans (hb6.mono hB5.size)
              clear hb6 hB5 hW5 ck2
              go_wp2
              go_ret
              exact ⟨by rw [H.out]; rfl, hB6⟩
            · have H : Hid (chk = keysL rs) := tr hkk F (by omega) (by omega) hz
              have hz' : ((keysL rs : Int) == 0) = false := beq_eq_false_iff_ne.2 (by omega)
              generalize keysL rs = n2 at ck1 H hz'
              clear t3 t2 tr tw F hkk hz hn ha ck2
              go_enter Tryz.func88, Tryz.ntmps88
              go_wp2_with fail
              refine (cF _).mono ?_
              rintro e w0 ⟨rfl, hw1⟩
              subst hw1
              go_wp2_with fail
              refine (cT _).mono ?_
              rintro e w1 ⟨rfl, hw1⟩
              subst hw1
              go_wp2_with fail
              refine (ck1 _ hR0).mono ?_
              rintro e w5 ⟨rfl, hb5⟩
              have hB5 := hB.trans (hb5.mono hB.size)
              clear hb5 hX hW0 hR0 ck1
              go_wp2
              go_ret
              exact ⟨by rw [H.out]; rfl, hB5⟩
          · have e2 : val.toList.isEmpty = false := by simpa using hval
            rw [e2] at F
            have H : Hid (chk = 3) := t3 hkk F
            clear t3 t2 tr tw F hkk hX
            clear ck1 ck2 hR0 hW0
            go_enter Tryz.func88, Tryz.ntmps88
            go_wp2_with fail
            refine (cF _).mono ?_
            rintro e w0 ⟨rfl, hw1⟩
            subst hw1
            go_wp2_with fail
            refine (cT _).mono ?_
            rintro e w1 ⟨rfl, hw1⟩
            subst hw1
            go_wp2
            go_ret
            exact ⟨by rw [H.out]; rfl, hB⟩
        · have e1 : key.toList.isEmpty = false := by simpa using hkey
          replace F : fld = false := by rw [F, e1]; rfl
          have H : Hid (chk = 3) := t3 hkk F
          clear t3 t2 tr tw F hkk hX
          clear ck1 ck2 hR0 hW0
          go_enter Tryz.func88, Tryz.ntmps88
          go_wp2_with fail
          refine (cF _).mono ?_
          rintro e w0 ⟨rfl, hw1⟩
          subst hw1
          go_wp2_with fail
          refine (cT _).mono ?_
          rintro e w1 ⟨rfl, hw1⟩
          subst hw1
          go_wp2
          go_ret
          exact ⟨by rw [H.out]; rfl, hB⟩
    · have hk2 : kind = 2 := by omega
      subst hk2
      have hkk : (2 : Int) = 1 ∨ (2 : Int) = 2 := Or.inr rfl
      rw [if_neg (by decide)] at F
      clear hk hk1 cT
      cases n2 : isNm key with
      | false =>
        simp only [n2] at cK
        replace F : fld = false := by rw [F, n2]; rfl
        have H : Hid (chk = 3) := t3 hkk F
        clear t3 t2 tr tw F hkk hX
        clear ck1 ck2 hR0 hW0
        go_enter Tryz.func88, Tryz.ntmps88
        go_wp2_with fail
        refine (cF _).mono ?_
        rintro e w0 ⟨rfl, hw1⟩
        subst hw1
        go_wp2_with fail
        refine (cK _).mono ?_
        rintro e w1 ⟨rfl, hw1⟩
        subst hw1
        go_wp2
        go_ret
        exact ⟨by rw [H.out]; rfl, hB⟩
      | true =>
        simp only [n2] at cK
        rw [n2, Bool.true_and] at F
        by_cases hv : val.size ≤ 64
        · have hv' : (val.size : Int) ≤ 64 := by omega
          have dv : decide ((64 : Int) < val.size) = false := decide_eq_false (by omega)
          rw [decide_eq_true hv, Bool.true_and] at F
          by_cases ht : to.toList = []
          · have e1 : to.toList.isEmpty = true := by rw [ht]; rfl
            rw [e1, Bool.true_and] at F
            by_cases ham : amt = 0
            · subst ham
              replace F : fld = true := by rw [F]; rfl
              have ha : ¬ (4611686018427387903 < 0) := by omega
              by_cases hn : 4611686018427387903 < non
              · have H : Hid (chk = 2) := t2 hkk F (Or.inr hn)
                have hn' : (4611686018427387903 : Int) < non := by omega
                clear t3 t2 tr tw F hkk hX
                clear ck1 ck2 hR0 hW0 hn ha
                go_enter Tryz.func88, Tryz.ntmps88
                go_wp2_with fail
                refine (cF _).mono ?_
                rintro e w0 ⟨rfl, hw1⟩
                subst hw1
                go_wp2_with fail
                refine (cK _).mono ?_
                rintro e w1 ⟨rfl, hw1⟩
                subst hw1
                go_wp2
                go_ret
                exact ⟨by rw [H.out]; rfl, hB⟩
              have hn' : (non : Int) ≤ 4611686018427387903 := by omega
              by_cases hz : keysL rs = 0
              · have H : Hid (chk = keysL ws) := tw hkk F (by omega) (by omega) hz
                simp only [hz] at ck1
                generalize keysL ws = n2 at ck2 H
                clear t3 t2 tr tw F hkk hz hn ha
                go_enter Tryz.func88, Tryz.ntmps88
                go_wp2_with fail
                refine (cF _).mono ?_
                rintro e w0 ⟨rfl, hw1⟩
                subst hw1
                go_wp2_with fail
                refine (cK _).mono ?_
                rintro e w1 ⟨rfl, hw1⟩
                subst hw1
                go_wp2_with fail
                refine (ck1 _ hR0).mono ?_
                rintro e w5 ⟨rfl, hb5⟩
                have hB5 := hB.trans (hb5.mono hB.size)
                have x8 := (hX.below hb5 hX.lt).cell (i := 8) rfl
                have hW5 := hW0.below hb5
                clear hb5 hX hW0 hR0 ck1
                go_wp2_with fail
                refine (ck2 _ hW5).mono ?_
                rintro e w6 ⟨rfl, hb6⟩
                have hB6 := hB5.trans (hb6.mono hB5.size)
                clear hb6 hB5 hW5 ck2
                go_wp2
                go_ret
                exact ⟨by rw [H.out]; rfl, hB6⟩
              · have H : Hid (chk = keysL rs) := tr hkk F (by omega) (by omega) hz
                have hz' : ((keysL rs : Int) == 0) = false := beq_eq_false_iff_ne.2 (by omega)
                generalize keysL rs = n2 at ck1 H hz'
                clear t3 t2 tr tw F hkk hz hn ha ck2
                go_enter Tryz.func88, Tryz.ntmps88
                go_wp2_with fail
                refine (cF _).mono ?_
                rintro e w0 ⟨rfl, hw1⟩
                subst hw1
                go_wp2_with fail
                refine (cK _).mono ?_
                rintro e w1 ⟨rfl, hw1⟩
                subst hw1
                go_wp2_with fail
                refine (ck1 _ hR0).mono ?_
                rintro e w5 ⟨rfl, hb5⟩
                have hB5 := hB.trans (hb5.mono hB.size)
                clear hb5 hX hW0 hR0 ck1
                go_wp2
                go_ret
                exact ⟨by rw [H.out]; rfl, hB5⟩
            · have ha' : ((amt : Int) != 0) = true := by rw [bne_iff_ne]; omega
              rw [decide_eq_false ham] at F
              have H : Hid (chk = 3) := t3 hkk F
              clear t3 t2 tr tw F hkk hX
              clear ck1 ck2 hR0 hW0
              go_enter Tryz.func88, Tryz.ntmps88
              go_wp2_with fail
              refine (cF _).mono ?_
              rintro e w0 ⟨rfl, hw1⟩
              subst hw1
              go_wp2_with fail
              refine (cK _).mono ?_
              rintro e w1 ⟨rfl, hw1⟩
              subst hw1
              go_wp2
              go_ret
              exact ⟨by rw [H.out]; rfl, hB⟩
          · have e1 : to.toList.isEmpty = false := by simpa using ht
            replace F : fld = false := by rw [F, e1]; rfl
            have H : Hid (chk = 3) := t3 hkk F
            clear t3 t2 tr tw F hkk hX
            clear ck1 ck2 hR0 hW0
            go_enter Tryz.func88, Tryz.ntmps88
            go_wp2_with fail
            refine (cF _).mono ?_
            rintro e w0 ⟨rfl, hw1⟩
            subst hw1
            go_wp2_with fail
            refine (cK _).mono ?_
            rintro e w1 ⟨rfl, hw1⟩
            subst hw1
            go_wp2
            go_ret
            exact ⟨by rw [H.out]; rfl, hB⟩
        · have hv' : (64 : Int) < val.size := by omega
          replace F : fld = false := by rw [F, decide_eq_false hv]; rfl
          have H : Hid (chk = 3) := t3 hkk F
          clear t3 t2 tr tw F hkk hX
          clear ck1 ck2 hR0 hW0
          go_enter Tryz.func88, Tryz.ntmps88
          go_wp2_with fail
          refine (cF _).mono ?_
          rintro e w0 ⟨rfl, hw1⟩
          subst hw1
          go_wp2_with fail
          refine (cK _).mono ?_
          rintro e w1 ⟨rfl, hw1⟩
          subst hw1
          go_wp2
          go_ret
          exact ⟨by rw [H.out]; rfl, hB⟩
end Go.Proofs.YtmngiekobmhpaaaGreat

/- What tuskref05.Check does; nothing old in memory is turned. -/
namespace Go.Proofs.YtmngiekobmhpaaaGreat
open Go.RowKit
set_option linter.unusedVariables false

set_option maxRecDepth 100000 in
set_option maxHeartbeats 1000000 in
theorem refBatCheck_any (a n : Int) (ao : Option Addr) (l : List TxM) (cap : Nat) (w : World) (hA : TxsAt w ao l) (hS : ∀ x ∈ l, TxSizes x.d) :
    Calls Tryz.prog 44 #[batV a n ao l.length cap] w fun e w' => e = .returned (.int .i64 (checkB ⟨a, n, dl l⟩ : Int)) ∧ Below w.heap.size w w' := by
  have hX : Arr _ _ _ (batC a n ao l.length cap) := Arr.new w 26 (batC a n ao l.length cap)
  have hB := belowNew w (.cells (batC a n ao l.length cap).toArray 26)
  have x0 := hX.cell (i := 0) rfl
  have x1 := hX.cell (i := 1) rfl
  have x2 := hX.cell (i := 2) rfl
  have hdl := dl_length l
  have bad : ∀ {P : Prop}, (a < 0 ∨ 6 < a ∨ n < 1 ∨ 4611686018427387903 < n) → Hid (checkB ⟨a, n, dl l⟩ = 2) := fun h => (if_pos h : _ = _)
  unfold batV
  by_cases h0 : a < 0
  · have H := bad (P := True) (by omega)
    go_enter Tryz.func44, Tryz.ntmps44
    go_wp2
    go_ret
    exact ⟨by rw [H.out]; rfl, hB⟩
  have d0 : decide (a < 0) = false := decide_eq_false h0
  by_cases h00 : 6 < a
  · have H := bad (P := True) (by omega)
    go_enter Tryz.func44, Tryz.ntmps44
    go_wp2
    go_ret
    exact ⟨by rw [H.out]; rfl, hB⟩
  have d00 : decide (6 < a) = false := decide_eq_false h00
  by_cases h1 : n < 1
  · have H := bad (P := True) (by omega)
    go_enter Tryz.func44, Tryz.ntmps44
    go_wp2
    go_ret
    exact ⟨by rw [H.out]; rfl, hB⟩
  have d1 : decide (n < 1) = false := decide_eq_false h1
  by_cases h2 : 4611686018427387903 < n
  · have H := bad (P := True) (by omega)
    go_enter Tryz.func44, Tryz.ntmps44
    go_wp2
    go_ret
    exact ⟨by rw [H.out]; rfl, hB⟩
  have d2 : decide (4611686018427387903 < n) = false := decide_eq_false h2
  have H0 : checkB ⟨a, n, dl l⟩ = _ := if_neg (show ¬ (a < 0 ∨ 6 < a ∨ n < 1 ∨ 4611686018427387903 < n) by omega)
  clear bad
  by_cases h3 : l.length = 0
  · have H : Hid (checkB ⟨a, n, dl l⟩ = 12) := (H0.trans (if_pos (by show (dl l).length = 0; omega)) : _ = _)
    have hn : l = [] := List.eq_nil_of_length_eq_zero h3
    clear H0
    subst hn
    go_enter Tryz.func44, Tryz.ntmps44
    go_wp2
    go_ret
    exact ⟨by rw [H.out]; rfl, hB⟩
  have e3 : ((l.length : Int) == 0) = false := beq_eq_false_iff_ne.2 (by omega)
  replace H0 := H0.trans (if_neg (by show ¬ (dl l).length = 0; omega))
  by_cases h4 : 16 < l.length
  · have H : Hid (checkB ⟨a, n, dl l⟩ = 8) := (H0.trans (if_pos (by show 16 < (dl l).length; omega)) : _ = _)
    have e4 : (16 : Int) < l.length := by omega
    clear H0
    go_enter Tryz.func44, Tryz.ntmps44
    go_wp2
    go_ret
    exact ⟨by rw [H.out]; rfl, hB⟩
  have e4 : decide ((16 : Int) < l.length) = false := decide_eq_false (by omega)
  have H : Hid (checkB ⟨a, n, dl l⟩ = firstE (dl l)) := (H0.trans (if_neg (by show ¬ 16 < (dl l).length; omega)) : _ = _)
  have e5 : l.length ≤ 16 := by omega
  clear H0 h3 h4 h0 h1 h2 h00
  go_enter Tryz.func44, Tryz.ntmps44
  go_wp2
  go_loopw [3, 4] (fun v3 v4 wr => ∃ k : Nat, k ≤ l.length ∧ v3 = .int .i64 (k : Int) ∧ Hid (checkB ⟨a, n, dl l⟩ = firstE (dl (l.drop k))) ∧ Arr wr w.heap.size 26 (batC a n ao l.length cap) ∧ Below w.heap.size w wr) (fun v _ _ => l.length - (intOf v).toNat)
  case atStart => exact ⟨0, Nat.zero_le _, rfl, H, hX, hB⟩
  case round =>
    obtain ⟨k, hk, rfl, hK, hX1, hb⟩ := hrel
    clear H hB hX x0 x1 x2
    have x2 := hX1.cell (i := 2) rfl
    by_cases hlt : k < l.length
    · obtain ⟨x, hx⟩ : ∃ x, l[k]? = some x := ⟨l[k], List.getElem?_eq_getElem hlt⟩
      obtain ⟨b, off, rfl, hbl, y0, y1, y2, y3, y4, y5, y6, y7, y8⟩ := (hA.below hb).cells hx
      have hAt := (hA k x hx).2.below hb
      have hstep := hK.out.trans (firstE_drop l k x hx)
      have cC := fun w1 (h : TxAt w1 x.d x.ra x.wa) => refCheck_any x.d x.ra x.rc x.wa x.wc w1 h (hS x (List.mem_of_getElem? hx))
      clear hK hx
      go_wp2_with fail
      refine (cC _ hAt.at_).mono ?_
      rintro e w2 ⟨rfl, hb3⟩
      have hX2 := hX1.below hb3 hX1.lt
      have hb4 := hb.trans (hb3.mono hb.size)
      clear hb3 hX1 hAt cC y0 y1 y2 y3 y4 y5 y6 y7 y8 x2
      by_cases hc : checkL x.d ≠ 0
      · have H : Hid (checkB ⟨a, n, dl l⟩ = checkL x.d) := (hstep.trans (if_pos hc) : _ = _)
        have hc2 : ((checkL x.d : Int) != 0) = true := by rw [bne_iff_ne]; omega
        clear hstep
        go_wp2
        go_ret
        exact ⟨by rw [H.out]; rfl, hb4⟩
      · have H : Hid (checkB ⟨a, n, dl l⟩ = firstE (dl (l.drop (k + 1)))) := (hstep.trans (if_neg hc) : _ = _)
        have hc2 : checkL x.d = 0 := by omega
        clear hstep hc
        go_wp2
        go_roundw
        case rel => exact ⟨k + 1, by omega, by go_num, H, hX2, hb4⟩
        case measure => simp [intOf]; omega
    · have H : Hid (checkB ⟨a, n, dl l⟩ = 0) := by show _ = _; rw [hK.out, List.drop_of_length_le (by omega)]; rfl
      clear hK
      go_wp2
      go_ret
      exact ⟨by rw [H.out]; rfl, hb⟩
end Go.Proofs.YtmngiekobmhpaaaGreat

/- What tuskref01.Int does: the same bytes of a number; nothing old in memory is turned. -/
namespace Go.Proofs.YtmngiekobmhpaaaGreat
open Go.RowKit
end Go.Proofs.YtmngiekobmhpaaaGreat
