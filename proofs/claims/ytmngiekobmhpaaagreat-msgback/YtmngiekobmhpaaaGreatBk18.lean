/- Texts as one: MsgField, MsgFew, MsgDecode, BlkGreat, MsgGreat, HdrOpenH. -/
import Derived.Test.YtmngiekobmhpaaaGreatBk17
import Derived.Test.YtmngiekobmhpaaaGreatBk15
import Derived.Test.YtmngiekobmhpaaaGreatBk09
import Derived.Test.YtmngiekobmhpaaaGreatBk11
import Derived.Deep.MidRow
import Derived.Test.YtmngiekobmhpaaaGreatBk07
import Derived.Test.YtmngiekobmhpaaaGreatBk08
import Derived.Test.YtmngiekobmhpaaaGreatBk16
/- How package msg's reader takes a field of a letter and puts it into the message. -/
namespace Go.Proofs.YtmngiekobmhpaaaGreat
open Go.RowKit
set_option linter.unusedVariables false

/-- What field does. -/
def GotField (rb N : Nat) (c : UInt8) (rest : ByteArray) (m : MsgM) (W : World) (e : Ending) (w : World) : Prop :=
  ∃ (er : Nat) (rest' : ByteArray) (m' : MsgM), e = .returned (.int .i64 (er : Int)) ∧ Arr w rb 58 (.string rest' :: m'.c) ∧ m'.At w ∧ (∀ b, m'.foot b → N ≤ b) ∧ rest'.size ≤ maxLen ∧ Kept (fun k => k = rb) W w ∧
    ((er = 0 ∧ stepF c m.d rest.data.toList = .ok (m'.d, rest'.data.toList)) ∨ (er ≠ 0 ∧ stepF c m.d rest.data.toList = .error er))

theorem step_v {p : MsgD} {l : List UInt8} {v k er : Nat} (h : getInt l = (v, k, er)) : stepF 118 p l = if er ≠ 0 then .error er else .ok ({ p with view := (v : Int) }, l.drop k) := by
  unfold stepF rdF
  simp only [if_true]
  unfold rdI
  rw [h]

theorem step_d {p : MsgD} {l t : List UInt8} {k er : Nat} (h : getText l = (t, k, er)) : stepF 100 p l = if er ≠ 0 then .error er else .ok ({ p with digest := ⟨t.toArray⟩ }, l.drop k) := by
  unfold stepF rdF
  simp only [if_neg (by decide : ¬ (100 : UInt8) = 118), if_neg (by decide : ¬ (100 : UInt8) = 116), if_true]
  unfold rdT
  rw [h]

theorem step_t_ok {p : MsgD} {l : List UInt8} {t : TagD} {k : Nat} (h : getTagsL l = ([t], k, 0)) : stepF 116 p l = .ok ({ p with tag := t }, l.drop k) := by
  unfold stepF rdF
  simp only [if_neg (by decide : ¬ (116 : UInt8) = 118), if_true]
  unfold rdG
  rw [h]
  rfl

theorem step_t_err {p : MsgD} {l : List UInt8} {ts : List TagD} {k er : Nat} (h : getTagsL l = (ts, k, er)) (he : er ≠ 0) : stepF 116 p l = .error er := by
  unfold stepF rdF
  simp only [if_neg (by decide : ¬ (116 : UInt8) = 118), if_true]
  unfold rdG
  rw [h]
  exact if_pos he

theorem step_t_few {p : MsgD} {l : List UInt8} {ts : List TagD} {k : Nat} (h : getTagsL l = (ts, k, 0)) (hl : ts.length ≠ 1) : stepF 116 p l = .error 12 := by
  unfold stepF rdF
  simp only [if_neg (by decide : ¬ (116 : UInt8) = 118), if_true]
  unfold rdG
  rw [h, if_neg (by simp)]
  rcases ts with _ | ⟨t, _ | ⟨t2, r⟩⟩
  · rfl
  · exact absurd rfl hl
  · rfl

theorem step_b {p : MsgD} {l t : List UInt8} {k er : Nat} (h : getText l = (t, k, er)) : stepF 98 p l = match (if er ≠ 0 then .error er else decBat t : Except Nat BatD) with
    | .error e => .error e
    | .ok b => .ok ({ p with batch := b }, l.drop k) := by
  unfold stepF rdF
  simp only [if_neg (by decide : ¬ (98 : UInt8) = 118), if_neg (by decide : ¬ (98 : UInt8) = 116), if_neg (by decide : ¬ (98 : UInt8) = 100), if_true]
  unfold rdT
  rw [h]
  by_cases he : er ≠ 0
  · rw [if_pos he, if_pos he]
  · rw [if_neg he, if_neg he]
    rfl

theorem step_h {p : MsgD} {l t : List UInt8} {k er : Nat} (h : getText l = (t, k, er)) : stepF 104 p l = match (if er ≠ 0 then .error er else decH t : Except Nat HdrD) with
    | .error e => .error e
    | .ok b => .ok ({ p with header := b }, l.drop k) := by
  unfold stepF rdF
  simp only [if_neg (by decide : ¬ (104 : UInt8) = 118), if_neg (by decide : ¬ (104 : UInt8) = 116), if_neg (by decide : ¬ (104 : UInt8) = 100), if_neg (by decide : ¬ (104 : UInt8) = 98), if_true]
  unfold rdT
  rw [h]
  by_cases he : er ≠ 0
  · rw [if_pos he, if_pos he]
  · rw [if_neg he, if_neg he]
    rfl

theorem step_c {p : MsgD} {l t : List UInt8} {k er : Nat} (h : getText l = (t, k, er)) : stepF 99 p l = match (if er ≠ 0 then .error er else decC t : Except Nat CertD) with
    | .error e => .error e
    | .ok b => .ok ({ p with cert := b }, l.drop k) := by
  unfold stepF rdF
  simp only [if_neg (by decide : ¬ (99 : UInt8) = 118), if_neg (by decide : ¬ (99 : UInt8) = 116), if_neg (by decide : ¬ (99 : UInt8) = 100), if_neg (by decide : ¬ (99 : UInt8) = 98), if_neg (by decide : ¬ (99 : UInt8) = 104), if_true]
  unfold rdT
  rw [h]
  by_cases he : er ≠ 0
  · rw [if_pos he, if_pos he]
  · rw [if_neg he, if_neg he]
    rfl

theorem step_k {p : MsgD} {l t : List UInt8} {k er : Nat} (h : getText l = (t, k, er)) : stepF 107 p l = match (if er ≠ 0 then .error er else decK t : Except Nat BlkD) with
    | .error e => .error e
    | .ok b => .ok ({ p with block := b }, l.drop k) := by
  unfold stepF rdF
  simp only [if_neg (by decide : ¬ (107 : UInt8) = 118), if_neg (by decide : ¬ (107 : UInt8) = 116), if_neg (by decide : ¬ (107 : UInt8) = 100), if_neg (by decide : ¬ (107 : UInt8) = 98), if_neg (by decide : ¬ (107 : UInt8) = 104), if_neg (by decide : ¬ (107 : UInt8) = 99), if_true]
  unfold rdT
  rw [h]
  by_cases he : er ≠ 0
  · rw [if_pos he, if_pos he]
  · rw [if_neg he, if_neg he]
    rfl

theorem step_q {p : MsgD} {l t : List UInt8} {k er : Nat} (h : getText l = (t, k, er)) : stepF 113 p l = match (if er ≠ 0 then .error er else decQ t : Except Nat QcD) with
    | .error e => .error e
    | .ok b => .ok ({ p with qc := b }, l.drop k) := by
  unfold stepF rdF
  simp only [if_neg (by decide : ¬ (113 : UInt8) = 118), if_neg (by decide : ¬ (113 : UInt8) = 116), if_neg (by decide : ¬ (113 : UInt8) = 100), if_neg (by decide : ¬ (113 : UInt8) = 98), if_neg (by decide : ¬ (113 : UInt8) = 104), if_neg (by decide : ¬ (113 : UInt8) = 99), if_neg (by decide : ¬ (113 : UInt8) = 107)]
  unfold rdT
  rw [h]
  by_cases he : er ≠ 0
  · rw [if_pos he, if_pos he]
  · rw [if_neg he, if_neg he]
    rfl

set_option maxRecDepth 100000 in
set_option maxHeartbeats 4000000 in
theorem field_d (rb N : Nat) (hN1 : rb < N) (rest : ByteArray) (k : Int) (dg : ByteArray) (vi : Int) (tg : TagD) (ba : BatM) (he : HdrM) (ce : CertM) (bl : BlkM) (q : QcM) (w : World) (hN2 : N ≤ w.heap.size) (hR : Arr w rb 58 [.string rest, .int .i64 k, .string dg, .int .i64 vi, .int .i64 tg.who, .string tg.mac, .int .i64 ba.author, .int .i64 ba.number, .slice ba.ta ba.txs.length ba.tc, .int .i64 he.author, .int .i64 he.round, .slice he.ra he.refs.length he.rc, .slice he.pa he.parents.length he.pc, .int .i64 ce.hdr.author, .int .i64 ce.hdr.round, .slice ce.hdr.ra ce.hdr.refs.length ce.hdr.rc, .slice ce.hdr.pa ce.hdr.parents.length ce.hdr.pc, .slice ce.va ce.votes.length ce.vc, .int .i64 bl.view, .int .i64 bl.qc.view, .string bl.qc.block, .slice bl.qc.va bl.qc.votes.length bl.qc.vc, .slice bl.ca bl.certs.length bl.cc, .int .i64 q.view, .string q.block, .slice q.va q.votes.length q.vc]) (hM : MsgM.At w ⟨k, dg, vi, tg, ba, he, ce, bl, q⟩) (hf : ∀ b, MsgM.foot ⟨k, dg, vi, tg, ba, he, ce, bl, q⟩ b → N ≤ b) (hs : rest.size ≤ maxLen) :
    Calls Tryz.prog 18 #[.pointer (some ⟨rb, 0, none⟩), .int .i32 100] w fun e w' => GotField rb N 100 rest ⟨k, dg, vi, tg, ba, he, ce, bl, q⟩ w e w' := by
  rcases hr : getText rest.data.toList with ⟨t, n, er⟩
  have cT := rtext_any rb rest [.int .i64 k, .string dg, .int .i64 vi, .int .i64 tg.who, .string tg.mac, .int .i64 ba.author, .int .i64 ba.number, .slice ba.ta ba.txs.length ba.tc, .int .i64 he.author, .int .i64 he.round, .slice he.ra he.refs.length he.rc, .slice he.pa he.parents.length he.pc, .int .i64 ce.hdr.author, .int .i64 ce.hdr.round, .slice ce.hdr.ra ce.hdr.refs.length ce.hdr.rc, .slice ce.hdr.pa ce.hdr.parents.length ce.hdr.pc, .slice ce.va ce.votes.length ce.vc, .int .i64 bl.view, .int .i64 bl.qc.view, .string bl.qc.block, .slice bl.qc.va bl.qc.votes.length bl.qc.vc, .slice bl.ca bl.certs.length bl.cc, .int .i64 q.view, .string q.block, .slice q.va q.votes.length q.vc] w hR hs t n er hr
  have hst := step_d (p := MsgM.d ⟨k, dg, vi, tg, ba, he, ce, bl, q⟩) hr
  obtain ⟨r1, hr1⟩ : ∃ o, o = rest.extract n rest.size := ⟨_, rfl⟩
  have hdr : r1.data.toList = rest.data.toList.drop n := by rw [hr1]; exact extract_drop _ _
  have hrs : r1.size ≤ maxLen := by rw [hr1]; exact rest_le rest n hs
  rw [← hr1] at cT
  rw [← hdr] at hst
  have hR1 := hR.set 0 (.string r1)
  have k1 := (Kept.refl (fun k => k = rb) w).set (p := ⟨rb, 0, none⟩) rfl (.string r1)
  replace hR1 : Arr _ rb 58 [.string r1, .int .i64 k, .string dg, .int .i64 vi, .int .i64 tg.who, .string tg.mac, .int .i64 ba.author, .int .i64 ba.number, .slice ba.ta ba.txs.length ba.tc, .int .i64 he.author, .int .i64 he.round, .slice he.ra he.refs.length he.rc, .slice he.pa he.parents.length he.pc, .int .i64 ce.hdr.author, .int .i64 ce.hdr.round, .slice ce.hdr.ra ce.hdr.refs.length ce.hdr.rc, .slice ce.hdr.pa ce.hdr.parents.length ce.hdr.pc, .slice ce.va ce.votes.length ce.vc, .int .i64 bl.view, .int .i64 bl.qc.view, .string bl.qc.block, .slice bl.qc.va bl.qc.votes.length bl.qc.vc, .slice bl.ca bl.certs.length bl.cc, .int .i64 q.view, .string q.block, .slice q.va q.votes.length q.vc] := hR1
  clear hr1 hr hdr
  obtain ⟨tt, htt⟩ : ∃ o, o = (⟨t.toArray⟩ : ByteArray) := ⟨_, rfl⟩
  rw [← htt] at cT hst
  clear htt
  have y1 := hR1.cell (i := 2) rfl
  have f1 := hR1.frozen 2
  have hRF := (hR1.set 2 (.string tt))
  have kF := (k1.set (p := ⟨rb, 2, none⟩) rfl (.string tt))
  replace hRF : Arr _ rb 58 [.string r1, .int .i64 k, .string tt, .int .i64 vi, .int .i64 tg.who, .string tg.mac, .int .i64 ba.author, .int .i64 ba.number, .slice ba.ta ba.txs.length ba.tc, .int .i64 he.author, .int .i64 he.round, .slice he.ra he.refs.length he.rc, .slice he.pa he.parents.length he.pc, .int .i64 ce.hdr.author, .int .i64 ce.hdr.round, .slice ce.hdr.ra ce.hdr.refs.length ce.hdr.rc, .slice ce.hdr.pa ce.hdr.parents.length ce.hdr.pc, .slice ce.va ce.votes.length ce.vc, .int .i64 bl.view, .int .i64 bl.qc.view, .string bl.qc.block, .slice bl.qc.va bl.qc.votes.length bl.qc.vc, .slice bl.ca bl.certs.length bl.cc, .int .i64 q.view, .string q.block, .slice q.va q.votes.length q.vc] := hRF
  have hM1 := hM.keptM kF (fun b hb e => by have := hf b hb; omega)
  have hM2 := (⟨hM1.bat, hM1.hdr, hM1.cert, hM1.blk, hM1.qc⟩ : MsgM.At _ ⟨k, tt, vi, tg, ba, he, ce, bl, q⟩)
  have hfin : ∀ e, e = .returned (.int .i64 (er : Int)) → GotField rb N 100 rest ⟨k, dg, vi, tg, ba, he, ce, bl, q⟩ w e _ := fun e h => ⟨er, r1, ⟨k, tt, vi, tg, ba, he, ce, bl, q⟩, h, hRF, hM2, hf, hrs, kF, by
    by_cases he : er = 0
    · subst he
      exact Or.inl ⟨rfl, hst⟩
    · exact Or.inr ⟨he, by rw [hst, if_pos he]⟩⟩
  clear hRF kF hM2 hM1 hst hrs hM hf hs hR
  go_enter Tryz.func18, Tryz.ntmps18
  go_wp2_with fail
  refine cT.mono ?_
  rintro e w2 ⟨rfl, hw2⟩
  rw [← hw2] at hR1 y1 f1 hfin
  clear hw2 cT k1
  go_wp2
  go_ret
  exact hfin _ rfl

set_option maxRecDepth 100000 in
set_option maxHeartbeats 4000000 in
theorem field_v (rb N : Nat) (hN1 : rb < N) (rest : ByteArray) (k : Int) (dg : ByteArray) (vi : Int) (tg : TagD) (ba : BatM) (he : HdrM) (ce : CertM) (bl : BlkM) (q : QcM) (w : World) (hN2 : N ≤ w.heap.size) (hR : Arr w rb 58 [.string rest, .int .i64 k, .string dg, .int .i64 vi, .int .i64 tg.who, .string tg.mac, .int .i64 ba.author, .int .i64 ba.number, .slice ba.ta ba.txs.length ba.tc, .int .i64 he.author, .int .i64 he.round, .slice he.ra he.refs.length he.rc, .slice he.pa he.parents.length he.pc, .int .i64 ce.hdr.author, .int .i64 ce.hdr.round, .slice ce.hdr.ra ce.hdr.refs.length ce.hdr.rc, .slice ce.hdr.pa ce.hdr.parents.length ce.hdr.pc, .slice ce.va ce.votes.length ce.vc, .int .i64 bl.view, .int .i64 bl.qc.view, .string bl.qc.block, .slice bl.qc.va bl.qc.votes.length bl.qc.vc, .slice bl.ca bl.certs.length bl.cc, .int .i64 q.view, .string q.block, .slice q.va q.votes.length q.vc]) (hM : MsgM.At w ⟨k, dg, vi, tg, ba, he, ce, bl, q⟩) (hf : ∀ b, MsgM.foot ⟨k, dg, vi, tg, ba, he, ce, bl, q⟩ b → N ≤ b) (hs : rest.size ≤ maxLen) :
    Calls Tryz.prog 18 #[.pointer (some ⟨rb, 0, none⟩), .int .i32 118] w fun e w' => GotField rb N 118 rest ⟨k, dg, vi, tg, ba, he, ce, bl, q⟩ w e w' := by
  rcases hr : getInt rest.data.toList with ⟨v, n, er⟩
  have cT := rnumber_any rb rest [.int .i64 k, .string dg, .int .i64 vi, .int .i64 tg.who, .string tg.mac, .int .i64 ba.author, .int .i64 ba.number, .slice ba.ta ba.txs.length ba.tc, .int .i64 he.author, .int .i64 he.round, .slice he.ra he.refs.length he.rc, .slice he.pa he.parents.length he.pc, .int .i64 ce.hdr.author, .int .i64 ce.hdr.round, .slice ce.hdr.ra ce.hdr.refs.length ce.hdr.rc, .slice ce.hdr.pa ce.hdr.parents.length ce.hdr.pc, .slice ce.va ce.votes.length ce.vc, .int .i64 bl.view, .int .i64 bl.qc.view, .string bl.qc.block, .slice bl.qc.va bl.qc.votes.length bl.qc.vc, .slice bl.ca bl.certs.length bl.cc, .int .i64 q.view, .string q.block, .slice q.va q.votes.length q.vc] w hR hs v n er hr
  have hst := step_v (p := MsgM.d ⟨k, dg, vi, tg, ba, he, ce, bl, q⟩) hr
  obtain ⟨r1, hr1⟩ : ∃ o, o = rest.extract n rest.size := ⟨_, rfl⟩
  have hdr : r1.data.toList = rest.data.toList.drop n := by rw [hr1]; exact extract_drop _ _
  have hrs : r1.size ≤ maxLen := by rw [hr1]; exact rest_le rest n hs
  rw [← hr1] at cT
  rw [← hdr] at hst
  have hR1 := hR.set 0 (.string r1)
  have k1 := (Kept.refl (fun k => k = rb) w).set (p := ⟨rb, 0, none⟩) rfl (.string r1)
  replace hR1 : Arr _ rb 58 [.string r1, .int .i64 k, .string dg, .int .i64 vi, .int .i64 tg.who, .string tg.mac, .int .i64 ba.author, .int .i64 ba.number, .slice ba.ta ba.txs.length ba.tc, .int .i64 he.author, .int .i64 he.round, .slice he.ra he.refs.length he.rc, .slice he.pa he.parents.length he.pc, .int .i64 ce.hdr.author, .int .i64 ce.hdr.round, .slice ce.hdr.ra ce.hdr.refs.length ce.hdr.rc, .slice ce.hdr.pa ce.hdr.parents.length ce.hdr.pc, .slice ce.va ce.votes.length ce.vc, .int .i64 bl.view, .int .i64 bl.qc.view, .string bl.qc.block, .slice bl.qc.va bl.qc.votes.length bl.qc.vc, .slice bl.ca bl.certs.length bl.cc, .int .i64 q.view, .string q.block, .slice q.va q.votes.length q.vc] := hR1
  clear hr1 hr hdr
  have y2 := hR1.cell (i := 3) rfl
  have f2 := hR1.frozen 3
  have hRF := (hR1.set 3 (.int .i64 (v : Int)))
  have kF := (k1.set (p := ⟨rb, 3, none⟩) rfl (.int .i64 (v : Int)))
  replace hRF : Arr _ rb 58 [.string r1, .int .i64 k, .string dg, .int .i64 (v : Int), .int .i64 tg.who, .string tg.mac, .int .i64 ba.author, .int .i64 ba.number, .slice ba.ta ba.txs.length ba.tc, .int .i64 he.author, .int .i64 he.round, .slice he.ra he.refs.length he.rc, .slice he.pa he.parents.length he.pc, .int .i64 ce.hdr.author, .int .i64 ce.hdr.round, .slice ce.hdr.ra ce.hdr.refs.length ce.hdr.rc, .slice ce.hdr.pa ce.hdr.parents.length ce.hdr.pc, .slice ce.va ce.votes.length ce.vc, .int .i64 bl.view, .int .i64 bl.qc.view, .string bl.qc.block, .slice bl.qc.va bl.qc.votes.length bl.qc.vc, .slice bl.ca bl.certs.length bl.cc, .int .i64 q.view, .string q.block, .slice q.va q.votes.length q.vc] := hRF
  have hM1 := hM.keptM kF (fun b hb e => by have := hf b hb; omega)
  have hM2 := (⟨hM1.bat, hM1.hdr, hM1.cert, hM1.blk, hM1.qc⟩ : MsgM.At _ ⟨k, dg, (v : Int), tg, ba, he, ce, bl, q⟩)
  have hfin : ∀ e, e = .returned (.int .i64 (er : Int)) → GotField rb N 118 rest ⟨k, dg, vi, tg, ba, he, ce, bl, q⟩ w e _ := fun e h => ⟨er, r1, ⟨k, dg, (v : Int), tg, ba, he, ce, bl, q⟩, h, hRF, hM2, hf, hrs, kF, by
    by_cases he : er = 0
    · subst he
      exact Or.inl ⟨rfl, hst⟩
    · exact Or.inr ⟨he, by rw [hst, if_pos he]⟩⟩
  clear hRF kF hM2 hM1 hst hrs hM hf hs hR
  go_enter Tryz.func18, Tryz.ntmps18
  go_wp2_with fail
  refine cT.mono ?_
  rintro e w2 ⟨rfl, hw2⟩
  rw [← hw2] at hR1 y2 f2 hfin
  clear hw2 cT k1
  go_wp2
  go_ret
  exact hfin _ rfl

set_option maxRecDepth 100000 in
set_option maxHeartbeats 4000000 in
theorem field_t (rb N : Nat) (hN1 : rb < N) (rest : ByteArray) (k : Int) (dg : ByteArray) (vi : Int) (tg : TagD) (ba : BatM) (he : HdrM) (ce : CertM) (bl : BlkM) (q : QcM) (w : World) (hN2 : N ≤ w.heap.size) (hR : Arr w rb 58 [.string rest, .int .i64 k, .string dg, .int .i64 vi, .int .i64 tg.who, .string tg.mac, .int .i64 ba.author, .int .i64 ba.number, .slice ba.ta ba.txs.length ba.tc, .int .i64 he.author, .int .i64 he.round, .slice he.ra he.refs.length he.rc, .slice he.pa he.parents.length he.pc, .int .i64 ce.hdr.author, .int .i64 ce.hdr.round, .slice ce.hdr.ra ce.hdr.refs.length ce.hdr.rc, .slice ce.hdr.pa ce.hdr.parents.length ce.hdr.pc, .slice ce.va ce.votes.length ce.vc, .int .i64 bl.view, .int .i64 bl.qc.view, .string bl.qc.block, .slice bl.qc.va bl.qc.votes.length bl.qc.vc, .slice bl.ca bl.certs.length bl.cc, .int .i64 q.view, .string q.block, .slice q.va q.votes.length q.vc]) (hM : MsgM.At w ⟨k, dg, vi, tg, ba, he, ce, bl, q⟩) (hf : ∀ b, MsgM.foot ⟨k, dg, vi, tg, ba, he, ce, bl, q⟩ b → N ≤ b) (hs : rest.size ≤ maxLen) :
    Calls Tryz.prog 18 #[.pointer (some ⟨rb, 0, none⟩), .int .i32 116] w fun e w' => GotField rb N 116 rest ⟨k, dg, vi, tg, ba, he, ce, bl, q⟩ w e w' := by
  have cT := rtag_any rb rest [.int .i64 k, .string dg, .int .i64 vi, .int .i64 tg.who, .string tg.mac, .int .i64 ba.author, .int .i64 ba.number, .slice ba.ta ba.txs.length ba.tc, .int .i64 he.author, .int .i64 he.round, .slice he.ra he.refs.length he.rc, .slice he.pa he.parents.length he.pc, .int .i64 ce.hdr.author, .int .i64 ce.hdr.round, .slice ce.hdr.ra ce.hdr.refs.length ce.hdr.rc, .slice ce.hdr.pa ce.hdr.parents.length ce.hdr.pc, .slice ce.va ce.votes.length ce.vc, .int .i64 bl.view, .int .i64 bl.qc.view, .string bl.qc.block, .slice bl.qc.va bl.qc.votes.length bl.qc.vc, .slice bl.ca bl.certs.length bl.cc, .int .i64 q.view, .string q.block, .slice q.va q.votes.length q.vc] w hR hs
  clear hR
  go_enter Tryz.func18, Tryz.ntmps18
  go_wp2_with fail
  refine cT.mono ?_
  rintro e w2 ⟨t, er, r1, rfl, hR1, hrs, k1, hres⟩
  clear cT
  have y3 := hR1.cell (i := 4) rfl
  have f3 := hR1.frozen 4
  have y4 := hR1.cell (i := 5) rfl
  have f4 := hR1.frozen 5
  have hRF := ((hR1.set 4 (.int .i64 t.who)).set 5 (.string t.mac))
  have kF := ((k1.set (p := ⟨rb, 4, none⟩) rfl (.int .i64 t.who)).set (p := ⟨rb, 5, none⟩) rfl (.string t.mac))
  replace hRF : Arr _ rb 58 [.string r1, .int .i64 k, .string dg, .int .i64 vi, .int .i64 t.who, .string t.mac, .int .i64 ba.author, .int .i64 ba.number, .slice ba.ta ba.txs.length ba.tc, .int .i64 he.author, .int .i64 he.round, .slice he.ra he.refs.length he.rc, .slice he.pa he.parents.length he.pc, .int .i64 ce.hdr.author, .int .i64 ce.hdr.round, .slice ce.hdr.ra ce.hdr.refs.length ce.hdr.rc, .slice ce.hdr.pa ce.hdr.parents.length ce.hdr.pc, .slice ce.va ce.votes.length ce.vc, .int .i64 bl.view, .int .i64 bl.qc.view, .string bl.qc.block, .slice bl.qc.va bl.qc.votes.length bl.qc.vc, .slice bl.ca bl.certs.length bl.cc, .int .i64 q.view, .string q.block, .slice q.va q.votes.length q.vc] := hRF
  have hM1 := hM.keptM kF (fun b hb e => by have := hf b hb; omega)
  have hM2 := (⟨hM1.bat, hM1.hdr, hM1.cert, hM1.blk, hM1.qc⟩ : MsgM.At _ ⟨k, dg, vi, t, ba, he, ce, bl, q⟩)
  have hfin : ∀ e, e = .returned (.int .i64 (er : Int)) → GotField rb N 116 rest ⟨k, dg, vi, tg, ba, he, ce, bl, q⟩ w e _ := fun e h => ⟨er, r1, ⟨k, dg, vi, t, ba, he, ce, bl, q⟩, h, hRF, hM2, hf, hrs, kF, by
    rcases hres with ⟨he, n, h1, h2⟩ | ⟨he, ⟨ts, n, h1⟩ | ⟨h0, ts, n, h1, h2⟩⟩
    · refine Or.inl ⟨he, ?_⟩
      rw [step_t_ok h1, h2]
      rfl
    · exact Or.inr ⟨he, step_t_err h1 he⟩
    · exact Or.inr ⟨he, by rw [h0]; exact step_t_few h1 h2⟩⟩
  clear hRF kF hM2 hM1 hres hrs hM hf hs k1
  go_wp2
  go_ret
  exact hfin _ rfl

set_option maxRecDepth 100000 in
set_option maxHeartbeats 4000000 in
theorem field_b (rb N : Nat) (hN1 : rb < N) (rest : ByteArray) (k : Int) (dg : ByteArray) (vi : Int) (tg : TagD) (ba : BatM) (he : HdrM) (ce : CertM) (bl : BlkM) (q : QcM) (w : World) (hN2 : N ≤ w.heap.size) (hR : Arr w rb 58 [.string rest, .int .i64 k, .string dg, .int .i64 vi, .int .i64 tg.who, .string tg.mac, .int .i64 ba.author, .int .i64 ba.number, .slice ba.ta ba.txs.length ba.tc, .int .i64 he.author, .int .i64 he.round, .slice he.ra he.refs.length he.rc, .slice he.pa he.parents.length he.pc, .int .i64 ce.hdr.author, .int .i64 ce.hdr.round, .slice ce.hdr.ra ce.hdr.refs.length ce.hdr.rc, .slice ce.hdr.pa ce.hdr.parents.length ce.hdr.pc, .slice ce.va ce.votes.length ce.vc, .int .i64 bl.view, .int .i64 bl.qc.view, .string bl.qc.block, .slice bl.qc.va bl.qc.votes.length bl.qc.vc, .slice bl.ca bl.certs.length bl.cc, .int .i64 q.view, .string q.block, .slice q.va q.votes.length q.vc]) (hM : MsgM.At w ⟨k, dg, vi, tg, ba, he, ce, bl, q⟩) (hf : ∀ b, MsgM.foot ⟨k, dg, vi, tg, ba, he, ce, bl, q⟩ b → N ≤ b) (hs : rest.size ≤ maxLen) :
    Calls Tryz.prog 18 #[.pointer (some ⟨rb, 0, none⟩), .int .i32 98] w fun e w' => GotField rb N 98 rest ⟨k, dg, vi, tg, ba, he, ce, bl, q⟩ w e w' := by
  rcases hr : getText rest.data.toList with ⟨t, n, er0⟩
  have cT := within_b rb rest [.int .i64 k, .string dg, .int .i64 vi, .int .i64 tg.who, .string tg.mac, .int .i64 ba.author, .int .i64 ba.number, .slice ba.ta ba.txs.length ba.tc, .int .i64 he.author, .int .i64 he.round, .slice he.ra he.refs.length he.rc, .slice he.pa he.parents.length he.pc, .int .i64 ce.hdr.author, .int .i64 ce.hdr.round, .slice ce.hdr.ra ce.hdr.refs.length ce.hdr.rc, .slice ce.hdr.pa ce.hdr.parents.length ce.hdr.pc, .slice ce.va ce.votes.length ce.vc, .int .i64 bl.view, .int .i64 bl.qc.view, .string bl.qc.block, .slice bl.qc.va bl.qc.votes.length bl.qc.vc, .slice bl.ca bl.certs.length bl.cc, .int .i64 q.view, .string q.block, .slice q.va q.votes.length q.vc] w hR hs t n er0 hr
  have hst := step_b (p := MsgM.d ⟨k, dg, vi, tg, ba, he, ce, bl, q⟩) hr
  obtain ⟨r1, hr1⟩ : ∃ o, o = rest.extract n rest.size := ⟨_, rfl⟩
  have hdr : r1.data.toList = rest.data.toList.drop n := by rw [hr1]; exact extract_drop _ _
  have hrs : r1.size ≤ maxLen := by rw [hr1]; exact rest_le rest n hs
  have hrl := hR.lt
  rw [← hr1] at cT
  rw [← hdr] at hst
  clear hr1 hr hdr hR
  generalize (if er0 ≠ 0 then .error er0 else decBat t : Except Nat BatD) = out at cT hst
  go_enter Tryz.func18, Tryz.ntmps18
  go_wp2_with fail
  refine cT.mono ?_
  rintro e w2 ⟨x, er, rfl, hx, hres, hfx, hR1, k1⟩
  unfold BatM.v
  clear cT
  have y5 := hR1.cell (i := 6) rfl
  have f5 := hR1.frozen 6
  have y6 := hR1.cell (i := 7) rfl
  have f6 := hR1.frozen 7
  have y7 := hR1.cell (i := 8) rfl
  have f7 := hR1.frozen 8
  have hRF := (((hR1.set 6 (.int .i64 x.author)).set 7 (.int .i64 x.number)).set 8 (.slice x.ta x.txs.length x.tc))
  have kF := (((k1.set (p := ⟨rb, 6, none⟩) rfl (.int .i64 x.author)).set (p := ⟨rb, 7, none⟩) rfl (.int .i64 x.number)).set (p := ⟨rb, 8, none⟩) rfl (.slice x.ta x.txs.length x.tc))
  replace hRF : Arr _ rb 58 [.string r1, .int .i64 k, .string dg, .int .i64 vi, .int .i64 tg.who, .string tg.mac, .int .i64 x.author, .int .i64 x.number, .slice x.ta x.txs.length x.tc, .int .i64 he.author, .int .i64 he.round, .slice he.ra he.refs.length he.rc, .slice he.pa he.parents.length he.pc, .int .i64 ce.hdr.author, .int .i64 ce.hdr.round, .slice ce.hdr.ra ce.hdr.refs.length ce.hdr.rc, .slice ce.hdr.pa ce.hdr.parents.length ce.hdr.pc, .slice ce.va ce.votes.length ce.vc, .int .i64 bl.view, .int .i64 bl.qc.view, .string bl.qc.block, .slice bl.qc.va bl.qc.votes.length bl.qc.vc, .slice bl.ca bl.certs.length bl.cc, .int .i64 q.view, .string q.block, .slice q.va q.votes.length q.vc] := hRF
  have hx2 := Kind.keptX batK hx (S := fun k => k = rb) (((((Kept.refl (fun k => k = rb) w2).set (p := ⟨rb, 6, none⟩) rfl (.int .i64 x.author)).set (p := ⟨rb, 7, none⟩) rfl (.int .i64 x.number)).set (p := ⟨rb, 8, none⟩) rfl (.slice x.ta x.txs.length x.tc))) (fun b hb e => by have := hfx b hb; omega)
  have hM1 := hM.keptM kF (fun b hb e => by have := hf b hb; omega)
  have hM2 := (⟨hx2, hM1.hdr, hM1.cert, hM1.blk, hM1.qc⟩ : MsgM.At _ ⟨k, dg, vi, tg, x, he, ce, bl, q⟩)
  have hf2 : ∀ b, MsgM.foot ⟨k, dg, vi, tg, x, he, ce, bl, q⟩ b → N ≤ b := by
    intro b hb
    rcases hb with hb | hb | hb | hb | hb
    · exact Nat.le_trans hN2 (hfx b hb)
    · exact hf b (Or.inr (Or.inl hb))
    · exact hf b (Or.inr (Or.inr (Or.inl hb)))
    · exact hf b (Or.inr (Or.inr (Or.inr (Or.inl hb))))
    · exact hf b (Or.inr (Or.inr (Or.inr (Or.inr (hb)))))
  have hfin : ∀ e, e = .returned (.int .i64 (er : Int)) → GotField rb N 98 rest ⟨k, dg, vi, tg, ba, he, ce, bl, q⟩ w e _ := fun e h => ⟨er, r1, ⟨k, dg, vi, tg, x, he, ce, bl, q⟩, h, hRF, hM2, hf2, hrs, kF, by
    rcases hres with ⟨he, ho⟩ | ⟨he, ho⟩
    · refine Or.inl ⟨he, ?_⟩
      rw [hst, ho]
      rfl
    · refine Or.inr ⟨he, ?_⟩
      rw [hst, ho]⟩
  clear hRF kF hM2 hM1 hf2 hres hrs hM hf hs k1 hx2 hx hfx hst
  go_wp2
  go_ret
  exact hfin _ rfl

set_option maxRecDepth 100000 in
set_option maxHeartbeats 4000000 in
theorem field_h (rb N : Nat) (hN1 : rb < N) (rest : ByteArray) (k : Int) (dg : ByteArray) (vi : Int) (tg : TagD) (ba : BatM) (he : HdrM) (ce : CertM) (bl : BlkM) (q : QcM) (w : World) (hN2 : N ≤ w.heap.size) (hR : Arr w rb 58 [.string rest, .int .i64 k, .string dg, .int .i64 vi, .int .i64 tg.who, .string tg.mac, .int .i64 ba.author, .int .i64 ba.number, .slice ba.ta ba.txs.length ba.tc, .int .i64 he.author, .int .i64 he.round, .slice he.ra he.refs.length he.rc, .slice he.pa he.parents.length he.pc, .int .i64 ce.hdr.author, .int .i64 ce.hdr.round, .slice ce.hdr.ra ce.hdr.refs.length ce.hdr.rc, .slice ce.hdr.pa ce.hdr.parents.length ce.hdr.pc, .slice ce.va ce.votes.length ce.vc, .int .i64 bl.view, .int .i64 bl.qc.view, .string bl.qc.block, .slice bl.qc.va bl.qc.votes.length bl.qc.vc, .slice bl.ca bl.certs.length bl.cc, .int .i64 q.view, .string q.block, .slice q.va q.votes.length q.vc]) (hM : MsgM.At w ⟨k, dg, vi, tg, ba, he, ce, bl, q⟩) (hf : ∀ b, MsgM.foot ⟨k, dg, vi, tg, ba, he, ce, bl, q⟩ b → N ≤ b) (hs : rest.size ≤ maxLen) :
    Calls Tryz.prog 18 #[.pointer (some ⟨rb, 0, none⟩), .int .i32 104] w fun e w' => GotField rb N 104 rest ⟨k, dg, vi, tg, ba, he, ce, bl, q⟩ w e w' := by
  rcases hr : getText rest.data.toList with ⟨t, n, er0⟩
  have cT := within_h rb rest [.int .i64 k, .string dg, .int .i64 vi, .int .i64 tg.who, .string tg.mac, .int .i64 ba.author, .int .i64 ba.number, .slice ba.ta ba.txs.length ba.tc, .int .i64 he.author, .int .i64 he.round, .slice he.ra he.refs.length he.rc, .slice he.pa he.parents.length he.pc, .int .i64 ce.hdr.author, .int .i64 ce.hdr.round, .slice ce.hdr.ra ce.hdr.refs.length ce.hdr.rc, .slice ce.hdr.pa ce.hdr.parents.length ce.hdr.pc, .slice ce.va ce.votes.length ce.vc, .int .i64 bl.view, .int .i64 bl.qc.view, .string bl.qc.block, .slice bl.qc.va bl.qc.votes.length bl.qc.vc, .slice bl.ca bl.certs.length bl.cc, .int .i64 q.view, .string q.block, .slice q.va q.votes.length q.vc] w hR hs t n er0 hr
  have hst := step_h (p := MsgM.d ⟨k, dg, vi, tg, ba, he, ce, bl, q⟩) hr
  obtain ⟨r1, hr1⟩ : ∃ o, o = rest.extract n rest.size := ⟨_, rfl⟩
  have hdr : r1.data.toList = rest.data.toList.drop n := by rw [hr1]; exact extract_drop _ _
  have hrs : r1.size ≤ maxLen := by rw [hr1]; exact rest_le rest n hs
  have hrl := hR.lt
  rw [← hr1] at cT
  rw [← hdr] at hst
  clear hr1 hr hdr hR
  generalize (if er0 ≠ 0 then .error er0 else decH t : Except Nat HdrD) = out at cT hst
  go_enter Tryz.func18, Tryz.ntmps18
  go_wp2_with fail
  refine cT.mono ?_
  rintro e w2 ⟨x, er, rfl, hx, hres, hfx, hR1, k1⟩
  unfold HdrM.v
  clear cT
  have y8 := hR1.cell (i := 9) rfl
  have f8 := hR1.frozen 9
  have y9 := hR1.cell (i := 10) rfl
  have f9 := hR1.frozen 10
  have y10 := hR1.cell (i := 11) rfl
  have f10 := hR1.frozen 11
  have y11 := hR1.cell (i := 12) rfl
  have f11 := hR1.frozen 12
  have hRF := ((((hR1.set 9 (.int .i64 x.author)).set 10 (.int .i64 x.round)).set 11 (.slice x.ra x.refs.length x.rc)).set 12 (.slice x.pa x.parents.length x.pc))
  have kF := ((((k1.set (p := ⟨rb, 9, none⟩) rfl (.int .i64 x.author)).set (p := ⟨rb, 10, none⟩) rfl (.int .i64 x.round)).set (p := ⟨rb, 11, none⟩) rfl (.slice x.ra x.refs.length x.rc)).set (p := ⟨rb, 12, none⟩) rfl (.slice x.pa x.parents.length x.pc))
  replace hRF : Arr _ rb 58 [.string r1, .int .i64 k, .string dg, .int .i64 vi, .int .i64 tg.who, .string tg.mac, .int .i64 ba.author, .int .i64 ba.number, .slice ba.ta ba.txs.length ba.tc, .int .i64 x.author, .int .i64 x.round, .slice x.ra x.refs.length x.rc, .slice x.pa x.parents.length x.pc, .int .i64 ce.hdr.author, .int .i64 ce.hdr.round, .slice ce.hdr.ra ce.hdr.refs.length ce.hdr.rc, .slice ce.hdr.pa ce.hdr.parents.length ce.hdr.pc, .slice ce.va ce.votes.length ce.vc, .int .i64 bl.view, .int .i64 bl.qc.view, .string bl.qc.block, .slice bl.qc.va bl.qc.votes.length bl.qc.vc, .slice bl.ca bl.certs.length bl.cc, .int .i64 q.view, .string q.block, .slice q.va q.votes.length q.vc] := hRF
  have hx2 := Kind.keptX hdrK hx (S := fun k => k = rb) ((((((Kept.refl (fun k => k = rb) w2).set (p := ⟨rb, 9, none⟩) rfl (.int .i64 x.author)).set (p := ⟨rb, 10, none⟩) rfl (.int .i64 x.round)).set (p := ⟨rb, 11, none⟩) rfl (.slice x.ra x.refs.length x.rc)).set (p := ⟨rb, 12, none⟩) rfl (.slice x.pa x.parents.length x.pc))) (fun b hb e => by have := hfx b hb; omega)
  have hM1 := hM.keptM kF (fun b hb e => by have := hf b hb; omega)
  have hM2 := (⟨hM1.bat, hx2, hM1.cert, hM1.blk, hM1.qc⟩ : MsgM.At _ ⟨k, dg, vi, tg, ba, x, ce, bl, q⟩)
  have hf2 : ∀ b, MsgM.foot ⟨k, dg, vi, tg, ba, x, ce, bl, q⟩ b → N ≤ b := by
    intro b hb
    rcases hb with hb | hb | hb | hb | hb
    · exact hf b (Or.inl hb)
    · exact Nat.le_trans hN2 (hfx b hb)
    · exact hf b (Or.inr (Or.inr (Or.inl hb)))
    · exact hf b (Or.inr (Or.inr (Or.inr (Or.inl hb))))
    · exact hf b (Or.inr (Or.inr (Or.inr (Or.inr (hb)))))
  have hfin : ∀ e, e = .returned (.int .i64 (er : Int)) → GotField rb N 104 rest ⟨k, dg, vi, tg, ba, he, ce, bl, q⟩ w e _ := fun e h => ⟨er, r1, ⟨k, dg, vi, tg, ba, x, ce, bl, q⟩, h, hRF, hM2, hf2, hrs, kF, by
    rcases hres with ⟨he, ho⟩ | ⟨he, ho⟩
    · refine Or.inl ⟨he, ?_⟩
      rw [hst, ho]
      rfl
    · refine Or.inr ⟨he, ?_⟩
      rw [hst, ho]⟩
  clear hRF kF hM2 hM1 hf2 hres hrs hM hf hs k1 hx2 hx hfx hst
  go_wp2
  go_ret
  exact hfin _ rfl

set_option maxRecDepth 100000 in
set_option maxHeartbeats 4000000 in
theorem field_c (rb N : Nat) (hN1 : rb < N) (rest : ByteArray) (k : Int) (dg : ByteArray) (vi : Int) (tg : TagD) (ba : BatM) (he : HdrM) (ce : CertM) (bl : BlkM) (q : QcM) (w : World) (hN2 : N ≤ w.heap.size) (hR : Arr w rb 58 [.string rest, .int .i64 k, .string dg, .int .i64 vi, .int .i64 tg.who, .string tg.mac, .int .i64 ba.author, .int .i64 ba.number, .slice ba.ta ba.txs.length ba.tc, .int .i64 he.author, .int .i64 he.round, .slice he.ra he.refs.length he.rc, .slice he.pa he.parents.length he.pc, .int .i64 ce.hdr.author, .int .i64 ce.hdr.round, .slice ce.hdr.ra ce.hdr.refs.length ce.hdr.rc, .slice ce.hdr.pa ce.hdr.parents.length ce.hdr.pc, .slice ce.va ce.votes.length ce.vc, .int .i64 bl.view, .int .i64 bl.qc.view, .string bl.qc.block, .slice bl.qc.va bl.qc.votes.length bl.qc.vc, .slice bl.ca bl.certs.length bl.cc, .int .i64 q.view, .string q.block, .slice q.va q.votes.length q.vc]) (hM : MsgM.At w ⟨k, dg, vi, tg, ba, he, ce, bl, q⟩) (hf : ∀ b, MsgM.foot ⟨k, dg, vi, tg, ba, he, ce, bl, q⟩ b → N ≤ b) (hs : rest.size ≤ maxLen) :
    Calls Tryz.prog 18 #[.pointer (some ⟨rb, 0, none⟩), .int .i32 99] w fun e w' => GotField rb N 99 rest ⟨k, dg, vi, tg, ba, he, ce, bl, q⟩ w e w' := by
  rcases hr : getText rest.data.toList with ⟨t, n, er0⟩
  have cT := within_c rb rest [.int .i64 k, .string dg, .int .i64 vi, .int .i64 tg.who, .string tg.mac, .int .i64 ba.author, .int .i64 ba.number, .slice ba.ta ba.txs.length ba.tc, .int .i64 he.author, .int .i64 he.round, .slice he.ra he.refs.length he.rc, .slice he.pa he.parents.length he.pc, .int .i64 ce.hdr.author, .int .i64 ce.hdr.round, .slice ce.hdr.ra ce.hdr.refs.length ce.hdr.rc, .slice ce.hdr.pa ce.hdr.parents.length ce.hdr.pc, .slice ce.va ce.votes.length ce.vc, .int .i64 bl.view, .int .i64 bl.qc.view, .string bl.qc.block, .slice bl.qc.va bl.qc.votes.length bl.qc.vc, .slice bl.ca bl.certs.length bl.cc, .int .i64 q.view, .string q.block, .slice q.va q.votes.length q.vc] w hR hs t n er0 hr
  have hst := step_c (p := MsgM.d ⟨k, dg, vi, tg, ba, he, ce, bl, q⟩) hr
  obtain ⟨r1, hr1⟩ : ∃ o, o = rest.extract n rest.size := ⟨_, rfl⟩
  have hdr : r1.data.toList = rest.data.toList.drop n := by rw [hr1]; exact extract_drop _ _
  have hrs : r1.size ≤ maxLen := by rw [hr1]; exact rest_le rest n hs
  have hrl := hR.lt
  rw [← hr1] at cT
  rw [← hdr] at hst
  clear hr1 hr hdr hR
  generalize (if er0 ≠ 0 then .error er0 else decC t : Except Nat CertD) = out at cT hst
  go_enter Tryz.func18, Tryz.ntmps18
  go_wp2_with fail
  refine cT.mono ?_
  rintro e w2 ⟨x, er, rfl, hx, hres, hfx, hR1, k1⟩
  unfold CertM.v
  clear cT
  have y12 := hR1.cell (i := 13) rfl
  have f12 := hR1.frozen 13
  have y13 := hR1.cell (i := 14) rfl
  have f13 := hR1.frozen 14
  have y14 := hR1.cell (i := 15) rfl
  have f14 := hR1.frozen 15
  have y15 := hR1.cell (i := 16) rfl
  have f15 := hR1.frozen 16
  have y16 := hR1.cell (i := 17) rfl
  have f16 := hR1.frozen 17
  have hRF := (((((hR1.set 13 (.int .i64 x.hdr.author)).set 14 (.int .i64 x.hdr.round)).set 15 (.slice x.hdr.ra x.hdr.refs.length x.hdr.rc)).set 16 (.slice x.hdr.pa x.hdr.parents.length x.hdr.pc)).set 17 (.slice x.va x.votes.length x.vc))
  have kF := (((((k1.set (p := ⟨rb, 13, none⟩) rfl (.int .i64 x.hdr.author)).set (p := ⟨rb, 14, none⟩) rfl (.int .i64 x.hdr.round)).set (p := ⟨rb, 15, none⟩) rfl (.slice x.hdr.ra x.hdr.refs.length x.hdr.rc)).set (p := ⟨rb, 16, none⟩) rfl (.slice x.hdr.pa x.hdr.parents.length x.hdr.pc)).set (p := ⟨rb, 17, none⟩) rfl (.slice x.va x.votes.length x.vc))
  replace hRF : Arr _ rb 58 [.string r1, .int .i64 k, .string dg, .int .i64 vi, .int .i64 tg.who, .string tg.mac, .int .i64 ba.author, .int .i64 ba.number, .slice ba.ta ba.txs.length ba.tc, .int .i64 he.author, .int .i64 he.round, .slice he.ra he.refs.length he.rc, .slice he.pa he.parents.length he.pc, .int .i64 x.hdr.author, .int .i64 x.hdr.round, .slice x.hdr.ra x.hdr.refs.length x.hdr.rc, .slice x.hdr.pa x.hdr.parents.length x.hdr.pc, .slice x.va x.votes.length x.vc, .int .i64 bl.view, .int .i64 bl.qc.view, .string bl.qc.block, .slice bl.qc.va bl.qc.votes.length bl.qc.vc, .slice bl.ca bl.certs.length bl.cc, .int .i64 q.view, .string q.block, .slice q.va q.votes.length q.vc] := hRF
  have hx2 := Kind.keptX certK hx (S := fun k => k = rb) (((((((Kept.refl (fun k => k = rb) w2).set (p := ⟨rb, 13, none⟩) rfl (.int .i64 x.hdr.author)).set (p := ⟨rb, 14, none⟩) rfl (.int .i64 x.hdr.round)).set (p := ⟨rb, 15, none⟩) rfl (.slice x.hdr.ra x.hdr.refs.length x.hdr.rc)).set (p := ⟨rb, 16, none⟩) rfl (.slice x.hdr.pa x.hdr.parents.length x.hdr.pc)).set (p := ⟨rb, 17, none⟩) rfl (.slice x.va x.votes.length x.vc))) (fun b hb e => by have := hfx b hb; omega)
  have hM1 := hM.keptM kF (fun b hb e => by have := hf b hb; omega)
  have hM2 := (⟨hM1.bat, hM1.hdr, hx2, hM1.blk, hM1.qc⟩ : MsgM.At _ ⟨k, dg, vi, tg, ba, he, x, bl, q⟩)
  have hf2 : ∀ b, MsgM.foot ⟨k, dg, vi, tg, ba, he, x, bl, q⟩ b → N ≤ b := by
    intro b hb
    rcases hb with hb | hb | hb | hb | hb
    · exact hf b (Or.inl hb)
    · exact hf b (Or.inr (Or.inl hb))
    · exact Nat.le_trans hN2 (hfx b hb)
    · exact hf b (Or.inr (Or.inr (Or.inr (Or.inl hb))))
    · exact hf b (Or.inr (Or.inr (Or.inr (Or.inr (hb)))))
  have hfin : ∀ e, e = .returned (.int .i64 (er : Int)) → GotField rb N 99 rest ⟨k, dg, vi, tg, ba, he, ce, bl, q⟩ w e _ := fun e h => ⟨er, r1, ⟨k, dg, vi, tg, ba, he, x, bl, q⟩, h, hRF, hM2, hf2, hrs, kF, by
    rcases hres with ⟨he, ho⟩ | ⟨he, ho⟩
    · refine Or.inl ⟨he, ?_⟩
      rw [hst, ho]
      rfl
    · refine Or.inr ⟨he, ?_⟩
      rw [hst, ho]⟩
  clear hRF kF hM2 hM1 hf2 hres hrs hM hf hs k1 hx2 hx hfx hst
  go_wp2
  go_ret
  exact hfin _ rfl

set_option maxRecDepth 100000 in
set_option maxHeartbeats 4000000 in
theorem field_k (rb N : Nat) (hN1 : rb < N) (rest : ByteArray) (k : Int) (dg : ByteArray) (vi : Int) (tg : TagD) (ba : BatM) (he : HdrM) (ce : CertM) (bl : BlkM) (q : QcM) (w : World) (hN2 : N ≤ w.heap.size) (hR : Arr w rb 58 [.string rest, .int .i64 k, .string dg, .int .i64 vi, .int .i64 tg.who, .string tg.mac, .int .i64 ba.author, .int .i64 ba.number, .slice ba.ta ba.txs.length ba.tc, .int .i64 he.author, .int .i64 he.round, .slice he.ra he.refs.length he.rc, .slice he.pa he.parents.length he.pc, .int .i64 ce.hdr.author, .int .i64 ce.hdr.round, .slice ce.hdr.ra ce.hdr.refs.length ce.hdr.rc, .slice ce.hdr.pa ce.hdr.parents.length ce.hdr.pc, .slice ce.va ce.votes.length ce.vc, .int .i64 bl.view, .int .i64 bl.qc.view, .string bl.qc.block, .slice bl.qc.va bl.qc.votes.length bl.qc.vc, .slice bl.ca bl.certs.length bl.cc, .int .i64 q.view, .string q.block, .slice q.va q.votes.length q.vc]) (hM : MsgM.At w ⟨k, dg, vi, tg, ba, he, ce, bl, q⟩) (hf : ∀ b, MsgM.foot ⟨k, dg, vi, tg, ba, he, ce, bl, q⟩ b → N ≤ b) (hs : rest.size ≤ maxLen) :
    Calls Tryz.prog 18 #[.pointer (some ⟨rb, 0, none⟩), .int .i32 107] w fun e w' => GotField rb N 107 rest ⟨k, dg, vi, tg, ba, he, ce, bl, q⟩ w e w' := by
  rcases hr : getText rest.data.toList with ⟨t, n, er0⟩
  have cT := within_k rb rest [.int .i64 k, .string dg, .int .i64 vi, .int .i64 tg.who, .string tg.mac, .int .i64 ba.author, .int .i64 ba.number, .slice ba.ta ba.txs.length ba.tc, .int .i64 he.author, .int .i64 he.round, .slice he.ra he.refs.length he.rc, .slice he.pa he.parents.length he.pc, .int .i64 ce.hdr.author, .int .i64 ce.hdr.round, .slice ce.hdr.ra ce.hdr.refs.length ce.hdr.rc, .slice ce.hdr.pa ce.hdr.parents.length ce.hdr.pc, .slice ce.va ce.votes.length ce.vc, .int .i64 bl.view, .int .i64 bl.qc.view, .string bl.qc.block, .slice bl.qc.va bl.qc.votes.length bl.qc.vc, .slice bl.ca bl.certs.length bl.cc, .int .i64 q.view, .string q.block, .slice q.va q.votes.length q.vc] w hR hs t n er0 hr
  have hst := step_k (p := MsgM.d ⟨k, dg, vi, tg, ba, he, ce, bl, q⟩) hr
  obtain ⟨r1, hr1⟩ : ∃ o, o = rest.extract n rest.size := ⟨_, rfl⟩
  have hdr : r1.data.toList = rest.data.toList.drop n := by rw [hr1]; exact extract_drop _ _
  have hrs : r1.size ≤ maxLen := by rw [hr1]; exact rest_le rest n hs
  have hrl := hR.lt
  rw [← hr1] at cT
  rw [← hdr] at hst
  clear hr1 hr hdr hR
  generalize (if er0 ≠ 0 then .error er0 else decK t : Except Nat BlkD) = out at cT hst
  go_enter Tryz.func18, Tryz.ntmps18
  go_wp2_with fail
  refine cT.mono ?_
  rintro e w2 ⟨x, er, rfl, hx, hres, hfx, hR1, k1⟩
  unfold BlkM.v
  clear cT
  have y17 := hR1.cell (i := 18) rfl
  have f17 := hR1.frozen 18
  have y18 := hR1.cell (i := 19) rfl
  have f18 := hR1.frozen 19
  have y19 := hR1.cell (i := 20) rfl
  have f19 := hR1.frozen 20
  have y20 := hR1.cell (i := 21) rfl
  have f20 := hR1.frozen 21
  have y21 := hR1.cell (i := 22) rfl
  have f21 := hR1.frozen 22
  have hRF := (((((hR1.set 18 (.int .i64 x.view)).set 19 (.int .i64 x.qc.view)).set 20 (.string x.qc.block)).set 21 (.slice x.qc.va x.qc.votes.length x.qc.vc)).set 22 (.slice x.ca x.certs.length x.cc))
  have kF := (((((k1.set (p := ⟨rb, 18, none⟩) rfl (.int .i64 x.view)).set (p := ⟨rb, 19, none⟩) rfl (.int .i64 x.qc.view)).set (p := ⟨rb, 20, none⟩) rfl (.string x.qc.block)).set (p := ⟨rb, 21, none⟩) rfl (.slice x.qc.va x.qc.votes.length x.qc.vc)).set (p := ⟨rb, 22, none⟩) rfl (.slice x.ca x.certs.length x.cc))
  replace hRF : Arr _ rb 58 [.string r1, .int .i64 k, .string dg, .int .i64 vi, .int .i64 tg.who, .string tg.mac, .int .i64 ba.author, .int .i64 ba.number, .slice ba.ta ba.txs.length ba.tc, .int .i64 he.author, .int .i64 he.round, .slice he.ra he.refs.length he.rc, .slice he.pa he.parents.length he.pc, .int .i64 ce.hdr.author, .int .i64 ce.hdr.round, .slice ce.hdr.ra ce.hdr.refs.length ce.hdr.rc, .slice ce.hdr.pa ce.hdr.parents.length ce.hdr.pc, .slice ce.va ce.votes.length ce.vc, .int .i64 x.view, .int .i64 x.qc.view, .string x.qc.block, .slice x.qc.va x.qc.votes.length x.qc.vc, .slice x.ca x.certs.length x.cc, .int .i64 q.view, .string q.block, .slice q.va q.votes.length q.vc] := hRF
  have hx2 := Kind.keptX blkK hx (S := fun k => k = rb) (((((((Kept.refl (fun k => k = rb) w2).set (p := ⟨rb, 18, none⟩) rfl (.int .i64 x.view)).set (p := ⟨rb, 19, none⟩) rfl (.int .i64 x.qc.view)).set (p := ⟨rb, 20, none⟩) rfl (.string x.qc.block)).set (p := ⟨rb, 21, none⟩) rfl (.slice x.qc.va x.qc.votes.length x.qc.vc)).set (p := ⟨rb, 22, none⟩) rfl (.slice x.ca x.certs.length x.cc))) (fun b hb e => by have := hfx b hb; omega)
  have hM1 := hM.keptM kF (fun b hb e => by have := hf b hb; omega)
  have hM2 := (⟨hM1.bat, hM1.hdr, hM1.cert, hx2, hM1.qc⟩ : MsgM.At _ ⟨k, dg, vi, tg, ba, he, ce, x, q⟩)
  have hf2 : ∀ b, MsgM.foot ⟨k, dg, vi, tg, ba, he, ce, x, q⟩ b → N ≤ b := by
    intro b hb
    rcases hb with hb | hb | hb | hb | hb
    · exact hf b (Or.inl hb)
    · exact hf b (Or.inr (Or.inl hb))
    · exact hf b (Or.inr (Or.inr (Or.inl hb)))
    · exact Nat.le_trans hN2 (hfx b hb)
    · exact hf b (Or.inr (Or.inr (Or.inr (Or.inr (hb)))))
  have hfin : ∀ e, e = .returned (.int .i64 (er : Int)) → GotField rb N 107 rest ⟨k, dg, vi, tg, ba, he, ce, bl, q⟩ w e _ := fun e h => ⟨er, r1, ⟨k, dg, vi, tg, ba, he, ce, x, q⟩, h, hRF, hM2, hf2, hrs, kF, by
    rcases hres with ⟨he, ho⟩ | ⟨he, ho⟩
    · refine Or.inl ⟨he, ?_⟩
      rw [hst, ho]
      rfl
    · refine Or.inr ⟨he, ?_⟩
      rw [hst, ho]⟩
  clear hRF kF hM2 hM1 hf2 hres hrs hM hf hs k1 hx2 hx hfx hst
  go_wp2
  go_ret
  exact hfin _ rfl

set_option maxRecDepth 100000 in
set_option maxHeartbeats 4000000 in
theorem field_q (rb N : Nat) (hN1 : rb < N) (rest : ByteArray) (k : Int) (dg : ByteArray) (vi : Int) (tg : TagD) (ba : BatM) (he : HdrM) (ce : CertM) (bl : BlkM) (q : QcM) (w : World) (hN2 : N ≤ w.heap.size) (hR : Arr w rb 58 [.string rest, .int .i64 k, .string dg, .int .i64 vi, .int .i64 tg.who, .string tg.mac, .int .i64 ba.author, .int .i64 ba.number, .slice ba.ta ba.txs.length ba.tc, .int .i64 he.author, .int .i64 he.round, .slice he.ra he.refs.length he.rc, .slice he.pa he.parents.length he.pc, .int .i64 ce.hdr.author, .int .i64 ce.hdr.round, .slice ce.hdr.ra ce.hdr.refs.length ce.hdr.rc, .slice ce.hdr.pa ce.hdr.parents.length ce.hdr.pc, .slice ce.va ce.votes.length ce.vc, .int .i64 bl.view, .int .i64 bl.qc.view, .string bl.qc.block, .slice bl.qc.va bl.qc.votes.length bl.qc.vc, .slice bl.ca bl.certs.length bl.cc, .int .i64 q.view, .string q.block, .slice q.va q.votes.length q.vc]) (hM : MsgM.At w ⟨k, dg, vi, tg, ba, he, ce, bl, q⟩) (hf : ∀ b, MsgM.foot ⟨k, dg, vi, tg, ba, he, ce, bl, q⟩ b → N ≤ b) (hs : rest.size ≤ maxLen) :
    Calls Tryz.prog 18 #[.pointer (some ⟨rb, 0, none⟩), .int .i32 113] w fun e w' => GotField rb N 113 rest ⟨k, dg, vi, tg, ba, he, ce, bl, q⟩ w e w' := by
  rcases hr : getText rest.data.toList with ⟨t, n, er0⟩
  have cT := within_q rb rest [.int .i64 k, .string dg, .int .i64 vi, .int .i64 tg.who, .string tg.mac, .int .i64 ba.author, .int .i64 ba.number, .slice ba.ta ba.txs.length ba.tc, .int .i64 he.author, .int .i64 he.round, .slice he.ra he.refs.length he.rc, .slice he.pa he.parents.length he.pc, .int .i64 ce.hdr.author, .int .i64 ce.hdr.round, .slice ce.hdr.ra ce.hdr.refs.length ce.hdr.rc, .slice ce.hdr.pa ce.hdr.parents.length ce.hdr.pc, .slice ce.va ce.votes.length ce.vc, .int .i64 bl.view, .int .i64 bl.qc.view, .string bl.qc.block, .slice bl.qc.va bl.qc.votes.length bl.qc.vc, .slice bl.ca bl.certs.length bl.cc, .int .i64 q.view, .string q.block, .slice q.va q.votes.length q.vc] w hR hs t n er0 hr
  have hst := step_q (p := MsgM.d ⟨k, dg, vi, tg, ba, he, ce, bl, q⟩) hr
  obtain ⟨r1, hr1⟩ : ∃ o, o = rest.extract n rest.size := ⟨_, rfl⟩
  have hdr : r1.data.toList = rest.data.toList.drop n := by rw [hr1]; exact extract_drop _ _
  have hrs : r1.size ≤ maxLen := by rw [hr1]; exact rest_le rest n hs
  have hrl := hR.lt
  rw [← hr1] at cT
  rw [← hdr] at hst
  clear hr1 hr hdr hR
  generalize (if er0 ≠ 0 then .error er0 else decQ t : Except Nat QcD) = out at cT hst
  go_enter Tryz.func18, Tryz.ntmps18
  go_wp2_with fail
  refine cT.mono ?_
  rintro e w2 ⟨x, er, rfl, hx, hres, hfx, hR1, k1⟩
  unfold QcM.v
  clear cT
  have y22 := hR1.cell (i := 23) rfl
  have f22 := hR1.frozen 23
  have y23 := hR1.cell (i := 24) rfl
  have f23 := hR1.frozen 24
  have y24 := hR1.cell (i := 25) rfl
  have f24 := hR1.frozen 25
  have hRF := (((hR1.set 23 (.int .i64 x.view)).set 24 (.string x.block)).set 25 (.slice x.va x.votes.length x.vc))
  have kF := (((k1.set (p := ⟨rb, 23, none⟩) rfl (.int .i64 x.view)).set (p := ⟨rb, 24, none⟩) rfl (.string x.block)).set (p := ⟨rb, 25, none⟩) rfl (.slice x.va x.votes.length x.vc))
  replace hRF : Arr _ rb 58 [.string r1, .int .i64 k, .string dg, .int .i64 vi, .int .i64 tg.who, .string tg.mac, .int .i64 ba.author, .int .i64 ba.number, .slice ba.ta ba.txs.length ba.tc, .int .i64 he.author, .int .i64 he.round, .slice he.ra he.refs.length he.rc, .slice he.pa he.parents.length he.pc, .int .i64 ce.hdr.author, .int .i64 ce.hdr.round, .slice ce.hdr.ra ce.hdr.refs.length ce.hdr.rc, .slice ce.hdr.pa ce.hdr.parents.length ce.hdr.pc, .slice ce.va ce.votes.length ce.vc, .int .i64 bl.view, .int .i64 bl.qc.view, .string bl.qc.block, .slice bl.qc.va bl.qc.votes.length bl.qc.vc, .slice bl.ca bl.certs.length bl.cc, .int .i64 x.view, .string x.block, .slice x.va x.votes.length x.vc] := hRF
  have hx2 := Kind.keptX qcK hx (S := fun k => k = rb) (((((Kept.refl (fun k => k = rb) w2).set (p := ⟨rb, 23, none⟩) rfl (.int .i64 x.view)).set (p := ⟨rb, 24, none⟩) rfl (.string x.block)).set (p := ⟨rb, 25, none⟩) rfl (.slice x.va x.votes.length x.vc))) (fun b hb e => by have := hfx b hb; omega)
  have hM1 := hM.keptM kF (fun b hb e => by have := hf b hb; omega)
  have hM2 := (⟨hM1.bat, hM1.hdr, hM1.cert, hM1.blk, hx2⟩ : MsgM.At _ ⟨k, dg, vi, tg, ba, he, ce, bl, x⟩)
  have hf2 : ∀ b, MsgM.foot ⟨k, dg, vi, tg, ba, he, ce, bl, x⟩ b → N ≤ b := by
    intro b hb
    rcases hb with hb | hb | hb | hb | hb
    · exact hf b (Or.inl hb)
    · exact hf b (Or.inr (Or.inl hb))
    · exact hf b (Or.inr (Or.inr (Or.inl hb)))
    · exact hf b (Or.inr (Or.inr (Or.inr (Or.inl hb))))
    · exact Nat.le_trans hN2 (hfx b hb)
  have hfin : ∀ e, e = .returned (.int .i64 (er : Int)) → GotField rb N 113 rest ⟨k, dg, vi, tg, ba, he, ce, bl, q⟩ w e _ := fun e h => ⟨er, r1, ⟨k, dg, vi, tg, ba, he, ce, bl, x⟩, h, hRF, hM2, hf2, hrs, kF, by
    rcases hres with ⟨he, ho⟩ | ⟨he, ho⟩
    · refine Or.inl ⟨he, ?_⟩
      rw [hst, ho]
      rfl
    · refine Or.inr ⟨he, ?_⟩
      rw [hst, ho]⟩
  clear hRF kF hM2 hM1 hf2 hres hrs hM hf hs k1 hx2 hx hfx hst
  go_wp2
  go_ret
  exact hfin _ rfl

theorem field_any (rb N : Nat) (hN1 : rb < N) (c : UInt8) (hc : c ∈ letters) (rest : ByteArray) (m : MsgM) (w : World) (hN2 : N ≤ w.heap.size) (hR : Arr w rb 58 (.string rest :: m.c)) (hM : m.At w) (hf : ∀ b, m.foot b → N ≤ b) (hs : rest.size ≤ maxLen) :
    Calls Tryz.prog 18 #[.pointer (some ⟨rb, 0, none⟩), .int .i32 (c.toNat : Int)] w fun e w' => GotField rb N c rest m w e w' := by
  obtain ⟨k, dg, vi, tg, ba, he, ce, bl, q⟩ := m
  simp only [letters, List.mem_cons, List.not_mem_nil, or_false] at hc
  rcases hc with rfl | rfl | rfl | rfl | rfl | rfl | rfl | rfl
  · exact field_v rb N hN1 rest k dg vi tg ba he ce bl q w hN2 hR hM hf hs
  · exact field_t rb N hN1 rest k dg vi tg ba he ce bl q w hN2 hR hM hf hs
  · exact field_d rb N hN1 rest k dg vi tg ba he ce bl q w hN2 hR hM hf hs
  · exact field_b rb N hN1 rest k dg vi tg ba he ce bl q w hN2 hR hM hf hs
  · exact field_h rb N hN1 rest k dg vi tg ba he ce bl q w hN2 hR hM hf hs
  · exact field_c rb N hN1 rest k dg vi tg ba he ce bl q w hN2 hR hM hf hs
  · exact field_k rb N hN1 rest k dg vi tg ba he ce bl q w hN2 hR hM hf hs
  · exact field_q rb N hN1 rest k dg vi tg ba he ce bl q w hN2 hR hM hf hs
end Go.Proofs.YtmngiekobmhpaaaGreat

/- What was read is short. -/
namespace Go.Proofs.YtmngiekobmhpaaaGreat
open Go.RowKit
set_option linter.unusedVariables false

theorem lens_right9 {d : TxD} (h : checkL d = 0) : d.rs.length ≤ 8 ∧ d.ws.length ≤ 8 := by
  unfold checkL at h
  split at h
  · omega
  split at h
  · omega
  split at h
  · omega
  split at h
  · omega
  rename_i h4
  exact ⟨keysL_le _ (by omega), keysL_le _ h⟩

/-- A header's lists are short. -/
structure HdrD.Few (h : HdrD) : Prop where
  refs : h.refs.length ≤ 16
  ps : h.parents.length ≤ 16
  acks : ∀ r ∈ h.refs, r.acks.length ≤ 16

/-- A message's lists are short, its transactions right. -/
structure MsgD.Few (m : MsgD) : Prop where
  txs : m.batch.txs.length ≤ 16
  right : ∀ t ∈ m.batch.txs, checkL t = 0
  hdr : m.header.Few
  chdr : m.cert.header.Few
  votes : m.cert.votes.length ≤ 16
  bvotes : m.block.qc.votes.length ≤ 16
  certs : m.block.certs.length ≤ 16
  qvotes : m.qc.votes.length ≤ 16

theorem hdr_few {h : HdrD} (hf : h.Fit) : h.Few := ⟨by have := hf.few; omega, by have := hf.ps; omega, fun r hr => by have := (hf.refs r hr).few; omega⟩

theorem few_zero (k : Int) : (msgZ k).Few :=
  ⟨Nat.zero_le _, (fun t ht => by cases ht), ⟨Nat.zero_le _, Nat.zero_le _, (fun t ht => by cases ht)⟩, ⟨Nat.zero_le _, Nat.zero_le _, (fun t ht => by cases ht)⟩, Nat.zero_le _, Nat.zero_le _, Nat.zero_le _, Nat.zero_le _⟩

theorem few_step {c : UInt8} (hc : c ∈ letters) {p p' : MsgD} {l l' : List UInt8} (h : stepF c p l = .ok (p', l')) (hp : p.Few) : p'.Few := by
  obtain ⟨m, r, _, hfit, hset, he⟩ := rdF_back h
  simp only [Except.ok.injEq, Prod.mk.injEq] at he
  obtain ⟨rfl, _⟩ := he
  obtain ⟨s1, s2, s3, s4, s5, s6, s7, s8⟩ := setF_at
  simp only [letters, List.mem_cons, List.not_mem_nil, or_false] at hc
  rcases hc with rfl | rfl | rfl | rfl | rfl | rfl | rfl | rfl
  · rw [s1] at hset
    rw [hset]
    exact ⟨hp.txs, hp.right, hp.hdr, hp.chdr, hp.votes, hp.bvotes, hp.certs, hp.qvotes⟩
  · rw [s2] at hset
    rw [hset]
    exact ⟨hp.txs, hp.right, hp.hdr, hp.chdr, hp.votes, hp.bvotes, hp.certs, hp.qvotes⟩
  · rw [s3] at hset
    rw [hset]
    exact ⟨hp.txs, hp.right, hp.hdr, hp.chdr, hp.votes, hp.bvotes, hp.certs, hp.qvotes⟩
  · have hf : checkB m.batch = 0 := hfit.1
    obtain ⟨_, _, _, _, _, h6, h7⟩ := checkB_zero hf
    rw [s4] at hset
    rw [hset]
    exact ⟨h6, h7, hp.hdr, hp.chdr, hp.votes, hp.bvotes, hp.certs, hp.qvotes⟩
  · have hf : m.header.Fit := hfit.1
    rw [s5] at hset
    rw [hset]
    exact ⟨hp.txs, hp.right, hdr_few hf, hp.chdr, hp.votes, hp.bvotes, hp.certs, hp.qvotes⟩
  · have hf : m.cert.header.Fit ∧ (encH m.cert.header).length ≤ 65536 ∧ m.cert.votes.length ≤ 7 ∧ ∀ t ∈ m.cert.votes, t.Fit := hfit.1
    rw [s6] at hset
    rw [hset]
    exact ⟨hp.txs, hp.right, hp.hdr, hdr_few hf.1, by have := hf.2.2.1; show m.cert.votes.length ≤ 16; omega, hp.bvotes, hp.certs, hp.qvotes⟩
  · have hf : m.block.Fit := hfit.1
    rw [s7] at hset
    rw [hset]
    exact ⟨hp.txs, hp.right, hp.hdr, hp.chdr, hp.votes, by have := hf.qc.few; show m.block.qc.votes.length ≤ 16; omega, by have := hf.few; show m.block.certs.length ≤ 16; omega, hp.qvotes⟩
  · have hf : m.qc.Fit := hfit.1
    rw [s8] at hset
    rw [hset]
    exact ⟨hp.txs, hp.right, hp.hdr, hp.chdr, hp.votes, hp.bvotes, hp.certs, by have := hf.few; show m.qc.votes.length ≤ 16; omega⟩

theorem few_hdr {x : HdrM} (h : x.d.Few) : x.refs.length ≤ 16 ∧ x.parents.length ≤ 16 ∧ ∀ r ∈ x.refs, r.acks.length ≤ 16 :=
  ⟨by have := h.refs; rw [show x.d.refs = rd x.refs from rfl, rd_length] at this; exact this, h.ps, fun r hr => h.acks r.d (List.mem_map.2 ⟨r, hr, rfl⟩)⟩

theorem few_num {x : MsgM} (h : x.d.Few) : x.Num := by
  have h1 : x.bat.txs.length ≤ 16 := by have := h.txs; rw [show x.d.batch.txs = dl x.bat.txs from rfl, dl_length] at this; exact this
  have h2 := few_hdr (x := x.hdr) h.hdr
  have h3 := few_hdr (x := x.cert.hdr) h.chdr
  have h4 : x.cert.votes.length ≤ 16 := h.votes
  have h5 : x.blk.qc.votes.length ≤ 16 := h.bvotes
  have h6 : x.blk.certs.length ≤ 16 := h.certs
  have h7 : x.qc.votes.length ≤ 16 := h.qvotes
  exact ⟨by omega, fun t ht => by have := lens_right9 (h.right t.d (List.mem_map.2 ⟨t, ht, rfl⟩)); omega, by omega, by omega, fun r hr => by have := h2.2.2 r hr; omega, by omega, by omega, fun r hr => by have := h3.2.2 r hr; omega, by omega, by omega, by omega, by omega⟩
end Go.Proofs.YtmngiekobmhpaaaGreat

/- What package msg's Decode does; nothing old in memory is turned. -/
namespace Go.Proofs.YtmngiekobmhpaaaGreat
open Go.RowKit
set_option linter.unusedVariables false

/-- Decode hands back a message and an error. -/
def GotMsg (W : World) (r : Except Nat MsgD) (e : Ending) (w : World) : Prop :=
  ∃ (x : MsgM) (er : Nat), e = .returned (.tuple #[x.v, .int .i64 (er : Int)]) ∧ x.At w ∧ ((er = 0 ∧ r = .ok x.d) ∨ (er ≠ 0 ∧ r = .error er ∧ x = msg0 0)) ∧ (∀ b, x.foot b → W.heap.size ≤ b) ∧ Below W.heap.size W w

theorem msg0_foot (k : Int) (b : Nat) : ¬ (msg0 k).foot b := by
  rintro (h | h | h | h | h)
  · exact nil_foot h
  · exact h.elim nil_foot nil_foot
  · exact h.elim (fun h => h.elim nil_foot nil_foot) nil_foot
  · exact h.elim nil_foot nil_foot
  · exact nil_foot h

theorem gotMsg_err {W w : World} {r : Except Nat MsgD} {er : Nat} (h : r = .error er) (he : er ≠ 0) (hb : Below W.heap.size W w) (e : Ending) (hv : e = .returned (.tuple #[MsgM.v (msg0 0), .int .i64 (er : Int)])) : GotMsg W r e w :=
  ⟨msg0 0, er, hv, msg0_at 0 w, Or.inr ⟨he, h, rfl⟩, fun b hb => absurd hb (msg0_foot 0 b), hb⟩

/-- What comes behind the fields. -/
def finM (m : MsgD) (l : List UInt8) : Except Nat MsgD := if l ≠ [] then .error 6 else if chkM m ≠ 0 then .error (chkM m) else .ok m

theorem infoReader9 : (Tryz.prog.info? 58).map (·.size) = some 26 := by kernel_rfl

set_option maxRecDepth 100000 in
set_option maxHeartbeats 8000000 in
theorem msgDecode_any (s : ByteArray) (W : World) (hs : s.size ≤ maxLen) :
    Calls Tryz.prog 6 #[.string s] W fun e w' => GotMsg W (decM s.data.toList) e w' := by
  have hZ := Arr.new W 39 [.int .i64 0, .string ⟨#[]⟩, .int .i64 0, .int .i64 0, .string ⟨#[]⟩, .int .i64 0, .int .i64 0, .slice none 0 0, .int .i64 0, .int .i64 0, .slice none 0 0, .slice none 0 0, .int .i64 0, .int .i64 0, .slice none 0 0, .slice none 0 0, .slice none 0 0, .int .i64 0, .int .i64 0, .string ⟨#[]⟩, .slice none 0 0, .slice none 0 0, .int .i64 0, .string ⟨#[]⟩, .slice none 0 0]
  have hB := belowNew W (.cells [.int .i64 0, .string ⟨#[]⟩, .int .i64 0, .int .i64 0, .string ⟨#[]⟩, .int .i64 0, .int .i64 0, .slice none 0 0, .int .i64 0, .int .i64 0, .slice none 0 0, .slice none 0 0, .int .i64 0, .int .i64 0, .slice none 0 0, .slice none 0 0, .slice none 0 0, .int .i64 0, .int .i64 0, .string ⟨#[]⟩, .slice none 0 0, .slice none 0 0, .int .i64 0, .string ⟨#[]⟩, .slice none 0 0].toArray 39)
  have hz1 : (List.toArray (α := Value) [.int .i64 0, .string ⟨#[]⟩, .int .i64 0, .int .i64 0, .string ⟨#[]⟩, .int .i64 0, .int .i64 0, .slice none 0 0, .int .i64 0, .int .i64 0, .slice none 0 0, .slice none 0 0, .int .i64 0, .int .i64 0, .slice none 0 0, .slice none 0 0, .slice none 0 0, .int .i64 0, .int .i64 0, .string ⟨#[]⟩, .slice none 0 0, .slice none 0 0, .int .i64 0, .string ⟨#[]⟩, .slice none 0 0]).all (·.oneCell') = true := Array.all_eq_true_iff_forall_mem.2 (fun v hv => msgK.one (msg0 0) v (List.mem_toArray.1 hv))
  rcases hr : getInt s.data.toList with ⟨v, n, e0⟩
  have cG := fun w1 => getInt_at s w1 v n e0 hs hr
  obtain ⟨w1, hw1⟩ : ∃ q', W.alloc (.cells [.int .i64 0, .string ⟨#[]⟩, .int .i64 0, .int .i64 0, .string ⟨#[]⟩, .int .i64 0, .int .i64 0, .slice none 0 0, .int .i64 0, .int .i64 0, .slice none 0 0, .slice none 0 0, .int .i64 0, .int .i64 0, .slice none 0 0, .slice none 0 0, .slice none 0 0, .int .i64 0, .int .i64 0, .string ⟨#[]⟩, .slice none 0 0, .slice none 0 0, .int .i64 0, .string ⟨#[]⟩, .slice none 0 0].toArray 39) = q' := ⟨_, rfl⟩
  have hs1 : w1.heap.size = W.heap.size + 1 := by rw [← hw1, alloc_size]
  rw [hw1] at hZ hB
  obtain ⟨out, hout⟩ : ∃ o, Hid (o = decM s.data.toList) := ⟨_, rfl⟩
  rw [← hout.out]
  go_enter Tryz.func6, Tryz.ntmps6
  go_wp2_with fail
  refine (cG _).mono ?_
  rintro e w1' ⟨rfl, hw1'⟩
  rw [← hw1'] at hZ hB hs1
  clear hw1' cG hw1
  by_cases he : e0 ≠ 0
  · have ho : Hid (out = .error e0) := by
      show _ = _
      rw [hout.out]
      unfold decM
      exact rdI_err hr he
    have hne : ((e0 : Int) != 0) = true := by rw [bne_iff_ne]; omega
    clear hr hout hs
    have hZF := hZ.row [.int .i64 0, .string ⟨#[]⟩, .int .i64 0, .int .i64 0, .string ⟨#[]⟩, .int .i64 0, .int .i64 0, .slice none 0 0, .int .i64 0, .int .i64 0, .slice none 0 0, .slice none 0 0, .int .i64 0, .int .i64 0, .slice none 0 0, .slice none 0 0, .slice none 0 0, .int .i64 0, .int .i64 0, .string ⟨#[]⟩, .slice none 0 0, .slice none 0 0, .int .i64 0, .string ⟨#[]⟩, .slice none 0 0]
    have hBF := below_setRow hB (g := W.heap.size) (Nat.le_refl _) [.int .i64 0, .string ⟨#[]⟩, .int .i64 0, .int .i64 0, .string ⟨#[]⟩, .int .i64 0, .int .i64 0, .slice none 0 0, .int .i64 0, .int .i64 0, .slice none 0 0, .slice none 0 0, .int .i64 0, .int .i64 0, .slice none 0 0, .slice none 0 0, .slice none 0 0, .int .i64 0, .int .i64 0, .string ⟨#[]⟩, .slice none 0 0, .slice none 0 0, .int .i64 0, .string ⟨#[]⟩, .slice none 0 0].toArray
    have hfin : ∀ e, e = .returned (.tuple #[MsgM.v (msg0 0), .int .i64 (e0 : Int)]) → GotMsg W out e _ := fun e h => gotMsg_err ho.out he hBF e h
    go_wp2_with (refine wpList_store_row (by rfl) 39 _ _ (by rfl) W.heap.size [.int .i64 0, .string ⟨#[]⟩, .int .i64 0, .int .i64 0, .string ⟨#[]⟩, .int .i64 0, .int .i64 0, .slice none 0 0, .int .i64 0, .int .i64 0, .slice none 0 0, .slice none 0 0, .int .i64 0, .int .i64 0, .slice none 0 0, .slice none 0 0, .slice none 0 0, .int .i64 0, .int .i64 0, .string ⟨#[]⟩, .slice none 0 0, .slice none 0 0, .int .i64 0, .string ⟨#[]⟩, .slice none 0 0].toArray (by rfl) (by rfl) 39 _ hZ infoMsg9 (by rfl) hz1 ?_)
    refine bodyPost_ret (v := .tuple #[MsgM.v (msg0 0), .int .i64 (e0 : Int)]) (results_row_tmp rfl _ _ W.heap.size [.int .i64 0, .string ⟨#[]⟩, .int .i64 0, .int .i64 0, .string ⟨#[]⟩, .int .i64 0, .int .i64 0, .slice none 0 0, .int .i64 0, .int .i64 0, .slice none 0 0, .slice none 0 0, .int .i64 0, .int .i64 0, .slice none 0 0, .slice none 0 0, .slice none 0 0, .int .i64 0, .int .i64 0, .string ⟨#[]⟩, .slice none 0 0, .slice none 0 0, .int .i64 0, .string ⟨#[]⟩, .slice none 0 0] rfl (run_loadVar_row _ W.heap.size 39 39 _ (0, 0) _ hZF Tryz.underlying39 rfl infoMsg9) _ rfl) rfl ?_
    exact hfin _ rfl
  replace he : e0 = 0 := by omega
  subst he
  have hbd := getInt_bounds _ v n hr
  have hsl : s.data.toList.length = s.size := by simp
  have hn : (n : Int) ≤ s.size := by omega
  have ho1 : Hid (out = if fieldsK (v : Int) = [] then .error 5 else rdFs (fieldsK (v : Int)) (msgZ (v : Int)) (s.data.toList.drop n) finM) := by
    show _ = _
    rw [hout.out]
    unfold decM
    rw [rdI_ok hr]
    rfl
  have cL := letters_any (v : Int)
  have hkl : (fieldsS (v : Int)).data.toList = fieldsK (v : Int) := rfl
  obtain ⟨own, hown⟩ : ∃ o, o = fieldsS (v : Int) := ⟨_, rfl⟩
  rw [← hown] at cL hkl
  have HO : Hid (own = fieldsS (v : Int)) := hown
  clear hown hout hr
  go_wp2_with fail
  refine (cL _).mono ?_
  rintro e w1 ⟨rfl, hw1⟩
  rw [← hw1] at hZ hB hs1
  clear hw1 cL
  cases hE : own.toList.isEmpty
  case true =>
    have ho : Hid (out = .error 5) := by
      show _ = _
      rw [ho1.out, if_pos]
      rw [← hkl, ← ByteArray.toList_eq]
      exact List.isEmpty_iff.1 hE
    clear ho1 hs hbd hsl hn
    have hZF := hZ.row [.int .i64 0, .string ⟨#[]⟩, .int .i64 0, .int .i64 0, .string ⟨#[]⟩, .int .i64 0, .int .i64 0, .slice none 0 0, .int .i64 0, .int .i64 0, .slice none 0 0, .slice none 0 0, .int .i64 0, .int .i64 0, .slice none 0 0, .slice none 0 0, .slice none 0 0, .int .i64 0, .int .i64 0, .string ⟨#[]⟩, .slice none 0 0, .slice none 0 0, .int .i64 0, .string ⟨#[]⟩, .slice none 0 0]
    have hBF := below_setRow hB (g := W.heap.size) (Nat.le_refl _) [.int .i64 0, .string ⟨#[]⟩, .int .i64 0, .int .i64 0, .string ⟨#[]⟩, .int .i64 0, .int .i64 0, .slice none 0 0, .int .i64 0, .int .i64 0, .slice none 0 0, .slice none 0 0, .int .i64 0, .int .i64 0, .slice none 0 0, .slice none 0 0, .slice none 0 0, .int .i64 0, .int .i64 0, .string ⟨#[]⟩, .slice none 0 0, .slice none 0 0, .int .i64 0, .string ⟨#[]⟩, .slice none 0 0].toArray
    have hfin : ∀ e, e = .returned (.tuple #[MsgM.v (msg0 0), .int .i64 (5 : Int)]) → GotMsg W out e _ := fun e h => gotMsg_err ho.out (by decide) hBF e h
    go_wp2_with (refine wpList_store_row (by rfl) 39 _ _ (by rfl) W.heap.size [.int .i64 0, .string ⟨#[]⟩, .int .i64 0, .int .i64 0, .string ⟨#[]⟩, .int .i64 0, .int .i64 0, .slice none 0 0, .int .i64 0, .int .i64 0, .slice none 0 0, .slice none 0 0, .int .i64 0, .int .i64 0, .slice none 0 0, .slice none 0 0, .slice none 0 0, .int .i64 0, .int .i64 0, .string ⟨#[]⟩, .slice none 0 0, .slice none 0 0, .int .i64 0, .string ⟨#[]⟩, .slice none 0 0].toArray (by rfl) (by rfl) 39 _ hZ infoMsg9 (by rfl) hz1 ?_)
    refine bodyPost_ret (v := .tuple #[MsgM.v (msg0 0), .int .i64 (5 : Int)]) (results_row_tmp rfl _ _ W.heap.size [.int .i64 0, .string ⟨#[]⟩, .int .i64 0, .int .i64 0, .string ⟨#[]⟩, .int .i64 0, .int .i64 0, .slice none 0 0, .int .i64 0, .int .i64 0, .slice none 0 0, .slice none 0 0, .int .i64 0, .int .i64 0, .slice none 0 0, .slice none 0 0, .slice none 0 0, .int .i64 0, .int .i64 0, .string ⟨#[]⟩, .slice none 0 0, .slice none 0 0, .int .i64 0, .string ⟨#[]⟩, .slice none 0 0] rfl (run_loadVar_row _ W.heap.size 39 39 _ (0, 0) _ hZF Tryz.underlying39 rfl infoMsg9) _ rfl) rfl ?_
    exact hfin _ rfl
  have Hne : Hid (fieldsK (v : Int) ≠ []) := fun e => by
    have : own.toList.isEmpty = true := by rw [ByteArray.toList_eq, hkl, e]; rfl
    rw [hE] at this
    cases this
  obtain ⟨r0, hr0⟩ : ∃ o, s.extract n s.size = o := ⟨_, rfl⟩
  have ho2 : Hid (out = rdFs (fieldsK (v : Int)) (msgZ (v : Int)) r0.data.toList finM) := by
    show _ = _
    rw [ho1.out, if_neg Hne.out, ← hr0, extract_drop]
  have hrs : r0.size ≤ maxLen := by rw [← hr0]; exact rest_le s n hs
  clear ho1 hs hbd hsl
  obtain ⟨rb, hrb⟩ : ∃ n, w1.heap.size = n := ⟨_, rfl⟩
  have Hrb : Hid (rb = W.heap.size + 1) := by show _ = _; rw [← hrb, hs1]
  clear hs1
  have hN := Arr.new w1 58 [.string ⟨#[]⟩, .int .i64 0, .string ⟨#[]⟩, .int .i64 0, .int .i64 0, .string ⟨#[]⟩, .int .i64 0, .int .i64 0, .slice none 0 0, .int .i64 0, .int .i64 0, .slice none 0 0, .slice none 0 0, .int .i64 0, .int .i64 0, .slice none 0 0, .slice none 0 0, .slice none 0 0, .int .i64 0, .int .i64 0, .string ⟨#[]⟩, .slice none 0 0, .slice none 0 0, .int .i64 0, .string ⟨#[]⟩, .slice none 0 0]
  have hbn := belowNew w1 (.cells [.string ⟨#[]⟩, .int .i64 0, .string ⟨#[]⟩, .int .i64 0, .int .i64 0, .string ⟨#[]⟩, .int .i64 0, .int .i64 0, .slice none 0 0, .int .i64 0, .int .i64 0, .slice none 0 0, .slice none 0 0, .int .i64 0, .int .i64 0, .slice none 0 0, .slice none 0 0, .slice none 0 0, .int .i64 0, .int .i64 0, .string ⟨#[]⟩, .slice none 0 0, .slice none 0 0, .int .i64 0, .string ⟨#[]⟩, .slice none 0 0].toArray 58)
  have hn1 : (List.toArray (α := Value) [.string r0, .int .i64 (v : Int), .string ⟨#[]⟩, .int .i64 0, .int .i64 0, .string ⟨#[]⟩, .int .i64 0, .int .i64 0, .slice none 0 0, .int .i64 0, .int .i64 0, .slice none 0 0, .slice none 0 0, .int .i64 0, .int .i64 0, .slice none 0 0, .slice none 0 0, .slice none 0 0, .int .i64 0, .int .i64 0, .string ⟨#[]⟩, .slice none 0 0, .slice none 0 0, .int .i64 0, .string ⟨#[]⟩, .slice none 0 0]).all (·.oneCell') = true := by
    refine Array.all_eq_true_iff_forall_mem.2 (fun u hu => ?_)
    have hu' := List.mem_toArray.1 hu
    rcases List.mem_cons.1 hu' with rfl | hu2
    · rfl
    · exact msgK.one (msg0 (v : Int)) u hu2
  rw [hrb] at hN
  have kr := kept_row (w1.alloc (.cells [.string ⟨#[]⟩, .int .i64 0, .string ⟨#[]⟩, .int .i64 0, .int .i64 0, .string ⟨#[]⟩, .int .i64 0, .int .i64 0, .slice none 0 0, .int .i64 0, .int .i64 0, .slice none 0 0, .slice none 0 0, .int .i64 0, .int .i64 0, .slice none 0 0, .slice none 0 0, .slice none 0 0, .int .i64 0, .int .i64 0, .string ⟨#[]⟩, .slice none 0 0, .slice none 0 0, .int .i64 0, .string ⟨#[]⟩, .slice none 0 0].toArray 58)) rb [.string r0, .int .i64 (v : Int), .string ⟨#[]⟩, .int .i64 0, .int .i64 0, .string ⟨#[]⟩, .int .i64 0, .int .i64 0, .slice none 0 0, .int .i64 0, .int .i64 0, .slice none 0 0, .slice none 0 0, .int .i64 0, .int .i64 0, .slice none 0 0, .slice none 0 0, .slice none 0 0, .int .i64 0, .int .i64 0, .string ⟨#[]⟩, .slice none 0 0, .slice none 0 0, .int .i64 0, .string ⟨#[]⟩, .slice none 0 0].toArray
  have hR2 := hN.row [.string r0, .int .i64 (v : Int), .string ⟨#[]⟩, .int .i64 0, .int .i64 0, .string ⟨#[]⟩, .int .i64 0, .int .i64 0, .slice none 0 0, .int .i64 0, .int .i64 0, .slice none 0 0, .slice none 0 0, .int .i64 0, .int .i64 0, .slice none 0 0, .slice none 0 0, .slice none 0 0, .int .i64 0, .int .i64 0, .string ⟨#[]⟩, .slice none 0 0, .slice none 0 0, .int .i64 0, .string ⟨#[]⟩, .slice none 0 0]
  have hZ2 := (hZ.below hbn hZ.lt).kept kr (by show ¬ W.heap.size = rb; have := Hrb.out; omega)
  have hB2 := below_setRow (hB.trans (hbn.mono hB.size)) (g := rb) (by have := Hrb.out; omega) [.string r0, .int .i64 (v : Int), .string ⟨#[]⟩, .int .i64 0, .int .i64 0, .string ⟨#[]⟩, .int .i64 0, .int .i64 0, .slice none 0 0, .int .i64 0, .int .i64 0, .slice none 0 0, .slice none 0 0, .int .i64 0, .int .i64 0, .slice none 0 0, .slice none 0 0, .slice none 0 0, .int .i64 0, .int .i64 0, .string ⟨#[]⟩, .slice none 0 0, .slice none 0 0, .int .i64 0, .string ⟨#[]⟩, .slice none 0 0].toArray
  have hs2 : (World.setRow (w1.alloc (.cells [.string ⟨#[]⟩, .int .i64 0, .string ⟨#[]⟩, .int .i64 0, .int .i64 0, .string ⟨#[]⟩, .int .i64 0, .int .i64 0, .slice none 0 0, .int .i64 0, .int .i64 0, .slice none 0 0, .slice none 0 0, .int .i64 0, .int .i64 0, .slice none 0 0, .slice none 0 0, .slice none 0 0, .int .i64 0, .int .i64 0, .string ⟨#[]⟩, .slice none 0 0, .slice none 0 0, .int .i64 0, .string ⟨#[]⟩, .slice none 0 0].toArray 58)) rb [.string r0, .int .i64 (v : Int), .string ⟨#[]⟩, .int .i64 0, .int .i64 0, .string ⟨#[]⟩, .int .i64 0, .int .i64 0, .slice none 0 0, .int .i64 0, .int .i64 0, .slice none 0 0, .slice none 0 0, .int .i64 0, .int .i64 0, .slice none 0 0, .slice none 0 0, .slice none 0 0, .int .i64 0, .int .i64 0, .string ⟨#[]⟩, .slice none 0 0, .slice none 0 0, .int .i64 0, .string ⟨#[]⟩, .slice none 0 0].toArray).heap.size = rb + 1 := by rw [setRow_size, alloc_size, hrb]
  have hZ3 := hZ2.alloc (.stringIter own 0)
  have hR3 := hR2.alloc (.stringIter own 0)
  have hB3 := hB2.alloc hB2.size (.stringIter own 0)
  have hIt := World.iter_heap (World.setRow (w1.alloc (.cells [.string ⟨#[]⟩, .int .i64 0, .string ⟨#[]⟩, .int .i64 0, .int .i64 0, .string ⟨#[]⟩, .int .i64 0, .int .i64 0, .slice none 0 0, .int .i64 0, .int .i64 0, .slice none 0 0, .slice none 0 0, .int .i64 0, .int .i64 0, .slice none 0 0, .slice none 0 0, .slice none 0 0, .int .i64 0, .int .i64 0, .string ⟨#[]⟩, .slice none 0 0, .slice none 0 0, .int .i64 0, .string ⟨#[]⟩, .slice none 0 0].toArray 58)) rb [.string r0, .int .i64 (v : Int), .string ⟨#[]⟩, .int .i64 0, .int .i64 0, .string ⟨#[]⟩, .int .i64 0, .int .i64 0, .slice none 0 0, .int .i64 0, .int .i64 0, .slice none 0 0, .slice none 0 0, .int .i64 0, .int .i64 0, .slice none 0 0, .slice none 0 0, .slice none 0 0, .int .i64 0, .int .i64 0, .string ⟨#[]⟩, .slice none 0 0, .slice none 0 0, .int .i64 0, .string ⟨#[]⟩, .slice none 0 0].toArray) own 0
  rw [hs2] at hIt
  replace hIt : (World.alloc (World.setRow (w1.alloc (.cells [.string ⟨#[]⟩, .int .i64 0, .string ⟨#[]⟩, .int .i64 0, .int .i64 0, .string ⟨#[]⟩, .int .i64 0, .int .i64 0, .slice none 0 0, .int .i64 0, .int .i64 0, .slice none 0 0, .slice none 0 0, .int .i64 0, .int .i64 0, .slice none 0 0, .slice none 0 0, .slice none 0 0, .int .i64 0, .int .i64 0, .string ⟨#[]⟩, .slice none 0 0, .slice none 0 0, .int .i64 0, .string ⟨#[]⟩, .slice none 0 0].toArray 58)) rb [.string r0, .int .i64 (v : Int), .string ⟨#[]⟩, .int .i64 0, .int .i64 0, .string ⟨#[]⟩, .int .i64 0, .int .i64 0, .slice none 0 0, .int .i64 0, .int .i64 0, .slice none 0 0, .slice none 0 0, .int .i64 0, .int .i64 0, .slice none 0 0, .slice none 0 0, .slice none 0 0, .int .i64 0, .int .i64 0, .string ⟨#[]⟩, .slice none 0 0, .slice none 0 0, .int .i64 0, .string ⟨#[]⟩, .slice none 0 0].toArray) (.stringIter own 0)).heap[rb + 1]? = some (.stringIter own 0) := hIt
  clear hbn kr hR2 hZ2 hB2 hB hZ
  go_wp2_with (refine wpList_store_row (by rfl) 58 _ _ (by rfl) rb [.string r0, .int .i64 (v : Int), .string ⟨#[]⟩, .int .i64 0, .int .i64 0, .string ⟨#[]⟩, .int .i64 0, .int .i64 0, .slice none 0 0, .int .i64 0, .int .i64 0, .slice none 0 0, .slice none 0 0, .int .i64 0, .int .i64 0, .slice none 0 0, .slice none 0 0, .slice none 0 0, .int .i64 0, .int .i64 0, .string ⟨#[]⟩, .slice none 0 0, .slice none 0 0, .int .i64 0, .string ⟨#[]⟩, .slice none 0 0].toArray (by rfl) (by rfl) 58 _ hN infoReader9 (by rfl) hn1 ?_)
  go_loopw [10, 11] (fun v10 v11 wr => ∃ (i : Nat) (rest : ByteArray) (m : MsgM), i ≤ own.size ∧ wr.heap[rb + 1]? = some (.stringIter own i) ∧ Arr wr rb 58 (.string rest :: m.c) ∧ m.At wr ∧ (∀ b, m.foot b → rb + 2 ≤ b) ∧ rest.size ≤ maxLen ∧ Arr wr W.heap.size 39 [.int .i64 0, .string ⟨#[]⟩, .int .i64 0, .int .i64 0, .string ⟨#[]⟩, .int .i64 0, .int .i64 0, .slice none 0 0, .int .i64 0, .int .i64 0, .slice none 0 0, .slice none 0 0, .int .i64 0, .int .i64 0, .slice none 0 0, .slice none 0 0, .slice none 0 0, .int .i64 0, .int .i64 0, .string ⟨#[]⟩, .slice none 0 0, .slice none 0 0, .int .i64 0, .string ⟨#[]⟩, .slice none 0 0] ∧ Below W.heap.size W wr ∧ Hid (m.d.Few ∧ out = rdFs ((fieldsK (v : Int)).drop i) m.d rest.data.toList finM)) (fun _ _ wr => own.size - wr.iterPos (rb + 1))
  case atStart => exact ⟨0, r0, msg0 (v : Int), Nat.zero_le _, hIt, hR3, msg0_at _ _, fun b hb => absurd hb (msg0_foot _ b), hrs, hZ3, hB3, few_zero _, ho2.out⟩
  case round =>
    clear hIt hR3 hZ3 hB3 hrs ho2 hN hn1 hrb hr0 hn
    obtain ⟨i, rest, m, hi8, hit, hR, hM, hf, hrs, hZ, hb, HF⟩ := hrel
    have hos : own.size = (fieldsK (v : Int)).length := by rw [← hkl]; rfl
    have hltB : rb + 1 < wr.heap.size := (Array.getElem?_eq_some_iff.1 hit).1
    have hWr : W.heap.size < rb := by have := Hrb.out; omega
    by_cases hi : i < own.size
    · have hil : i < (fieldsK (v : Int)).length := by omega
      have hel : own[i] = (fieldsK (v : Int))[i] := by
        have hown := HO.out
        subst hown
        rfl
      have hmem : own[i] ∈ letters := by rw [hel]; exact (fieldsK_letters (v : Int)).2 _ (List.getElem_mem hil)
      have hasc : (own[i]).toNat < 128 := by
        have : ∀ c ∈ letters, c.toNat < 128 := by decide
        exact this _ hmem
      have hnx : ∀ ty, (Instr.next (.pointer (some ⟨rb + 1, 0, none⟩)) true ty).run Tryz.prog wr = _ := fun ty => Lib.run_next_ascii_at wr (rb + 1) own i ty hit hi hasc
      have hit2 := Lib.iterAt_heap wr (rb + 1) own i (i + 1) hit
      have hR2 : Arr (wr.iterAt (rb + 1) own (i + 1)) rb 58 (.string rest :: m.c) := (Lib.iterAt_other wr (rb + 1) rb own (i + 1) (by omega)).trans hR
      have hZ2 : Arr (wr.iterAt (rb + 1) own (i + 1)) W.heap.size 39 [.int .i64 0, .string ⟨#[]⟩, .int .i64 0, .int .i64 0, .string ⟨#[]⟩, .int .i64 0, .int .i64 0, .slice none 0 0, .int .i64 0, .int .i64 0, .slice none 0 0, .slice none 0 0, .int .i64 0, .int .i64 0, .slice none 0 0, .slice none 0 0, .slice none 0 0, .int .i64 0, .int .i64 0, .string ⟨#[]⟩, .slice none 0 0, .slice none 0 0, .int .i64 0, .string ⟨#[]⟩, .slice none 0 0] := (Lib.iterAt_other wr (rb + 1) W.heap.size own (i + 1) (by omega)).trans hZ
      have hb2 := Lib.below_iterAt hb (k := rb + 1) (by omega) own (i + 1)
      have hM2 : m.At (wr.iterAt (rb + 1) own (i + 1)) := Kind.keep msgK hM (fun b hb => Lib.iterAt_other wr (rb + 1) b own (i + 1) (by have := hf b hb; omega))
      have HM : Hid (own.size - (i + 1) < own.size - World.iterPos wr (rb + 1)) := by
        show _ < _
        simp only [World.iterPos, hit]
        omega
      obtain ⟨c, hcd⟩ : ∃ c, c = own[i] := ⟨_, rfl⟩
      rw [← hcd] at hmem hnx hel
      have HF2 : Hid (out = match stepF c m.d rest.data.toList with
          | .error e => .error e
          | .ok (p, l) => rdFs ((fieldsK (v : Int)).drop (i + 1)) p l finM) := by
        show _ = _
        rw [HF.out.2, List.drop_eq_getElem_cons hil, rdFs, ← hel]
        exact rdF_step _ _ _ _
      have HFew : Hid (m.d.Few) := HF.out.1
      have Hmem : Hid (c ∈ letters) := hmem
      obtain ⟨w3, hw3⟩ : ∃ q', wr.iterAt (rb + 1) own (i + 1) = q' := ⟨_, rfl⟩
      rw [hw3] at hit2 hR2 hZ2 hb2 hM2 hnx
      have hlt3 : rb + 1 < w3.heap.size := (Array.getElem?_eq_some_iff.1 hit2).1
      have cF := field_any rb (rb + 2) (by omega) c hmem rest m w3 (by omega) hR2 hM2 hf hrs
      clear hasc hcd hel hit hR hZ hb hM hf hrs HF hw3 hR2 hM2 hmem
      go_wp2_with fail
      refine cF.mono ?_
      rintro e w4 ⟨er, rest', m', rfl, hR4, hM4, hf4, hrs4, hk4, hres⟩
      have hZ4 := hZ2.kept hk4 (by show ¬ W.heap.size = rb; omega)
      have hb4 := hb2.trans (hk4.below hb2.size (fun k hk => by rw [hk]; omega))
      have hit4 : w4.heap[rb + 1]? = some (.stringIter own (i + 1)) := by rw [hk4.block _ hlt3 (by omega)]; exact hit2
      clear cF hZ2 hb2 hit2 hk4 hnx
      rcases hres with ⟨rfl, hres⟩ | ⟨he, hres⟩
      · have HF3 : Hid (m'.d.Few ∧ out = rdFs ((fieldsK (v : Int)).drop (i + 1)) m'.d rest'.data.toList finM) := ⟨few_step Hmem.out hres HFew.out, by rw [HF2.out, hres]⟩
        clear HF2 HFew hres Hmem
        go_wp2
        go_roundw
        case rel => exact ⟨i + 1, rest', m', by omega, hit4, hR4, hM4, hf4, hrs4, hZ4, hb4, HF3⟩
        case measure =>
          have := HM.out
          simp only [World.iterPos, hit4] at this ⊢
          omega
      · have ho : Hid (out = .error er) := by
          show _ = _
          rw [HF2.out, hres]
        have hne : ((er : Int) != 0) = true := by rw [bne_iff_ne]; omega
        clear HF2 HFew hres hR4 hM4 hf4 Hmem
        have hZF := hZ4.row [.int .i64 0, .string ⟨#[]⟩, .int .i64 0, .int .i64 0, .string ⟨#[]⟩, .int .i64 0, .int .i64 0, .slice none 0 0, .int .i64 0, .int .i64 0, .slice none 0 0, .slice none 0 0, .int .i64 0, .int .i64 0, .slice none 0 0, .slice none 0 0, .slice none 0 0, .int .i64 0, .int .i64 0, .string ⟨#[]⟩, .slice none 0 0, .slice none 0 0, .int .i64 0, .string ⟨#[]⟩, .slice none 0 0]
        have hBF := below_setRow hb4 (g := W.heap.size) (Nat.le_refl _) [.int .i64 0, .string ⟨#[]⟩, .int .i64 0, .int .i64 0, .string ⟨#[]⟩, .int .i64 0, .int .i64 0, .slice none 0 0, .int .i64 0, .int .i64 0, .slice none 0 0, .slice none 0 0, .int .i64 0, .int .i64 0, .slice none 0 0, .slice none 0 0, .slice none 0 0, .int .i64 0, .int .i64 0, .string ⟨#[]⟩, .slice none 0 0, .slice none 0 0, .int .i64 0, .string ⟨#[]⟩, .slice none 0 0].toArray
        have hfin : ∀ e, e = .returned (.tuple #[MsgM.v (msg0 0), .int .i64 (er : Int)]) → GotMsg W out e _ := fun e h => gotMsg_err ho.out he hBF e h
        go_wp2_with (refine wpList_store_row (by rfl) 39 _ _ (by rfl) W.heap.size [.int .i64 0, .string ⟨#[]⟩, .int .i64 0, .int .i64 0, .string ⟨#[]⟩, .int .i64 0, .int .i64 0, .slice none 0 0, .int .i64 0, .int .i64 0, .slice none 0 0, .slice none 0 0, .int .i64 0, .int .i64 0, .slice none 0 0, .slice none 0 0, .slice none 0 0, .int .i64 0, .int .i64 0, .string ⟨#[]⟩, .slice none 0 0, .slice none 0 0, .int .i64 0, .string ⟨#[]⟩, .slice none 0 0].toArray (by rfl) (by rfl) 39 _ hZ4 infoMsg9 (by rfl) hz1 ?_)
        refine bodyPost_ret (v := .tuple #[MsgM.v (msg0 0), .int .i64 (er : Int)]) (results_row_tmp rfl _ _ W.heap.size [.int .i64 0, .string ⟨#[]⟩, .int .i64 0, .int .i64 0, .string ⟨#[]⟩, .int .i64 0, .int .i64 0, .slice none 0 0, .int .i64 0, .int .i64 0, .slice none 0 0, .slice none 0 0, .int .i64 0, .int .i64 0, .slice none 0 0, .slice none 0 0, .slice none 0 0, .int .i64 0, .int .i64 0, .string ⟨#[]⟩, .slice none 0 0, .slice none 0 0, .int .i64 0, .string ⟨#[]⟩, .slice none 0 0] rfl (run_loadVar_row _ W.heap.size 39 39 _ (0, 0) _ hZF Tryz.underlying39 rfl infoMsg9) _ rfl) rfl ?_
        exact hfin _ rfl
    · have ho : Hid (out = finM m.d rest.data.toList) := by
        show _ = _
        rw [HF.out.2, List.drop_of_length_le (by omega)]
        rfl
      have hnum := few_num HF.out.1
      have hnx : ∀ ty, (Instr.next (.pointer (some ⟨rb + 1, 0, none⟩)) true ty).run Tryz.prog wr = _ := fun ty => Lib.run_next_end_at wr (rb + 1) own i ty hit hi
      have c0 := hR.cell (i := 0) rfl
      clear HF
      cases hE2 : rest.toList.isEmpty
      case false =>
        have ho6 : Hid (out = .error 6) := by
          show _ = _
          rw [ho.out]
          unfold finM
          rw [if_pos]
          intro e
          rw [ByteArray.toList_eq, e] at hE2
          cases hE2
        clear ho hR hM hf hnum
        have hZF := hZ.row [.int .i64 0, .string ⟨#[]⟩, .int .i64 0, .int .i64 0, .string ⟨#[]⟩, .int .i64 0, .int .i64 0, .slice none 0 0, .int .i64 0, .int .i64 0, .slice none 0 0, .slice none 0 0, .int .i64 0, .int .i64 0, .slice none 0 0, .slice none 0 0, .slice none 0 0, .int .i64 0, .int .i64 0, .string ⟨#[]⟩, .slice none 0 0, .slice none 0 0, .int .i64 0, .string ⟨#[]⟩, .slice none 0 0]
        have hBF := below_setRow hb (g := W.heap.size) (Nat.le_refl _) [.int .i64 0, .string ⟨#[]⟩, .int .i64 0, .int .i64 0, .string ⟨#[]⟩, .int .i64 0, .int .i64 0, .slice none 0 0, .int .i64 0, .int .i64 0, .slice none 0 0, .slice none 0 0, .int .i64 0, .int .i64 0, .slice none 0 0, .slice none 0 0, .slice none 0 0, .int .i64 0, .int .i64 0, .string ⟨#[]⟩, .slice none 0 0, .slice none 0 0, .int .i64 0, .string ⟨#[]⟩, .slice none 0 0].toArray
        have hfin : ∀ e, e = .returned (.tuple #[MsgM.v (msg0 0), .int .i64 (6 : Int)]) → GotMsg W out e _ := fun e h => gotMsg_err ho6.out (by decide) hBF e h
        go_wp2_with (refine wpList_store_row (by rfl) 39 _ _ (by rfl) W.heap.size [.int .i64 0, .string ⟨#[]⟩, .int .i64 0, .int .i64 0, .string ⟨#[]⟩, .int .i64 0, .int .i64 0, .slice none 0 0, .int .i64 0, .int .i64 0, .slice none 0 0, .slice none 0 0, .int .i64 0, .int .i64 0, .slice none 0 0, .slice none 0 0, .slice none 0 0, .int .i64 0, .int .i64 0, .string ⟨#[]⟩, .slice none 0 0, .slice none 0 0, .int .i64 0, .string ⟨#[]⟩, .slice none 0 0].toArray (by rfl) (by rfl) 39 _ hZ infoMsg9 (by rfl) hz1 ?_)
        refine bodyPost_ret (v := .tuple #[MsgM.v (msg0 0), .int .i64 (6 : Int)]) (results_row_tmp rfl _ _ W.heap.size [.int .i64 0, .string ⟨#[]⟩, .int .i64 0, .int .i64 0, .string ⟨#[]⟩, .int .i64 0, .int .i64 0, .slice none 0 0, .int .i64 0, .int .i64 0, .slice none 0 0, .slice none 0 0, .int .i64 0, .int .i64 0, .slice none 0 0, .slice none 0 0, .slice none 0 0, .int .i64 0, .int .i64 0, .string ⟨#[]⟩, .slice none 0 0, .slice none 0 0, .int .i64 0, .string ⟨#[]⟩, .slice none 0 0] rfl (run_loadVar_row _ W.heap.size 39 39 _ (0, 0) _ hZF Tryz.underlying39 rfl infoMsg9) _ rfl) rfl ?_
        exact hfin _ rfl
      have hr0 : rest.data.toList = [] := by rw [← ByteArray.toList_eq]; exact List.isEmpty_iff.1 hE2
      have ho2 : Hid (out = if chkM m.d ≠ 0 then .error (chkM m.d) else .ok m.d) := by
        show _ = _
        rw [ho.out]
        unfold finM
        rw [if_neg (fun h => h hr0)]
      clear ho hr0
      have cC := msgCheck_any m wr hM hnum
      have hlen : ∀ b, m.foot b → W.heap.size ≤ b := fun b hb => by have := hf b hb; omega
      have hfz : ∀ b, m.foot b → ¬ b = W.heap.size := fun b hb => by have := hf b hb; omega
      obtain ⟨er, her⟩ : ∃ n : Nat, n = chkM m.d := ⟨_, rfl⟩
      rw [← her] at cC ho2
      clear her hnum hf
      have hMM := hM
      obtain ⟨k, dg, vi, tg, ba, he, ce, bl, q⟩ := m
      replace hR : Arr wr rb 58 [.string rest, .int .i64 k, .string dg, .int .i64 vi, .int .i64 tg.who, .string tg.mac, .int .i64 ba.author, .int .i64 ba.number, .slice ba.ta ba.txs.length ba.tc, .int .i64 he.author, .int .i64 he.round, .slice he.ra he.refs.length he.rc, .slice he.pa he.parents.length he.pc, .int .i64 ce.hdr.author, .int .i64 ce.hdr.round, .slice ce.hdr.ra ce.hdr.refs.length ce.hdr.rc, .slice ce.hdr.pa ce.hdr.parents.length ce.hdr.pc, .slice ce.va ce.votes.length ce.vc, .int .i64 bl.view, .int .i64 bl.qc.view, .string bl.qc.block, .slice bl.qc.va bl.qc.votes.length bl.qc.vc, .slice bl.ca bl.certs.length bl.cc, .int .i64 q.view, .string q.block, .slice q.va q.votes.length q.vc] := hR
      have hrg : wr.rangeAt rb 1 [.int .i64 k, .string dg, .int .i64 vi, .int .i64 tg.who, .string tg.mac, .int .i64 ba.author, .int .i64 ba.number, .slice ba.ta ba.txs.length ba.tc, .int .i64 he.author, .int .i64 he.round, .slice he.ra he.refs.length he.rc, .slice he.pa he.parents.length he.pc, .int .i64 ce.hdr.author, .int .i64 ce.hdr.round, .slice ce.hdr.ra ce.hdr.refs.length ce.hdr.rc, .slice ce.hdr.pa ce.hdr.parents.length ce.hdr.pc, .slice ce.va ce.votes.length ce.vc, .int .i64 bl.view, .int .i64 bl.qc.view, .string bl.qc.block, .slice bl.qc.va bl.qc.votes.length bl.qc.vc, .slice bl.ca bl.certs.length bl.cc, .int .i64 q.view, .string q.block, .slice q.va q.votes.length q.vc] := fun j u hu => by
        rw [Nat.add_comm]
        exact hR.cell (i := j + 1) hu
      unfold MsgM.v MsgM.c at cC
      simp only at cC
      go_wp2_with (refine Go.wpList_load_mid (by rfl) 39 _ (by rfl) rb 1 (by rfl) [.int .i64 k, .string dg, .int .i64 vi, .int .i64 tg.who, .string tg.mac, .int .i64 ba.author, .int .i64 ba.number, .slice ba.ta ba.txs.length ba.tc, .int .i64 he.author, .int .i64 he.round, .slice he.ra he.refs.length he.rc, .slice he.pa he.parents.length he.pc, .int .i64 ce.hdr.author, .int .i64 ce.hdr.round, .slice ce.hdr.ra ce.hdr.refs.length ce.hdr.rc, .slice ce.hdr.pa ce.hdr.parents.length ce.hdr.pc, .slice ce.va ce.votes.length ce.vc, .int .i64 bl.view, .int .i64 bl.qc.view, .string bl.qc.block, .slice bl.qc.va bl.qc.votes.length bl.qc.vc, .slice bl.ca bl.certs.length bl.cc, .int .i64 q.view, .string q.block, .slice q.va q.votes.length q.vc] _ hrg Tryz.underlying39 (by rfl) infoMsg9 ?_)
      refine cC.mono ?_
      rintro e w5 ⟨rfl, hb5⟩
      have hZ5 := hZ.below hb5 hZ.lt
      have hR5 := hR.below hb5 hR.lt
      have hB5 := hb.trans (hb5.mono hb.size)
      have hM5 := hMM.below hb5
      clear cC hZ hR hb hb5 hM hMM c0 hnx hrg hit
      by_cases hz : er ≠ 0
      · have ho3 : Hid (out = .error er) := by
          show _ = _
          rw [ho2.out, if_pos hz]
        have hne : ((er : Int) != 0) = true := by rw [bne_iff_ne]; omega
        clear ho2 hR5 hM5
        have hZF := hZ5.row [.int .i64 0, .string ⟨#[]⟩, .int .i64 0, .int .i64 0, .string ⟨#[]⟩, .int .i64 0, .int .i64 0, .slice none 0 0, .int .i64 0, .int .i64 0, .slice none 0 0, .slice none 0 0, .int .i64 0, .int .i64 0, .slice none 0 0, .slice none 0 0, .slice none 0 0, .int .i64 0, .int .i64 0, .string ⟨#[]⟩, .slice none 0 0, .slice none 0 0, .int .i64 0, .string ⟨#[]⟩, .slice none 0 0]
        have hBF := below_setRow hB5 (g := W.heap.size) (Nat.le_refl _) [.int .i64 0, .string ⟨#[]⟩, .int .i64 0, .int .i64 0, .string ⟨#[]⟩, .int .i64 0, .int .i64 0, .slice none 0 0, .int .i64 0, .int .i64 0, .slice none 0 0, .slice none 0 0, .int .i64 0, .int .i64 0, .slice none 0 0, .slice none 0 0, .slice none 0 0, .int .i64 0, .int .i64 0, .string ⟨#[]⟩, .slice none 0 0, .slice none 0 0, .int .i64 0, .string ⟨#[]⟩, .slice none 0 0].toArray
        have hfin : ∀ e, e = .returned (.tuple #[MsgM.v (msg0 0), .int .i64 (er : Int)]) → GotMsg W out e _ := fun e h => gotMsg_err ho3.out hz hBF e h
        go_wp2_with (refine wpList_store_row (by rfl) 39 _ _ (by rfl) W.heap.size [.int .i64 0, .string ⟨#[]⟩, .int .i64 0, .int .i64 0, .string ⟨#[]⟩, .int .i64 0, .int .i64 0, .slice none 0 0, .int .i64 0, .int .i64 0, .slice none 0 0, .slice none 0 0, .int .i64 0, .int .i64 0, .slice none 0 0, .slice none 0 0, .slice none 0 0, .int .i64 0, .int .i64 0, .string ⟨#[]⟩, .slice none 0 0, .slice none 0 0, .int .i64 0, .string ⟨#[]⟩, .slice none 0 0].toArray (by rfl) (by rfl) 39 _ hZ5 infoMsg9 (by rfl) hz1 ?_)
        refine bodyPost_ret (v := .tuple #[MsgM.v (msg0 0), .int .i64 (er : Int)]) (results_row_tmp rfl _ _ W.heap.size [.int .i64 0, .string ⟨#[]⟩, .int .i64 0, .int .i64 0, .string ⟨#[]⟩, .int .i64 0, .int .i64 0, .slice none 0 0, .int .i64 0, .int .i64 0, .slice none 0 0, .slice none 0 0, .int .i64 0, .int .i64 0, .slice none 0 0, .slice none 0 0, .slice none 0 0, .int .i64 0, .int .i64 0, .string ⟨#[]⟩, .slice none 0 0, .slice none 0 0, .int .i64 0, .string ⟨#[]⟩, .slice none 0 0] rfl (run_loadVar_row _ W.heap.size 39 39 _ (0, 0) _ hZF Tryz.underlying39 rfl infoMsg9) _ rfl) rfl ?_
        exact hfin _ rfl
      replace hz : er = 0 := by omega
      subst hz
      have ho3 : Hid (out = .ok (MsgM.d ⟨k, dg, vi, tg, ba, he, ce, bl, q⟩)) := by
        show _ = _
        rw [ho2.out, if_neg (by simp)]
      have hrg : w5.rangeAt rb 1 [.int .i64 k, .string dg, .int .i64 vi, .int .i64 tg.who, .string tg.mac, .int .i64 ba.author, .int .i64 ba.number, .slice ba.ta ba.txs.length ba.tc, .int .i64 he.author, .int .i64 he.round, .slice he.ra he.refs.length he.rc, .slice he.pa he.parents.length he.pc, .int .i64 ce.hdr.author, .int .i64 ce.hdr.round, .slice ce.hdr.ra ce.hdr.refs.length ce.hdr.rc, .slice ce.hdr.pa ce.hdr.parents.length ce.hdr.pc, .slice ce.va ce.votes.length ce.vc, .int .i64 bl.view, .int .i64 bl.qc.view, .string bl.qc.block, .slice bl.qc.va bl.qc.votes.length bl.qc.vc, .slice bl.ca bl.certs.length bl.cc, .int .i64 q.view, .string q.block, .slice q.va q.votes.length q.vc] := fun j u hu => by
        rw [Nat.add_comm]
        exact hR5.cell (i := j + 1) hu
      have hx1 : (List.toArray (α := Value) [.int .i64 k, .string dg, .int .i64 vi, .int .i64 tg.who, .string tg.mac, .int .i64 ba.author, .int .i64 ba.number, .slice ba.ta ba.txs.length ba.tc, .int .i64 he.author, .int .i64 he.round, .slice he.ra he.refs.length he.rc, .slice he.pa he.parents.length he.pc, .int .i64 ce.hdr.author, .int .i64 ce.hdr.round, .slice ce.hdr.ra ce.hdr.refs.length ce.hdr.rc, .slice ce.hdr.pa ce.hdr.parents.length ce.hdr.pc, .slice ce.va ce.votes.length ce.vc, .int .i64 bl.view, .int .i64 bl.qc.view, .string bl.qc.block, .slice bl.qc.va bl.qc.votes.length bl.qc.vc, .slice bl.ca bl.certs.length bl.cc, .int .i64 q.view, .string q.block, .slice q.va q.votes.length q.vc]).all (·.oneCell') = true := Array.all_eq_true_iff_forall_mem.2 (fun v hv => msgK.one ⟨k, dg, vi, tg, ba, he, ce, bl, q⟩ v (List.mem_toArray.1 hv))
      have kr := kept_row w5 W.heap.size [.int .i64 k, .string dg, .int .i64 vi, .int .i64 tg.who, .string tg.mac, .int .i64 ba.author, .int .i64 ba.number, .slice ba.ta ba.txs.length ba.tc, .int .i64 he.author, .int .i64 he.round, .slice he.ra he.refs.length he.rc, .slice he.pa he.parents.length he.pc, .int .i64 ce.hdr.author, .int .i64 ce.hdr.round, .slice ce.hdr.ra ce.hdr.refs.length ce.hdr.rc, .slice ce.hdr.pa ce.hdr.parents.length ce.hdr.pc, .slice ce.va ce.votes.length ce.vc, .int .i64 bl.view, .int .i64 bl.qc.view, .string bl.qc.block, .slice bl.qc.va bl.qc.votes.length bl.qc.vc, .slice bl.ca bl.certs.length bl.cc, .int .i64 q.view, .string q.block, .slice q.va q.votes.length q.vc].toArray
      have hZF := hZ5.row [.int .i64 k, .string dg, .int .i64 vi, .int .i64 tg.who, .string tg.mac, .int .i64 ba.author, .int .i64 ba.number, .slice ba.ta ba.txs.length ba.tc, .int .i64 he.author, .int .i64 he.round, .slice he.ra he.refs.length he.rc, .slice he.pa he.parents.length he.pc, .int .i64 ce.hdr.author, .int .i64 ce.hdr.round, .slice ce.hdr.ra ce.hdr.refs.length ce.hdr.rc, .slice ce.hdr.pa ce.hdr.parents.length ce.hdr.pc, .slice ce.va ce.votes.length ce.vc, .int .i64 bl.view, .int .i64 bl.qc.view, .string bl.qc.block, .slice bl.qc.va bl.qc.votes.length bl.qc.vc, .slice bl.ca bl.certs.length bl.cc, .int .i64 q.view, .string q.block, .slice q.va q.votes.length q.vc]
      have hBF := below_setRow hB5 (g := W.heap.size) (Nat.le_refl _) [.int .i64 k, .string dg, .int .i64 vi, .int .i64 tg.who, .string tg.mac, .int .i64 ba.author, .int .i64 ba.number, .slice ba.ta ba.txs.length ba.tc, .int .i64 he.author, .int .i64 he.round, .slice he.ra he.refs.length he.rc, .slice he.pa he.parents.length he.pc, .int .i64 ce.hdr.author, .int .i64 ce.hdr.round, .slice ce.hdr.ra ce.hdr.refs.length ce.hdr.rc, .slice ce.hdr.pa ce.hdr.parents.length ce.hdr.pc, .slice ce.va ce.votes.length ce.vc, .int .i64 bl.view, .int .i64 bl.qc.view, .string bl.qc.block, .slice bl.qc.va bl.qc.votes.length bl.qc.vc, .slice bl.ca bl.certs.length bl.cc, .int .i64 q.view, .string q.block, .slice q.va q.votes.length q.vc].toArray
      have hMF := hM5.keptM kr hfz
      have hfin : ∀ e, e = .returned (.tuple #[MsgM.v ⟨k, dg, vi, tg, ba, he, ce, bl, q⟩, .int .i64 0]) → GotMsg W out e _ := fun e h => ⟨⟨k, dg, vi, tg, ba, he, ce, bl, q⟩, 0, h, hMF, Or.inl ⟨rfl, ho3.out⟩, hlen, hBF⟩
      clear ho2 kr hBF hMF hM5 hB5 hR5
      go_wp2_with (first | refine Go.wpList_load_mid (by rfl) 39 _ (by rfl) rb 1 (by rfl) [.int .i64 k, .string dg, .int .i64 vi, .int .i64 tg.who, .string tg.mac, .int .i64 ba.author, .int .i64 ba.number, .slice ba.ta ba.txs.length ba.tc, .int .i64 he.author, .int .i64 he.round, .slice he.ra he.refs.length he.rc, .slice he.pa he.parents.length he.pc, .int .i64 ce.hdr.author, .int .i64 ce.hdr.round, .slice ce.hdr.ra ce.hdr.refs.length ce.hdr.rc, .slice ce.hdr.pa ce.hdr.parents.length ce.hdr.pc, .slice ce.va ce.votes.length ce.vc, .int .i64 bl.view, .int .i64 bl.qc.view, .string bl.qc.block, .slice bl.qc.va bl.qc.votes.length bl.qc.vc, .slice bl.ca bl.certs.length bl.cc, .int .i64 q.view, .string q.block, .slice q.va q.votes.length q.vc] _ hrg Tryz.underlying39 (by rfl) infoMsg9 ?_ | refine wpList_store_row (by rfl) 39 _ _ (by rfl) W.heap.size [.int .i64 k, .string dg, .int .i64 vi, .int .i64 tg.who, .string tg.mac, .int .i64 ba.author, .int .i64 ba.number, .slice ba.ta ba.txs.length ba.tc, .int .i64 he.author, .int .i64 he.round, .slice he.ra he.refs.length he.rc, .slice he.pa he.parents.length he.pc, .int .i64 ce.hdr.author, .int .i64 ce.hdr.round, .slice ce.hdr.ra ce.hdr.refs.length ce.hdr.rc, .slice ce.hdr.pa ce.hdr.parents.length ce.hdr.pc, .slice ce.va ce.votes.length ce.vc, .int .i64 bl.view, .int .i64 bl.qc.view, .string bl.qc.block, .slice bl.qc.va bl.qc.votes.length bl.qc.vc, .slice bl.ca bl.certs.length bl.cc, .int .i64 q.view, .string q.block, .slice q.va q.votes.length q.vc].toArray (by rfl) (by rfl) 39 _ hZ5 infoMsg9 (by rfl) hx1 ?_)
      refine bodyPost_ret (v := .tuple #[MsgM.v ⟨k, dg, vi, tg, ba, he, ce, bl, q⟩, .int .i64 0]) (results_row_tmp rfl _ _ W.heap.size [.int .i64 k, .string dg, .int .i64 vi, .int .i64 tg.who, .string tg.mac, .int .i64 ba.author, .int .i64 ba.number, .slice ba.ta ba.txs.length ba.tc, .int .i64 he.author, .int .i64 he.round, .slice he.ra he.refs.length he.rc, .slice he.pa he.parents.length he.pc, .int .i64 ce.hdr.author, .int .i64 ce.hdr.round, .slice ce.hdr.ra ce.hdr.refs.length ce.hdr.rc, .slice ce.hdr.pa ce.hdr.parents.length ce.hdr.pc, .slice ce.va ce.votes.length ce.vc, .int .i64 bl.view, .int .i64 bl.qc.view, .string bl.qc.block, .slice bl.qc.va bl.qc.votes.length bl.qc.vc, .slice bl.ca bl.certs.length bl.cc, .int .i64 q.view, .string q.block, .slice q.va q.votes.length q.vc] rfl (run_loadVar_row _ W.heap.size 39 39 _ (0, 0) _ hZF Tryz.underlying39 rfl infoMsg9) _ rfl) rfl ?_
      exact hfin _ rfl
end Go.Proofs.YtmngiekobmhpaaaGreat

/- What tusklaw08.Great does: it answers yes or no; nothing old in memory is turned. -/
namespace Go.Proofs.YtmngiekobmhpaaaGreat
open Go.RowKit
set_option linter.unusedVariables false

/-- Yes or no. -/
def YesNo (e : Ending) : Prop := ∃ g : Bool, e = .returned (.bool g)

set_option maxRecDepth 100000 in
set_option maxHeartbeats 2000000 in
theorem greatBlk_any (x : BlkM) (w : World) (hA : x.At w) (hc : x.certs.length ≤ maxLen) :
    Calls Tryz.prog 29 #[x.v] w fun e w' => YesNo e ∧ Below w.heap.size w w' := by
  obtain ⟨v, q, ca, l, cc⟩ := x
  have hX := Arr.new w 37 [.int .i64 v, .int .i64 q.view, .string q.block, .slice q.va q.votes.length q.vc, .slice ca l.length cc]
  have hB := belowNew w (.cells #[.int .i64 v, .int .i64 q.view, .string q.block, .slice q.va q.votes.length q.vc, .slice ca l.length cc] 37)
  have hR : RowAt strK _ ca l := (hA.below hB).certs
  have hc' : l.length ≤ maxLen := hc
  unfold maxLen at hc'
  unfold BlkM.v
  simp only
  have x2 := hX.cell (i := 2) rfl
  have x3 := hX.cell (i := 3) rfl
  have x4 := hX.cell (i := 4) rfl
  clear hA hc
  go_enter Tryz.func29, Tryz.ntmps29
  go_wp2
  obtain ⟨w1, hw1⟩ : ∃ q', w.alloc (.cells #[.int .i64 v, .int .i64 q.view, .string q.block, .slice q.va q.votes.length q.vc, .slice ca l.length cc] 37) = q' := ⟨_, rfl⟩
  rw [hw1] at hX hB hR x2 x3 x4 ⊢
  go_loopw [3, 4] (fun v3 v4 wr => ∃ (k : Nat) (z : Int), k ≤ l.length ∧ v4 = .int .i64 (k : Int) ∧ v3 = .int .i64 z ∧ wr = w1) (fun _ v _ => l.length - (intOf v).toNat)
  case atStart => exact ⟨0, _, Nat.zero_le _, rfl, rfl, rfl⟩
  case round =>
    obtain ⟨k, z, hk, rfl, rfl, rfl⟩ := hrel
    by_cases hlt : k < l.length
    · obtain ⟨m, hm⟩ : ∃ m, l[k]? = some m := ⟨l[k], List.getElem?_eq_getElem hlt⟩
      obtain ⟨b, off, rfl, hbl, hcc⟩ := hR.cell k m hm
      have c0 := hcc 0 (.string m) rfl
      have e0 : off + k * strK.n + 0 = off + k := by show off + k * 1 + 0 = _; omega
      rw [e0] at c0
      clear hcc hm e0
      go_wp2
      go_roundw
      case rel => exact ⟨k + 1, _, by omega, by go_num, rfl, trivial⟩
      case measure => simp [intOf]; omega
    · go_wp2
      go_ret
      exact ⟨⟨_, rfl⟩, hB⟩
end Go.Proofs.YtmngiekobmhpaaaGreat

/- What tusklaw09.Great does: it answers yes or no; nothing old in memory is turned. -/
namespace Go.Proofs.YtmngiekobmhpaaaGreat
open Go.RowKit
set_option linter.unusedVariables false

/-- Yes, or no, and then some lists are short. -/
def GotGreat (x : MsgM) (e : Ending) : Prop := ∃ g : Bool, e = .returned (.bool g) ∧ (g = false → x.bat.txs.length ≤ 50 ∧ x.cert.votes.length ≤ 50 ∧ x.qc.votes.length ≤ 50)

/-- A message's lists are no longer than lists are. -/
structure MsgM.Max (x : MsgM) : Prop where
  txs : x.bat.txs.length ≤ maxLen
  refs : x.hdr.refs.length ≤ maxLen
  ps : x.hdr.parents.length ≤ maxLen
  crefs : x.cert.hdr.refs.length ≤ maxLen
  cps : x.cert.hdr.parents.length ≤ maxLen
  certs : x.blk.certs.length ≤ maxLen

set_option maxRecDepth 100000 in
set_option maxHeartbeats 4000000 in
theorem great9_any (x : MsgM) (w : World) (hA : x.At w) (hm : x.Max) :
    Calls Tryz.prog 10 #[x.v] w fun e w' => GotGreat x e ∧ Below w.heap.size w w' := by
  obtain ⟨ki, dg, vi, tg, ba, he, ce, bl, q⟩ := x
  have hX1 := Arr.new w 39 [.int .i64 ki, .string dg, .int .i64 vi, .int .i64 tg.who, .string tg.mac, .int .i64 ba.author, .int .i64 ba.number, .slice ba.ta ba.txs.length ba.tc, .int .i64 he.author, .int .i64 he.round, .slice he.ra he.refs.length he.rc, .slice he.pa he.parents.length he.pc, .int .i64 ce.hdr.author, .int .i64 ce.hdr.round, .slice ce.hdr.ra ce.hdr.refs.length ce.hdr.rc, .slice ce.hdr.pa ce.hdr.parents.length ce.hdr.pc, .slice ce.va ce.votes.length ce.vc, .int .i64 bl.view, .int .i64 bl.qc.view, .string bl.qc.block, .slice bl.qc.va bl.qc.votes.length bl.qc.vc, .slice bl.ca bl.certs.length bl.cc, .int .i64 q.view, .string q.block, .slice q.va q.votes.length q.vc]
  have hB1 := belowNew w (.cells #[.int .i64 ki, .string dg, .int .i64 vi, .int .i64 tg.who, .string tg.mac, .int .i64 ba.author, .int .i64 ba.number, .slice ba.ta ba.txs.length ba.tc, .int .i64 he.author, .int .i64 he.round, .slice he.ra he.refs.length he.rc, .slice he.pa he.parents.length he.pc, .int .i64 ce.hdr.author, .int .i64 ce.hdr.round, .slice ce.hdr.ra ce.hdr.refs.length ce.hdr.rc, .slice ce.hdr.pa ce.hdr.parents.length ce.hdr.pc, .slice ce.va ce.votes.length ce.vc, .int .i64 bl.view, .int .i64 bl.qc.view, .string bl.qc.block, .slice bl.qc.va bl.qc.votes.length bl.qc.vc, .slice bl.ca bl.certs.length bl.cc, .int .i64 q.view, .string q.block, .slice q.va q.votes.length q.vc] 39)
  have hA1 := hA.below hB1
  have c1 := fun w1 h1 => great_any he w1 h1 hm.refs hm.ps
  have c2 := fun w1 h1 => great_any ce.hdr w1 h1 hm.crefs hm.cps
  have c3 := fun w1 h1 => greatBlk_any bl w1 h1 hm.certs
  unfold HdrM.v at c1 c2
  unfold BlkM.v at c3
  have yes : ∀ {w'}, Below w.heap.size w w' → ∀ e, e = .returned (.bool true) → GotGreat ⟨ki, dg, vi, tg, ba, he, ce, bl, q⟩ e ∧ Below w.heap.size w w' := fun hb e he => ⟨⟨true, he, fun h => by cases h⟩, hb⟩
  unfold MsgM.v MsgM.c
  simp only
  clear hA hm
  have x7 := hX1.cell (i := 7) rfl
  have x8 := hX1.cell (i := 8) rfl
  have x9 := hX1.cell (i := 9) rfl
  have x10 := hX1.cell (i := 10) rfl
  have x11 := hX1.cell (i := 11) rfl
  obtain ⟨w1, hw1⟩ : ∃ q', w.alloc (.cells #[.int .i64 ki, .string dg, .int .i64 vi, .int .i64 tg.who, .string tg.mac, .int .i64 ba.author, .int .i64 ba.number, .slice ba.ta ba.txs.length ba.tc, .int .i64 he.author, .int .i64 he.round, .slice he.ra he.refs.length he.rc, .slice he.pa he.parents.length he.pc, .int .i64 ce.hdr.author, .int .i64 ce.hdr.round, .slice ce.hdr.ra ce.hdr.refs.length ce.hdr.rc, .slice ce.hdr.pa ce.hdr.parents.length ce.hdr.pc, .slice ce.va ce.votes.length ce.vc, .int .i64 bl.view, .int .i64 bl.qc.view, .string bl.qc.block, .slice bl.qc.va bl.qc.votes.length bl.qc.vc, .slice bl.ca bl.certs.length bl.cc, .int .i64 q.view, .string q.block, .slice q.va q.votes.length q.vc] 39) = q' := ⟨_, rfl⟩
  replace hX1 : Arr w1 w.heap.size 39 [.int .i64 ki, .string dg, .int .i64 vi, .int .i64 tg.who, .string tg.mac, .int .i64 ba.author, .int .i64 ba.number, .slice ba.ta ba.txs.length ba.tc, .int .i64 he.author, .int .i64 he.round, .slice he.ra he.refs.length he.rc, .slice he.pa he.parents.length he.pc, .int .i64 ce.hdr.author, .int .i64 ce.hdr.round, .slice ce.hdr.ra ce.hdr.refs.length ce.hdr.rc, .slice ce.hdr.pa ce.hdr.parents.length ce.hdr.pc, .slice ce.va ce.votes.length ce.vc, .int .i64 bl.view, .int .i64 bl.qc.view, .string bl.qc.block, .slice bl.qc.va bl.qc.votes.length bl.qc.vc, .slice bl.ca bl.certs.length bl.cc, .int .i64 q.view, .string q.block, .slice q.va q.votes.length q.vc] := by rw [← hw1]; exact hX1
  rw [hw1] at hB1 hA1 x7 x8 x9 x10 x11
  go_enter Tryz.func10, Tryz.ntmps10
  by_cases h1 : 50 < ba.txs.length
  · go_wp2
    go_ret
    exact yes hB1 _ rfl
  go_wp2_with fail
  refine (c1 _ hA1.hdr).mono ?_
  rintro e w2 ⟨⟨g1, rfl⟩, hb1⟩
  have hX2 := hX1.below hb1 hX1.lt
  have hA2 := hA1.below hb1
  have hB2 := hB1.trans (hb1.mono hB1.size)
  clear c1 hX1 hA1 hB1 hb1 x7 x8 x9 x10 x11 hw1
  have x12 := hX2.cell (i := 12) rfl
  have x13 := hX2.cell (i := 13) rfl
  have x14 := hX2.cell (i := 14) rfl
  have x15 := hX2.cell (i := 15) rfl
  cases g1
  case true =>
    go_wp2
    go_ret
    exact yes hB2 _ rfl
  go_wp2_with fail
  refine (c2 _ hA2.cert.hdr).mono ?_
  rintro e w3 ⟨⟨g2, rfl⟩, hb2⟩
  have hX3 := hX2.below hb2 hX2.lt
  have hA3 := hA2.below hb2
  have hB3 := hB2.trans (hb2.mono hB2.size)
  clear c2 hX2 hA2 hB2 hb2 x12 x13 x14 x15
  have x16 := hX3.cell (i := 16) rfl
  have x17 := hX3.cell (i := 17) rfl
  have x18 := hX3.cell (i := 18) rfl
  have x19 := hX3.cell (i := 19) rfl
  have x20 := hX3.cell (i := 20) rfl
  have x21 := hX3.cell (i := 21) rfl
  cases g2
  case true =>
    go_wp2
    go_ret
    exact yes hB3 _ rfl
  by_cases h2 : 50 < ce.votes.length
  · go_wp2
    go_ret
    exact yes hB3 _ rfl
  go_wp2_with fail
  refine (c3 _ hA3.blk).mono ?_
  rintro e w4 ⟨⟨g3, rfl⟩, hb3⟩
  have hX4 := hX3.below hb3 hX3.lt
  have hB4 := hB3.trans (hb3.mono hB3.size)
  clear c3 hX3 hA3 hB3 hb3 x16 x17 x18 x19 x20 x21
  have x1 := hX4.cell (i := 1) rfl
  have x23 := hX4.cell (i := 23) rfl
  have x24 := hX4.cell (i := 24) rfl
  cases g3
  case true =>
    go_wp2
    go_ret
    exact yes hB4 _ rfl
  by_cases h3 : 50 < q.votes.length
  · go_wp2
    go_ret
    exact yes hB4 _ rfl
  go_wp2
  go_ret
  exact ⟨⟨_, rfl, fun _ => ⟨Nat.le_of_not_lt h1, Nat.le_of_not_lt h2, Nat.le_of_not_lt h3⟩⟩, hB4⟩
end Go.Proofs.YtmngiekobmhpaaaGreat

/- How a header that came in is opened; its sizes. -/
namespace Go.Proofs.YtmngiekobmhpaaaGreat
open Go.ChangeShapes Go.WideShapes Go.ChangeAt Go.RowKit Go.Joins Go.Deep
set_option linter.unusedVariables false

/-- How a Ref reads. -/
def RefQ {H : Type} (d : DataW H) (r : RefM) : Prop := ∃ y0 y1, d = .agg [y0, y1] ∧ StrQ y0 r.digest ∧ RowD TagQ y1 r.acks

theorem cellsRef6 : Tryz.prog.cellsOf 126 = 2 := by kernel_rfl
theorem cellsHdr6 : Tryz.prog.cellsOf 30 = 4 := by kernel_rfl
theorem cellsRefs6 : Tryz.prog.cellsOf 27 = 1 := by kernel_rfl
theorem bytesRef6 : Tryz.prog.bytesOf 126 = 40 := by kernel_rfl

set_option maxRecDepth 100000 in
theorem open_ref_cells {H : Type} {enc : TypeId × Value → H} {W : World} {fuel : Nat} {cs : List Value} {y : DataW H × List MemPlace}
    (hf : DataW.trod enc Tryz.prog W 0 (fun _ => true) true fuel 126 cs = some y) : ∃ r : RefM, cs = refK.c r ∧ refK.At W r ∧ RefQ y.1 r := by
  obtain ⟨xs, n, _, hx, hcl, hl, hg⟩ := DataW.trod_struct Tryz.underlying126 hf
  obtain ⟨c0, c1, rfl⟩ := list2x (hcl.trans cellsRef6)
  obtain ⟨y0, y1, rfl⟩ := list2x hl
  have g0 := hg 0 _ rfl
  have g1 := hg 1 _ rfl
  simp [cellsTags6, cellsStr6] at g0 g1
  obtain ⟨a0, e0, hy0, s0⟩ := DataW.trod_string Tryz.underlying9 g0
  obtain ⟨ao, len, cap, e1⟩ := slice_form Tryz.underlying31 g1
  simp at e0 e1
  subst e0 e1
  obtain ⟨l, rfl, l1, l2, l3, l4⟩ := open_tagsK g1
  refine ⟨⟨a0, l, ao, cap⟩, rfl, ⟨l1, l2⟩, y0.1, y1.1, ?_, ⟨by rw [hy0], s0⟩, l4⟩
  have := congrArg Prod.fst hx
  simpa using this

/-- How a header reads. -/
def HdrQ {H : Type} (d : DataW H) (x : HdrM) : Prop := ∃ y0 y1 y2 y3, d = .agg [y0, y1, y2, y3] ∧ RowD RefQ y2 x.refs ∧ RowD StrQ y3 x.parents

set_option maxRecDepth 100000 in
theorem open_hdr_cells {H : Type} {enc : TypeId × Value → H} {W : World} {fuel : Nat} {cs : List Value} {y : DataW H × List MemPlace}
    (hf : DataW.trod enc Tryz.prog W 0 (fun _ => true) true fuel 30 cs = some y) : ∃ x : HdrM, cs = hdrK.c x ∧ hdrK.At W x ∧ HdrQ y.1 x := by
  obtain ⟨xs, n, _, hx, hcl, hl, hg⟩ := DataW.trod_struct Tryz.underlying30 hf
  obtain ⟨c0, c1, c2, c3, rfl⟩ := list4x (hcl.trans cellsHdr6)
  obtain ⟨y0, y1, y2, y3, rfl⟩ := list4x hl
  have g0 := hg 0 _ rfl
  have g1 := hg 1 _ rfl
  have g2 := hg 2 _ rfl
  have g3 := hg 3 _ rfl
  simp [cellsInt6, cellsRefs6, cellsStrs6] at g0 g1 g2 g3
  obtain ⟨a0, e0, _, _⟩ := DataW.trod_int Tryz.underlying3 g0
  obtain ⟨a1, e1, _, _⟩ := DataW.trod_int Tryz.underlying3 g1
  obtain ⟨ra, rlen, rc, e2⟩ := slice_form Tryz.underlying27 g2
  obtain ⟨pa, plen, pc, e3⟩ := slice_form Tryz.underlying28 g3
  simp at e0 e1 e2 e3
  subst e0 e1 e2 e3
  obtain ⟨rs, rfl, r1, r2, r3, r4⟩ := open_row refK RefQ Tryz.underlying27 cellsRef6 open_ref_cells g2
  obtain ⟨ps, rfl, p1, p2, p3, p4⟩ := open_row strK StrQ Tryz.underlying28 cellsStr6 open_str_cells g3
  refine ⟨⟨a0, a1, ra, rs, rc, pa, ps, pc⟩, rfl, ⟨r1, r2, p1, p2⟩, y0.1, y1.1, y2.1, y3.1, ?_, r4, p4⟩
  have := congrArg Prod.fst hx
  simpa using this

set_option maxRecDepth 100000 in
theorem open_hdr {H : Type} {enc : TypeId × Value → H} {W : World} {r : Reach} {b0 : Nat} {v : Value} {d : DataW H} {p : List MemPlace} (hv : Value.okWide Tryz.prog W r b0 30 v)
    (h : DataW.Trod enc Tryz.prog W 0 (fun _ => true) true 30 v d p) : ∃ x : HdrM, v = x.v ∧ x.At W ∧ HdrQ d x := by
  obtain ⟨cs, rfl, hsz⟩ := okWide_struct Tryz.underlying30 hv
  obtain ⟨fuel, hf⟩ := h
  have hc : (Value.agg cs).cells.toList = cs.toList := by simp [Value.cells]
  obtain ⟨x, e, hx, hq⟩ := open_hdr_cells hf
  refine ⟨x, ?_, hx, hq⟩
  have e' : cs.toList = x.c := by rw [← hc]; exact e
  have : cs = x.c.toArray := by rw [← e']
  rw [this]
  rfl

set_option maxRecDepth 100000 in
theorem ref_acks_fit {H : Type} {y : DataW H} {r : RefM} (h : RefQ y r) (hw : ∀ n ∈ y.weights Tryz.prog 126, n ≤ reachBytes) : r.acks.length * 24 ≤ 140737488351232 := by
  obtain ⟨y0, y1, rfl, _, h1⟩ := h
  have := (h1.fit Tryz.underlying31 (fun n hn => hw n (by
    rw [DataW.weights, Tryz.underlying126]
    exact DataW.weights_mem_each (ts := [9, 31]) (j := 1) rfl rfl n hn))).1
  rw [bytesTag6] at this
  simpa [reachBytes] using this

set_option maxRecDepth 100000 in
theorem hdr_fit {H : Type} {d : DataW H} {x : HdrM} (h : HdrQ d x) (hw : ∀ n ∈ d.weights Tryz.prog 30, n ≤ reachBytes) : x.Lens := by
  obtain ⟨y0, y1, y2, y3, rfl, h2, h3⟩ := h
  obtain ⟨f1, f2⟩ := h2.fit Tryz.underlying27 (fun n hn => hw n (by
    rw [DataW.weights, Tryz.underlying30]
    exact DataW.weights_mem_each (ts := [3, 3, 27, 28]) (j := 2) rfl rfl n hn))
  obtain ⟨g1, _⟩ := h3.fit Tryz.underlying28 (fun n hn => hw n (by
    rw [DataW.weights, Tryz.underlying30]
    exact DataW.weights_mem_each (ts := [3, 3, 27, 28]) (j := 3) rfl rfl n hn))
  rw [bytesRef6] at f1
  rw [bytesStr6] at g1
  refine ⟨by simpa [reachBytes] using f1, by simpa [reachBytes] using g1, fun r hr => ?_⟩
  obtain ⟨y, hy, hyw⟩ := f2 r hr
  exact ref_acks_fit hy hyw

/-- A header that came in: in sizes that a machine holds. -/
theorem hdr_sized {H : Type} {ts : List TypeId} {ds : List (DataW H)} (h : (DataW.weightsEach Tryz.prog ts ds).all (· ≤ reachBytes) = true) {j : Nat} {d : DataW H} {x : HdrM} (ht : ts[j]? = some 30) (hd : ds[j]? = some d) (hs : HdrQ d x) : x.Lens := hdr_fit hs (weights_of h ht hd)
end Go.Proofs.YtmngiekobmhpaaaGreat
