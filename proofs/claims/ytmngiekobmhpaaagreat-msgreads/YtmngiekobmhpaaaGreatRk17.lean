/- Texts as one: MsgRefField, RefTxSame, RefBatSame, RefHdrSame, CertSame, RefBlkSame. -/
import Derived.Test.YtmngiekobmhpaaaGreatRk13
import Derived.Test.YtmngiekobmhpaaaGreatRk15
import Derived.Test.YtmngiekobmhpaaaGreatRk16
import Derived.Deep.MidRow
import Derived.Test.YtmngiekobmhpaaaGreatRk04
import Derived.Test.YtmngiekobmhpaaaGreatRk06
import Derived.Deep.RegionHeld3
import Derived.Test.YtmngiekobmhpaaaGreatRk07
/- What tuskref09.field does, letter by letter. -/
namespace Go.Proofs.YtmngiekobmhpaaaGreat
open Go.RowKit
set_option linter.unusedVariables false

theorem rhdr_got (s : ByteArray) (W : World) (hs : s.size ≤ maxLen) : Calls Tryz.prog 67 #[.string s] W fun e w' => GotX hdrK HdrM.v HdrM.d W (decH s.data.toList) e w' :=
  (refHdrDecode_any s W hs).mono fun _ _ ⟨x, er, h1, h2, h3, h4, h5⟩ => ⟨x, er, h1, h2, h3.imp id (fun h => ⟨h.1, h.2.1⟩), h4, h5⟩
theorem rcert_got (s : ByteArray) (W : World) (hs : s.size ≤ maxLen) : Calls Tryz.prog 68 #[.string s] W fun e w' => GotX certK CertM.v CertM.d W (decC s.data.toList) e w' :=
  (refCertDecode_any s W hs).mono fun _ _ ⟨x, er, h1, h2, h3, h4, h5⟩ => ⟨x, er, h1, h2, h3.imp id (fun h => ⟨h.1, h.2.1⟩), h4, h5⟩
theorem rblk_got (s : ByteArray) (W : World) (hs : s.size ≤ maxLen) : Calls Tryz.prog 69 #[.string s] W fun e w' => GotX blkK BlkM.v BlkM.d W (decK s.data.toList) e w' :=
  (refBlkDecode_any s W hs).mono fun _ _ ⟨x, er, h1, h2, h3, h4, h5⟩ => ⟨x, er, h1, h2, h3.imp id (fun h => ⟨h.1, h.2.1⟩), h4, h5⟩
theorem rqc_got (s : ByteArray) (W : World) (hs : s.size ≤ maxLen) : Calls Tryz.prog 70 #[.string s] W fun e w' => GotX qcK QcM.v QcM.d W (decQ s.data.toList) e w' :=
  (refDecodeQc_any s W hs).mono fun _ _ ⟨x, er, h1, h2, h3, h4, h5⟩ => ⟨x, er, h1, h2, h3.imp id (fun h => ⟨h.1, h.2.1⟩), h4, h5⟩
theorem rbat_got (s : ByteArray) (W : World) (hs : s.size ≤ maxLen) : Calls Tryz.prog 66 #[.string s] W fun e w' => GotX batK BatM.v BatM.d W (decBat s.data.toList) e w' :=
  (refBatDecode_new s W hs).mono fun _ _ h => h.gotX

/-- What the reference's field does. -/
def GotRF (rb mb N : Nat) (c : UInt8) (rest : ByteArray) (m : MsgM) (W : World) (e : Ending) (w : World) : Prop :=
  ∃ (er : Nat) (rest' : ByteArray) (m' : MsgM), e = .returned (.tuple #[]) ∧ Arr w rb 62 [.string rest', .int .i64 (er : Int)] ∧ Arr w mb 39 m'.c ∧ m'.At w ∧ (∀ b, m'.foot b → N ≤ b) ∧ rest'.size ≤ maxLen ∧ Kept (fun k => k = rb ∨ k = mb) W w ∧
    ((er = 0 ∧ stepF c m.d rest.data.toList = .ok (m'.d, rest'.data.toList)) ∨ (er ≠ 0 ∧ stepF c m.d rest.data.toList = .error er))

/-- Just one tag. -/
def one9 (p : MsgD) (ts : List TagD) (l : List UInt8) : Except Nat (MsgD × List UInt8) := match ts with
  | [t] => .ok ({ p with tag := t }, l)
  | _ => .error 12

theorem runX_or {α : Type} {E : Nat} {r : Except Nat α} {x y : Except Nat α} (h : runX 0 x = runX E y) : (E = 0 ∧ x = y) ∨ (E ≠ 0 ∧ x = .error E) := by
  by_cases hE : E = 0
  · subst hE
    exact Or.inl ⟨rfl, h⟩
  · rw [runX_err hE] at h
    exact Or.inr ⟨hE, h⟩

set_option maxRecDepth 100000 in
set_option maxHeartbeats 4000000 in
theorem refField_v (rb mb N : Nat) (hne : rb ≠ mb) (hN1 : rb < N) (hN3 : mb < N) (rest : ByteArray) (k : Int) (dg : ByteArray) (vi : Int) (tg : TagD) (ba : BatM) (he : HdrM) (ce : CertM) (bl : BlkM) (q : QcM) (w : World) (hN2 : N ≤ w.heap.size) (hR : Arr w rb 62 [.string rest, .int .i64 ((0 : Nat) : Int)]) (hS : Arr w mb 39 [.int .i64 k, .string dg, .int .i64 vi, .int .i64 tg.who, .string tg.mac, .int .i64 ba.author, .int .i64 ba.number, .slice ba.ta ba.txs.length ba.tc, .int .i64 he.author, .int .i64 he.round, .slice he.ra he.refs.length he.rc, .slice he.pa he.parents.length he.pc, .int .i64 ce.hdr.author, .int .i64 ce.hdr.round, .slice ce.hdr.ra ce.hdr.refs.length ce.hdr.rc, .slice ce.hdr.pa ce.hdr.parents.length ce.hdr.pc, .slice ce.va ce.votes.length ce.vc, .int .i64 bl.view, .int .i64 bl.qc.view, .string bl.qc.block, .slice bl.qc.va bl.qc.votes.length bl.qc.vc, .slice bl.ca bl.certs.length bl.cc, .int .i64 q.view, .string q.block, .slice q.va q.votes.length q.vc]) (hM : MsgM.At w ⟨k, dg, vi, tg, ba, he, ce, bl, q⟩) (hf : ∀ b, MsgM.foot ⟨k, dg, vi, tg, ba, he, ce, bl, q⟩ b → N ≤ b) (hs : rest.size ≤ maxLen) :
    Calls Tryz.prog 21 #[.pointer (some ⟨rb, 0, none⟩), .pointer (some ⟨mb, 0, none⟩), .int .u8 118] w fun e w' => GotRF rb mb N 118 rest ⟨k, dg, vi, tg, ba, he, ce, bl, q⟩ w e w' := by
  have cI := inInt_k rb w rest 0 hR hs
  go_enter Tryz.func21, Tryz.ntmps21
  go_wp2_with fail
  refine cI.mono ?_
  rintro e w2 ⟨v, E, r1, rfl, _, hrs, hst0, hR2, k2⟩
  have hst := runX_or (r := .error 0) (hst0 _ (fun v l => .ok ({ MsgM.d ⟨k, dg, vi, tg, ba, he, ce, bl, q⟩ with view := (v : Int) }, l)))
  have hS2 := hS.kept k2 (fun e => hne e.symm)
  have k2' : Kept (fun k => k = rb ∨ k = mb) w w2 := k2.mono (fun k _ h => Or.inl h)
  have hst2 : (E = 0 ∧ stepF 118 (MsgM.d ⟨k, dg, vi, tg, ba, he, ce, bl, q⟩) rest.data.toList = .ok ({ MsgM.d ⟨k, dg, vi, tg, ba, he, ce, bl, q⟩ with view := (v : Int) }, r1.data.toList)) ∨ (E ≠ 0 ∧ stepF 118 (MsgM.d ⟨k, dg, vi, tg, ba, he, ce, bl, q⟩) rest.data.toList = .error E) := by
    unfold stepF rdF
    simp only [if_true]
    exact hst
  clear cI hst0 hst hR hS
  have y2 := hS2.cell (i := 2) rfl
  have f2 := hS2.frozen 2
  have hSF := (hS2.set 2 (.int .i64 (v : Int)))
  have kF := (k2'.set (p := ⟨mb, 2, none⟩) (Or.inr rfl) (.int .i64 (v : Int)))
  replace hSF : Arr _ mb 39 [.int .i64 k, .string dg, .int .i64 (v : Int), .int .i64 tg.who, .string tg.mac, .int .i64 ba.author, .int .i64 ba.number, .slice ba.ta ba.txs.length ba.tc, .int .i64 he.author, .int .i64 he.round, .slice he.ra he.refs.length he.rc, .slice he.pa he.parents.length he.pc, .int .i64 ce.hdr.author, .int .i64 ce.hdr.round, .slice ce.hdr.ra ce.hdr.refs.length ce.hdr.rc, .slice ce.hdr.pa ce.hdr.parents.length ce.hdr.pc, .slice ce.va ce.votes.length ce.vc, .int .i64 bl.view, .int .i64 bl.qc.view, .string bl.qc.block, .slice bl.qc.va bl.qc.votes.length bl.qc.vc, .slice bl.ca bl.certs.length bl.cc, .int .i64 q.view, .string q.block, .slice q.va q.votes.length q.vc] := hSF
  have hRF := (hR2.other (p := ⟨mb, 2, none⟩) hne (.int .i64 (v : Int)))
  have hM1 := hM.keptM kF (fun b hb e => by have := hf b hb; omega)
  have hfin : ∀ e, e = .returned (.tuple #[]) → GotRF rb mb N 118 rest ⟨k, dg, vi, tg, ba, he, ce, bl, q⟩ w e _ := fun e h => ⟨E, r1, ⟨k, dg, (v : Int), tg, ba, he, ce, bl, q⟩, h, hRF, hSF, ⟨hM1.bat, hM1.hdr, hM1.cert, hM1.blk, hM1.qc⟩, hf, hrs, kF, hst2⟩
  clear hRF hSF kF hM1 hst2 hM hf hrs hs k2 k2' hR2 hS2
  go_wp2
  go_end0
  exact hfin _ rfl

set_option maxRecDepth 100000 in
set_option maxHeartbeats 4000000 in
theorem refField_t (rb mb N : Nat) (hne : rb ≠ mb) (hN1 : rb < N) (hN3 : mb < N) (rest : ByteArray) (k : Int) (dg : ByteArray) (vi : Int) (tg : TagD) (ba : BatM) (he : HdrM) (ce : CertM) (bl : BlkM) (q : QcM) (w : World) (hN2 : N ≤ w.heap.size) (hR : Arr w rb 62 [.string rest, .int .i64 ((0 : Nat) : Int)]) (hS : Arr w mb 39 [.int .i64 k, .string dg, .int .i64 vi, .int .i64 tg.who, .string tg.mac, .int .i64 ba.author, .int .i64 ba.number, .slice ba.ta ba.txs.length ba.tc, .int .i64 he.author, .int .i64 he.round, .slice he.ra he.refs.length he.rc, .slice he.pa he.parents.length he.pc, .int .i64 ce.hdr.author, .int .i64 ce.hdr.round, .slice ce.hdr.ra ce.hdr.refs.length ce.hdr.rc, .slice ce.hdr.pa ce.hdr.parents.length ce.hdr.pc, .slice ce.va ce.votes.length ce.vc, .int .i64 bl.view, .int .i64 bl.qc.view, .string bl.qc.block, .slice bl.qc.va bl.qc.votes.length bl.qc.vc, .slice bl.ca bl.certs.length bl.cc, .int .i64 q.view, .string q.block, .slice q.va q.votes.length q.vc]) (hM : MsgM.At w ⟨k, dg, vi, tg, ba, he, ce, bl, q⟩) (hf : ∀ b, MsgM.foot ⟨k, dg, vi, tg, ba, he, ce, bl, q⟩ b → N ≤ b) (hs : rest.size ≤ maxLen) :
    Calls Tryz.prog 21 #[.pointer (some ⟨rb, 0, none⟩), .pointer (some ⟨mb, 0, none⟩), .int .u8 116] w fun e w' => GotRF rb mb N 116 rest ⟨k, dg, vi, tg, ba, he, ce, bl, q⟩ w e w' := by
  have cI := some_k rb w rest 0 hR hs
  go_enter Tryz.func21, Tryz.ntmps21
  go_wp2_with fail
  refine cI.mono ?_
  rintro e w2 ⟨ts, E, r1, ao, cap, rfl, hl7, hrs, hst0, hrow, _, hfoot, hR2, k2⟩
  have hst := runX_or (r := .error 0) (hst0 _ (fun ts l => one9 (MsgM.d ⟨k, dg, vi, tg, ba, he, ce, bl, q⟩) ts l))
  have hS2 := hS.kept k2 (fun e => hne e.symm)
  have k2' : Kept (fun k => k = rb ∨ k = mb) w w2 := k2.mono (fun k _ h => Or.inl h)
  have hst2 : (E = 0 ∧ stepF 116 (MsgM.d ⟨k, dg, vi, tg, ba, he, ce, bl, q⟩) rest.data.toList = one9 (MsgM.d ⟨k, dg, vi, tg, ba, he, ce, bl, q⟩) ts r1.data.toList) ∨ (E ≠ 0 ∧ stepF 116 (MsgM.d ⟨k, dg, vi, tg, ba, he, ce, bl, q⟩) rest.data.toList = .error E) := by
    unfold stepF rdF
    simp only [if_neg (by decide : ¬ (116 : UInt8) = 118), if_true]
    exact hst
  clear cI hst0 hst hR hS
  have r1c := hR2.cell (i := 1) rfl
  have rf1 := hR2.frozen 1
  have hM0 := hM.keptM k2' (fun b hb e => by have := hf b hb; omega)
  by_cases hE : E = 0
  · subst hE
    replace hst2 : stepF 116 (MsgM.d ⟨k, dg, vi, tg, ba, he, ce, bl, q⟩) rest.data.toList = one9 (MsgM.d ⟨k, dg, vi, tg, ba, he, ce, bl, q⟩) ts r1.data.toList := by
      rcases hst2 with h | h
      · exact h.2
      · exact absurd rfl h.1
    by_cases hl : ts.length = 1
    · obtain ⟨t, rfl⟩ : ∃ t, ts = [t] := List.length_eq_one_iff.1 hl
      obtain ⟨b, off, rfl, hbl, z0, z1⟩ := hrow.tag (i := 0) (t := t) rfl
      simp only [Nat.zero_mul, Nat.add_zero] at z0 z1
      have Hst : Hid _ := hst2
      clear hst2
      have y3 := hS2.cell (i := 3) rfl
      have f3 := hS2.frozen 3
      have y4 := hS2.cell (i := 4) rfl
      have f4 := hS2.frozen 4
      have hSF := ((hS2.set 3 (.int .i64 t.who)).set 4 (.string t.mac))
      have kF := ((k2'.set (p := ⟨mb, 3, none⟩) (Or.inr rfl) (.int .i64 t.who)).set (p := ⟨mb, 4, none⟩) (Or.inr rfl) (.string t.mac))
      replace hSF : Arr _ mb 39 [.int .i64 k, .string dg, .int .i64 vi, .int .i64 t.who, .string t.mac, .int .i64 ba.author, .int .i64 ba.number, .slice ba.ta ba.txs.length ba.tc, .int .i64 he.author, .int .i64 he.round, .slice he.ra he.refs.length he.rc, .slice he.pa he.parents.length he.pc, .int .i64 ce.hdr.author, .int .i64 ce.hdr.round, .slice ce.hdr.ra ce.hdr.refs.length ce.hdr.rc, .slice ce.hdr.pa ce.hdr.parents.length ce.hdr.pc, .slice ce.va ce.votes.length ce.vc, .int .i64 bl.view, .int .i64 bl.qc.view, .string bl.qc.block, .slice bl.qc.va bl.qc.votes.length bl.qc.vc, .slice bl.ca bl.certs.length bl.cc, .int .i64 q.view, .string q.block, .slice q.va q.votes.length q.vc] := hSF
      have hRF := ((hR2.other (p := ⟨mb, 3, none⟩) hne (.int .i64 t.who)).other (p := ⟨mb, 4, none⟩) hne (.string t.mac))
      have hM1 := hM.keptM kF (fun b hb e => by have := hf b hb; omega)
      have hfin : ∀ e, e = .returned (.tuple #[]) → GotRF rb mb N 116 rest ⟨k, dg, vi, tg, ba, he, ce, bl, q⟩ w e _ := fun e h => ⟨0, r1, ⟨k, dg, vi, t, ba, he, ce, bl, q⟩, h, hRF, hSF, ⟨hM1.bat, hM1.hdr, hM1.cert, hM1.blk, hM1.qc⟩, hf, hrs, kF, Or.inl ⟨rfl, Hst.out⟩⟩
      clear hRF hSF kF hM1 Hst hM hM0 hf hrs hs k2 k2' hR2 hS2 hrow hfoot hl hl7
      go_wp2
      go_end0
      exact hfin _ rfl
    · have hl' : ((ts.length : Int) != 1) = true := by rw [bne_iff_ne]; omega
      have Hst : Hid (stepF 116 (MsgM.d ⟨k, dg, vi, tg, ba, he, ce, bl, q⟩) rest.data.toList = .error 12) := by
        show _ = _
        rw [hst2]
        rcases ts with _ | ⟨t, _ | ⟨t2, r⟩⟩
        · rfl
        · exact absurd rfl hl
        · rfl
      have hRF := hR2.set 1 (.int .i64 12)
      have kF := k2'.set (p := ⟨rb, 1, none⟩) (Or.inl rfl) (.int .i64 12)
      have hSF := hS2.other (p := ⟨rb, 1, none⟩) (fun e => hne e.symm) (.int .i64 12)
      have hc1 := hRF.cell (i := 1) rfl
      have hM1 := hM.keptM kF (fun b hb e => by have := hf b hb; omega)
      have hfin : ∀ e, e = .returned (.tuple #[]) → GotRF rb mb N 116 rest ⟨k, dg, vi, tg, ba, he, ce, bl, q⟩ w e _ := fun e h => ⟨12, r1, ⟨k, dg, vi, tg, ba, he, ce, bl, q⟩, h, hRF, hSF, hM1, hf, hrs, kF, Or.inr ⟨by decide, Hst.out⟩⟩
      clear hRF hSF kF hM1 Hst hM hM0 hf hrs hs k2 k2' hR2 hS2 hrow hfoot hl hl7 hst2
      go_wp2
      go_end0
      exact hfin _ rfl
  · have hE' : ((E : Int) == 0) = false := by rw [beq_eq_false_iff_ne]; omega
    have Hst : Hid (stepF 116 (MsgM.d ⟨k, dg, vi, tg, ba, he, ce, bl, q⟩) rest.data.toList = .error E) := by
      rcases hst2 with h | h
      · exact absurd h.1 hE
      · exact h.2
    have hfin : ∀ e, e = .returned (.tuple #[]) → GotRF rb mb N 116 rest ⟨k, dg, vi, tg, ba, he, ce, bl, q⟩ w e w2 := fun e h => ⟨E, r1, ⟨k, dg, vi, tg, ba, he, ce, bl, q⟩, h, hR2, hS2, hM0, hf, hrs, k2', Or.inr ⟨hE, Hst.out⟩⟩
    clear Hst hM hM0 hf hrs hs k2 k2' hR2 hS2 hrow hfoot hl7 hst2 hE
    go_wp2
    go_end0
    exact hfin _ rfl

set_option maxRecDepth 100000 in
set_option maxHeartbeats 4000000 in
theorem refField_d (rb mb N : Nat) (hne : rb ≠ mb) (hN1 : rb < N) (hN3 : mb < N) (rest : ByteArray) (k : Int) (dg : ByteArray) (vi : Int) (tg : TagD) (ba : BatM) (he : HdrM) (ce : CertM) (bl : BlkM) (q : QcM) (w : World) (hN2 : N ≤ w.heap.size) (hR : Arr w rb 62 [.string rest, .int .i64 ((0 : Nat) : Int)]) (hS : Arr w mb 39 [.int .i64 k, .string dg, .int .i64 vi, .int .i64 tg.who, .string tg.mac, .int .i64 ba.author, .int .i64 ba.number, .slice ba.ta ba.txs.length ba.tc, .int .i64 he.author, .int .i64 he.round, .slice he.ra he.refs.length he.rc, .slice he.pa he.parents.length he.pc, .int .i64 ce.hdr.author, .int .i64 ce.hdr.round, .slice ce.hdr.ra ce.hdr.refs.length ce.hdr.rc, .slice ce.hdr.pa ce.hdr.parents.length ce.hdr.pc, .slice ce.va ce.votes.length ce.vc, .int .i64 bl.view, .int .i64 bl.qc.view, .string bl.qc.block, .slice bl.qc.va bl.qc.votes.length bl.qc.vc, .slice bl.ca bl.certs.length bl.cc, .int .i64 q.view, .string q.block, .slice q.va q.votes.length q.vc]) (hM : MsgM.At w ⟨k, dg, vi, tg, ba, he, ce, bl, q⟩) (hf : ∀ b, MsgM.foot ⟨k, dg, vi, tg, ba, he, ce, bl, q⟩ b → N ≤ b) (hs : rest.size ≤ maxLen) :
    Calls Tryz.prog 21 #[.pointer (some ⟨rb, 0, none⟩), .pointer (some ⟨mb, 0, none⟩), .int .u8 100] w fun e w' => GotRF rb mb N 100 rest ⟨k, dg, vi, tg, ba, he, ce, bl, q⟩ w e w' := by
  have cI := inText_k rb w rest 0 hR hs
  go_enter Tryz.func21, Tryz.ntmps21
  go_wp2_with fail
  refine cI.mono ?_
  rintro e w2 ⟨t, E, r1, rfl, htl, hrs, hst0, hR2, k2⟩
  have hst := runX_or (r := .error 0) (hst0 _ (fun t l => .ok ({ MsgM.d ⟨k, dg, vi, tg, ba, he, ce, bl, q⟩ with digest := ⟨t.toArray⟩ }, l)))
  have hS2 := hS.kept k2 (fun e => hne e.symm)
  have k2' : Kept (fun k => k = rb ∨ k = mb) w w2 := k2.mono (fun k _ h => Or.inl h)
  have hst2 : (E = 0 ∧ stepF 100 (MsgM.d ⟨k, dg, vi, tg, ba, he, ce, bl, q⟩) rest.data.toList = (.ok ({ MsgM.d ⟨k, dg, vi, tg, ba, he, ce, bl, q⟩ with digest := ⟨t.toArray⟩ }, r1.data.toList))) ∨ (E ≠ 0 ∧ stepF 100 (MsgM.d ⟨k, dg, vi, tg, ba, he, ce, bl, q⟩) rest.data.toList = .error E) := by
    unfold stepF rdF
    simp only [if_neg (by decide : ¬ (100 : UInt8) = 118), if_neg (by decide : ¬ (100 : UInt8) = 116), if_true]
    exact hst
  clear cI hst0 hst hR hS
  have r1c := hR2.cell (i := 1) rfl
  have rf1 := hR2.frozen 1
  have hM0 := hM.keptM k2' (fun b hb e => by have := hf b hb; omega)
  by_cases hE : E ≠ 0
  · have hE' : ((E : Int) != 0) = true := by rw [bne_iff_ne]; omega
    have Hst : Hid (stepF 100 (MsgM.d ⟨k, dg, vi, tg, ba, he, ce, bl, q⟩) rest.data.toList = .error E) := by
      rcases hst2 with h | h
      · exact absurd h.1 hE
      · exact h.2
    have hfin : ∀ e, e = .returned (.tuple #[]) → GotRF rb mb N 100 rest ⟨k, dg, vi, tg, ba, he, ce, bl, q⟩ w e w2 := fun e h => ⟨E, r1, ⟨k, dg, vi, tg, ba, he, ce, bl, q⟩, h, hR2, hS2, hM0, hf, hrs, k2', Or.inr ⟨hE, Hst.out⟩⟩
    generalize (⟨t.toArray⟩ : ByteArray) = tt
    clear Hst hM hM0 hf hrs hs k2 k2' hR2 hS2 hst2 hE
    go_wp2
    go_end0
    exact hfin _ rfl
  replace hE : E = 0 := by omega
  subst hE
  have Hst : Hid (stepF 100 (MsgM.d ⟨k, dg, vi, tg, ba, he, ce, bl, q⟩) rest.data.toList = (.ok ({ MsgM.d ⟨k, dg, vi, tg, ba, he, ce, bl, q⟩ with digest := ⟨t.toArray⟩ }, r1.data.toList))) := by
    rcases hst2 with h | h
    · exact h.2
    · exact absurd rfl h.1
  clear hst2
  obtain ⟨tt, htt⟩ : ∃ o, o = (⟨t.toArray⟩ : ByteArray) := ⟨_, rfl⟩
  rw [← htt] at Hst ⊢
  clear htt
  have y1 := hS2.cell (i := 1) rfl
  have f1 := hS2.frozen 1
  have hSF := (hS2.set 1 (.string tt))
  have kF := (k2'.set (p := ⟨mb, 1, none⟩) (Or.inr rfl) (.string tt))
  replace hSF : Arr _ mb 39 [.int .i64 k, .string tt, .int .i64 vi, .int .i64 tg.who, .string tg.mac, .int .i64 ba.author, .int .i64 ba.number, .slice ba.ta ba.txs.length ba.tc, .int .i64 he.author, .int .i64 he.round, .slice he.ra he.refs.length he.rc, .slice he.pa he.parents.length he.pc, .int .i64 ce.hdr.author, .int .i64 ce.hdr.round, .slice ce.hdr.ra ce.hdr.refs.length ce.hdr.rc, .slice ce.hdr.pa ce.hdr.parents.length ce.hdr.pc, .slice ce.va ce.votes.length ce.vc, .int .i64 bl.view, .int .i64 bl.qc.view, .string bl.qc.block, .slice bl.qc.va bl.qc.votes.length bl.qc.vc, .slice bl.ca bl.certs.length bl.cc, .int .i64 q.view, .string q.block, .slice q.va q.votes.length q.vc] := hSF
  have hRF := (hR2.other (p := ⟨mb, 1, none⟩) hne (.string tt))
  have hM1 := hM.keptM kF (fun b hb e => by have := hf b hb; omega)
  have hfin : ∀ e, e = .returned (.tuple #[]) → GotRF rb mb N 100 rest ⟨k, dg, vi, tg, ba, he, ce, bl, q⟩ w e _ := fun e h => ⟨0, r1, ⟨k, tt, vi, tg, ba, he, ce, bl, q⟩, h, hRF, hSF, ⟨hM1.bat, hM1.hdr, hM1.cert, hM1.blk, hM1.qc⟩, hf, hrs, kF, Or.inl ⟨rfl, Hst.out⟩⟩
  clear hRF hSF kF hM1 Hst hM hM0 hf hrs hs k2 k2' hR2 hS2
  go_wp2
  go_end0
  exact hfin _ rfl

set_option maxRecDepth 100000 in
set_option maxHeartbeats 4000000 in
theorem refField_b (rb mb N : Nat) (hne : rb ≠ mb) (hN1 : rb < N) (hN3 : mb < N) (rest : ByteArray) (k : Int) (dg : ByteArray) (vi : Int) (tg : TagD) (ba : BatM) (he : HdrM) (ce : CertM) (bl : BlkM) (q : QcM) (w : World) (hN2 : N ≤ w.heap.size) (hR : Arr w rb 62 [.string rest, .int .i64 ((0 : Nat) : Int)]) (hS : Arr w mb 39 [.int .i64 k, .string dg, .int .i64 vi, .int .i64 tg.who, .string tg.mac, .int .i64 ba.author, .int .i64 ba.number, .slice ba.ta ba.txs.length ba.tc, .int .i64 he.author, .int .i64 he.round, .slice he.ra he.refs.length he.rc, .slice he.pa he.parents.length he.pc, .int .i64 ce.hdr.author, .int .i64 ce.hdr.round, .slice ce.hdr.ra ce.hdr.refs.length ce.hdr.rc, .slice ce.hdr.pa ce.hdr.parents.length ce.hdr.pc, .slice ce.va ce.votes.length ce.vc, .int .i64 bl.view, .int .i64 bl.qc.view, .string bl.qc.block, .slice bl.qc.va bl.qc.votes.length bl.qc.vc, .slice bl.ca bl.certs.length bl.cc, .int .i64 q.view, .string q.block, .slice q.va q.votes.length q.vc]) (hM : MsgM.At w ⟨k, dg, vi, tg, ba, he, ce, bl, q⟩) (hf : ∀ b, MsgM.foot ⟨k, dg, vi, tg, ba, he, ce, bl, q⟩ b → N ≤ b) (hs : rest.size ≤ maxLen) :
    Calls Tryz.prog 21 #[.pointer (some ⟨rb, 0, none⟩), .pointer (some ⟨mb, 0, none⟩), .int .u8 98] w fun e w' => GotRF rb mb N 98 rest ⟨k, dg, vi, tg, ba, he, ce, bl, q⟩ w e w' := by
  have cI := inText_k rb w rest 0 hR hs
  go_enter Tryz.func21, Tryz.ntmps21
  go_wp2_with fail
  refine cI.mono ?_
  rintro e w2 ⟨t, E, r1, rfl, htl, hrs, hst0, hR2, k2⟩
  have hst := runX_or (r := .error 0) (hst0 _ (fun t l => match decBat t with
      | .error e => .error e
      | .ok b => .ok ({ MsgM.d ⟨k, dg, vi, tg, ba, he, ce, bl, q⟩ with batch := b }, l)))
  have hS2 := hS.kept k2 (fun e => hne e.symm)
  have k2' : Kept (fun k => k = rb ∨ k = mb) w w2 := k2.mono (fun k _ h => Or.inl h)
  have hst2 : (E = 0 ∧ stepF 98 (MsgM.d ⟨k, dg, vi, tg, ba, he, ce, bl, q⟩) rest.data.toList = (match decBat t with
      | .error e => .error e
      | .ok b => .ok ({ MsgM.d ⟨k, dg, vi, tg, ba, he, ce, bl, q⟩ with batch := b }, r1.data.toList))) ∨ (E ≠ 0 ∧ stepF 98 (MsgM.d ⟨k, dg, vi, tg, ba, he, ce, bl, q⟩) rest.data.toList = .error E) := by
    unfold stepF rdF
    simp only [if_neg (by decide : ¬ (98 : UInt8) = 118), if_neg (by decide : ¬ (98 : UInt8) = 116), if_neg (by decide : ¬ (98 : UInt8) = 100), if_true]
    exact hst
  clear cI hst0 hst hR hS
  have r1c := hR2.cell (i := 1) rfl
  have rf1 := hR2.frozen 1
  have hM0 := hM.keptM k2' (fun b hb e => by have := hf b hb; omega)
  by_cases hE : E ≠ 0
  · have hE' : ((E : Int) != 0) = true := by rw [bne_iff_ne]; omega
    have Hst : Hid (stepF 98 (MsgM.d ⟨k, dg, vi, tg, ba, he, ce, bl, q⟩) rest.data.toList = .error E) := by
      rcases hst2 with h | h
      · exact absurd h.1 hE
      · exact h.2
    have hfin : ∀ e, e = .returned (.tuple #[]) → GotRF rb mb N 98 rest ⟨k, dg, vi, tg, ba, he, ce, bl, q⟩ w e w2 := fun e h => ⟨E, r1, ⟨k, dg, vi, tg, ba, he, ce, bl, q⟩, h, hR2, hS2, hM0, hf, hrs, k2', Or.inr ⟨hE, Hst.out⟩⟩
    generalize (⟨t.toArray⟩ : ByteArray) = tt
    clear Hst hM hM0 hf hrs hs k2 k2' hR2 hS2 hst2 hE
    go_wp2
    go_end0
    exact hfin _ rfl
  replace hE : E = 0 := by omega
  subst hE
  have Hst : Hid (stepF 98 (MsgM.d ⟨k, dg, vi, tg, ba, he, ce, bl, q⟩) rest.data.toList = (match decBat t with
      | .error e => .error e
      | .ok b => .ok ({ MsgM.d ⟨k, dg, vi, tg, ba, he, ce, bl, q⟩ with batch := b }, r1.data.toList))) := by
    rcases hst2 with h | h
    · exact h.2
    · exact absurd rfl h.1
  clear hst2
  have cD := rbat_got ⟨t.toArray⟩ w2 (by rw [size_mk]; unfold maxLen; omega)
  replace cD : Calls Tryz.prog 66 #[.string ⟨t.toArray⟩] w2 fun e w' => GotX batK BatM.v BatM.d w2 (decBat t) e w' := cD
  obtain ⟨out, hout⟩ : ∃ o, o = decBat t := ⟨_, rfl⟩
  rw [← hout] at cD Hst
  clear hout
  generalize (⟨t.toArray⟩ : ByteArray) = tt at cD ⊢
  go_wp2_with fail
  refine cD.mono ?_
  rintro e w3 ⟨x, er, rfl, hx, hres, hfx, hb3⟩
  unfold BatM.v
  have hR3 := hR2.below hb3 hR2.lt
  have hS3 := hS2.below hb3 hS2.lt
  have k3 := k2'.trans (Kept.of_below hb3)
  have hrl := hR3.lt
  have hsl := hS3.lt
  have hN0 := Arr.new w3 26 [.int .i64 0, .int .i64 0, .slice none 0 0]
  have hbn := belowNew w3 (.cells [.int .i64 0, .int .i64 0, .slice none 0 0].toArray 26)
  have h1 : (List.toArray (α := Value) [.int .i64 x.author, .int .i64 x.number, .slice x.ta x.txs.length x.tc]).all (·.oneCell') = true := Array.all_eq_true_iff_forall_mem.2 (fun v hv => batK.one x v (List.mem_toArray.1 hv))
  have hNew := hN0.row [.int .i64 x.author, .int .i64 x.number, .slice x.ta x.txs.length x.tc]
  have hbS := below_setRow hbn (g := w3.heap.size) (Nat.le_refl _) [.int .i64 x.author, .int .i64 x.number, .slice x.ta x.txs.length x.tc].toArray
  have hR4 := hR3.below hbS hR3.lt
  have hS4 := hS3.below hbS hS3.lt
  have k4 := k3.trans (Kept.of_below hbS)
  have hx4 := batK.keep hx (fun b hb => hbS.block b (batK.lt hx hb))
  obtain ⟨w4, hw4⟩ : ∃ q', World.setRow (w3.alloc (.cells [.int .i64 0, .int .i64 0, .slice none 0 0].toArray 26)) w3.heap.size [.int .i64 x.author, .int .i64 x.number, .slice x.ta x.txs.length x.tc].toArray = q' := ⟨_, rfl⟩
  rw [hw4] at hNew hR4 hS4 k4 hx4
  clear hbn hbS hR3 hS3 k3 hx cD
  have hth : w4.there mb 5 3 := fun j hj => by
    have hj2 : j = 0 ∨ j = 1 ∨ j = 2 := by omega
    rcases hj2 with rfl | rfl | rfl
    · exact ⟨by rw [hS4.cell (i := 5) rfl]; rfl, hS4.frozen _⟩
    · exact ⟨by rw [hS4.cell (i := 6) rfl]; rfl, hS4.frozen _⟩
    · exact ⟨by rw [hS4.cell (i := 7) rfl]; rfl, hS4.frozen _⟩
  obtain ⟨w5, hw5⟩ : ∃ q', w4.setCells mb 5 [.int .i64 x.author, .int .i64 x.number, .slice x.ta x.txs.length x.tc] = q' := ⟨_, rfl⟩
  have hSF : Arr w5 mb 39 [.int .i64 k, .string dg, .int .i64 vi, .int .i64 tg.who, .string tg.mac, .int .i64 x.author, .int .i64 x.number, .slice x.ta x.txs.length x.tc, .int .i64 he.author, .int .i64 he.round, .slice he.ra he.refs.length he.rc, .slice he.pa he.parents.length he.pc, .int .i64 ce.hdr.author, .int .i64 ce.hdr.round, .slice ce.hdr.ra ce.hdr.refs.length ce.hdr.rc, .slice ce.hdr.pa ce.hdr.parents.length ce.hdr.pc, .slice ce.va ce.votes.length ce.vc, .int .i64 bl.view, .int .i64 bl.qc.view, .string bl.qc.block, .slice bl.qc.va bl.qc.votes.length bl.qc.vc, .slice bl.ca bl.certs.length bl.cc, .int .i64 q.view, .string q.block, .slice q.va q.votes.length q.vc] := by
    rw [← hw5]
    exact (((hS4.set 5 (.int .i64 x.author)).set 6 (.int .i64 x.number)).set 7 (.slice x.ta x.txs.length x.tc))
  have hRF0 : Arr w5 rb 62 [.string r1, .int .i64 ((0 : Nat) : Int)] := by
    rw [← hw5]
    exact (((hR4.other (p := ⟨mb, 5, none⟩) hne (.int .i64 x.author)).other (p := ⟨mb, 6, none⟩) hne (.int .i64 x.number)).other (p := ⟨mb, 7, none⟩) hne (.slice x.ta x.txs.length x.tc))
  have kF : Kept (fun k => k = rb ∨ k = mb) w w5 := by
    rw [← hw5]
    exact (((k4.set (p := ⟨mb, 5, none⟩) (Or.inr rfl) (.int .i64 x.author)).set (p := ⟨mb, 6, none⟩) (Or.inr rfl) (.int .i64 x.number)).set (p := ⟨mb, 7, none⟩) (Or.inr rfl) (.slice x.ta x.txs.length x.tc))
  have hxF0 : batK.At w5 x := by
    rw [← hw5]
    exact Kind.keptX batK hx4 ((((Kept.refl (fun k => k = rb ∨ k = mb) w4).set (p := ⟨mb, 5, none⟩) (Or.inr rfl) (.int .i64 x.author)).set (p := ⟨mb, 6, none⟩) (Or.inr rfl) (.int .i64 x.number)).set (p := ⟨mb, 7, none⟩) (Or.inr rfl) (.slice x.ta x.txs.length x.tc)) (fun b hb e => by have := hfx b hb; have := k2.size; omega)
  have hc1 := hRF0.cell (i := 1) rfl
  have hcf := hRF0.frozen 1
  have hRF := hRF0.set 1 (.int .i64 (er : Int))
  have hSF2 := hSF.other (p := ⟨rb, 1, none⟩) (fun e => hne e.symm) (.int .i64 (er : Int))
  have kF2 := kF.set (p := ⟨rb, 1, none⟩) (Or.inl rfl) (.int .i64 (er : Int))
  have hxF := Kind.keptX batK hxF0 (Kept.setCell _ ⟨rb, 1, none⟩ (.int .i64 (er : Int))) (fun b hb e => by have := hfx b hb; have e' : b = rb := e; have := k2.size; omega)
  have hM1 := hM.keptM kF2 (fun b hb e => by have := hf b hb; omega)
  have hf2 : ∀ b, MsgM.foot ⟨k, dg, vi, tg, x, he, ce, bl, q⟩ b → N ≤ b := by
    intro b hb
    rcases hb with hb | hb | hb | hb | hb
    · exact Nat.le_trans hN2 (Nat.le_trans k2.size (hfx b hb))
    · exact hf b (Or.inr (Or.inl hb))
    · exact hf b (Or.inr (Or.inr (Or.inl hb)))
    · exact hf b (Or.inr (Or.inr (Or.inr (Or.inl hb))))
    · exact hf b (Or.inr (Or.inr (Or.inr (Or.inr (hb)))))
  have hfin : ∀ e, e = .returned (.tuple #[]) → GotRF rb mb N 98 rest ⟨k, dg, vi, tg, ba, he, ce, bl, q⟩ w e (w5.setCell ⟨rb, 1, none⟩ (.int .i64 (er : Int))) := fun e h => ⟨er, r1, ⟨k, dg, vi, tg, x, he, ce, bl, q⟩, h, hRF, hSF2, ⟨hxF, hM1.hdr, hM1.cert, hM1.blk, hM1.qc⟩, hf2, hrs, kF2, by
    rcases hres with ⟨he, ho⟩ | ⟨he, ho⟩
    · refine Or.inl ⟨he, ?_⟩
      rw [Hst.out, ho]
      rfl
    · refine Or.inr ⟨he, ?_⟩
      rw [Hst.out, ho]⟩
  clear hRF hSF hSF2 kF kF2 hM1 Hst hM hM0 hf hf2 hrs hs k2 k2' hR2 hS2 hx4 hxF0 hxF hfx hres hR4 hS4 k4 hRF0
  go_wp2_with (first | refine wpList_load_row (by rfl) 26 _ (by rfl) w3.heap.size (by rfl) 26 _ (0, 0) _ hNew Tryz.underlying26 (by rfl) infoBat ?_ | refine wpList_store_row (by rfl) 26 _ _ (by rfl) w3.heap.size [.int .i64 x.author, .int .i64 x.number, .slice x.ta x.txs.length x.tc].toArray (by rfl) (by rfl) 26 _ hN0 infoBat (by rfl) h1 ?_ | refine Go.wpList_store_mid (by rfl) 26 _ _ (by rfl) mb 5 [.int .i64 x.author, .int .i64 x.number, .slice x.ta x.txs.length x.tc].toArray (by rfl) (by rfl) hth infoBat h1 ?_)
  go_end0
  exact hfin _ rfl

set_option maxRecDepth 100000 in
set_option maxHeartbeats 4000000 in
theorem refField_h (rb mb N : Nat) (hne : rb ≠ mb) (hN1 : rb < N) (hN3 : mb < N) (rest : ByteArray) (k : Int) (dg : ByteArray) (vi : Int) (tg : TagD) (ba : BatM) (he : HdrM) (ce : CertM) (bl : BlkM) (q : QcM) (w : World) (hN2 : N ≤ w.heap.size) (hR : Arr w rb 62 [.string rest, .int .i64 ((0 : Nat) : Int)]) (hS : Arr w mb 39 [.int .i64 k, .string dg, .int .i64 vi, .int .i64 tg.who, .string tg.mac, .int .i64 ba.author, .int .i64 ba.number, .slice ba.ta ba.txs.length ba.tc, .int .i64 he.author, .int .i64 he.round, .slice he.ra he.refs.length he.rc, .slice he.pa he.parents.length he.pc, .int .i64 ce.hdr.author, .int .i64 ce.hdr.round, .slice ce.hdr.ra ce.hdr.refs.length ce.hdr.rc, .slice ce.hdr.pa ce.hdr.parents.length ce.hdr.pc, .slice ce.va ce.votes.length ce.vc, .int .i64 bl.view, .int .i64 bl.qc.view, .string bl.qc.block, .slice bl.qc.va bl.qc.votes.length bl.qc.vc, .slice bl.ca bl.certs.length bl.cc, .int .i64 q.view, .string q.block, .slice q.va q.votes.length q.vc]) (hM : MsgM.At w ⟨k, dg, vi, tg, ba, he, ce, bl, q⟩) (hf : ∀ b, MsgM.foot ⟨k, dg, vi, tg, ba, he, ce, bl, q⟩ b → N ≤ b) (hs : rest.size ≤ maxLen) :
    Calls Tryz.prog 21 #[.pointer (some ⟨rb, 0, none⟩), .pointer (some ⟨mb, 0, none⟩), .int .u8 104] w fun e w' => GotRF rb mb N 104 rest ⟨k, dg, vi, tg, ba, he, ce, bl, q⟩ w e w' := by
  have cI := inText_k rb w rest 0 hR hs
  go_enter Tryz.func21, Tryz.ntmps21
  go_wp2_with fail
  refine cI.mono ?_
  rintro e w2 ⟨t, E, r1, rfl, htl, hrs, hst0, hR2, k2⟩
  have hst := runX_or (r := .error 0) (hst0 _ (fun t l => match decH t with
      | .error e => .error e
      | .ok b => .ok ({ MsgM.d ⟨k, dg, vi, tg, ba, he, ce, bl, q⟩ with header := b }, l)))
  have hS2 := hS.kept k2 (fun e => hne e.symm)
  have k2' : Kept (fun k => k = rb ∨ k = mb) w w2 := k2.mono (fun k _ h => Or.inl h)
  have hst2 : (E = 0 ∧ stepF 104 (MsgM.d ⟨k, dg, vi, tg, ba, he, ce, bl, q⟩) rest.data.toList = (match decH t with
      | .error e => .error e
      | .ok b => .ok ({ MsgM.d ⟨k, dg, vi, tg, ba, he, ce, bl, q⟩ with header := b }, r1.data.toList))) ∨ (E ≠ 0 ∧ stepF 104 (MsgM.d ⟨k, dg, vi, tg, ba, he, ce, bl, q⟩) rest.data.toList = .error E) := by
    unfold stepF rdF
    simp only [if_neg (by decide : ¬ (104 : UInt8) = 118), if_neg (by decide : ¬ (104 : UInt8) = 116), if_neg (by decide : ¬ (104 : UInt8) = 100), if_neg (by decide : ¬ (104 : UInt8) = 98), if_true]
    exact hst
  clear cI hst0 hst hR hS
  have r1c := hR2.cell (i := 1) rfl
  have rf1 := hR2.frozen 1
  have hM0 := hM.keptM k2' (fun b hb e => by have := hf b hb; omega)
  by_cases hE : E ≠ 0
  · have hE' : ((E : Int) != 0) = true := by rw [bne_iff_ne]; omega
    have Hst : Hid (stepF 104 (MsgM.d ⟨k, dg, vi, tg, ba, he, ce, bl, q⟩) rest.data.toList = .error E) := by
      rcases hst2 with h | h
      · exact absurd h.1 hE
      · exact h.2
    have hfin : ∀ e, e = .returned (.tuple #[]) → GotRF rb mb N 104 rest ⟨k, dg, vi, tg, ba, he, ce, bl, q⟩ w e w2 := fun e h => ⟨E, r1, ⟨k, dg, vi, tg, ba, he, ce, bl, q⟩, h, hR2, hS2, hM0, hf, hrs, k2', Or.inr ⟨hE, Hst.out⟩⟩
    generalize (⟨t.toArray⟩ : ByteArray) = tt
    clear Hst hM hM0 hf hrs hs k2 k2' hR2 hS2 hst2 hE
    go_wp2
    go_end0
    exact hfin _ rfl
  replace hE : E = 0 := by omega
  subst hE
  have Hst : Hid (stepF 104 (MsgM.d ⟨k, dg, vi, tg, ba, he, ce, bl, q⟩) rest.data.toList = (match decH t with
      | .error e => .error e
      | .ok b => .ok ({ MsgM.d ⟨k, dg, vi, tg, ba, he, ce, bl, q⟩ with header := b }, r1.data.toList))) := by
    rcases hst2 with h | h
    · exact h.2
    · exact absurd rfl h.1
  clear hst2
  have cD := rhdr_got ⟨t.toArray⟩ w2 (by rw [size_mk]; unfold maxLen; omega)
  replace cD : Calls Tryz.prog 67 #[.string ⟨t.toArray⟩] w2 fun e w' => GotX hdrK HdrM.v HdrM.d w2 (decH t) e w' := cD
  obtain ⟨out, hout⟩ : ∃ o, o = decH t := ⟨_, rfl⟩
  rw [← hout] at cD Hst
  clear hout
  generalize (⟨t.toArray⟩ : ByteArray) = tt at cD ⊢
  go_wp2_with fail
  refine cD.mono ?_
  rintro e w3 ⟨x, er, rfl, hx, hres, hfx, hb3⟩
  unfold HdrM.v
  have hR3 := hR2.below hb3 hR2.lt
  have hS3 := hS2.below hb3 hS2.lt
  have k3 := k2'.trans (Kept.of_below hb3)
  have hrl := hR3.lt
  have hsl := hS3.lt
  have hN0 := Arr.new w3 30 [.int .i64 0, .int .i64 0, .slice none 0 0, .slice none 0 0]
  have hbn := belowNew w3 (.cells [.int .i64 0, .int .i64 0, .slice none 0 0, .slice none 0 0].toArray 30)
  have h1 : (List.toArray (α := Value) [.int .i64 x.author, .int .i64 x.round, .slice x.ra x.refs.length x.rc, .slice x.pa x.parents.length x.pc]).all (·.oneCell') = true := Array.all_eq_true_iff_forall_mem.2 (fun v hv => hdrK.one x v (List.mem_toArray.1 hv))
  have hNew := hN0.row [.int .i64 x.author, .int .i64 x.round, .slice x.ra x.refs.length x.rc, .slice x.pa x.parents.length x.pc]
  have hbS := below_setRow hbn (g := w3.heap.size) (Nat.le_refl _) [.int .i64 x.author, .int .i64 x.round, .slice x.ra x.refs.length x.rc, .slice x.pa x.parents.length x.pc].toArray
  have hR4 := hR3.below hbS hR3.lt
  have hS4 := hS3.below hbS hS3.lt
  have k4 := k3.trans (Kept.of_below hbS)
  have hx4 := hdrK.keep hx (fun b hb => hbS.block b (hdrK.lt hx hb))
  obtain ⟨w4, hw4⟩ : ∃ q', World.setRow (w3.alloc (.cells [.int .i64 0, .int .i64 0, .slice none 0 0, .slice none 0 0].toArray 30)) w3.heap.size [.int .i64 x.author, .int .i64 x.round, .slice x.ra x.refs.length x.rc, .slice x.pa x.parents.length x.pc].toArray = q' := ⟨_, rfl⟩
  rw [hw4] at hNew hR4 hS4 k4 hx4
  clear hbn hbS hR3 hS3 k3 hx cD
  have hth : w4.there mb 8 4 := fun j hj => by
    have hj2 : j = 0 ∨ j = 1 ∨ j = 2 ∨ j = 3 := by omega
    rcases hj2 with rfl | rfl | rfl | rfl
    · exact ⟨by rw [hS4.cell (i := 8) rfl]; rfl, hS4.frozen _⟩
    · exact ⟨by rw [hS4.cell (i := 9) rfl]; rfl, hS4.frozen _⟩
    · exact ⟨by rw [hS4.cell (i := 10) rfl]; rfl, hS4.frozen _⟩
    · exact ⟨by rw [hS4.cell (i := 11) rfl]; rfl, hS4.frozen _⟩
  obtain ⟨w5, hw5⟩ : ∃ q', w4.setCells mb 8 [.int .i64 x.author, .int .i64 x.round, .slice x.ra x.refs.length x.rc, .slice x.pa x.parents.length x.pc] = q' := ⟨_, rfl⟩
  have hSF : Arr w5 mb 39 [.int .i64 k, .string dg, .int .i64 vi, .int .i64 tg.who, .string tg.mac, .int .i64 ba.author, .int .i64 ba.number, .slice ba.ta ba.txs.length ba.tc, .int .i64 x.author, .int .i64 x.round, .slice x.ra x.refs.length x.rc, .slice x.pa x.parents.length x.pc, .int .i64 ce.hdr.author, .int .i64 ce.hdr.round, .slice ce.hdr.ra ce.hdr.refs.length ce.hdr.rc, .slice ce.hdr.pa ce.hdr.parents.length ce.hdr.pc, .slice ce.va ce.votes.length ce.vc, .int .i64 bl.view, .int .i64 bl.qc.view, .string bl.qc.block, .slice bl.qc.va bl.qc.votes.length bl.qc.vc, .slice bl.ca bl.certs.length bl.cc, .int .i64 q.view, .string q.block, .slice q.va q.votes.length q.vc] := by
    rw [← hw5]
    exact ((((hS4.set 8 (.int .i64 x.author)).set 9 (.int .i64 x.round)).set 10 (.slice x.ra x.refs.length x.rc)).set 11 (.slice x.pa x.parents.length x.pc))
  have hRF0 : Arr w5 rb 62 [.string r1, .int .i64 ((0 : Nat) : Int)] := by
    rw [← hw5]
    exact ((((hR4.other (p := ⟨mb, 8, none⟩) hne (.int .i64 x.author)).other (p := ⟨mb, 9, none⟩) hne (.int .i64 x.round)).other (p := ⟨mb, 10, none⟩) hne (.slice x.ra x.refs.length x.rc)).other (p := ⟨mb, 11, none⟩) hne (.slice x.pa x.parents.length x.pc))
  have kF : Kept (fun k => k = rb ∨ k = mb) w w5 := by
    rw [← hw5]
    exact ((((k4.set (p := ⟨mb, 8, none⟩) (Or.inr rfl) (.int .i64 x.author)).set (p := ⟨mb, 9, none⟩) (Or.inr rfl) (.int .i64 x.round)).set (p := ⟨mb, 10, none⟩) (Or.inr rfl) (.slice x.ra x.refs.length x.rc)).set (p := ⟨mb, 11, none⟩) (Or.inr rfl) (.slice x.pa x.parents.length x.pc))
  have hxF0 : hdrK.At w5 x := by
    rw [← hw5]
    exact Kind.keptX hdrK hx4 (((((Kept.refl (fun k => k = rb ∨ k = mb) w4).set (p := ⟨mb, 8, none⟩) (Or.inr rfl) (.int .i64 x.author)).set (p := ⟨mb, 9, none⟩) (Or.inr rfl) (.int .i64 x.round)).set (p := ⟨mb, 10, none⟩) (Or.inr rfl) (.slice x.ra x.refs.length x.rc)).set (p := ⟨mb, 11, none⟩) (Or.inr rfl) (.slice x.pa x.parents.length x.pc)) (fun b hb e => by have := hfx b hb; have := k2.size; omega)
  have hc1 := hRF0.cell (i := 1) rfl
  have hcf := hRF0.frozen 1
  have hRF := hRF0.set 1 (.int .i64 (er : Int))
  have hSF2 := hSF.other (p := ⟨rb, 1, none⟩) (fun e => hne e.symm) (.int .i64 (er : Int))
  have kF2 := kF.set (p := ⟨rb, 1, none⟩) (Or.inl rfl) (.int .i64 (er : Int))
  have hxF := Kind.keptX hdrK hxF0 (Kept.setCell _ ⟨rb, 1, none⟩ (.int .i64 (er : Int))) (fun b hb e => by have := hfx b hb; have e' : b = rb := e; have := k2.size; omega)
  have hM1 := hM.keptM kF2 (fun b hb e => by have := hf b hb; omega)
  have hf2 : ∀ b, MsgM.foot ⟨k, dg, vi, tg, ba, x, ce, bl, q⟩ b → N ≤ b := by
    intro b hb
    rcases hb with hb | hb | hb | hb | hb
    · exact hf b (Or.inl hb)
    · exact Nat.le_trans hN2 (Nat.le_trans k2.size (hfx b hb))
    · exact hf b (Or.inr (Or.inr (Or.inl hb)))
    · exact hf b (Or.inr (Or.inr (Or.inr (Or.inl hb))))
    · exact hf b (Or.inr (Or.inr (Or.inr (Or.inr (hb)))))
  have hfin : ∀ e, e = .returned (.tuple #[]) → GotRF rb mb N 104 rest ⟨k, dg, vi, tg, ba, he, ce, bl, q⟩ w e (w5.setCell ⟨rb, 1, none⟩ (.int .i64 (er : Int))) := fun e h => ⟨er, r1, ⟨k, dg, vi, tg, ba, x, ce, bl, q⟩, h, hRF, hSF2, ⟨hM1.bat, hxF, hM1.cert, hM1.blk, hM1.qc⟩, hf2, hrs, kF2, by
    rcases hres with ⟨he, ho⟩ | ⟨he, ho⟩
    · refine Or.inl ⟨he, ?_⟩
      rw [Hst.out, ho]
      rfl
    · refine Or.inr ⟨he, ?_⟩
      rw [Hst.out, ho]⟩
  clear hRF hSF hSF2 kF kF2 hM1 Hst hM hM0 hf hf2 hrs hs k2 k2' hR2 hS2 hx4 hxF0 hxF hfx hres hR4 hS4 k4 hRF0
  go_wp2_with (first | refine wpList_load_row (by rfl) 30 _ (by rfl) w3.heap.size (by rfl) 30 _ (0, 0) _ hNew Tryz.underlying30 (by rfl) infoHdr6 ?_ | refine wpList_store_row (by rfl) 30 _ _ (by rfl) w3.heap.size [.int .i64 x.author, .int .i64 x.round, .slice x.ra x.refs.length x.rc, .slice x.pa x.parents.length x.pc].toArray (by rfl) (by rfl) 30 _ hN0 infoHdr6 (by rfl) h1 ?_ | refine Go.wpList_store_mid (by rfl) 30 _ _ (by rfl) mb 8 [.int .i64 x.author, .int .i64 x.round, .slice x.ra x.refs.length x.rc, .slice x.pa x.parents.length x.pc].toArray (by rfl) (by rfl) hth infoHdr6 h1 ?_)
  go_end0
  exact hfin _ rfl

set_option maxRecDepth 100000 in
set_option maxHeartbeats 4000000 in
theorem refField_c (rb mb N : Nat) (hne : rb ≠ mb) (hN1 : rb < N) (hN3 : mb < N) (rest : ByteArray) (k : Int) (dg : ByteArray) (vi : Int) (tg : TagD) (ba : BatM) (he : HdrM) (ce : CertM) (bl : BlkM) (q : QcM) (w : World) (hN2 : N ≤ w.heap.size) (hR : Arr w rb 62 [.string rest, .int .i64 ((0 : Nat) : Int)]) (hS : Arr w mb 39 [.int .i64 k, .string dg, .int .i64 vi, .int .i64 tg.who, .string tg.mac, .int .i64 ba.author, .int .i64 ba.number, .slice ba.ta ba.txs.length ba.tc, .int .i64 he.author, .int .i64 he.round, .slice he.ra he.refs.length he.rc, .slice he.pa he.parents.length he.pc, .int .i64 ce.hdr.author, .int .i64 ce.hdr.round, .slice ce.hdr.ra ce.hdr.refs.length ce.hdr.rc, .slice ce.hdr.pa ce.hdr.parents.length ce.hdr.pc, .slice ce.va ce.votes.length ce.vc, .int .i64 bl.view, .int .i64 bl.qc.view, .string bl.qc.block, .slice bl.qc.va bl.qc.votes.length bl.qc.vc, .slice bl.ca bl.certs.length bl.cc, .int .i64 q.view, .string q.block, .slice q.va q.votes.length q.vc]) (hM : MsgM.At w ⟨k, dg, vi, tg, ba, he, ce, bl, q⟩) (hf : ∀ b, MsgM.foot ⟨k, dg, vi, tg, ba, he, ce, bl, q⟩ b → N ≤ b) (hs : rest.size ≤ maxLen) :
    Calls Tryz.prog 21 #[.pointer (some ⟨rb, 0, none⟩), .pointer (some ⟨mb, 0, none⟩), .int .u8 99] w fun e w' => GotRF rb mb N 99 rest ⟨k, dg, vi, tg, ba, he, ce, bl, q⟩ w e w' := by
  have cI := inText_k rb w rest 0 hR hs
  go_enter Tryz.func21, Tryz.ntmps21
  go_wp2_with fail
  refine cI.mono ?_
  rintro e w2 ⟨t, E, r1, rfl, htl, hrs, hst0, hR2, k2⟩
  have hst := runX_or (r := .error 0) (hst0 _ (fun t l => match decC t with
      | .error e => .error e
      | .ok b => .ok ({ MsgM.d ⟨k, dg, vi, tg, ba, he, ce, bl, q⟩ with cert := b }, l)))
  have hS2 := hS.kept k2 (fun e => hne e.symm)
  have k2' : Kept (fun k => k = rb ∨ k = mb) w w2 := k2.mono (fun k _ h => Or.inl h)
  have hst2 : (E = 0 ∧ stepF 99 (MsgM.d ⟨k, dg, vi, tg, ba, he, ce, bl, q⟩) rest.data.toList = (match decC t with
      | .error e => .error e
      | .ok b => .ok ({ MsgM.d ⟨k, dg, vi, tg, ba, he, ce, bl, q⟩ with cert := b }, r1.data.toList))) ∨ (E ≠ 0 ∧ stepF 99 (MsgM.d ⟨k, dg, vi, tg, ba, he, ce, bl, q⟩) rest.data.toList = .error E) := by
    unfold stepF rdF
    simp only [if_neg (by decide : ¬ (99 : UInt8) = 118), if_neg (by decide : ¬ (99 : UInt8) = 116), if_neg (by decide : ¬ (99 : UInt8) = 100), if_neg (by decide : ¬ (99 : UInt8) = 98), if_neg (by decide : ¬ (99 : UInt8) = 104), if_true]
    exact hst
  clear cI hst0 hst hR hS
  have r1c := hR2.cell (i := 1) rfl
  have rf1 := hR2.frozen 1
  have hM0 := hM.keptM k2' (fun b hb e => by have := hf b hb; omega)
  by_cases hE : E ≠ 0
  · have hE' : ((E : Int) != 0) = true := by rw [bne_iff_ne]; omega
    have Hst : Hid (stepF 99 (MsgM.d ⟨k, dg, vi, tg, ba, he, ce, bl, q⟩) rest.data.toList = .error E) := by
      rcases hst2 with h | h
      · exact absurd h.1 hE
      · exact h.2
    have hfin : ∀ e, e = .returned (.tuple #[]) → GotRF rb mb N 99 rest ⟨k, dg, vi, tg, ba, he, ce, bl, q⟩ w e w2 := fun e h => ⟨E, r1, ⟨k, dg, vi, tg, ba, he, ce, bl, q⟩, h, hR2, hS2, hM0, hf, hrs, k2', Or.inr ⟨hE, Hst.out⟩⟩
    generalize (⟨t.toArray⟩ : ByteArray) = tt
    clear Hst hM hM0 hf hrs hs k2 k2' hR2 hS2 hst2 hE
    go_wp2
    go_end0
    exact hfin _ rfl
  replace hE : E = 0 := by omega
  subst hE
  have Hst : Hid (stepF 99 (MsgM.d ⟨k, dg, vi, tg, ba, he, ce, bl, q⟩) rest.data.toList = (match decC t with
      | .error e => .error e
      | .ok b => .ok ({ MsgM.d ⟨k, dg, vi, tg, ba, he, ce, bl, q⟩ with cert := b }, r1.data.toList))) := by
    rcases hst2 with h | h
    · exact h.2
    · exact absurd rfl h.1
  clear hst2
  have cD := rcert_got ⟨t.toArray⟩ w2 (by rw [size_mk]; unfold maxLen; omega)
  replace cD : Calls Tryz.prog 68 #[.string ⟨t.toArray⟩] w2 fun e w' => GotX certK CertM.v CertM.d w2 (decC t) e w' := cD
  obtain ⟨out, hout⟩ : ∃ o, o = decC t := ⟨_, rfl⟩
  rw [← hout] at cD Hst
  clear hout
  generalize (⟨t.toArray⟩ : ByteArray) = tt at cD ⊢
  go_wp2_with fail
  refine cD.mono ?_
  rintro e w3 ⟨x, er, rfl, hx, hres, hfx, hb3⟩
  unfold CertM.v
  have hR3 := hR2.below hb3 hR2.lt
  have hS3 := hS2.below hb3 hS2.lt
  have k3 := k2'.trans (Kept.of_below hb3)
  have hrl := hR3.lt
  have hsl := hS3.lt
  have hN0 := Arr.new w3 33 [.int .i64 0, .int .i64 0, .slice none 0 0, .slice none 0 0, .slice none 0 0]
  have hbn := belowNew w3 (.cells [.int .i64 0, .int .i64 0, .slice none 0 0, .slice none 0 0, .slice none 0 0].toArray 33)
  have h1 : (List.toArray (α := Value) [.int .i64 x.hdr.author, .int .i64 x.hdr.round, .slice x.hdr.ra x.hdr.refs.length x.hdr.rc, .slice x.hdr.pa x.hdr.parents.length x.hdr.pc, .slice x.va x.votes.length x.vc]).all (·.oneCell') = true := Array.all_eq_true_iff_forall_mem.2 (fun v hv => certK.one x v (List.mem_toArray.1 hv))
  have hNew := hN0.row [.int .i64 x.hdr.author, .int .i64 x.hdr.round, .slice x.hdr.ra x.hdr.refs.length x.hdr.rc, .slice x.hdr.pa x.hdr.parents.length x.hdr.pc, .slice x.va x.votes.length x.vc]
  have hbS := below_setRow hbn (g := w3.heap.size) (Nat.le_refl _) [.int .i64 x.hdr.author, .int .i64 x.hdr.round, .slice x.hdr.ra x.hdr.refs.length x.hdr.rc, .slice x.hdr.pa x.hdr.parents.length x.hdr.pc, .slice x.va x.votes.length x.vc].toArray
  have hR4 := hR3.below hbS hR3.lt
  have hS4 := hS3.below hbS hS3.lt
  have k4 := k3.trans (Kept.of_below hbS)
  have hx4 := certK.keep hx (fun b hb => hbS.block b (certK.lt hx hb))
  obtain ⟨w4, hw4⟩ : ∃ q', World.setRow (w3.alloc (.cells [.int .i64 0, .int .i64 0, .slice none 0 0, .slice none 0 0, .slice none 0 0].toArray 33)) w3.heap.size [.int .i64 x.hdr.author, .int .i64 x.hdr.round, .slice x.hdr.ra x.hdr.refs.length x.hdr.rc, .slice x.hdr.pa x.hdr.parents.length x.hdr.pc, .slice x.va x.votes.length x.vc].toArray = q' := ⟨_, rfl⟩
  rw [hw4] at hNew hR4 hS4 k4 hx4
  clear hbn hbS hR3 hS3 k3 hx cD
  have hth : w4.there mb 12 5 := fun j hj => by
    have hj2 : j = 0 ∨ j = 1 ∨ j = 2 ∨ j = 3 ∨ j = 4 := by omega
    rcases hj2 with rfl | rfl | rfl | rfl | rfl
    · exact ⟨by rw [hS4.cell (i := 12) rfl]; rfl, hS4.frozen _⟩
    · exact ⟨by rw [hS4.cell (i := 13) rfl]; rfl, hS4.frozen _⟩
    · exact ⟨by rw [hS4.cell (i := 14) rfl]; rfl, hS4.frozen _⟩
    · exact ⟨by rw [hS4.cell (i := 15) rfl]; rfl, hS4.frozen _⟩
    · exact ⟨by rw [hS4.cell (i := 16) rfl]; rfl, hS4.frozen _⟩
  obtain ⟨w5, hw5⟩ : ∃ q', w4.setCells mb 12 [.int .i64 x.hdr.author, .int .i64 x.hdr.round, .slice x.hdr.ra x.hdr.refs.length x.hdr.rc, .slice x.hdr.pa x.hdr.parents.length x.hdr.pc, .slice x.va x.votes.length x.vc] = q' := ⟨_, rfl⟩
  have hSF : Arr w5 mb 39 [.int .i64 k, .string dg, .int .i64 vi, .int .i64 tg.who, .string tg.mac, .int .i64 ba.author, .int .i64 ba.number, .slice ba.ta ba.txs.length ba.tc, .int .i64 he.author, .int .i64 he.round, .slice he.ra he.refs.length he.rc, .slice he.pa he.parents.length he.pc, .int .i64 x.hdr.author, .int .i64 x.hdr.round, .slice x.hdr.ra x.hdr.refs.length x.hdr.rc, .slice x.hdr.pa x.hdr.parents.length x.hdr.pc, .slice x.va x.votes.length x.vc, .int .i64 bl.view, .int .i64 bl.qc.view, .string bl.qc.block, .slice bl.qc.va bl.qc.votes.length bl.qc.vc, .slice bl.ca bl.certs.length bl.cc, .int .i64 q.view, .string q.block, .slice q.va q.votes.length q.vc] := by
    rw [← hw5]
    exact (((((hS4.set 12 (.int .i64 x.hdr.author)).set 13 (.int .i64 x.hdr.round)).set 14 (.slice x.hdr.ra x.hdr.refs.length x.hdr.rc)).set 15 (.slice x.hdr.pa x.hdr.parents.length x.hdr.pc)).set 16 (.slice x.va x.votes.length x.vc))
  have hRF0 : Arr w5 rb 62 [.string r1, .int .i64 ((0 : Nat) : Int)] := by
    rw [← hw5]
    exact (((((hR4.other (p := ⟨mb, 12, none⟩) hne (.int .i64 x.hdr.author)).other (p := ⟨mb, 13, none⟩) hne (.int .i64 x.hdr.round)).other (p := ⟨mb, 14, none⟩) hne (.slice x.hdr.ra x.hdr.refs.length x.hdr.rc)).other (p := ⟨mb, 15, none⟩) hne (.slice x.hdr.pa x.hdr.parents.length x.hdr.pc)).other (p := ⟨mb, 16, none⟩) hne (.slice x.va x.votes.length x.vc))
  have kF : Kept (fun k => k = rb ∨ k = mb) w w5 := by
    rw [← hw5]
    exact (((((k4.set (p := ⟨mb, 12, none⟩) (Or.inr rfl) (.int .i64 x.hdr.author)).set (p := ⟨mb, 13, none⟩) (Or.inr rfl) (.int .i64 x.hdr.round)).set (p := ⟨mb, 14, none⟩) (Or.inr rfl) (.slice x.hdr.ra x.hdr.refs.length x.hdr.rc)).set (p := ⟨mb, 15, none⟩) (Or.inr rfl) (.slice x.hdr.pa x.hdr.parents.length x.hdr.pc)).set (p := ⟨mb, 16, none⟩) (Or.inr rfl) (.slice x.va x.votes.length x.vc))
  have hxF0 : certK.At w5 x := by
    rw [← hw5]
    exact Kind.keptX certK hx4 ((((((Kept.refl (fun k => k = rb ∨ k = mb) w4).set (p := ⟨mb, 12, none⟩) (Or.inr rfl) (.int .i64 x.hdr.author)).set (p := ⟨mb, 13, none⟩) (Or.inr rfl) (.int .i64 x.hdr.round)).set (p := ⟨mb, 14, none⟩) (Or.inr rfl) (.slice x.hdr.ra x.hdr.refs.length x.hdr.rc)).set (p := ⟨mb, 15, none⟩) (Or.inr rfl) (.slice x.hdr.pa x.hdr.parents.length x.hdr.pc)).set (p := ⟨mb, 16, none⟩) (Or.inr rfl) (.slice x.va x.votes.length x.vc)) (fun b hb e => by have := hfx b hb; have := k2.size; omega)
  have hc1 := hRF0.cell (i := 1) rfl
  have hcf := hRF0.frozen 1
  have hRF := hRF0.set 1 (.int .i64 (er : Int))
  have hSF2 := hSF.other (p := ⟨rb, 1, none⟩) (fun e => hne e.symm) (.int .i64 (er : Int))
  have kF2 := kF.set (p := ⟨rb, 1, none⟩) (Or.inl rfl) (.int .i64 (er : Int))
  have hxF := Kind.keptX certK hxF0 (Kept.setCell _ ⟨rb, 1, none⟩ (.int .i64 (er : Int))) (fun b hb e => by have := hfx b hb; have e' : b = rb := e; have := k2.size; omega)
  have hM1 := hM.keptM kF2 (fun b hb e => by have := hf b hb; omega)
  have hf2 : ∀ b, MsgM.foot ⟨k, dg, vi, tg, ba, he, x, bl, q⟩ b → N ≤ b := by
    intro b hb
    rcases hb with hb | hb | hb | hb | hb
    · exact hf b (Or.inl hb)
    · exact hf b (Or.inr (Or.inl hb))
    · exact Nat.le_trans hN2 (Nat.le_trans k2.size (hfx b hb))
    · exact hf b (Or.inr (Or.inr (Or.inr (Or.inl hb))))
    · exact hf b (Or.inr (Or.inr (Or.inr (Or.inr (hb)))))
  have hfin : ∀ e, e = .returned (.tuple #[]) → GotRF rb mb N 99 rest ⟨k, dg, vi, tg, ba, he, ce, bl, q⟩ w e (w5.setCell ⟨rb, 1, none⟩ (.int .i64 (er : Int))) := fun e h => ⟨er, r1, ⟨k, dg, vi, tg, ba, he, x, bl, q⟩, h, hRF, hSF2, ⟨hM1.bat, hM1.hdr, hxF, hM1.blk, hM1.qc⟩, hf2, hrs, kF2, by
    rcases hres with ⟨he, ho⟩ | ⟨he, ho⟩
    · refine Or.inl ⟨he, ?_⟩
      rw [Hst.out, ho]
      rfl
    · refine Or.inr ⟨he, ?_⟩
      rw [Hst.out, ho]⟩
  clear hRF hSF hSF2 kF kF2 hM1 Hst hM hM0 hf hf2 hrs hs k2 k2' hR2 hS2 hx4 hxF0 hxF hfx hres hR4 hS4 k4 hRF0
  go_wp2_with (first | refine wpList_load_row (by rfl) 33 _ (by rfl) w3.heap.size (by rfl) 33 _ (0, 0) _ hNew Tryz.underlying33 (by rfl) infoCert7 ?_ | refine wpList_store_row (by rfl) 33 _ _ (by rfl) w3.heap.size [.int .i64 x.hdr.author, .int .i64 x.hdr.round, .slice x.hdr.ra x.hdr.refs.length x.hdr.rc, .slice x.hdr.pa x.hdr.parents.length x.hdr.pc, .slice x.va x.votes.length x.vc].toArray (by rfl) (by rfl) 33 _ hN0 infoCert7 (by rfl) h1 ?_ | refine Go.wpList_store_mid (by rfl) 33 _ _ (by rfl) mb 12 [.int .i64 x.hdr.author, .int .i64 x.hdr.round, .slice x.hdr.ra x.hdr.refs.length x.hdr.rc, .slice x.hdr.pa x.hdr.parents.length x.hdr.pc, .slice x.va x.votes.length x.vc].toArray (by rfl) (by rfl) hth infoCert7 h1 ?_)
  go_end0
  exact hfin _ rfl

set_option maxRecDepth 100000 in
set_option maxHeartbeats 4000000 in
theorem refField_k (rb mb N : Nat) (hne : rb ≠ mb) (hN1 : rb < N) (hN3 : mb < N) (rest : ByteArray) (k : Int) (dg : ByteArray) (vi : Int) (tg : TagD) (ba : BatM) (he : HdrM) (ce : CertM) (bl : BlkM) (q : QcM) (w : World) (hN2 : N ≤ w.heap.size) (hR : Arr w rb 62 [.string rest, .int .i64 ((0 : Nat) : Int)]) (hS : Arr w mb 39 [.int .i64 k, .string dg, .int .i64 vi, .int .i64 tg.who, .string tg.mac, .int .i64 ba.author, .int .i64 ba.number, .slice ba.ta ba.txs.length ba.tc, .int .i64 he.author, .int .i64 he.round, .slice he.ra he.refs.length he.rc, .slice he.pa he.parents.length he.pc, .int .i64 ce.hdr.author, .int .i64 ce.hdr.round, .slice ce.hdr.ra ce.hdr.refs.length ce.hdr.rc, .slice ce.hdr.pa ce.hdr.parents.length ce.hdr.pc, .slice ce.va ce.votes.length ce.vc, .int .i64 bl.view, .int .i64 bl.qc.view, .string bl.qc.block, .slice bl.qc.va bl.qc.votes.length bl.qc.vc, .slice bl.ca bl.certs.length bl.cc, .int .i64 q.view, .string q.block, .slice q.va q.votes.length q.vc]) (hM : MsgM.At w ⟨k, dg, vi, tg, ba, he, ce, bl, q⟩) (hf : ∀ b, MsgM.foot ⟨k, dg, vi, tg, ba, he, ce, bl, q⟩ b → N ≤ b) (hs : rest.size ≤ maxLen) :
    Calls Tryz.prog 21 #[.pointer (some ⟨rb, 0, none⟩), .pointer (some ⟨mb, 0, none⟩), .int .u8 107] w fun e w' => GotRF rb mb N 107 rest ⟨k, dg, vi, tg, ba, he, ce, bl, q⟩ w e w' := by
  have cI := inText_k rb w rest 0 hR hs
  go_enter Tryz.func21, Tryz.ntmps21
  go_wp2_with fail
  refine cI.mono ?_
  rintro e w2 ⟨t, E, r1, rfl, htl, hrs, hst0, hR2, k2⟩
  have hst := runX_or (r := .error 0) (hst0 _ (fun t l => match decK t with
      | .error e => .error e
      | .ok b => .ok ({ MsgM.d ⟨k, dg, vi, tg, ba, he, ce, bl, q⟩ with block := b }, l)))
  have hS2 := hS.kept k2 (fun e => hne e.symm)
  have k2' : Kept (fun k => k = rb ∨ k = mb) w w2 := k2.mono (fun k _ h => Or.inl h)
  have hst2 : (E = 0 ∧ stepF 107 (MsgM.d ⟨k, dg, vi, tg, ba, he, ce, bl, q⟩) rest.data.toList = (match decK t with
      | .error e => .error e
      | .ok b => .ok ({ MsgM.d ⟨k, dg, vi, tg, ba, he, ce, bl, q⟩ with block := b }, r1.data.toList))) ∨ (E ≠ 0 ∧ stepF 107 (MsgM.d ⟨k, dg, vi, tg, ba, he, ce, bl, q⟩) rest.data.toList = .error E) := by
    unfold stepF rdF
    simp only [if_neg (by decide : ¬ (107 : UInt8) = 118), if_neg (by decide : ¬ (107 : UInt8) = 116), if_neg (by decide : ¬ (107 : UInt8) = 100), if_neg (by decide : ¬ (107 : UInt8) = 98), if_neg (by decide : ¬ (107 : UInt8) = 104), if_neg (by decide : ¬ (107 : UInt8) = 99), if_true]
    exact hst
  clear cI hst0 hst hR hS
  have r1c := hR2.cell (i := 1) rfl
  have rf1 := hR2.frozen 1
  have hM0 := hM.keptM k2' (fun b hb e => by have := hf b hb; omega)
  by_cases hE : E ≠ 0
  · have hE' : ((E : Int) != 0) = true := by rw [bne_iff_ne]; omega
    have Hst : Hid (stepF 107 (MsgM.d ⟨k, dg, vi, tg, ba, he, ce, bl, q⟩) rest.data.toList = .error E) := by
      rcases hst2 with h | h
      · exact absurd h.1 hE
      · exact h.2
    have hfin : ∀ e, e = .returned (.tuple #[]) → GotRF rb mb N 107 rest ⟨k, dg, vi, tg, ba, he, ce, bl, q⟩ w e w2 := fun e h => ⟨E, r1, ⟨k, dg, vi, tg, ba, he, ce, bl, q⟩, h, hR2, hS2, hM0, hf, hrs, k2', Or.inr ⟨hE, Hst.out⟩⟩
    generalize (⟨t.toArray⟩ : ByteArray) = tt
    clear Hst hM hM0 hf hrs hs k2 k2' hR2 hS2 hst2 hE
    go_wp2
    go_end0
    exact hfin _ rfl
  replace hE : E = 0 := by omega
  subst hE
  have Hst : Hid (stepF 107 (MsgM.d ⟨k, dg, vi, tg, ba, he, ce, bl, q⟩) rest.data.toList = (match decK t with
      | .error e => .error e
      | .ok b => .ok ({ MsgM.d ⟨k, dg, vi, tg, ba, he, ce, bl, q⟩ with block := b }, r1.data.toList))) := by
    rcases hst2 with h | h
    · exact h.2
    · exact absurd rfl h.1
  clear hst2
  have cD := rblk_got ⟨t.toArray⟩ w2 (by rw [size_mk]; unfold maxLen; omega)
  replace cD : Calls Tryz.prog 69 #[.string ⟨t.toArray⟩] w2 fun e w' => GotX blkK BlkM.v BlkM.d w2 (decK t) e w' := cD
  obtain ⟨out, hout⟩ : ∃ o, o = decK t := ⟨_, rfl⟩
  rw [← hout] at cD Hst
  clear hout
  generalize (⟨t.toArray⟩ : ByteArray) = tt at cD ⊢
  go_wp2_with fail
  refine cD.mono ?_
  rintro e w3 ⟨x, er, rfl, hx, hres, hfx, hb3⟩
  unfold BlkM.v
  have hR3 := hR2.below hb3 hR2.lt
  have hS3 := hS2.below hb3 hS2.lt
  have k3 := k2'.trans (Kept.of_below hb3)
  have hrl := hR3.lt
  have hsl := hS3.lt
  have hN0 := Arr.new w3 37 [.int .i64 0, .int .i64 0, .string ⟨#[]⟩, .slice none 0 0, .slice none 0 0]
  have hbn := belowNew w3 (.cells [.int .i64 0, .int .i64 0, .string ⟨#[]⟩, .slice none 0 0, .slice none 0 0].toArray 37)
  have h1 : (List.toArray (α := Value) [.int .i64 x.view, .int .i64 x.qc.view, .string x.qc.block, .slice x.qc.va x.qc.votes.length x.qc.vc, .slice x.ca x.certs.length x.cc]).all (·.oneCell') = true := Array.all_eq_true_iff_forall_mem.2 (fun v hv => blkK.one x v (List.mem_toArray.1 hv))
  have hNew := hN0.row [.int .i64 x.view, .int .i64 x.qc.view, .string x.qc.block, .slice x.qc.va x.qc.votes.length x.qc.vc, .slice x.ca x.certs.length x.cc]
  have hbS := below_setRow hbn (g := w3.heap.size) (Nat.le_refl _) [.int .i64 x.view, .int .i64 x.qc.view, .string x.qc.block, .slice x.qc.va x.qc.votes.length x.qc.vc, .slice x.ca x.certs.length x.cc].toArray
  have hR4 := hR3.below hbS hR3.lt
  have hS4 := hS3.below hbS hS3.lt
  have k4 := k3.trans (Kept.of_below hbS)
  have hx4 := blkK.keep hx (fun b hb => hbS.block b (blkK.lt hx hb))
  obtain ⟨w4, hw4⟩ : ∃ q', World.setRow (w3.alloc (.cells [.int .i64 0, .int .i64 0, .string ⟨#[]⟩, .slice none 0 0, .slice none 0 0].toArray 37)) w3.heap.size [.int .i64 x.view, .int .i64 x.qc.view, .string x.qc.block, .slice x.qc.va x.qc.votes.length x.qc.vc, .slice x.ca x.certs.length x.cc].toArray = q' := ⟨_, rfl⟩
  rw [hw4] at hNew hR4 hS4 k4 hx4
  clear hbn hbS hR3 hS3 k3 hx cD
  have hth : w4.there mb 17 5 := fun j hj => by
    have hj2 : j = 0 ∨ j = 1 ∨ j = 2 ∨ j = 3 ∨ j = 4 := by omega
    rcases hj2 with rfl | rfl | rfl | rfl | rfl
    · exact ⟨by rw [hS4.cell (i := 17) rfl]; rfl, hS4.frozen _⟩
    · exact ⟨by rw [hS4.cell (i := 18) rfl]; rfl, hS4.frozen _⟩
    · exact ⟨by rw [hS4.cell (i := 19) rfl]; rfl, hS4.frozen _⟩
    · exact ⟨by rw [hS4.cell (i := 20) rfl]; rfl, hS4.frozen _⟩
    · exact ⟨by rw [hS4.cell (i := 21) rfl]; rfl, hS4.frozen _⟩
  obtain ⟨w5, hw5⟩ : ∃ q', w4.setCells mb 17 [.int .i64 x.view, .int .i64 x.qc.view, .string x.qc.block, .slice x.qc.va x.qc.votes.length x.qc.vc, .slice x.ca x.certs.length x.cc] = q' := ⟨_, rfl⟩
  have hSF : Arr w5 mb 39 [.int .i64 k, .string dg, .int .i64 vi, .int .i64 tg.who, .string tg.mac, .int .i64 ba.author, .int .i64 ba.number, .slice ba.ta ba.txs.length ba.tc, .int .i64 he.author, .int .i64 he.round, .slice he.ra he.refs.length he.rc, .slice he.pa he.parents.length he.pc, .int .i64 ce.hdr.author, .int .i64 ce.hdr.round, .slice ce.hdr.ra ce.hdr.refs.length ce.hdr.rc, .slice ce.hdr.pa ce.hdr.parents.length ce.hdr.pc, .slice ce.va ce.votes.length ce.vc, .int .i64 x.view, .int .i64 x.qc.view, .string x.qc.block, .slice x.qc.va x.qc.votes.length x.qc.vc, .slice x.ca x.certs.length x.cc, .int .i64 q.view, .string q.block, .slice q.va q.votes.length q.vc] := by
    rw [← hw5]
    exact (((((hS4.set 17 (.int .i64 x.view)).set 18 (.int .i64 x.qc.view)).set 19 (.string x.qc.block)).set 20 (.slice x.qc.va x.qc.votes.length x.qc.vc)).set 21 (.slice x.ca x.certs.length x.cc))
  have hRF0 : Arr w5 rb 62 [.string r1, .int .i64 ((0 : Nat) : Int)] := by
    rw [← hw5]
    exact (((((hR4.other (p := ⟨mb, 17, none⟩) hne (.int .i64 x.view)).other (p := ⟨mb, 18, none⟩) hne (.int .i64 x.qc.view)).other (p := ⟨mb, 19, none⟩) hne (.string x.qc.block)).other (p := ⟨mb, 20, none⟩) hne (.slice x.qc.va x.qc.votes.length x.qc.vc)).other (p := ⟨mb, 21, none⟩) hne (.slice x.ca x.certs.length x.cc))
  have kF : Kept (fun k => k = rb ∨ k = mb) w w5 := by
    rw [← hw5]
    exact (((((k4.set (p := ⟨mb, 17, none⟩) (Or.inr rfl) (.int .i64 x.view)).set (p := ⟨mb, 18, none⟩) (Or.inr rfl) (.int .i64 x.qc.view)).set (p := ⟨mb, 19, none⟩) (Or.inr rfl) (.string x.qc.block)).set (p := ⟨mb, 20, none⟩) (Or.inr rfl) (.slice x.qc.va x.qc.votes.length x.qc.vc)).set (p := ⟨mb, 21, none⟩) (Or.inr rfl) (.slice x.ca x.certs.length x.cc))
  have hxF0 : blkK.At w5 x := by
    rw [← hw5]
    exact Kind.keptX blkK hx4 ((((((Kept.refl (fun k => k = rb ∨ k = mb) w4).set (p := ⟨mb, 17, none⟩) (Or.inr rfl) (.int .i64 x.view)).set (p := ⟨mb, 18, none⟩) (Or.inr rfl) (.int .i64 x.qc.view)).set (p := ⟨mb, 19, none⟩) (Or.inr rfl) (.string x.qc.block)).set (p := ⟨mb, 20, none⟩) (Or.inr rfl) (.slice x.qc.va x.qc.votes.length x.qc.vc)).set (p := ⟨mb, 21, none⟩) (Or.inr rfl) (.slice x.ca x.certs.length x.cc)) (fun b hb e => by have := hfx b hb; have := k2.size; omega)
  have hc1 := hRF0.cell (i := 1) rfl
  have hcf := hRF0.frozen 1
  have hRF := hRF0.set 1 (.int .i64 (er : Int))
  have hSF2 := hSF.other (p := ⟨rb, 1, none⟩) (fun e => hne e.symm) (.int .i64 (er : Int))
  have kF2 := kF.set (p := ⟨rb, 1, none⟩) (Or.inl rfl) (.int .i64 (er : Int))
  have hxF := Kind.keptX blkK hxF0 (Kept.setCell _ ⟨rb, 1, none⟩ (.int .i64 (er : Int))) (fun b hb e => by have := hfx b hb; have e' : b = rb := e; have := k2.size; omega)
  have hM1 := hM.keptM kF2 (fun b hb e => by have := hf b hb; omega)
  have hf2 : ∀ b, MsgM.foot ⟨k, dg, vi, tg, ba, he, ce, x, q⟩ b → N ≤ b := by
    intro b hb
    rcases hb with hb | hb | hb | hb | hb
    · exact hf b (Or.inl hb)
    · exact hf b (Or.inr (Or.inl hb))
    · exact hf b (Or.inr (Or.inr (Or.inl hb)))
    · exact Nat.le_trans hN2 (Nat.le_trans k2.size (hfx b hb))
    · exact hf b (Or.inr (Or.inr (Or.inr (Or.inr (hb)))))
  have hfin : ∀ e, e = .returned (.tuple #[]) → GotRF rb mb N 107 rest ⟨k, dg, vi, tg, ba, he, ce, bl, q⟩ w e (w5.setCell ⟨rb, 1, none⟩ (.int .i64 (er : Int))) := fun e h => ⟨er, r1, ⟨k, dg, vi, tg, ba, he, ce, x, q⟩, h, hRF, hSF2, ⟨hM1.bat, hM1.hdr, hM1.cert, hxF, hM1.qc⟩, hf2, hrs, kF2, by
    rcases hres with ⟨he, ho⟩ | ⟨he, ho⟩
    · refine Or.inl ⟨he, ?_⟩
      rw [Hst.out, ho]
      rfl
    · refine Or.inr ⟨he, ?_⟩
      rw [Hst.out, ho]⟩
  clear hRF hSF hSF2 kF kF2 hM1 Hst hM hM0 hf hf2 hrs hs k2 k2' hR2 hS2 hx4 hxF0 hxF hfx hres hR4 hS4 k4 hRF0
  go_wp2_with (first | refine wpList_load_row (by rfl) 37 _ (by rfl) w3.heap.size (by rfl) 37 _ (0, 0) _ hNew Tryz.underlying37 (by rfl) infoBlk8 ?_ | refine wpList_store_row (by rfl) 37 _ _ (by rfl) w3.heap.size [.int .i64 x.view, .int .i64 x.qc.view, .string x.qc.block, .slice x.qc.va x.qc.votes.length x.qc.vc, .slice x.ca x.certs.length x.cc].toArray (by rfl) (by rfl) 37 _ hN0 infoBlk8 (by rfl) h1 ?_ | refine Go.wpList_store_mid (by rfl) 37 _ _ (by rfl) mb 17 [.int .i64 x.view, .int .i64 x.qc.view, .string x.qc.block, .slice x.qc.va x.qc.votes.length x.qc.vc, .slice x.ca x.certs.length x.cc].toArray (by rfl) (by rfl) hth infoBlk8 h1 ?_)
  go_end0
  exact hfin _ rfl

set_option maxRecDepth 100000 in
set_option maxHeartbeats 4000000 in
theorem refField_q (rb mb N : Nat) (hne : rb ≠ mb) (hN1 : rb < N) (hN3 : mb < N) (rest : ByteArray) (k : Int) (dg : ByteArray) (vi : Int) (tg : TagD) (ba : BatM) (he : HdrM) (ce : CertM) (bl : BlkM) (q : QcM) (w : World) (hN2 : N ≤ w.heap.size) (hR : Arr w rb 62 [.string rest, .int .i64 ((0 : Nat) : Int)]) (hS : Arr w mb 39 [.int .i64 k, .string dg, .int .i64 vi, .int .i64 tg.who, .string tg.mac, .int .i64 ba.author, .int .i64 ba.number, .slice ba.ta ba.txs.length ba.tc, .int .i64 he.author, .int .i64 he.round, .slice he.ra he.refs.length he.rc, .slice he.pa he.parents.length he.pc, .int .i64 ce.hdr.author, .int .i64 ce.hdr.round, .slice ce.hdr.ra ce.hdr.refs.length ce.hdr.rc, .slice ce.hdr.pa ce.hdr.parents.length ce.hdr.pc, .slice ce.va ce.votes.length ce.vc, .int .i64 bl.view, .int .i64 bl.qc.view, .string bl.qc.block, .slice bl.qc.va bl.qc.votes.length bl.qc.vc, .slice bl.ca bl.certs.length bl.cc, .int .i64 q.view, .string q.block, .slice q.va q.votes.length q.vc]) (hM : MsgM.At w ⟨k, dg, vi, tg, ba, he, ce, bl, q⟩) (hf : ∀ b, MsgM.foot ⟨k, dg, vi, tg, ba, he, ce, bl, q⟩ b → N ≤ b) (hs : rest.size ≤ maxLen) :
    Calls Tryz.prog 21 #[.pointer (some ⟨rb, 0, none⟩), .pointer (some ⟨mb, 0, none⟩), .int .u8 113] w fun e w' => GotRF rb mb N 113 rest ⟨k, dg, vi, tg, ba, he, ce, bl, q⟩ w e w' := by
  have cI := inText_k rb w rest 0 hR hs
  go_enter Tryz.func21, Tryz.ntmps21
  go_wp2_with fail
  refine cI.mono ?_
  rintro e w2 ⟨t, E, r1, rfl, htl, hrs, hst0, hR2, k2⟩
  have hst := runX_or (r := .error 0) (hst0 _ (fun t l => match decQ t with
      | .error e => .error e
      | .ok b => .ok ({ MsgM.d ⟨k, dg, vi, tg, ba, he, ce, bl, q⟩ with qc := b }, l)))
  have hS2 := hS.kept k2 (fun e => hne e.symm)
  have k2' : Kept (fun k => k = rb ∨ k = mb) w w2 := k2.mono (fun k _ h => Or.inl h)
  have hst2 : (E = 0 ∧ stepF 113 (MsgM.d ⟨k, dg, vi, tg, ba, he, ce, bl, q⟩) rest.data.toList = (match decQ t with
      | .error e => .error e
      | .ok b => .ok ({ MsgM.d ⟨k, dg, vi, tg, ba, he, ce, bl, q⟩ with qc := b }, r1.data.toList))) ∨ (E ≠ 0 ∧ stepF 113 (MsgM.d ⟨k, dg, vi, tg, ba, he, ce, bl, q⟩) rest.data.toList = .error E) := by
    unfold stepF rdF
    simp only [if_neg (by decide : ¬ (113 : UInt8) = 118), if_neg (by decide : ¬ (113 : UInt8) = 116), if_neg (by decide : ¬ (113 : UInt8) = 100), if_neg (by decide : ¬ (113 : UInt8) = 98), if_neg (by decide : ¬ (113 : UInt8) = 104), if_neg (by decide : ¬ (113 : UInt8) = 99), if_neg (by decide : ¬ (113 : UInt8) = 107)]
    exact hst
  clear cI hst0 hst hR hS
  have r1c := hR2.cell (i := 1) rfl
  have rf1 := hR2.frozen 1
  have hM0 := hM.keptM k2' (fun b hb e => by have := hf b hb; omega)
  by_cases hE : E ≠ 0
  · have hE' : ((E : Int) != 0) = true := by rw [bne_iff_ne]; omega
    have Hst : Hid (stepF 113 (MsgM.d ⟨k, dg, vi, tg, ba, he, ce, bl, q⟩) rest.data.toList = .error E) := by
      rcases hst2 with h | h
      · exact absurd h.1 hE
      · exact h.2
    have hfin : ∀ e, e = .returned (.tuple #[]) → GotRF rb mb N 113 rest ⟨k, dg, vi, tg, ba, he, ce, bl, q⟩ w e w2 := fun e h => ⟨E, r1, ⟨k, dg, vi, tg, ba, he, ce, bl, q⟩, h, hR2, hS2, hM0, hf, hrs, k2', Or.inr ⟨hE, Hst.out⟩⟩
    generalize (⟨t.toArray⟩ : ByteArray) = tt
    clear Hst hM hM0 hf hrs hs k2 k2' hR2 hS2 hst2 hE
    go_wp2
    go_end0
    exact hfin _ rfl
  replace hE : E = 0 := by omega
  subst hE
  have Hst : Hid (stepF 113 (MsgM.d ⟨k, dg, vi, tg, ba, he, ce, bl, q⟩) rest.data.toList = (match decQ t with
      | .error e => .error e
      | .ok b => .ok ({ MsgM.d ⟨k, dg, vi, tg, ba, he, ce, bl, q⟩ with qc := b }, r1.data.toList))) := by
    rcases hst2 with h | h
    · exact h.2
    · exact absurd rfl h.1
  clear hst2
  have cD := rqc_got ⟨t.toArray⟩ w2 (by rw [size_mk]; unfold maxLen; omega)
  replace cD : Calls Tryz.prog 70 #[.string ⟨t.toArray⟩] w2 fun e w' => GotX qcK QcM.v QcM.d w2 (decQ t) e w' := cD
  obtain ⟨out, hout⟩ : ∃ o, o = decQ t := ⟨_, rfl⟩
  rw [← hout] at cD Hst
  clear hout
  generalize (⟨t.toArray⟩ : ByteArray) = tt at cD ⊢
  go_wp2_with fail
  refine cD.mono ?_
  rintro e w3 ⟨x, er, rfl, hx, hres, hfx, hb3⟩
  unfold QcM.v
  have hR3 := hR2.below hb3 hR2.lt
  have hS3 := hS2.below hb3 hS2.lt
  have k3 := k2'.trans (Kept.of_below hb3)
  have hrl := hR3.lt
  have hsl := hS3.lt
  have hN0 := Arr.new w3 35 [.int .i64 0, .string ⟨#[]⟩, .slice none 0 0]
  have hbn := belowNew w3 (.cells [.int .i64 0, .string ⟨#[]⟩, .slice none 0 0].toArray 35)
  have h1 : (List.toArray (α := Value) [.int .i64 x.view, .string x.block, .slice x.va x.votes.length x.vc]).all (·.oneCell') = true := Array.all_eq_true_iff_forall_mem.2 (fun v hv => qcK.one x v (List.mem_toArray.1 hv))
  have hNew := hN0.row [.int .i64 x.view, .string x.block, .slice x.va x.votes.length x.vc]
  have hbS := below_setRow hbn (g := w3.heap.size) (Nat.le_refl _) [.int .i64 x.view, .string x.block, .slice x.va x.votes.length x.vc].toArray
  have hR4 := hR3.below hbS hR3.lt
  have hS4 := hS3.below hbS hS3.lt
  have k4 := k3.trans (Kept.of_below hbS)
  have hx4 := qcK.keep hx (fun b hb => hbS.block b (qcK.lt hx hb))
  obtain ⟨w4, hw4⟩ : ∃ q', World.setRow (w3.alloc (.cells [.int .i64 0, .string ⟨#[]⟩, .slice none 0 0].toArray 35)) w3.heap.size [.int .i64 x.view, .string x.block, .slice x.va x.votes.length x.vc].toArray = q' := ⟨_, rfl⟩
  rw [hw4] at hNew hR4 hS4 k4 hx4
  clear hbn hbS hR3 hS3 k3 hx cD
  have hth : w4.there mb 22 3 := fun j hj => by
    have hj2 : j = 0 ∨ j = 1 ∨ j = 2 := by omega
    rcases hj2 with rfl | rfl | rfl
    · exact ⟨by rw [hS4.cell (i := 22) rfl]; rfl, hS4.frozen _⟩
    · exact ⟨by rw [hS4.cell (i := 23) rfl]; rfl, hS4.frozen _⟩
    · exact ⟨by rw [hS4.cell (i := 24) rfl]; rfl, hS4.frozen _⟩
  obtain ⟨w5, hw5⟩ : ∃ q', w4.setCells mb 22 [.int .i64 x.view, .string x.block, .slice x.va x.votes.length x.vc] = q' := ⟨_, rfl⟩
  have hSF : Arr w5 mb 39 [.int .i64 k, .string dg, .int .i64 vi, .int .i64 tg.who, .string tg.mac, .int .i64 ba.author, .int .i64 ba.number, .slice ba.ta ba.txs.length ba.tc, .int .i64 he.author, .int .i64 he.round, .slice he.ra he.refs.length he.rc, .slice he.pa he.parents.length he.pc, .int .i64 ce.hdr.author, .int .i64 ce.hdr.round, .slice ce.hdr.ra ce.hdr.refs.length ce.hdr.rc, .slice ce.hdr.pa ce.hdr.parents.length ce.hdr.pc, .slice ce.va ce.votes.length ce.vc, .int .i64 bl.view, .int .i64 bl.qc.view, .string bl.qc.block, .slice bl.qc.va bl.qc.votes.length bl.qc.vc, .slice bl.ca bl.certs.length bl.cc, .int .i64 x.view, .string x.block, .slice x.va x.votes.length x.vc] := by
    rw [← hw5]
    exact (((hS4.set 22 (.int .i64 x.view)).set 23 (.string x.block)).set 24 (.slice x.va x.votes.length x.vc))
  have hRF0 : Arr w5 rb 62 [.string r1, .int .i64 ((0 : Nat) : Int)] := by
    rw [← hw5]
    exact (((hR4.other (p := ⟨mb, 22, none⟩) hne (.int .i64 x.view)).other (p := ⟨mb, 23, none⟩) hne (.string x.block)).other (p := ⟨mb, 24, none⟩) hne (.slice x.va x.votes.length x.vc))
  have kF : Kept (fun k => k = rb ∨ k = mb) w w5 := by
    rw [← hw5]
    exact (((k4.set (p := ⟨mb, 22, none⟩) (Or.inr rfl) (.int .i64 x.view)).set (p := ⟨mb, 23, none⟩) (Or.inr rfl) (.string x.block)).set (p := ⟨mb, 24, none⟩) (Or.inr rfl) (.slice x.va x.votes.length x.vc))
  have hxF0 : qcK.At w5 x := by
    rw [← hw5]
    exact Kind.keptX qcK hx4 ((((Kept.refl (fun k => k = rb ∨ k = mb) w4).set (p := ⟨mb, 22, none⟩) (Or.inr rfl) (.int .i64 x.view)).set (p := ⟨mb, 23, none⟩) (Or.inr rfl) (.string x.block)).set (p := ⟨mb, 24, none⟩) (Or.inr rfl) (.slice x.va x.votes.length x.vc)) (fun b hb e => by have := hfx b hb; have := k2.size; omega)
  have hc1 := hRF0.cell (i := 1) rfl
  have hcf := hRF0.frozen 1
  have hRF := hRF0.set 1 (.int .i64 (er : Int))
  have hSF2 := hSF.other (p := ⟨rb, 1, none⟩) (fun e => hne e.symm) (.int .i64 (er : Int))
  have kF2 := kF.set (p := ⟨rb, 1, none⟩) (Or.inl rfl) (.int .i64 (er : Int))
  have hxF := Kind.keptX qcK hxF0 (Kept.setCell _ ⟨rb, 1, none⟩ (.int .i64 (er : Int))) (fun b hb e => by have := hfx b hb; have e' : b = rb := e; have := k2.size; omega)
  have hM1 := hM.keptM kF2 (fun b hb e => by have := hf b hb; omega)
  have hf2 : ∀ b, MsgM.foot ⟨k, dg, vi, tg, ba, he, ce, bl, x⟩ b → N ≤ b := by
    intro b hb
    rcases hb with hb | hb | hb | hb | hb
    · exact hf b (Or.inl hb)
    · exact hf b (Or.inr (Or.inl hb))
    · exact hf b (Or.inr (Or.inr (Or.inl hb)))
    · exact hf b (Or.inr (Or.inr (Or.inr (Or.inl hb))))
    · exact Nat.le_trans hN2 (Nat.le_trans k2.size (hfx b hb))
  have hfin : ∀ e, e = .returned (.tuple #[]) → GotRF rb mb N 113 rest ⟨k, dg, vi, tg, ba, he, ce, bl, q⟩ w e (w5.setCell ⟨rb, 1, none⟩ (.int .i64 (er : Int))) := fun e h => ⟨er, r1, ⟨k, dg, vi, tg, ba, he, ce, bl, x⟩, h, hRF, hSF2, ⟨hM1.bat, hM1.hdr, hM1.cert, hM1.blk, hxF⟩, hf2, hrs, kF2, by
    rcases hres with ⟨he, ho⟩ | ⟨he, ho⟩
    · refine Or.inl ⟨he, ?_⟩
      rw [Hst.out, ho]
      rfl
    · refine Or.inr ⟨he, ?_⟩
      rw [Hst.out, ho]⟩
  clear hRF hSF hSF2 kF kF2 hM1 Hst hM hM0 hf hf2 hrs hs k2 k2' hR2 hS2 hx4 hxF0 hxF hfx hres hR4 hS4 k4 hRF0
  go_wp2_with (first | refine wpList_load_row (by rfl) 35 _ (by rfl) w3.heap.size (by rfl) 35 _ (0, 0) _ hNew Tryz.underlying35 (by rfl) infoQc8 ?_ | refine wpList_store_row (by rfl) 35 _ _ (by rfl) w3.heap.size [.int .i64 x.view, .string x.block, .slice x.va x.votes.length x.vc].toArray (by rfl) (by rfl) 35 _ hN0 infoQc8 (by rfl) h1 ?_ | refine Go.wpList_store_mid (by rfl) 35 _ _ (by rfl) mb 22 [.int .i64 x.view, .string x.block, .slice x.va x.votes.length x.vc].toArray (by rfl) (by rfl) hth infoQc8 h1 ?_)
  go_end0
  exact hfin _ rfl

theorem refField_any (rb mb N : Nat) (hne : rb ≠ mb) (hN1 : rb < N) (hN3 : mb < N) (c : UInt8) (hc : c ∈ letters) (rest : ByteArray) (m : MsgM) (w : World) (hN2 : N ≤ w.heap.size) (hR : Arr w rb 62 [.string rest, .int .i64 ((0 : Nat) : Int)]) (hS : Arr w mb 39 m.c) (hM : m.At w) (hf : ∀ b, m.foot b → N ≤ b) (hs : rest.size ≤ maxLen) :
    Calls Tryz.prog 21 #[.pointer (some ⟨rb, 0, none⟩), .pointer (some ⟨mb, 0, none⟩), .int .u8 (c.toNat : Int)] w fun e w' => GotRF rb mb N c rest m w e w' := by
  obtain ⟨k, dg, vi, tg, ba, he, ce, bl, q⟩ := m
  simp only [letters, List.mem_cons, List.not_mem_nil, or_false] at hc
  rcases hc with rfl | rfl | rfl | rfl | rfl | rfl | rfl | rfl
  · exact refField_v rb mb N hne hN1 hN3 rest k dg vi tg ba he ce bl q w hN2 hR hS hM hf hs
  · exact refField_t rb mb N hne hN1 hN3 rest k dg vi tg ba he ce bl q w hN2 hR hS hM hf hs
  · exact refField_d rb mb N hne hN1 hN3 rest k dg vi tg ba he ce bl q w hN2 hR hS hM hf hs
  · exact refField_b rb mb N hne hN1 hN3 rest k dg vi tg ba he ce bl q w hN2 hR hS hM hf hs
  · exact refField_h rb mb N hne hN1 hN3 rest k dg vi tg ba he ce bl q w hN2 hR hS hM hf hs
  · exact refField_c rb mb N hne hN1 hN3 rest k dg vi tg ba he ce bl q w hN2 hR hS hM hf hs
  · exact refField_k rb mb N hne hN1 hN3 rest k dg vi tg ba he ce bl q w hN2 hR hS hM hf hs
  · exact refField_q rb mb N hne hN1 hN3 rest k dg vi tg ba he ce bl q w hN2 hR hS hM hf hs
end Go.Proofs.YtmngiekobmhpaaaGreat

/- tuskref04.Same answers true at two transactions that read the same; nothing old in memory is turned. -/
namespace Go.Proofs.YtmngiekobmhpaaaGreat
open Go.RowKit
set_option linter.unusedVariables false

set_option maxRecDepth 100000 in
set_option maxHeartbeats 1000000 in
theorem sameTx_any (d : TxD) (ra : Option Addr) (rc : Nat) (wa : Option Addr) (wc : Nat) (ra2 : Option Addr) (rc2 : Nat) (wa2 : Option Addr) (wc2 : Nat) (w : World) (h1 : TxAt w d ra wa) (h2 : TxAt w d ra2 wa2) (l1 : d.rs.length ≤ 9223372036854775807) (l2 : d.ws.length ≤ 9223372036854775807) :
    Calls Tryz.prog 71 #[txV d ra rc wa wc, txV d ra2 rc2 wa2 wc2] w fun e w' => e = .returned (.bool true) ∧ Below w.heap.size w w' := by
  obtain ⟨hX, hY, hB⟩ := two_new w 123 123 (txC d ra rc wa wc) (txC d ra2 rc2 wa2 wc2)
  have k1 := h1.below hB
  have k2 := h2.below hB
  have cR := fun w1 (g1 : StrsAt w1 ra d.rs) (g2 : StrsAt w1 ra2 d.rs) => same_any ra ra2 rc rc2 d.rs w1 g1 g2 l1
  have cW := fun w1 (g1 : StrsAt w1 wa d.ws) (g2 : StrsAt w1 wa2 d.ws) => same_any wa wa2 wc wc2 d.ws w1 g1 g2 l2
  unfold txV
  go_enter Tryz.func71, Tryz.ntmps71
  go_wp2_with fail
  refine (cR _ k1.rd k2.rd).mono ?_
  rintro e w1 ⟨rfl, hb1⟩
  have y8 := (hY.below hb1 hY.lt).cell (i := 8) rfl
  have x8 := (hX.below hb1 hX.lt).cell (i := 8) rfl
  have hB1 := hB.trans (hb1.mono hB.size)
  have j1 := k1.below hb1
  have j2 := k2.below hb1
  clear hb1 hX hY hB k1 k2 h1 h2 cR
  go_wp2_with fail
  refine (cW _ j1.wr j2.wr).mono ?_
  rintro e w2 ⟨rfl, hb2⟩
  have hB2 := hB1.trans (hb2.mono hB1.size)
  clear hb2 hB1 cW j1 j2
  go_wp2
  go_ret
  exact ⟨rfl, hB2⟩
end Go.Proofs.YtmngiekobmhpaaaGreat

/- tuskref05.Same answers true at two batches that read the same; nothing old in memory is turned. -/
namespace Go.Proofs.YtmngiekobmhpaaaGreat
open Go.RowKit
set_option linter.unusedVariables false

theorem dl_get {l m : List TxM} (h : dl l = dl m) {k : Nat} {x y : TxM} (hx : l[k]? = some x) (hy : m[k]? = some y) : y.d = x.d := by
  have h1 : (dl l)[k]? = some x.d := by simp [dl, hx]
  have h2 : (dl m)[k]? = some y.d := by simp [dl, hy]
  rw [h, h2] at h1
  simpa using h1

set_option maxRecDepth 100000 in
set_option maxHeartbeats 4000000 in
theorem sameB_any (a n : Int) (ao : Option Addr) (l : List TxM) (cap : Nat) (ao2 : Option Addr) (m : List TxM) (cap2 : Nat) (w : World) (hA : TxsAt w ao l) (hA2 : TxsAt w ao2 m) (hd : dl l = dl m) (hn : l.length ≤ 4611686018427387903) (hL : ∀ x ∈ l, x.d.rs.length ≤ 9223372036854775807 ∧ x.d.ws.length ≤ 9223372036854775807) :
    Calls Tryz.prog 23 #[batV a n ao l.length cap, batV a n ao2 m.length cap2] w fun e w' => e = .returned (.bool true) ∧ Below w.heap.size w w' := by
  have hlm : m.length = l.length := by rw [← dl_length m, ← hd, dl_length]
  rw [hlm]
  obtain ⟨hX, hY, hB⟩ := two_new w 26 26 (batC a n ao l.length cap) (batC a n ao2 l.length cap2)
  have x0 := hX.cell (i := 0) rfl
  have x1 := hX.cell (i := 1) rfl
  have x2 := hX.cell (i := 2) rfl
  have y0 := hY.cell (i := 0) rfl
  have y1 := hY.cell (i := 1) rfl
  have y2 := hY.cell (i := 2) rfl
  unfold batV
  go_enter Tryz.func23, Tryz.ntmps23
  go_wp2
  go_loopw [5] (fun v wr => ∃ k : Nat, k ≤ l.length ∧ v = .int .i64 (k : Int) ∧ Arr wr w.heap.size 26 (batC a n ao l.length cap) ∧ Arr wr (w.heap.size + 1) 26 (batC a n ao2 l.length cap2) ∧ Below w.heap.size w wr) (fun v _ => l.length - (intOf v).toNat)
  case atStart => exact ⟨0, Nat.zero_le _, rfl, hX, hY, hB⟩
  case round =>
    obtain ⟨k, hk, rfl, hX1, hY1, hb⟩ := hrel
    clear hX hY hB x0 x1 x2 y0 y1 y2
    have x2 := hX1.cell (i := 2) rfl
    have y2 := hY1.cell (i := 2) rfl
    by_cases hlt : k < l.length
    · obtain ⟨x, hx⟩ : ∃ x, l[k]? = some x := ⟨l[k], List.getElem?_eq_getElem hlt⟩
      obtain ⟨y, hy⟩ : ∃ y, m[k]? = some y := ⟨m[k]'(by omega), List.getElem?_eq_getElem (by omega)⟩
      obtain ⟨b, off, rfl, hbl, p0, p1, p2, p3, p4, p5, p6, p7, p8⟩ := (hA.below hb).cells hx
      obtain ⟨b2, off2, rfl, hbl2, q0, q1, q2, q3, q4, q5, q6, q7, q8⟩ := (hA2.below hb).cells hy
      have hAt := (hA k x hx).2.below hb
      have hAt2 := (hA2 k y hy).2.below hb
      have hxy := dl_get hd hx hy
      have hl1 := hL x (List.mem_of_getElem? hx)
      have hkm : k < m.length := by omega
      have cC := fun w1 (h : TxAt w1 x.d x.ra x.wa) (h2 : TxAt w1 x.d y.ra y.wa) => sameTx_any x.d x.ra x.rc x.wa x.wc y.ra y.rc y.wa y.wc w1 h h2 hl1.1 hl1.2
      have ht2 := hAt2.at_
      rw [hxy] at q0 q1 q2 q3 q4 q5 q6 q7 q8 ht2
      have ht1 := hAt.at_
      have hS : (wr.cell? ⟨b, off + k * 9, none⟩ = some (.int .i64 x.d.kind) ∧ wr.cell? ⟨b, off + k * 9 + 1, none⟩ = some (.string x.d.frm) ∧ wr.cell? ⟨b, off + k * 9 + 2, none⟩ = some (.string x.d.to) ∧ wr.cell? ⟨b, off + k * 9 + 3, none⟩ = some (.int .u64 (x.d.amt : Int)) ∧ wr.cell? ⟨b, off + k * 9 + 4, none⟩ = some (.int .u64 (x.d.non : Int)) ∧ wr.cell? ⟨b, off + k * 9 + 5, none⟩ = some (.string x.d.key) ∧ wr.cell? ⟨b, off + k * 9 + 6, none⟩ = some (.string x.d.val) ∧ wr.cell? ⟨b, off + k * 9 + 7, none⟩ = some (.slice x.ra x.d.rs.length x.rc) ∧ wr.cell? ⟨b, off + k * 9 + 8, none⟩ = some (.slice x.wa x.d.ws.length x.wc)) ∧ (wr.cell? ⟨b2, off2 + k * 9, none⟩ = some (.int .i64 x.d.kind) ∧ wr.cell? ⟨b2, off2 + k * 9 + 1, none⟩ = some (.string x.d.frm) ∧ wr.cell? ⟨b2, off2 + k * 9 + 2, none⟩ = some (.string x.d.to) ∧ wr.cell? ⟨b2, off2 + k * 9 + 3, none⟩ = some (.int .u64 (x.d.amt : Int)) ∧ wr.cell? ⟨b2, off2 + k * 9 + 4, none⟩ = some (.int .u64 (x.d.non : Int)) ∧ wr.cell? ⟨b2, off2 + k * 9 + 5, none⟩ = some (.string x.d.key) ∧ wr.cell? ⟨b2, off2 + k * 9 + 6, none⟩ = some (.string x.d.val) ∧ wr.cell? ⟨b2, off2 + k * 9 + 7, none⟩ = some (.slice y.ra x.d.rs.length y.rc) ∧ wr.cell? ⟨b2, off2 + k * 9 + 8, none⟩ = some (.slice y.wa x.d.ws.length y.wc)) ∧ wr.cell? ⟨w.heap.size, 2, none⟩ = some (.slice (some ⟨b, off, none⟩) l.length cap) ∧ wr.cell? ⟨w.heap.size + 1, 2, none⟩ = some (.slice (some ⟨b2, off2, none⟩) l.length cap2) := ⟨⟨p0, p1, p2, p3, p4, p5, p6, p7, p8⟩, ⟨q0, q1, q2, q3, q4, q5, q6, q7, q8⟩, x2, y2⟩
      have hcs : ∀ w2, Below wr.heap.size wr w2 → ((w2.cell? ⟨b, off + k * 9, none⟩ = some (.int .i64 x.d.kind) ∧ w2.cell? ⟨b, off + k * 9 + 1, none⟩ = some (.string x.d.frm) ∧ w2.cell? ⟨b, off + k * 9 + 2, none⟩ = some (.string x.d.to) ∧ w2.cell? ⟨b, off + k * 9 + 3, none⟩ = some (.int .u64 (x.d.amt : Int)) ∧ w2.cell? ⟨b, off + k * 9 + 4, none⟩ = some (.int .u64 (x.d.non : Int)) ∧ w2.cell? ⟨b, off + k * 9 + 5, none⟩ = some (.string x.d.key) ∧ w2.cell? ⟨b, off + k * 9 + 6, none⟩ = some (.string x.d.val) ∧ w2.cell? ⟨b, off + k * 9 + 7, none⟩ = some (.slice x.ra x.d.rs.length x.rc) ∧ w2.cell? ⟨b, off + k * 9 + 8, none⟩ = some (.slice x.wa x.d.ws.length x.wc)) ∧ (w2.cell? ⟨b2, off2 + k * 9, none⟩ = some (.int .i64 x.d.kind) ∧ w2.cell? ⟨b2, off2 + k * 9 + 1, none⟩ = some (.string x.d.frm) ∧ w2.cell? ⟨b2, off2 + k * 9 + 2, none⟩ = some (.string x.d.to) ∧ w2.cell? ⟨b2, off2 + k * 9 + 3, none⟩ = some (.int .u64 (x.d.amt : Int)) ∧ w2.cell? ⟨b2, off2 + k * 9 + 4, none⟩ = some (.int .u64 (x.d.non : Int)) ∧ w2.cell? ⟨b2, off2 + k * 9 + 5, none⟩ = some (.string x.d.key) ∧ w2.cell? ⟨b2, off2 + k * 9 + 6, none⟩ = some (.string x.d.val) ∧ w2.cell? ⟨b2, off2 + k * 9 + 7, none⟩ = some (.slice y.ra x.d.rs.length y.rc) ∧ w2.cell? ⟨b2, off2 + k * 9 + 8, none⟩ = some (.slice y.wa x.d.ws.length y.wc)) ∧ w2.cell? ⟨w.heap.size, 2, none⟩ = some (.slice (some ⟨b, off, none⟩) l.length cap) ∧ w2.cell? ⟨w.heap.size + 1, 2, none⟩ = some (.slice (some ⟨b2, off2, none⟩) l.length cap2)) := by
        intro w2 hb2
        have c := fun (g o : Nat) (v : Value) (h : g < wr.heap.size) (hc : wr.cell? ⟨g, o, none⟩ = some v) => (hb2.cell (p := ⟨g, o, none⟩) h).trans hc
        exact ⟨⟨c _ _ _ hbl p0, c _ _ _ hbl p1, c _ _ _ hbl p2, c _ _ _ hbl p3, c _ _ _ hbl p4, c _ _ _ hbl p5, c _ _ _ hbl p6, c _ _ _ hbl p7, c _ _ _ hbl p8⟩, ⟨c _ _ _ hbl2 q0, c _ _ _ hbl2 q1, c _ _ _ hbl2 q2, c _ _ _ hbl2 q3, c _ _ _ hbl2 q4, c _ _ _ hbl2 q5, c _ _ _ hbl2 q6, c _ _ _ hbl2 q7, c _ _ _ hbl2 q8⟩, c _ _ _ hX1.lt x2, c _ _ _ hY1.lt y2⟩
      have hbd : Below wr.heap.size wr wr.drew := below_drewN (Below.refl _ _) 1
      clear p0 p1 p2 p3 p4 p5 p6 p7 p8 q0 q1 q2 q3 q4 q5 q6 q7 q8 hAt hAt2 hx hy hl1
      go_wp2_with fail
      go_region_held3 (fun w' => (w'.cell? ⟨b, off + k * 9, none⟩ = some (.int .i64 x.d.kind) ∧ w'.cell? ⟨b, off + k * 9 + 1, none⟩ = some (.string x.d.frm) ∧ w'.cell? ⟨b, off + k * 9 + 2, none⟩ = some (.string x.d.to) ∧ w'.cell? ⟨b, off + k * 9 + 3, none⟩ = some (.int .u64 (x.d.amt : Int)) ∧ w'.cell? ⟨b, off + k * 9 + 4, none⟩ = some (.int .u64 (x.d.non : Int)) ∧ w'.cell? ⟨b, off + k * 9 + 5, none⟩ = some (.string x.d.key) ∧ w'.cell? ⟨b, off + k * 9 + 6, none⟩ = some (.string x.d.val) ∧ w'.cell? ⟨b, off + k * 9 + 7, none⟩ = some (.slice x.ra x.d.rs.length x.rc) ∧ w'.cell? ⟨b, off + k * 9 + 8, none⟩ = some (.slice x.wa x.d.ws.length x.wc)) ∧ (w'.cell? ⟨b2, off2 + k * 9, none⟩ = some (.int .i64 x.d.kind) ∧ w'.cell? ⟨b2, off2 + k * 9 + 1, none⟩ = some (.string x.d.frm) ∧ w'.cell? ⟨b2, off2 + k * 9 + 2, none⟩ = some (.string x.d.to) ∧ w'.cell? ⟨b2, off2 + k * 9 + 3, none⟩ = some (.int .u64 (x.d.amt : Int)) ∧ w'.cell? ⟨b2, off2 + k * 9 + 4, none⟩ = some (.int .u64 (x.d.non : Int)) ∧ w'.cell? ⟨b2, off2 + k * 9 + 5, none⟩ = some (.string x.d.key) ∧ w'.cell? ⟨b2, off2 + k * 9 + 6, none⟩ = some (.string x.d.val) ∧ w'.cell? ⟨b2, off2 + k * 9 + 7, none⟩ = some (.slice y.ra x.d.rs.length y.rc) ∧ w'.cell? ⟨b2, off2 + k * 9 + 8, none⟩ = some (.slice y.wa x.d.ws.length y.wc)) ∧ w'.cell? ⟨w.heap.size, 2, none⟩ = some (.slice (some ⟨b, off, none⟩) l.length cap) ∧ w'.cell? ⟨w.heap.size + 1, 2, none⟩ = some (.slice (some ⟨b2, off2, none⟩) l.length cap2)) (exact hcs _ (by assumption))
        (first
        | (go_at_call 71; refine (cC _ (ht1.below hbd) (ht2.below hbd)).mono ?_; rintro e wA ⟨rfl, hbA⟩; have hbA' := hbd.trans (Below.mono hbA hbd.size)))
      have hX2 := hX1.below hbA' hX1.lt
      have hY2 := hY1.below hbA' hY1.lt
      have hb4 := hb.trans (hbA'.mono hb.size)
      clear hcs hS hbd hbA hbA' hX1 hY1 x2 y2 ht1 ht2
      go_wp2
      go_roundw
      case rel => exact ⟨k + 1, by omega, by go_num, hX2, hY2, hb4⟩
      case measure => simp [intOf]; omega
    · go_wp2
      go_ret
      exact ⟨rfl, hb⟩
end Go.Proofs.YtmngiekobmhpaaaGreat

/- tuskref06.SameTags and tuskref06.Same answer true at what reads the same; nothing old in memory is turned. -/
namespace Go.Proofs.YtmngiekobmhpaaaGreat
open Go.RowKit
set_option linter.unusedVariables false

theorem RowAt.drewN {α : Type} {K : Kind α} {w : World} {ao : Option Addr} {l : List α} (h : RowAt K w ao l) (n : Nat) : RowAt K (w.drewN n) ao l :=
  h.below (below_drewN (Below.refl _ _) n)

set_option maxRecDepth 100000 in
set_option maxHeartbeats 1000000 in
theorem sameTags_any (a0 a1 : Option Addr) (c0 c1 : Nat) (l : List TagD) (w : World) (h0 : RowAt tagK w a0 l) (h1 : RowAt tagK w a1 l) (hn : l.length ≤ 4611686018427387903) :
    Calls Tryz.prog 73 #[.slice a0 l.length c0, .slice a1 l.length c1] w fun e w' => e = .returned (.bool true) ∧ Below w.heap.size w w' := by
  go_enter Tryz.func73, Tryz.ntmps73
  go_wp2
  go_loopw [5] (fun i wr => ∃ m : Nat, m ≤ l.length ∧ i = .int .i64 m ∧ Below w.heap.size w wr ∧ RowAt tagK wr a0 l ∧ RowAt tagK wr a1 l) (fun i _ => l.length - (intOf i).toNat)
  case atStart => exact ⟨0, Nat.zero_le _, rfl, Below.refl _ _, h0, h1⟩
  case round =>
    clear h0 h1
    obtain ⟨m, hm, rfl, hw, k0, k1⟩ := hrel
    by_cases hlt : m < l.length
    · obtain ⟨t, ht⟩ : ∃ t, l[m]? = some t := ⟨l[m], List.getElem?_eq_getElem hlt⟩
      obtain ⟨b0, o0, rfl, _, p0, p1⟩ := k0.tag ht
      obtain ⟨b1, o1, rfl, _, q0, q1⟩ := k1.tag ht
      clear ht
      go_wp2_with fail
      go_quiet (fail)
      have hwf := below_drewN hw nq
      have j0 := k0.drewN nq
      have j1 := k1.drewN nq
      clear hw k0 k1 p0 p1 q0 q1
      go_wp2
      go_roundw
      case rel => exact ⟨m + 1, by omega, by go_num, hwf, j0, j1⟩
      case measure => simp [intOf]; omega
    · go_wp2
      go_ret
      exact ⟨rfl, hw⟩

theorem rd_get {l m : List RefM} (h : rd l = rd m) {k : Nat} {x y : RefM} (hx : l[k]? = some x) (hy : m[k]? = some y) : y.d = x.d := by
  have h1 : (rd l)[k]? = some x.d := by simp [rd, hx]
  have h2 : (rd m)[k]? = some y.d := by simp [rd, hy]
  rw [h, h2] at h1
  simpa using h1

set_option maxRecDepth 100000 in
set_option maxHeartbeats 4000000 in
theorem sameH_any (a b : HdrM) (w : World) (hA : a.At w) (hB : b.At w) (hd : a.d = b.d) (hn : a.refs.length ≤ 4611686018427387903) (hp : a.parents.length ≤ 4611686018427387903) (hL : ∀ x ∈ a.refs, x.acks.length ≤ 4611686018427387903) :
    Calls Tryz.prog 24 #[a.v, b.v] w fun e w' => e = .returned (.bool true) ∧ Below w.heap.size w w' := by
  obtain ⟨au, ro, ra, rs, rc, pa, ps, pc⟩ := a
  obtain ⟨au2, ro2, ra2, rs2, rc2, pa2, ps2, pc2⟩ := b
  simp only [HdrM.d, HdrD.mk.injEq] at hd
  obtain ⟨rfl, rfl, hrd, rfl⟩ := hd
  have hlm : rs2.length = rs.length := by rw [← rd_length rs2, ← hrd, rd_length]
  have hA1 : RowAt refK w ra rs := hA.refs
  have hA2 : RowAt strK w pa ps := hA.ps
  have hB1 : RowAt refK w ra2 rs2 := hB.refs
  have hB2 : RowAt strK w pa2 ps := hB.ps
  unfold HdrM.v
  simp only at hn hp hL ⊢
  rw [hlm]
  have Hlm : Hid (rs2.length = rs.length) := hlm
  clear hlm hA hB
  obtain ⟨hX, hY, hBw⟩ := two_new w 30 30 [.int .i64 au, .int .i64 ro, .slice ra rs.length rc, .slice pa ps.length pc] [.int .i64 au, .int .i64 ro, .slice ra2 rs.length rc2, .slice pa2 ps.length pc2]
  have x0 := hX.cell (i := 0) rfl
  have x1 := hX.cell (i := 1) rfl
  have x2 := hX.cell (i := 2) rfl
  have x3 := hX.cell (i := 3) rfl
  have y0 := hY.cell (i := 0) rfl
  have y1 := hY.cell (i := 1) rfl
  have y2 := hY.cell (i := 2) rfl
  have y3 := hY.cell (i := 3) rfl
  have cP := same_any pa pa2 pc pc2 ps _ (hA2.below hBw).strs (hB2.below hBw).strs (by omega)
  go_enter Tryz.func24, Tryz.ntmps24
  go_wp2_with fail
  refine cP.mono ?_
  rintro e w1 ⟨rfl, hb1⟩
  have hX1 := hX.below hb1 hX.lt
  have hY1 := hY.below hb1 hY.lt
  have hBw1 := hBw.trans (hb1.mono hBw.size)
  clear cP hb1 hX hY hBw x0 x1 x2 x3 y0 y1 y2 y3
  go_wp2
  go_loopw [5] (fun v wr => ∃ k : Nat, k ≤ rs.length ∧ v = .int .i64 (k : Int) ∧ Arr wr w.heap.size 30 [.int .i64 au, .int .i64 ro, .slice ra rs.length rc, .slice pa ps.length pc] ∧ Arr wr (w.heap.size + 1) 30 [.int .i64 au, .int .i64 ro, .slice ra2 rs.length rc2, .slice pa2 ps.length pc2] ∧ Below w.heap.size w wr) (fun v _ => rs.length - (intOf v).toNat)
  case atStart => exact ⟨0, Nat.zero_le _, rfl, hX1, hY1, hBw1⟩
  case round =>
    clear hX1 hY1 hBw1
    obtain ⟨k, hk, rfl, hX1, hY1, hb⟩ := hrel
    have x2 := hX1.cell (i := 2) rfl
    have y2 := hY1.cell (i := 2) rfl
    by_cases hlt : k < rs.length
    · obtain ⟨x, hx⟩ : ∃ x, rs[k]? = some x := ⟨rs[k], List.getElem?_eq_getElem hlt⟩
      obtain ⟨y, hy⟩ : ∃ y, rs2[k]? = some y := ⟨rs2[k]'(by rw [Hlm.out]; exact hlt), List.getElem?_eq_getElem (by rw [Hlm.out]; exact hlt)⟩
      obtain ⟨b, off, rfl, hbl, p0, p1⟩ := (hA1.below hb).ref hx
      obtain ⟨b2, off2, rfl, hbl2, q0, q1⟩ := (hB1.below hb).ref hy
      have hAt := ((hA1.below hb).at_ x (List.mem_of_getElem? hx)).1
      have hAt2 := ((hB1.below hb).at_ y (List.mem_of_getElem? hy)).1
      have hxy := rd_get hrd hx hy
      simp only [RefM.d, RefD.mk.injEq] at hxy
      have hl1 := hL x (List.mem_of_getElem? hx)
      rw [hxy.1] at q0
      rw [hxy.2] at q1 hAt2
      have cC := fun w1 (h : RowAt tagK w1 x.ao x.acks) (h2 : RowAt tagK w1 y.ao x.acks) => sameTags_any x.ao y.ao x.cap y.cap x.acks w1 h h2 hl1
      have hS : (wr.cell? ⟨b, off + k * 2, none⟩ = some (.string x.digest) ∧ wr.cell? ⟨b, off + k * 2 + 1, none⟩ = some (.slice x.ao x.acks.length x.cap)) ∧ (wr.cell? ⟨b2, off2 + k * 2, none⟩ = some (.string x.digest) ∧ wr.cell? ⟨b2, off2 + k * 2 + 1, none⟩ = some (.slice y.ao x.acks.length y.cap)) ∧ wr.cell? ⟨w.heap.size, 2, none⟩ = some (.slice (some ⟨b, off, none⟩) rs.length rc) ∧ wr.cell? ⟨w.heap.size + 1, 2, none⟩ = some (.slice (some ⟨b2, off2, none⟩) rs.length rc2) := ⟨⟨p0, p1⟩, ⟨q0, q1⟩, x2, y2⟩
      have hcs : ∀ w2, Below wr.heap.size wr w2 → ((w2.cell? ⟨b, off + k * 2, none⟩ = some (.string x.digest) ∧ w2.cell? ⟨b, off + k * 2 + 1, none⟩ = some (.slice x.ao x.acks.length x.cap)) ∧ (w2.cell? ⟨b2, off2 + k * 2, none⟩ = some (.string x.digest) ∧ w2.cell? ⟨b2, off2 + k * 2 + 1, none⟩ = some (.slice y.ao x.acks.length y.cap)) ∧ w2.cell? ⟨w.heap.size, 2, none⟩ = some (.slice (some ⟨b, off, none⟩) rs.length rc) ∧ w2.cell? ⟨w.heap.size + 1, 2, none⟩ = some (.slice (some ⟨b2, off2, none⟩) rs.length rc2)) := by
        intro w2 hb2
        have c := fun (g o : Nat) (v : Value) (h : g < wr.heap.size) (hc : wr.cell? ⟨g, o, none⟩ = some v) => (hb2.cell (p := ⟨g, o, none⟩) h).trans hc
        exact ⟨⟨c _ _ _ hbl p0, c _ _ _ hbl p1⟩, ⟨c _ _ _ hbl2 q0, c _ _ _ hbl2 q1⟩, c _ _ _ hX1.lt x2, c _ _ _ hY1.lt y2⟩
      have hbd : Below wr.heap.size wr wr.drew := below_drewN (Below.refl _ _) 1
      clear p0 p1 q0 q1 hx hy hl1 hxy
      go_wp2_with fail
      go_region_held3 (fun w' => (w'.cell? ⟨b, off + k * 2, none⟩ = some (.string x.digest) ∧ w'.cell? ⟨b, off + k * 2 + 1, none⟩ = some (.slice x.ao x.acks.length x.cap)) ∧ (w'.cell? ⟨b2, off2 + k * 2, none⟩ = some (.string x.digest) ∧ w'.cell? ⟨b2, off2 + k * 2 + 1, none⟩ = some (.slice y.ao x.acks.length y.cap)) ∧ w'.cell? ⟨w.heap.size, 2, none⟩ = some (.slice (some ⟨b, off, none⟩) rs.length rc) ∧ w'.cell? ⟨w.heap.size + 1, 2, none⟩ = some (.slice (some ⟨b2, off2, none⟩) rs.length rc2)) (exact hcs _ (by assumption))
        (first
        | (go_at_call 73; refine (cC _ (hAt.below hbd) (hAt2.below hbd)).mono ?_; rintro e wA ⟨rfl, hbA⟩; have hbA' := hbd.trans (Below.mono hbA hbd.size)))
      have hX2 := hX1.below hbA' hX1.lt
      have hY2 := hY1.below hbA' hY1.lt
      have hb4 := hb.trans (hbA'.mono hb.size)
      clear hcs hS hbd hbA hbA' hX1 hY1 x2 y2 hAt hAt2
      go_wp2
      go_roundw
      case rel => exact ⟨k + 1, by omega, by go_num, hX2, hY2, hb4⟩
      case measure => simp [intOf]; omega
    · go_wp2
      go_ret
      exact ⟨rfl, hb⟩
end Go.Proofs.YtmngiekobmhpaaaGreat

/- What tuskref07.Same says of two certificates that are the same; nothing old in memory is turned. -/
namespace Go.Proofs.YtmngiekobmhpaaaGreat
open Go.RowKit
set_option linter.unusedVariables false

set_option maxRecDepth 100000 in
set_option maxHeartbeats 2000000 in
theorem sameC_any (a b : CertM) (w : World) (hA : a.At w) (hB : b.At w) (hd : a.d = b.d) (hn : a.hdr.refs.length ≤ 4611686018427387903) (hp : a.hdr.parents.length ≤ 4611686018427387903) (hL : ∀ x ∈ a.hdr.refs, x.acks.length ≤ 4611686018427387903) (hv : a.votes.length ≤ 4611686018427387903) :
    Calls Tryz.prog 25 #[a.v, b.v] w fun e w' => e = .returned (.bool true) ∧ Below w.heap.size w w' := by
  have hdh : a.hdr.d = b.hdr.d := congrArg CertD.header hd
  have hdv : a.votes = b.votes := congrArg CertD.votes hd
  obtain ⟨hX, hY, hb⟩ := two_new w 33 33 a.c b.c
  have hA1 := hA.below hb
  have hB1 := hB.below hb
  have cH := sameH_any a.hdr b.hdr _ hA1.hdr hB1.hdr hdh hn hp hL
  have cV := fun w1 h0 h1 => sameTags_any a.va b.va a.vc b.vc a.votes w1 h0 h1 hv
  have hV0 := hA1.votes
  have hV1 := hB1.votes
  rw [← hdv] at hV1
  unfold CertM.c at hX hY hb cH hV0 hV1
  unfold CertM.v
  unfold HdrM.v at cH
  rw [← hdv] at *
  clear hA hB hA1 hB1 hd hdh hdv
  obtain ⟨w1, hw1⟩ : ∃ q, (w.alloc (.cells [.int .i64 a.hdr.author, .int .i64 a.hdr.round, .slice a.hdr.ra a.hdr.refs.length a.hdr.rc, .slice a.hdr.pa a.hdr.parents.length a.hdr.pc, .slice a.va a.votes.length a.vc].toArray 33)).alloc (.cells [.int .i64 b.hdr.author, .int .i64 b.hdr.round, .slice b.hdr.ra b.hdr.refs.length b.hdr.rc, .slice b.hdr.pa b.hdr.parents.length b.hdr.pc, .slice b.va a.votes.length b.vc].toArray 33) = q := ⟨_, rfl⟩
  rw [hw1] at hX hY hb cH hV0 hV1
  have x0 := hX.cell (i := 0) rfl
  have x1 := hX.cell (i := 1) rfl
  have x2 := hX.cell (i := 2) rfl
  have x3 := hX.cell (i := 3) rfl
  have x4 := hX.cell (i := 4) rfl
  have y0 := hY.cell (i := 0) rfl
  have y1 := hY.cell (i := 1) rfl
  have y2 := hY.cell (i := 2) rfl
  have y3 := hY.cell (i := 3) rfl
  have y4 := hY.cell (i := 4) rfl
  go_enter Tryz.func25, Tryz.ntmps25
  go_wp2_with fail
  refine cH.mono ?_
  rintro e w2 ⟨rfl, hb2⟩
  have hX2 := hX.below hb2 hX.lt
  have hY2 := hY.below hb2 hY.lt
  have hV02 := hV0.below hb2
  have hV12 := hV1.below hb2
  have hB2 := hb.trans (hb2.mono hb.size)
  clear cH hX hY hV0 hV1 hb hb2 x0 x1 x2 x3 x4 y0 y1 y2 y3 y4
  have x4 := hX2.cell (i := 4) rfl
  have y4 := hY2.cell (i := 4) rfl
  go_wp2_with fail
  refine (cV _ hV02 hV12).mono ?_
  rintro e w3 ⟨rfl, hb3⟩
  have hB3 := hB2.trans (hb3.mono hB2.size)
  clear cV hX2 hY2 hV02 hV12 hB2 hb3 x4 y4
  go_wp2
  go_ret
  exact ⟨rfl, hB3⟩
end Go.Proofs.YtmngiekobmhpaaaGreat

/- What tuskref08.SameQc and tuskref08.Same say of two that are the same; nothing old in memory is turned. -/
namespace Go.Proofs.YtmngiekobmhpaaaGreat
open Go.RowKit
set_option linter.unusedVariables false

set_option maxRecDepth 100000 in
set_option maxHeartbeats 2000000 in
theorem sameQ_any (a b : QcM) (w : World) (hA : a.At w) (hB : b.At w) (hd : a.d = b.d) (hv : a.votes.length ≤ 4611686018427387903) :
    Calls Tryz.prog 27 #[a.v, b.v] w fun e w' => e = .returned (.bool true) ∧ Below w.heap.size w w' := by
  obtain ⟨v0, k0, a0, l0, c0⟩ := a
  obtain ⟨v1, k1, a1, l1, c1⟩ := b
  simp only [QcM.d, QcD.mk.injEq] at hd
  obtain ⟨rfl, rfl, rfl⟩ := hd
  have hA1 : RowAt tagK w a0 l0 := hA.votes
  have hB1 : RowAt tagK w a1 l0 := hB.votes
  obtain ⟨hX, hY, hb⟩ := two_new w 35 35 [.int .i64 v0, .string k0, .slice a0 l0.length c0] [.int .i64 v0, .string k0, .slice a1 l0.length c1]
  have cV := sameTags_any a0 a1 c0 c1 l0 _ (hA1.below hb) (hB1.below hb) hv
  unfold QcM.v
  simp only
  clear hA hB hA1 hB1 hv
  obtain ⟨w1, hw1⟩ : ∃ q, (w.alloc (.cells [.int .i64 v0, .string k0, .slice a0 l0.length c0].toArray 35)).alloc (.cells [.int .i64 v0, .string k0, .slice a1 l0.length c1].toArray 35) = q := ⟨_, rfl⟩
  rw [hw1] at hX hY hb cV
  have x0 := hX.cell (i := 0) rfl
  have x1 := hX.cell (i := 1) rfl
  have x2 := hX.cell (i := 2) rfl
  have y0 := hY.cell (i := 0) rfl
  have y1 := hY.cell (i := 1) rfl
  have y2 := hY.cell (i := 2) rfl
  go_enter Tryz.func27, Tryz.ntmps27
  go_wp2_with fail
  refine cV.mono ?_
  rintro e w2 ⟨rfl, hb2⟩
  have hB2 := hb.trans (hb2.mono hb.size)
  clear cV hX hY hb hb2 x0 x1 x2 y0 y1 y2
  go_wp2
  go_ret
  exact ⟨rfl, hB2⟩

set_option maxRecDepth 100000 in
set_option maxHeartbeats 2000000 in
theorem sameK_any (a b : BlkM) (w : World) (hA : a.At w) (hB : b.At w) (hd : a.d = b.d) (hv : a.qc.votes.length ≤ 4611686018427387903) (hc : a.certs.length ≤ 4611686018427387903) :
    Calls Tryz.prog 26 #[a.v, b.v] w fun e w' => e = .returned (.bool true) ∧ Below w.heap.size w w' := by
  obtain ⟨v0, q0, a0, l0, c0⟩ := a
  obtain ⟨v1, q1, a1, l1, c1⟩ := b
  simp only [BlkM.d, BlkD.mk.injEq] at hd
  obtain ⟨rfl, hq, rfl⟩ := hd
  have hA1 : RowAt strK w a0 l0 := hA.certs
  have hB1 : RowAt strK w a1 l0 := hB.certs
  have hAq : q0.At w := hA.qc
  have hBq : q1.At w := hB.qc
  obtain ⟨hX, hY, hb⟩ := two_new w 37 37 [.int .i64 v0, .int .i64 q0.view, .string q0.block, .slice q0.va q0.votes.length q0.vc, .slice a0 l0.length c0] [.int .i64 v0, .int .i64 q1.view, .string q1.block, .slice q1.va q1.votes.length q1.vc, .slice a1 l0.length c1]
  have cQ := sameQ_any q0 q1 _ (hAq.below hb) (hBq.below hb) hq hv
  have cS := fun w1 h0 h1 => same_any a0 a1 c0 c1 l0 w1 h0 h1 (by have := hc; simp only at this; omega)
  have hS0 := hA1.below hb
  have hS1 := hB1.below hb
  unfold QcM.v at cQ
  unfold BlkM.v
  simp only
  clear hA hB hA1 hB1 hv hc hAq hBq hq
  obtain ⟨w1, hw1⟩ : ∃ q, (w.alloc (.cells [.int .i64 v0, .int .i64 q0.view, .string q0.block, .slice q0.va q0.votes.length q0.vc, .slice a0 l0.length c0].toArray 37)).alloc (.cells [.int .i64 v0, .int .i64 q1.view, .string q1.block, .slice q1.va q1.votes.length q1.vc, .slice a1 l0.length c1].toArray 37) = q := ⟨_, rfl⟩
  rw [hw1] at hX hY hb cQ hS0 hS1
  have x0 := hX.cell (i := 0) rfl
  have x1 := hX.cell (i := 1) rfl
  have x2 := hX.cell (i := 2) rfl
  have x3 := hX.cell (i := 3) rfl
  have y0 := hY.cell (i := 0) rfl
  have y1 := hY.cell (i := 1) rfl
  have y2 := hY.cell (i := 2) rfl
  have y3 := hY.cell (i := 3) rfl
  go_enter Tryz.func26, Tryz.ntmps26
  go_wp2_with fail
  refine cQ.mono ?_
  rintro e w2 ⟨rfl, hb2⟩
  have hX2 := hX.below hb2 hX.lt
  have hY2 := hY.below hb2 hY.lt
  have hS02 := hS0.below hb2
  have hS12 := hS1.below hb2
  have hB2 := hb.trans (hb2.mono hb.size)
  clear cQ hX hY hS0 hS1 hb hb2 x0 x1 x2 x3 y0 y1 y2 y3
  have x4 := hX2.cell (i := 4) rfl
  have y4 := hY2.cell (i := 4) rfl
  go_wp2_with fail
  refine (cS _ hS02.strs hS12.strs).mono ?_
  rintro e w3 ⟨rfl, hb3⟩
  have hB3 := hB2.trans (hb3.mono hB2.size)
  clear cS hX2 hY2 hS02 hS12 hB2 hb3 x4 y4
  go_wp2
  go_ret
  exact ⟨rfl, hB3⟩
end Go.Proofs.YtmngiekobmhpaaaGreat
