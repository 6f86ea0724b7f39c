/- Texts as one: MsgZero, MsgRune, MsgCheck, CertEncode, FitMath. -/
import Derived.Test.YtaoiejgbbmjpkaaGreatDoorCk13
import Derived.Lib.Bytealg
import Derived.Lib.IndexAny
import Derived.Lib.OthersKept
import Derived.BigFrame
import Derived.Test.YtaoiejgbbmjpkaaGreatDoorCk08
import Derived.Test.YtaoiejgbbmjpkaaGreatDoorCk11
import Derived.Test.YtaoiejgbbmjpkaaGreatDoorCk09
import Derived.Lib.QuietBelow
import Derived.BigQuiet
/- What package msg's isZero and isPlain say, letter by letter; nothing old in memory is turned. -/
namespace Go.Proofs.YtaoiejgbbmjpkaaGreatDoor
open Go.RowKit
set_option linter.unusedVariables false

/-- A field holds nothing. -/
def zeroF (m : MsgD) (c : UInt8) : Prop :=
  if c = 100 then m.digest.size = 0 else if c = 118 then m.view = 0 else if c = 116 then m.tag.Nil else if c = 98 then m.batch.Nil else if c = 104 then m.header.Nil else if c = 99 then m.cert.Nil else if c = 107 then m.block.Nil else m.qc.Nil

/-- A field other than a batch is plain. -/
def plainF (m : MsgD) (c : UInt8) : Bool :=
  if c = 100 then decide (m.digest.size = 32) else if c = 118 then decide (numOk m.view) else if c = 116 then decide (tagOk m.tag) else if c = 104 then decide m.header.Plain else if c = 99 then decide m.cert.Plain else if c = 107 then decide m.block.Plain else decide m.qc.Plain

set_option maxRecDepth 100000 in
set_option maxHeartbeats 2000000 in
theorem isZero_d (k : Int) (dg : ByteArray) (vi : Int) (tg : TagD) (ba : BatM) (he : HdrM) (ce : CertM) (bl : BlkM) (q : QcM) (w : World) :
    Calls Tryz.prog 34 #[MsgM.v ⟨k, dg, vi, tg, ba, he, ce, bl, q⟩, .int .i32 100] w (Told w (dg.size = 0)) := by
  obtain ⟨P, hd⟩ : ∃ P : Prop, Hid (P ↔ (dg.size = 0)) := ⟨_, Iff.rfl⟩
  refine Calls.mono ?_ (fun e w' (h : Told w P e w') => h.iff hd.out)
  replace hd : Hid (P ↔ (dg.size = 0)) := hd.out.trans (Iff.rfl)
  have hX := Arr.new w 39 [.int .i64 k, .string dg, .int .i64 vi, .int .i64 tg.who, .string tg.mac, .int .i64 ba.author, .int .i64 ba.number, .slice ba.ta ba.txs.length ba.tc, .int .i64 he.author, .int .i64 he.round, .slice he.ra he.refs.length he.rc, .slice he.pa he.parents.length he.pc, .int .i64 ce.hdr.author, .int .i64 ce.hdr.round, .slice ce.hdr.ra ce.hdr.refs.length ce.hdr.rc, .slice ce.hdr.pa ce.hdr.parents.length ce.hdr.pc, .slice ce.va ce.votes.length ce.vc, .int .i64 bl.view, .int .i64 bl.qc.view, .string bl.qc.block, .slice bl.qc.va bl.qc.votes.length bl.qc.vc, .slice bl.ca bl.certs.length bl.cc, .int .i64 q.view, .string q.block, .slice q.va q.votes.length q.vc]
  have hB := belowNew w (.cells [.int .i64 k, .string dg, .int .i64 vi, .int .i64 tg.who, .string tg.mac, .int .i64 ba.author, .int .i64 ba.number, .slice ba.ta ba.txs.length ba.tc, .int .i64 he.author, .int .i64 he.round, .slice he.ra he.refs.length he.rc, .slice he.pa he.parents.length he.pc, .int .i64 ce.hdr.author, .int .i64 ce.hdr.round, .slice ce.hdr.ra ce.hdr.refs.length ce.hdr.rc, .slice ce.hdr.pa ce.hdr.parents.length ce.hdr.pc, .slice ce.va ce.votes.length ce.vc, .int .i64 bl.view, .int .i64 bl.qc.view, .string bl.qc.block, .slice bl.qc.va bl.qc.votes.length bl.qc.vc, .slice bl.ca bl.certs.length bl.cc, .int .i64 q.view, .string q.block, .slice q.va q.votes.length q.vc].toArray 39)
  unfold MsgM.v MsgM.c
  simp only
  obtain ⟨w1, hw1⟩ : ∃ q', w.alloc (.cells [.int .i64 k, .string dg, .int .i64 vi, .int .i64 tg.who, .string tg.mac, .int .i64 ba.author, .int .i64 ba.number, .slice ba.ta ba.txs.length ba.tc, .int .i64 he.author, .int .i64 he.round, .slice he.ra he.refs.length he.rc, .slice he.pa he.parents.length he.pc, .int .i64 ce.hdr.author, .int .i64 ce.hdr.round, .slice ce.hdr.ra ce.hdr.refs.length ce.hdr.rc, .slice ce.hdr.pa ce.hdr.parents.length ce.hdr.pc, .slice ce.va ce.votes.length ce.vc, .int .i64 bl.view, .int .i64 bl.qc.view, .string bl.qc.block, .slice bl.qc.va bl.qc.votes.length bl.qc.vc, .slice bl.ca bl.certs.length bl.cc, .int .i64 q.view, .string q.block, .slice q.va q.votes.length q.vc].toArray 39) = q' := ⟨_, rfl⟩
  rw [hw1] at hX hB
  go_enter Tryz.func34, Tryz.ntmps34
  have x1 := hX.cell (i := 1) rfl
  have hF : Hid (dg.toList.isEmpty = true ↔ P) := by
    show _ ↔ _
    rw [hd.out, List.isEmpty_iff, ByteArray.toList_eq]
    constructor
    · intro h
      have := congrArg List.length h
      simpa using this
    · intro h
      rw [bytes_nil h]
  clear hd
  go_wp2
  go_ret
  exact ⟨⟨_, rfl, hF.out⟩, hB⟩

set_option maxRecDepth 100000 in
set_option maxHeartbeats 2000000 in
theorem isZero_v (k : Int) (dg : ByteArray) (vi : Int) (tg : TagD) (ba : BatM) (he : HdrM) (ce : CertM) (bl : BlkM) (q : QcM) (w : World) :
    Calls Tryz.prog 34 #[MsgM.v ⟨k, dg, vi, tg, ba, he, ce, bl, q⟩, .int .i32 118] w (Told w (vi = 0)) := by
  obtain ⟨P, hd⟩ : ∃ P : Prop, Hid (P ↔ (vi = 0)) := ⟨_, Iff.rfl⟩
  refine Calls.mono ?_ (fun e w' (h : Told w P e w') => h.iff hd.out)
  replace hd : Hid (P ↔ (vi = 0)) := hd.out.trans (Iff.rfl)
  have hX := Arr.new w 39 [.int .i64 k, .string dg, .int .i64 vi, .int .i64 tg.who, .string tg.mac, .int .i64 ba.author, .int .i64 ba.number, .slice ba.ta ba.txs.length ba.tc, .int .i64 he.author, .int .i64 he.round, .slice he.ra he.refs.length he.rc, .slice he.pa he.parents.length he.pc, .int .i64 ce.hdr.author, .int .i64 ce.hdr.round, .slice ce.hdr.ra ce.hdr.refs.length ce.hdr.rc, .slice ce.hdr.pa ce.hdr.parents.length ce.hdr.pc, .slice ce.va ce.votes.length ce.vc, .int .i64 bl.view, .int .i64 bl.qc.view, .string bl.qc.block, .slice bl.qc.va bl.qc.votes.length bl.qc.vc, .slice bl.ca bl.certs.length bl.cc, .int .i64 q.view, .string q.block, .slice q.va q.votes.length q.vc]
  have hB := belowNew w (.cells [.int .i64 k, .string dg, .int .i64 vi, .int .i64 tg.who, .string tg.mac, .int .i64 ba.author, .int .i64 ba.number, .slice ba.ta ba.txs.length ba.tc, .int .i64 he.author, .int .i64 he.round, .slice he.ra he.refs.length he.rc, .slice he.pa he.parents.length he.pc, .int .i64 ce.hdr.author, .int .i64 ce.hdr.round, .slice ce.hdr.ra ce.hdr.refs.length ce.hdr.rc, .slice ce.hdr.pa ce.hdr.parents.length ce.hdr.pc, .slice ce.va ce.votes.length ce.vc, .int .i64 bl.view, .int .i64 bl.qc.view, .string bl.qc.block, .slice bl.qc.va bl.qc.votes.length bl.qc.vc, .slice bl.ca bl.certs.length bl.cc, .int .i64 q.view, .string q.block, .slice q.va q.votes.length q.vc].toArray 39)
  unfold MsgM.v MsgM.c
  simp only
  obtain ⟨w1, hw1⟩ : ∃ q', w.alloc (.cells [.int .i64 k, .string dg, .int .i64 vi, .int .i64 tg.who, .string tg.mac, .int .i64 ba.author, .int .i64 ba.number, .slice ba.ta ba.txs.length ba.tc, .int .i64 he.author, .int .i64 he.round, .slice he.ra he.refs.length he.rc, .slice he.pa he.parents.length he.pc, .int .i64 ce.hdr.author, .int .i64 ce.hdr.round, .slice ce.hdr.ra ce.hdr.refs.length ce.hdr.rc, .slice ce.hdr.pa ce.hdr.parents.length ce.hdr.pc, .slice ce.va ce.votes.length ce.vc, .int .i64 bl.view, .int .i64 bl.qc.view, .string bl.qc.block, .slice bl.qc.va bl.qc.votes.length bl.qc.vc, .slice bl.ca bl.certs.length bl.cc, .int .i64 q.view, .string q.block, .slice q.va q.votes.length q.vc].toArray 39) = q' := ⟨_, rfl⟩
  rw [hw1] at hX hB
  go_enter Tryz.func34, Tryz.ntmps34
  have x2 := hX.cell (i := 2) rfl
  cases h0 : (vi == 0)
  case false =>
    have hno : Hid (¬ P) := fun h => by rw [beq_eq_false_iff_ne] at h0; exact h0 (by have := (hd.out.1 h); omega)
    clear hd
    go_wp2
    go_ret
    exact told_no hno.out hB rfl
  have hy : Hid P := hd.out.2 (by rw [beq_iff_eq] at h0; omega)
  clear hd
  go_wp2
  go_ret
  exact told_yes hy.out hB rfl

set_option maxRecDepth 100000 in
set_option maxHeartbeats 2000000 in
theorem isZero_t (k : Int) (dg : ByteArray) (vi : Int) (tg : TagD) (ba : BatM) (he : HdrM) (ce : CertM) (bl : BlkM) (q : QcM) (w : World) :
    Calls Tryz.prog 34 #[MsgM.v ⟨k, dg, vi, tg, ba, he, ce, bl, q⟩, .int .i32 116] w (Told w (tg.Nil)) := by
  obtain ⟨P, hd⟩ : ∃ P : Prop, Hid (P ↔ tg.Nil) := ⟨_, Iff.rfl⟩
  refine Calls.mono ?_ (fun e w' (h : Told w P e w') => h.iff hd.out)
  obtain ⟨who, mac⟩ := tg
  replace hd : Hid (P ↔ (who = 0 ∧ mac.size = 0)) := hd
  by_cases h1 : who = 0
  · subst h1
    by_cases h2 : mac = ⟨#[]⟩
    · subst h2
      have hy : Hid P := hd.out.2 ⟨rfl, rfl⟩
      have hX := Arr.new w 39 [.int .i64 k, .string dg, .int .i64 vi, .int .i64 0, .string ⟨#[]⟩, .int .i64 ba.author, .int .i64 ba.number, .slice ba.ta ba.txs.length ba.tc, .int .i64 he.author, .int .i64 he.round, .slice he.ra he.refs.length he.rc, .slice he.pa he.parents.length he.pc, .int .i64 ce.hdr.author, .int .i64 ce.hdr.round, .slice ce.hdr.ra ce.hdr.refs.length ce.hdr.rc, .slice ce.hdr.pa ce.hdr.parents.length ce.hdr.pc, .slice ce.va ce.votes.length ce.vc, .int .i64 bl.view, .int .i64 bl.qc.view, .string bl.qc.block, .slice bl.qc.va bl.qc.votes.length bl.qc.vc, .slice bl.ca bl.certs.length bl.cc, .int .i64 q.view, .string q.block, .slice q.va q.votes.length q.vc]
      have hB := belowNew w (.cells [.int .i64 k, .string dg, .int .i64 vi, .int .i64 0, .string ⟨#[]⟩, .int .i64 ba.author, .int .i64 ba.number, .slice ba.ta ba.txs.length ba.tc, .int .i64 he.author, .int .i64 he.round, .slice he.ra he.refs.length he.rc, .slice he.pa he.parents.length he.pc, .int .i64 ce.hdr.author, .int .i64 ce.hdr.round, .slice ce.hdr.ra ce.hdr.refs.length ce.hdr.rc, .slice ce.hdr.pa ce.hdr.parents.length ce.hdr.pc, .slice ce.va ce.votes.length ce.vc, .int .i64 bl.view, .int .i64 bl.qc.view, .string bl.qc.block, .slice bl.qc.va bl.qc.votes.length bl.qc.vc, .slice bl.ca bl.certs.length bl.cc, .int .i64 q.view, .string q.block, .slice q.va q.votes.length q.vc].toArray 39)
      unfold MsgM.v MsgM.c
      simp only
      have x3 := hX.cell (i := 3) rfl
      have x4 := hX.cell (i := 4) rfl
      clear hd
      go_enter Tryz.func34, Tryz.ntmps34
      go_wp2
      go_ret
      exact told_yes hy.out hB rfl
    · have hno : Hid (¬ P) := fun h => h2 (bytes_nil (hd.out.1 h).2)
      have h2' : ¬ mac.toList = [] := fun h => h2 (bytes_nil (by rw [ByteArray.toList_eq] at h; have := congrArg List.length h; simpa using this))
      have hX := Arr.new w 39 [.int .i64 k, .string dg, .int .i64 vi, .int .i64 0, .string mac, .int .i64 ba.author, .int .i64 ba.number, .slice ba.ta ba.txs.length ba.tc, .int .i64 he.author, .int .i64 he.round, .slice he.ra he.refs.length he.rc, .slice he.pa he.parents.length he.pc, .int .i64 ce.hdr.author, .int .i64 ce.hdr.round, .slice ce.hdr.ra ce.hdr.refs.length ce.hdr.rc, .slice ce.hdr.pa ce.hdr.parents.length ce.hdr.pc, .slice ce.va ce.votes.length ce.vc, .int .i64 bl.view, .int .i64 bl.qc.view, .string bl.qc.block, .slice bl.qc.va bl.qc.votes.length bl.qc.vc, .slice bl.ca bl.certs.length bl.cc, .int .i64 q.view, .string q.block, .slice q.va q.votes.length q.vc]
      have hB := belowNew w (.cells [.int .i64 k, .string dg, .int .i64 vi, .int .i64 0, .string mac, .int .i64 ba.author, .int .i64 ba.number, .slice ba.ta ba.txs.length ba.tc, .int .i64 he.author, .int .i64 he.round, .slice he.ra he.refs.length he.rc, .slice he.pa he.parents.length he.pc, .int .i64 ce.hdr.author, .int .i64 ce.hdr.round, .slice ce.hdr.ra ce.hdr.refs.length ce.hdr.rc, .slice ce.hdr.pa ce.hdr.parents.length ce.hdr.pc, .slice ce.va ce.votes.length ce.vc, .int .i64 bl.view, .int .i64 bl.qc.view, .string bl.qc.block, .slice bl.qc.va bl.qc.votes.length bl.qc.vc, .slice bl.ca bl.certs.length bl.cc, .int .i64 q.view, .string q.block, .slice q.va q.votes.length q.vc].toArray 39)
      unfold MsgM.v MsgM.c
      simp only
      have x3 := hX.cell (i := 3) rfl
      have x4 := hX.cell (i := 4) rfl
      clear hd
      go_enter Tryz.func34, Tryz.ntmps34
      go_wp2
      go_ret
      exact told_no hno.out hB rfl
  · have hno : Hid (¬ P) := fun h => h1 (hd.out.1 h).1
    have hX := Arr.new w 39 [.int .i64 k, .string dg, .int .i64 vi, .int .i64 who, .string mac, .int .i64 ba.author, .int .i64 ba.number, .slice ba.ta ba.txs.length ba.tc, .int .i64 he.author, .int .i64 he.round, .slice he.ra he.refs.length he.rc, .slice he.pa he.parents.length he.pc, .int .i64 ce.hdr.author, .int .i64 ce.hdr.round, .slice ce.hdr.ra ce.hdr.refs.length ce.hdr.rc, .slice ce.hdr.pa ce.hdr.parents.length ce.hdr.pc, .slice ce.va ce.votes.length ce.vc, .int .i64 bl.view, .int .i64 bl.qc.view, .string bl.qc.block, .slice bl.qc.va bl.qc.votes.length bl.qc.vc, .slice bl.ca bl.certs.length bl.cc, .int .i64 q.view, .string q.block, .slice q.va q.votes.length q.vc]
    have hB := belowNew w (.cells [.int .i64 k, .string dg, .int .i64 vi, .int .i64 who, .string mac, .int .i64 ba.author, .int .i64 ba.number, .slice ba.ta ba.txs.length ba.tc, .int .i64 he.author, .int .i64 he.round, .slice he.ra he.refs.length he.rc, .slice he.pa he.parents.length he.pc, .int .i64 ce.hdr.author, .int .i64 ce.hdr.round, .slice ce.hdr.ra ce.hdr.refs.length ce.hdr.rc, .slice ce.hdr.pa ce.hdr.parents.length ce.hdr.pc, .slice ce.va ce.votes.length ce.vc, .int .i64 bl.view, .int .i64 bl.qc.view, .string bl.qc.block, .slice bl.qc.va bl.qc.votes.length bl.qc.vc, .slice bl.ca bl.certs.length bl.cc, .int .i64 q.view, .string q.block, .slice q.va q.votes.length q.vc].toArray 39)
    unfold MsgM.v MsgM.c
    simp only
    have x3 := hX.cell (i := 3) rfl
    have x4 := hX.cell (i := 4) rfl
    clear hd
    go_enter Tryz.func34, Tryz.ntmps34
    go_wp2
    go_ret
    exact told_no hno.out hB rfl

set_option maxRecDepth 100000 in
set_option maxHeartbeats 2000000 in
theorem isZero_b (k : Int) (dg : ByteArray) (vi : Int) (tg : TagD) (ba : BatM) (he : HdrM) (ce : CertM) (bl : BlkM) (q : QcM) (w : World) :
    Calls Tryz.prog 34 #[MsgM.v ⟨k, dg, vi, tg, ba, he, ce, bl, q⟩, .int .i32 98] w (Told w (ba.d.Nil)) := by
  obtain ⟨P, hd⟩ : ∃ P : Prop, Hid (P ↔ (ba.d.Nil)) := ⟨_, Iff.rfl⟩
  refine Calls.mono ?_ (fun e w' (h : Told w P e w') => h.iff hd.out)
  replace hd : Hid (P ↔ (ba.author = 0 ∧ ba.number = 0 ∧ ba.txs.length = 0)) := hd.out.trans (by show (ba.author = 0 ∧ ba.number = 0 ∧ (dl ba.txs).length = 0) ↔ _; rw [dl_length])
  have hX := Arr.new w 39 [.int .i64 k, .string dg, .int .i64 vi, .int .i64 tg.who, .string tg.mac, .int .i64 ba.author, .int .i64 ba.number, .slice ba.ta ba.txs.length ba.tc, .int .i64 he.author, .int .i64 he.round, .slice he.ra he.refs.length he.rc, .slice he.pa he.parents.length he.pc, .int .i64 ce.hdr.author, .int .i64 ce.hdr.round, .slice ce.hdr.ra ce.hdr.refs.length ce.hdr.rc, .slice ce.hdr.pa ce.hdr.parents.length ce.hdr.pc, .slice ce.va ce.votes.length ce.vc, .int .i64 bl.view, .int .i64 bl.qc.view, .string bl.qc.block, .slice bl.qc.va bl.qc.votes.length bl.qc.vc, .slice bl.ca bl.certs.length bl.cc, .int .i64 q.view, .string q.block, .slice q.va q.votes.length q.vc]
  have hB := belowNew w (.cells [.int .i64 k, .string dg, .int .i64 vi, .int .i64 tg.who, .string tg.mac, .int .i64 ba.author, .int .i64 ba.number, .slice ba.ta ba.txs.length ba.tc, .int .i64 he.author, .int .i64 he.round, .slice he.ra he.refs.length he.rc, .slice he.pa he.parents.length he.pc, .int .i64 ce.hdr.author, .int .i64 ce.hdr.round, .slice ce.hdr.ra ce.hdr.refs.length ce.hdr.rc, .slice ce.hdr.pa ce.hdr.parents.length ce.hdr.pc, .slice ce.va ce.votes.length ce.vc, .int .i64 bl.view, .int .i64 bl.qc.view, .string bl.qc.block, .slice bl.qc.va bl.qc.votes.length bl.qc.vc, .slice bl.ca bl.certs.length bl.cc, .int .i64 q.view, .string q.block, .slice q.va q.votes.length q.vc].toArray 39)
  unfold MsgM.v MsgM.c
  simp only
  obtain ⟨w1, hw1⟩ : ∃ q', w.alloc (.cells [.int .i64 k, .string dg, .int .i64 vi, .int .i64 tg.who, .string tg.mac, .int .i64 ba.author, .int .i64 ba.number, .slice ba.ta ba.txs.length ba.tc, .int .i64 he.author, .int .i64 he.round, .slice he.ra he.refs.length he.rc, .slice he.pa he.parents.length he.pc, .int .i64 ce.hdr.author, .int .i64 ce.hdr.round, .slice ce.hdr.ra ce.hdr.refs.length ce.hdr.rc, .slice ce.hdr.pa ce.hdr.parents.length ce.hdr.pc, .slice ce.va ce.votes.length ce.vc, .int .i64 bl.view, .int .i64 bl.qc.view, .string bl.qc.block, .slice bl.qc.va bl.qc.votes.length bl.qc.vc, .slice bl.ca bl.certs.length bl.cc, .int .i64 q.view, .string q.block, .slice q.va q.votes.length q.vc].toArray 39) = q' := ⟨_, rfl⟩
  rw [hw1] at hX hB
  go_enter Tryz.func34, Tryz.ntmps34
  have x5 := hX.cell (i := 5) rfl
  have x6 := hX.cell (i := 6) rfl
  have x7 := hX.cell (i := 7) rfl
  cases h0 : (ba.author == 0)
  case false =>
    have hno : Hid (¬ P) := fun h => by rw [beq_eq_false_iff_ne] at h0; exact h0 (by have := (hd.out.1 h).1; omega)
    clear hd
    go_wp2
    go_ret
    exact told_no hno.out hB rfl
  replace hd : Hid (P ↔ (ba.number = 0 ∧ ba.txs.length = 0)) := ⟨fun h => (hd.out.1 h).2, fun h => hd.out.2 ⟨(by rw [beq_iff_eq] at h0; omega), h⟩⟩
  cases h1 : (ba.number == 0)
  case false =>
    have hno : Hid (¬ P) := fun h => by rw [beq_eq_false_iff_ne] at h1; exact h1 (by have := (hd.out.1 h).1; omega)
    clear hd
    go_wp2
    go_ret
    exact told_no hno.out hB rfl
  replace hd : Hid (P ↔ (ba.txs.length = 0)) := ⟨fun h => (hd.out.1 h).2, fun h => hd.out.2 ⟨(by rw [beq_iff_eq] at h1; omega), h⟩⟩
  cases h2 : ((ba.txs.length : Int) == 0)
  case false =>
    have hno : Hid (¬ P) := fun h => by rw [beq_eq_false_iff_ne] at h2; exact h2 (by have := (hd.out.1 h); omega)
    clear hd
    go_wp2
    go_ret
    exact told_no hno.out hB rfl
  have hy : Hid P := hd.out.2 (by rw [beq_iff_eq] at h2; omega)
  clear hd
  go_wp2
  go_ret
  exact told_yes hy.out hB rfl

set_option maxRecDepth 100000 in
set_option maxHeartbeats 2000000 in
theorem isZero_h (k : Int) (dg : ByteArray) (vi : Int) (tg : TagD) (ba : BatM) (he : HdrM) (ce : CertM) (bl : BlkM) (q : QcM) (w : World) :
    Calls Tryz.prog 34 #[MsgM.v ⟨k, dg, vi, tg, ba, he, ce, bl, q⟩, .int .i32 104] w (Told w (he.d.Nil)) := by
  obtain ⟨P, hd⟩ : ∃ P : Prop, Hid (P ↔ (he.d.Nil)) := ⟨_, Iff.rfl⟩
  refine Calls.mono ?_ (fun e w' (h : Told w P e w') => h.iff hd.out)
  replace hd : Hid (P ↔ (he.d.Nil)) := hd.out.trans (Iff.rfl)
  have hX := Arr.new w 39 [.int .i64 k, .string dg, .int .i64 vi, .int .i64 tg.who, .string tg.mac, .int .i64 ba.author, .int .i64 ba.number, .slice ba.ta ba.txs.length ba.tc, .int .i64 he.author, .int .i64 he.round, .slice he.ra he.refs.length he.rc, .slice he.pa he.parents.length he.pc, .int .i64 ce.hdr.author, .int .i64 ce.hdr.round, .slice ce.hdr.ra ce.hdr.refs.length ce.hdr.rc, .slice ce.hdr.pa ce.hdr.parents.length ce.hdr.pc, .slice ce.va ce.votes.length ce.vc, .int .i64 bl.view, .int .i64 bl.qc.view, .string bl.qc.block, .slice bl.qc.va bl.qc.votes.length bl.qc.vc, .slice bl.ca bl.certs.length bl.cc, .int .i64 q.view, .string q.block, .slice q.va q.votes.length q.vc]
  have hB := belowNew w (.cells [.int .i64 k, .string dg, .int .i64 vi, .int .i64 tg.who, .string tg.mac, .int .i64 ba.author, .int .i64 ba.number, .slice ba.ta ba.txs.length ba.tc, .int .i64 he.author, .int .i64 he.round, .slice he.ra he.refs.length he.rc, .slice he.pa he.parents.length he.pc, .int .i64 ce.hdr.author, .int .i64 ce.hdr.round, .slice ce.hdr.ra ce.hdr.refs.length ce.hdr.rc, .slice ce.hdr.pa ce.hdr.parents.length ce.hdr.pc, .slice ce.va ce.votes.length ce.vc, .int .i64 bl.view, .int .i64 bl.qc.view, .string bl.qc.block, .slice bl.qc.va bl.qc.votes.length bl.qc.vc, .slice bl.ca bl.certs.length bl.cc, .int .i64 q.view, .string q.block, .slice q.va q.votes.length q.vc].toArray 39)
  unfold MsgM.v MsgM.c
  simp only
  obtain ⟨w1, hw1⟩ : ∃ q', w.alloc (.cells [.int .i64 k, .string dg, .int .i64 vi, .int .i64 tg.who, .string tg.mac, .int .i64 ba.author, .int .i64 ba.number, .slice ba.ta ba.txs.length ba.tc, .int .i64 he.author, .int .i64 he.round, .slice he.ra he.refs.length he.rc, .slice he.pa he.parents.length he.pc, .int .i64 ce.hdr.author, .int .i64 ce.hdr.round, .slice ce.hdr.ra ce.hdr.refs.length ce.hdr.rc, .slice ce.hdr.pa ce.hdr.parents.length ce.hdr.pc, .slice ce.va ce.votes.length ce.vc, .int .i64 bl.view, .int .i64 bl.qc.view, .string bl.qc.block, .slice bl.qc.va bl.qc.votes.length bl.qc.vc, .slice bl.ca bl.certs.length bl.cc, .int .i64 q.view, .string q.block, .slice q.va q.votes.length q.vc].toArray 39) = q' := ⟨_, rfl⟩
  rw [hw1] at hX hB
  go_enter Tryz.func34, Tryz.ntmps34
  have x8 := hX.cell (i := 8) rfl
  have x9 := hX.cell (i := 9) rfl
  have x10 := hX.cell (i := 10) rfl
  have x11 := hX.cell (i := 11) rfl
  go_wp2_with fail
  refine (isZeroHeader_any he _).mono ?_
  rintro e w2 ⟨⟨p, rfl, hp⟩, hb⟩
  have hX2 := hX.below hb hX.lt
  have hB2 := hB.trans (hb.mono hB.size)
  clear hX hB hb hw1 x8 x9 x10 x11
  obtain ⟨hX, hB⟩ := And.intro hX2 hB2
  clear hX2 hB2
  have hF : Hid (p = true ↔ P) := hp.trans hd.out.symm
  clear hd hp
  go_wp2
  go_ret
  exact ⟨⟨_, rfl, hF.out⟩, hB⟩

set_option maxRecDepth 100000 in
set_option maxHeartbeats 2000000 in
theorem isZero_c (k : Int) (dg : ByteArray) (vi : Int) (tg : TagD) (ba : BatM) (he : HdrM) (ce : CertM) (bl : BlkM) (q : QcM) (w : World) :
    Calls Tryz.prog 34 #[MsgM.v ⟨k, dg, vi, tg, ba, he, ce, bl, q⟩, .int .i32 99] w (Told w (ce.d.Nil)) := by
  obtain ⟨P, hd⟩ : ∃ P : Prop, Hid (P ↔ (ce.d.Nil)) := ⟨_, Iff.rfl⟩
  refine Calls.mono ?_ (fun e w' (h : Told w P e w') => h.iff hd.out)
  replace hd : Hid (P ↔ (ce.hdr.d.Nil ∧ ce.votes.length = 0)) := hd.out.trans (Iff.rfl)
  have hX := Arr.new w 39 [.int .i64 k, .string dg, .int .i64 vi, .int .i64 tg.who, .string tg.mac, .int .i64 ba.author, .int .i64 ba.number, .slice ba.ta ba.txs.length ba.tc, .int .i64 he.author, .int .i64 he.round, .slice he.ra he.refs.length he.rc, .slice he.pa he.parents.length he.pc, .int .i64 ce.hdr.author, .int .i64 ce.hdr.round, .slice ce.hdr.ra ce.hdr.refs.length ce.hdr.rc, .slice ce.hdr.pa ce.hdr.parents.length ce.hdr.pc, .slice ce.va ce.votes.length ce.vc, .int .i64 bl.view, .int .i64 bl.qc.view, .string bl.qc.block, .slice bl.qc.va bl.qc.votes.length bl.qc.vc, .slice bl.ca bl.certs.length bl.cc, .int .i64 q.view, .string q.block, .slice q.va q.votes.length q.vc]
  have hB := belowNew w (.cells [.int .i64 k, .string dg, .int .i64 vi, .int .i64 tg.who, .string tg.mac, .int .i64 ba.author, .int .i64 ba.number, .slice ba.ta ba.txs.length ba.tc, .int .i64 he.author, .int .i64 he.round, .slice he.ra he.refs.length he.rc, .slice he.pa he.parents.length he.pc, .int .i64 ce.hdr.author, .int .i64 ce.hdr.round, .slice ce.hdr.ra ce.hdr.refs.length ce.hdr.rc, .slice ce.hdr.pa ce.hdr.parents.length ce.hdr.pc, .slice ce.va ce.votes.length ce.vc, .int .i64 bl.view, .int .i64 bl.qc.view, .string bl.qc.block, .slice bl.qc.va bl.qc.votes.length bl.qc.vc, .slice bl.ca bl.certs.length bl.cc, .int .i64 q.view, .string q.block, .slice q.va q.votes.length q.vc].toArray 39)
  unfold MsgM.v MsgM.c
  simp only
  obtain ⟨w1, hw1⟩ : ∃ q', w.alloc (.cells [.int .i64 k, .string dg, .int .i64 vi, .int .i64 tg.who, .string tg.mac, .int .i64 ba.author, .int .i64 ba.number, .slice ba.ta ba.txs.length ba.tc, .int .i64 he.author, .int .i64 he.round, .slice he.ra he.refs.length he.rc, .slice he.pa he.parents.length he.pc, .int .i64 ce.hdr.author, .int .i64 ce.hdr.round, .slice ce.hdr.ra ce.hdr.refs.length ce.hdr.rc, .slice ce.hdr.pa ce.hdr.parents.length ce.hdr.pc, .slice ce.va ce.votes.length ce.vc, .int .i64 bl.view, .int .i64 bl.qc.view, .string bl.qc.block, .slice bl.qc.va bl.qc.votes.length bl.qc.vc, .slice bl.ca bl.certs.length bl.cc, .int .i64 q.view, .string q.block, .slice q.va q.votes.length q.vc].toArray 39) = q' := ⟨_, rfl⟩
  rw [hw1] at hX hB
  go_enter Tryz.func34, Tryz.ntmps34
  have x12 := hX.cell (i := 12) rfl
  have x13 := hX.cell (i := 13) rfl
  have x14 := hX.cell (i := 14) rfl
  have x15 := hX.cell (i := 15) rfl
  go_wp2_with fail
  refine (isZeroHeader_any ce.hdr _).mono ?_
  rintro e w2 ⟨⟨p, rfl, hp⟩, hb⟩
  have hX2 := hX.below hb hX.lt
  have hB2 := hB.trans (hb.mono hB.size)
  clear hX hB hb hw1 x12 x13 x14 x15
  obtain ⟨hX, hB⟩ := And.intro hX2 hB2
  clear hX2 hB2
  have x16 := hX.cell (i := 16) rfl
  cases p
  case false =>
    have hno : Hid (¬ P) := fun h => by have := hp.2 (hd.out.1 h).1; cases this
    clear hd hp
    go_wp2
    go_ret
    exact told_no hno.out hB rfl
  replace hd : Hid (P ↔ (ce.votes.length = 0)) := ⟨fun h => (hd.out.1 h).2, fun h => hd.out.2 ⟨hp.1 rfl, h⟩⟩
  clear hp
  cases h1 : ((ce.votes.length : Int) == 0)
  case false =>
    have hno : Hid (¬ P) := fun h => by rw [beq_eq_false_iff_ne] at h1; exact h1 (by have := (hd.out.1 h); omega)
    clear hd
    go_wp2
    go_ret
    exact told_no hno.out hB rfl
  have hy : Hid P := hd.out.2 (by rw [beq_iff_eq] at h1; omega)
  clear hd
  go_wp2
  go_ret
  exact told_yes hy.out hB rfl

set_option maxRecDepth 100000 in
set_option maxHeartbeats 2000000 in
theorem isZero_k (k : Int) (dg : ByteArray) (vi : Int) (tg : TagD) (ba : BatM) (he : HdrM) (ce : CertM) (bl : BlkM) (q : QcM) (w : World) :
    Calls Tryz.prog 34 #[MsgM.v ⟨k, dg, vi, tg, ba, he, ce, bl, q⟩, .int .i32 107] w (Told w (bl.d.Nil)) := by
  obtain ⟨P, hd⟩ : ∃ P : Prop, Hid (P ↔ (bl.d.Nil)) := ⟨_, Iff.rfl⟩
  refine Calls.mono ?_ (fun e w' (h : Told w P e w') => h.iff hd.out)
  replace hd : Hid (P ↔ (bl.view = 0 ∧ bl.qc.d.Nil ∧ bl.certs.length = 0)) := hd.out.trans (Iff.rfl)
  have hX := Arr.new w 39 [.int .i64 k, .string dg, .int .i64 vi, .int .i64 tg.who, .string tg.mac, .int .i64 ba.author, .int .i64 ba.number, .slice ba.ta ba.txs.length ba.tc, .int .i64 he.author, .int .i64 he.round, .slice he.ra he.refs.length he.rc, .slice he.pa he.parents.length he.pc, .int .i64 ce.hdr.author, .int .i64 ce.hdr.round, .slice ce.hdr.ra ce.hdr.refs.length ce.hdr.rc, .slice ce.hdr.pa ce.hdr.parents.length ce.hdr.pc, .slice ce.va ce.votes.length ce.vc, .int .i64 bl.view, .int .i64 bl.qc.view, .string bl.qc.block, .slice bl.qc.va bl.qc.votes.length bl.qc.vc, .slice bl.ca bl.certs.length bl.cc, .int .i64 q.view, .string q.block, .slice q.va q.votes.length q.vc]
  have hB := belowNew w (.cells [.int .i64 k, .string dg, .int .i64 vi, .int .i64 tg.who, .string tg.mac, .int .i64 ba.author, .int .i64 ba.number, .slice ba.ta ba.txs.length ba.tc, .int .i64 he.author, .int .i64 he.round, .slice he.ra he.refs.length he.rc, .slice he.pa he.parents.length he.pc, .int .i64 ce.hdr.author, .int .i64 ce.hdr.round, .slice ce.hdr.ra ce.hdr.refs.length ce.hdr.rc, .slice ce.hdr.pa ce.hdr.parents.length ce.hdr.pc, .slice ce.va ce.votes.length ce.vc, .int .i64 bl.view, .int .i64 bl.qc.view, .string bl.qc.block, .slice bl.qc.va bl.qc.votes.length bl.qc.vc, .slice bl.ca bl.certs.length bl.cc, .int .i64 q.view, .string q.block, .slice q.va q.votes.length q.vc].toArray 39)
  unfold MsgM.v MsgM.c
  simp only
  obtain ⟨w1, hw1⟩ : ∃ q', w.alloc (.cells [.int .i64 k, .string dg, .int .i64 vi, .int .i64 tg.who, .string tg.mac, .int .i64 ba.author, .int .i64 ba.number, .slice ba.ta ba.txs.length ba.tc, .int .i64 he.author, .int .i64 he.round, .slice he.ra he.refs.length he.rc, .slice he.pa he.parents.length he.pc, .int .i64 ce.hdr.author, .int .i64 ce.hdr.round, .slice ce.hdr.ra ce.hdr.refs.length ce.hdr.rc, .slice ce.hdr.pa ce.hdr.parents.length ce.hdr.pc, .slice ce.va ce.votes.length ce.vc, .int .i64 bl.view, .int .i64 bl.qc.view, .string bl.qc.block, .slice bl.qc.va bl.qc.votes.length bl.qc.vc, .slice bl.ca bl.certs.length bl.cc, .int .i64 q.view, .string q.block, .slice q.va q.votes.length q.vc].toArray 39) = q' := ⟨_, rfl⟩
  rw [hw1] at hX hB
  go_enter Tryz.func34, Tryz.ntmps34
  have x17 := hX.cell (i := 17) rfl
  have x18 := hX.cell (i := 18) rfl
  have x19 := hX.cell (i := 19) rfl
  have x20 := hX.cell (i := 20) rfl
  cases h0 : (bl.view == 0)
  case false =>
    have hno : Hid (¬ P) := fun h => by rw [beq_eq_false_iff_ne] at h0; exact h0 (by have := (hd.out.1 h).1; omega)
    clear hd
    go_wp2
    go_ret
    exact told_no hno.out hB rfl
  replace hd : Hid (P ↔ (bl.qc.d.Nil ∧ bl.certs.length = 0)) := ⟨fun h => (hd.out.1 h).2, fun h => hd.out.2 ⟨(by rw [beq_iff_eq] at h0; omega), h⟩⟩
  go_wp2_with fail
  refine (isZeroQc_any bl.qc _).mono ?_
  rintro e w2 ⟨⟨p, rfl, hp⟩, hb⟩
  have hX2 := hX.below hb hX.lt
  have hB2 := hB.trans (hb.mono hB.size)
  clear hX hB hb hw1 x17 x18 x19 x20
  obtain ⟨hX, hB⟩ := And.intro hX2 hB2
  clear hX2 hB2
  have x21 := hX.cell (i := 21) rfl
  cases p
  case false =>
    have hno : Hid (¬ P) := fun h => by have := hp.2 (hd.out.1 h).1; cases this
    clear hd hp
    go_wp2
    go_ret
    exact told_no hno.out hB rfl
  replace hd : Hid (P ↔ (bl.certs.length = 0)) := ⟨fun h => (hd.out.1 h).2, fun h => hd.out.2 ⟨hp.1 rfl, h⟩⟩
  clear hp
  cases h2 : ((bl.certs.length : Int) == 0)
  case false =>
    have hno : Hid (¬ P) := fun h => by rw [beq_eq_false_iff_ne] at h2; exact h2 (by have := (hd.out.1 h); omega)
    clear hd
    go_wp2
    go_ret
    exact told_no hno.out hB rfl
  have hy : Hid P := hd.out.2 (by rw [beq_iff_eq] at h2; omega)
  clear hd
  go_wp2
  go_ret
  exact told_yes hy.out hB rfl

set_option maxRecDepth 100000 in
set_option maxHeartbeats 2000000 in
theorem isZero_q (k : Int) (dg : ByteArray) (vi : Int) (tg : TagD) (ba : BatM) (he : HdrM) (ce : CertM) (bl : BlkM) (q : QcM) (w : World) :
    Calls Tryz.prog 34 #[MsgM.v ⟨k, dg, vi, tg, ba, he, ce, bl, q⟩, .int .i32 113] w (Told w (q.d.Nil)) := by
  obtain ⟨P, hd⟩ : ∃ P : Prop, Hid (P ↔ (q.d.Nil)) := ⟨_, Iff.rfl⟩
  refine Calls.mono ?_ (fun e w' (h : Told w P e w') => h.iff hd.out)
  replace hd : Hid (P ↔ (q.d.Nil)) := hd.out.trans (Iff.rfl)
  have hX := Arr.new w 39 [.int .i64 k, .string dg, .int .i64 vi, .int .i64 tg.who, .string tg.mac, .int .i64 ba.author, .int .i64 ba.number, .slice ba.ta ba.txs.length ba.tc, .int .i64 he.author, .int .i64 he.round, .slice he.ra he.refs.length he.rc, .slice he.pa he.parents.length he.pc, .int .i64 ce.hdr.author, .int .i64 ce.hdr.round, .slice ce.hdr.ra ce.hdr.refs.length ce.hdr.rc, .slice ce.hdr.pa ce.hdr.parents.length ce.hdr.pc, .slice ce.va ce.votes.length ce.vc, .int .i64 bl.view, .int .i64 bl.qc.view, .string bl.qc.block, .slice bl.qc.va bl.qc.votes.length bl.qc.vc, .slice bl.ca bl.certs.length bl.cc, .int .i64 q.view, .string q.block, .slice q.va q.votes.length q.vc]
  have hB := belowNew w (.cells [.int .i64 k, .string dg, .int .i64 vi, .int .i64 tg.who, .string tg.mac, .int .i64 ba.author, .int .i64 ba.number, .slice ba.ta ba.txs.length ba.tc, .int .i64 he.author, .int .i64 he.round, .slice he.ra he.refs.length he.rc, .slice he.pa he.parents.length he.pc, .int .i64 ce.hdr.author, .int .i64 ce.hdr.round, .slice ce.hdr.ra ce.hdr.refs.length ce.hdr.rc, .slice ce.hdr.pa ce.hdr.parents.length ce.hdr.pc, .slice ce.va ce.votes.length ce.vc, .int .i64 bl.view, .int .i64 bl.qc.view, .string bl.qc.block, .slice bl.qc.va bl.qc.votes.length bl.qc.vc, .slice bl.ca bl.certs.length bl.cc, .int .i64 q.view, .string q.block, .slice q.va q.votes.length q.vc].toArray 39)
  unfold MsgM.v MsgM.c
  simp only
  obtain ⟨w1, hw1⟩ : ∃ q', w.alloc (.cells [.int .i64 k, .string dg, .int .i64 vi, .int .i64 tg.who, .string tg.mac, .int .i64 ba.author, .int .i64 ba.number, .slice ba.ta ba.txs.length ba.tc, .int .i64 he.author, .int .i64 he.round, .slice he.ra he.refs.length he.rc, .slice he.pa he.parents.length he.pc, .int .i64 ce.hdr.author, .int .i64 ce.hdr.round, .slice ce.hdr.ra ce.hdr.refs.length ce.hdr.rc, .slice ce.hdr.pa ce.hdr.parents.length ce.hdr.pc, .slice ce.va ce.votes.length ce.vc, .int .i64 bl.view, .int .i64 bl.qc.view, .string bl.qc.block, .slice bl.qc.va bl.qc.votes.length bl.qc.vc, .slice bl.ca bl.certs.length bl.cc, .int .i64 q.view, .string q.block, .slice q.va q.votes.length q.vc].toArray 39) = q' := ⟨_, rfl⟩
  rw [hw1] at hX hB
  go_enter Tryz.func34, Tryz.ntmps34
  have x22 := hX.cell (i := 22) rfl
  have x23 := hX.cell (i := 23) rfl
  have x24 := hX.cell (i := 24) rfl
  go_wp2_with fail
  refine (isZeroQc_any q _).mono ?_
  rintro e w2 ⟨⟨p, rfl, hp⟩, hb⟩
  have hX2 := hX.below hb hX.lt
  have hB2 := hB.trans (hb.mono hB.size)
  clear hX hB hb hw1 x22 x23 x24
  obtain ⟨hX, hB⟩ := And.intro hX2 hB2
  clear hX2 hB2
  have hF : Hid (p = true ↔ P) := hp.trans hd.out.symm
  clear hd hp
  go_wp2
  go_ret
  exact ⟨⟨_, rfl, hF.out⟩, hB⟩

set_option maxRecDepth 100000 in
set_option maxHeartbeats 2000000 in
theorem isPlain_d (k : Int) (dg : ByteArray) (vi : Int) (tg : TagD) (ba : BatM) (he : HdrM) (ce : CertM) (bl : BlkM) (q : QcM) (w : World) :
    Calls Tryz.prog 68 #[MsgM.v ⟨k, dg, vi, tg, ba, he, ce, bl, q⟩, .int .i32 100] w (Told w (dg.size = 32)) := by
  obtain ⟨P, hd⟩ : ∃ P : Prop, Hid (P ↔ (dg.size = 32)) := ⟨_, Iff.rfl⟩
  refine Calls.mono ?_ (fun e w' (h : Told w P e w') => h.iff hd.out)
  replace hd : Hid (P ↔ (dg.size = 32)) := hd.out.trans (Iff.rfl)
  have hX := Arr.new w 39 [.int .i64 k, .string dg, .int .i64 vi, .int .i64 tg.who, .string tg.mac, .int .i64 ba.author, .int .i64 ba.number, .slice ba.ta ba.txs.length ba.tc, .int .i64 he.author, .int .i64 he.round, .slice he.ra he.refs.length he.rc, .slice he.pa he.parents.length he.pc, .int .i64 ce.hdr.author, .int .i64 ce.hdr.round, .slice ce.hdr.ra ce.hdr.refs.length ce.hdr.rc, .slice ce.hdr.pa ce.hdr.parents.length ce.hdr.pc, .slice ce.va ce.votes.length ce.vc, .int .i64 bl.view, .int .i64 bl.qc.view, .string bl.qc.block, .slice bl.qc.va bl.qc.votes.length bl.qc.vc, .slice bl.ca bl.certs.length bl.cc, .int .i64 q.view, .string q.block, .slice q.va q.votes.length q.vc]
  have hB := belowNew w (.cells [.int .i64 k, .string dg, .int .i64 vi, .int .i64 tg.who, .string tg.mac, .int .i64 ba.author, .int .i64 ba.number, .slice ba.ta ba.txs.length ba.tc, .int .i64 he.author, .int .i64 he.round, .slice he.ra he.refs.length he.rc, .slice he.pa he.parents.length he.pc, .int .i64 ce.hdr.author, .int .i64 ce.hdr.round, .slice ce.hdr.ra ce.hdr.refs.length ce.hdr.rc, .slice ce.hdr.pa ce.hdr.parents.length ce.hdr.pc, .slice ce.va ce.votes.length ce.vc, .int .i64 bl.view, .int .i64 bl.qc.view, .string bl.qc.block, .slice bl.qc.va bl.qc.votes.length bl.qc.vc, .slice bl.ca bl.certs.length bl.cc, .int .i64 q.view, .string q.block, .slice q.va q.votes.length q.vc].toArray 39)
  unfold MsgM.v MsgM.c
  simp only
  obtain ⟨w1, hw1⟩ : ∃ q', w.alloc (.cells [.int .i64 k, .string dg, .int .i64 vi, .int .i64 tg.who, .string tg.mac, .int .i64 ba.author, .int .i64 ba.number, .slice ba.ta ba.txs.length ba.tc, .int .i64 he.author, .int .i64 he.round, .slice he.ra he.refs.length he.rc, .slice he.pa he.parents.length he.pc, .int .i64 ce.hdr.author, .int .i64 ce.hdr.round, .slice ce.hdr.ra ce.hdr.refs.length ce.hdr.rc, .slice ce.hdr.pa ce.hdr.parents.length ce.hdr.pc, .slice ce.va ce.votes.length ce.vc, .int .i64 bl.view, .int .i64 bl.qc.view, .string bl.qc.block, .slice bl.qc.va bl.qc.votes.length bl.qc.vc, .slice bl.ca bl.certs.length bl.cc, .int .i64 q.view, .string q.block, .slice q.va q.votes.length q.vc].toArray 39) = q' := ⟨_, rfl⟩
  rw [hw1] at hX hB
  go_enter Tryz.func68, Tryz.ntmps68
  have x1 := hX.cell (i := 1) rfl
  go_wp2_with fail
  refine (isDigest_any dg _).mono ?_
  rintro e w2 ⟨⟨p, rfl, hp⟩, hb⟩
  have hX2 := hX.below hb hX.lt
  have hB2 := hB.trans (hb.mono hB.size)
  clear hX hB hb hw1 x1
  obtain ⟨hX, hB⟩ := And.intro hX2 hB2
  clear hX2 hB2
  have hF : Hid (p = true ↔ P) := hp.trans hd.out.symm
  clear hd hp
  go_wp2
  go_ret
  exact ⟨⟨_, rfl, hF.out⟩, hB⟩

set_option maxRecDepth 100000 in
set_option maxHeartbeats 2000000 in
theorem isPlain_v (k : Int) (dg : ByteArray) (vi : Int) (tg : TagD) (ba : BatM) (he : HdrM) (ce : CertM) (bl : BlkM) (q : QcM) (w : World) :
    Calls Tryz.prog 68 #[MsgM.v ⟨k, dg, vi, tg, ba, he, ce, bl, q⟩, .int .i32 118] w (Told w (numOk vi)) := by
  obtain ⟨P, hd⟩ : ∃ P : Prop, Hid (P ↔ (numOk vi)) := ⟨_, Iff.rfl⟩
  refine Calls.mono ?_ (fun e w' (h : Told w P e w') => h.iff hd.out)
  replace hd : Hid (P ↔ (numOk vi)) := hd.out.trans (Iff.rfl)
  have hX := Arr.new w 39 [.int .i64 k, .string dg, .int .i64 vi, .int .i64 tg.who, .string tg.mac, .int .i64 ba.author, .int .i64 ba.number, .slice ba.ta ba.txs.length ba.tc, .int .i64 he.author, .int .i64 he.round, .slice he.ra he.refs.length he.rc, .slice he.pa he.parents.length he.pc, .int .i64 ce.hdr.author, .int .i64 ce.hdr.round, .slice ce.hdr.ra ce.hdr.refs.length ce.hdr.rc, .slice ce.hdr.pa ce.hdr.parents.length ce.hdr.pc, .slice ce.va ce.votes.length ce.vc, .int .i64 bl.view, .int .i64 bl.qc.view, .string bl.qc.block, .slice bl.qc.va bl.qc.votes.length bl.qc.vc, .slice bl.ca bl.certs.length bl.cc, .int .i64 q.view, .string q.block, .slice q.va q.votes.length q.vc]
  have hB := belowNew w (.cells [.int .i64 k, .string dg, .int .i64 vi, .int .i64 tg.who, .string tg.mac, .int .i64 ba.author, .int .i64 ba.number, .slice ba.ta ba.txs.length ba.tc, .int .i64 he.author, .int .i64 he.round, .slice he.ra he.refs.length he.rc, .slice he.pa he.parents.length he.pc, .int .i64 ce.hdr.author, .int .i64 ce.hdr.round, .slice ce.hdr.ra ce.hdr.refs.length ce.hdr.rc, .slice ce.hdr.pa ce.hdr.parents.length ce.hdr.pc, .slice ce.va ce.votes.length ce.vc, .int .i64 bl.view, .int .i64 bl.qc.view, .string bl.qc.block, .slice bl.qc.va bl.qc.votes.length bl.qc.vc, .slice bl.ca bl.certs.length bl.cc, .int .i64 q.view, .string q.block, .slice q.va q.votes.length q.vc].toArray 39)
  unfold MsgM.v MsgM.c
  simp only
  obtain ⟨w1, hw1⟩ : ∃ q', w.alloc (.cells [.int .i64 k, .string dg, .int .i64 vi, .int .i64 tg.who, .string tg.mac, .int .i64 ba.author, .int .i64 ba.number, .slice ba.ta ba.txs.length ba.tc, .int .i64 he.author, .int .i64 he.round, .slice he.ra he.refs.length he.rc, .slice he.pa he.parents.length he.pc, .int .i64 ce.hdr.author, .int .i64 ce.hdr.round, .slice ce.hdr.ra ce.hdr.refs.length ce.hdr.rc, .slice ce.hdr.pa ce.hdr.parents.length ce.hdr.pc, .slice ce.va ce.votes.length ce.vc, .int .i64 bl.view, .int .i64 bl.qc.view, .string bl.qc.block, .slice bl.qc.va bl.qc.votes.length bl.qc.vc, .slice bl.ca bl.certs.length bl.cc, .int .i64 q.view, .string q.block, .slice q.va q.votes.length q.vc].toArray 39) = q' := ⟨_, rfl⟩
  rw [hw1] at hX hB
  go_enter Tryz.func68, Tryz.ntmps68
  have x2 := hX.cell (i := 2) rfl
  go_wp2_with fail
  refine (isNumber_any vi _).mono ?_
  rintro e w2 ⟨⟨p, rfl, hp⟩, hb⟩
  have hX2 := hX.below hb hX.lt
  have hB2 := hB.trans (hb.mono hB.size)
  clear hX hB hb hw1 x2
  obtain ⟨hX, hB⟩ := And.intro hX2 hB2
  clear hX2 hB2
  have hF : Hid (p = true ↔ P) := hp.trans hd.out.symm
  clear hd hp
  go_wp2
  go_ret
  exact ⟨⟨_, rfl, hF.out⟩, hB⟩

set_option maxRecDepth 100000 in
set_option maxHeartbeats 2000000 in
theorem isPlain_t (k : Int) (dg : ByteArray) (vi : Int) (tg : TagD) (ba : BatM) (he : HdrM) (ce : CertM) (bl : BlkM) (q : QcM) (w : World) :
    Calls Tryz.prog 68 #[MsgM.v ⟨k, dg, vi, tg, ba, he, ce, bl, q⟩, .int .i32 116] w (Told w (tagOk tg)) := by
  obtain ⟨P, hd⟩ : ∃ P : Prop, Hid (P ↔ (tagOk tg)) := ⟨_, Iff.rfl⟩
  refine Calls.mono ?_ (fun e w' (h : Told w P e w') => h.iff hd.out)
  replace hd : Hid (P ↔ (tagOk tg)) := hd.out.trans (Iff.rfl)
  have hX := Arr.new w 39 [.int .i64 k, .string dg, .int .i64 vi, .int .i64 tg.who, .string tg.mac, .int .i64 ba.author, .int .i64 ba.number, .slice ba.ta ba.txs.length ba.tc, .int .i64 he.author, .int .i64 he.round, .slice he.ra he.refs.length he.rc, .slice he.pa he.parents.length he.pc, .int .i64 ce.hdr.author, .int .i64 ce.hdr.round, .slice ce.hdr.ra ce.hdr.refs.length ce.hdr.rc, .slice ce.hdr.pa ce.hdr.parents.length ce.hdr.pc, .slice ce.va ce.votes.length ce.vc, .int .i64 bl.view, .int .i64 bl.qc.view, .string bl.qc.block, .slice bl.qc.va bl.qc.votes.length bl.qc.vc, .slice bl.ca bl.certs.length bl.cc, .int .i64 q.view, .string q.block, .slice q.va q.votes.length q.vc]
  have hB := belowNew w (.cells [.int .i64 k, .string dg, .int .i64 vi, .int .i64 tg.who, .string tg.mac, .int .i64 ba.author, .int .i64 ba.number, .slice ba.ta ba.txs.length ba.tc, .int .i64 he.author, .int .i64 he.round, .slice he.ra he.refs.length he.rc, .slice he.pa he.parents.length he.pc, .int .i64 ce.hdr.author, .int .i64 ce.hdr.round, .slice ce.hdr.ra ce.hdr.refs.length ce.hdr.rc, .slice ce.hdr.pa ce.hdr.parents.length ce.hdr.pc, .slice ce.va ce.votes.length ce.vc, .int .i64 bl.view, .int .i64 bl.qc.view, .string bl.qc.block, .slice bl.qc.va bl.qc.votes.length bl.qc.vc, .slice bl.ca bl.certs.length bl.cc, .int .i64 q.view, .string q.block, .slice q.va q.votes.length q.vc].toArray 39)
  unfold MsgM.v MsgM.c
  simp only
  obtain ⟨w1, hw1⟩ : ∃ q', w.alloc (.cells [.int .i64 k, .string dg, .int .i64 vi, .int .i64 tg.who, .string tg.mac, .int .i64 ba.author, .int .i64 ba.number, .slice ba.ta ba.txs.length ba.tc, .int .i64 he.author, .int .i64 he.round, .slice he.ra he.refs.length he.rc, .slice he.pa he.parents.length he.pc, .int .i64 ce.hdr.author, .int .i64 ce.hdr.round, .slice ce.hdr.ra ce.hdr.refs.length ce.hdr.rc, .slice ce.hdr.pa ce.hdr.parents.length ce.hdr.pc, .slice ce.va ce.votes.length ce.vc, .int .i64 bl.view, .int .i64 bl.qc.view, .string bl.qc.block, .slice bl.qc.va bl.qc.votes.length bl.qc.vc, .slice bl.ca bl.certs.length bl.cc, .int .i64 q.view, .string q.block, .slice q.va q.votes.length q.vc].toArray 39) = q' := ⟨_, rfl⟩
  rw [hw1] at hX hB
  go_enter Tryz.func68, Tryz.ntmps68
  have x3 := hX.cell (i := 3) rfl
  have x4 := hX.cell (i := 4) rfl
  go_wp2_with fail
  refine (isPlainTag_any tg _).mono ?_
  rintro e w2 ⟨⟨p, rfl, hp⟩, hb⟩
  have hX2 := hX.below hb hX.lt
  have hB2 := hB.trans (hb.mono hB.size)
  clear hX hB hb hw1 x3 x4
  obtain ⟨hX, hB⟩ := And.intro hX2 hB2
  clear hX2 hB2
  have hF : Hid (p = true ↔ P) := hp.trans hd.out.symm
  clear hd hp
  go_wp2
  go_ret
  exact ⟨⟨_, rfl, hF.out⟩, hB⟩

set_option maxRecDepth 100000 in
set_option maxHeartbeats 2000000 in
theorem isPlain_h (k : Int) (dg : ByteArray) (vi : Int) (tg : TagD) (ba : BatM) (he : HdrM) (ce : CertM) (bl : BlkM) (q : QcM) (w : World) (hA : MsgM.At w ⟨k, dg, vi, tg, ba, he, ce, bl, q⟩) (hn : MsgM.Num ⟨k, dg, vi, tg, ba, he, ce, bl, q⟩) :
    Calls Tryz.prog 68 #[MsgM.v ⟨k, dg, vi, tg, ba, he, ce, bl, q⟩, .int .i32 104] w (Told w (he.d.Plain)) := by
  obtain ⟨P, hd⟩ : ∃ P : Prop, Hid (P ↔ (he.d.Plain)) := ⟨_, Iff.rfl⟩
  refine Calls.mono ?_ (fun e w' (h : Told w P e w') => h.iff hd.out)
  replace hd : Hid (P ↔ (he.d.Plain)) := hd.out.trans (Iff.rfl)
  have hX := Arr.new w 39 [.int .i64 k, .string dg, .int .i64 vi, .int .i64 tg.who, .string tg.mac, .int .i64 ba.author, .int .i64 ba.number, .slice ba.ta ba.txs.length ba.tc, .int .i64 he.author, .int .i64 he.round, .slice he.ra he.refs.length he.rc, .slice he.pa he.parents.length he.pc, .int .i64 ce.hdr.author, .int .i64 ce.hdr.round, .slice ce.hdr.ra ce.hdr.refs.length ce.hdr.rc, .slice ce.hdr.pa ce.hdr.parents.length ce.hdr.pc, .slice ce.va ce.votes.length ce.vc, .int .i64 bl.view, .int .i64 bl.qc.view, .string bl.qc.block, .slice bl.qc.va bl.qc.votes.length bl.qc.vc, .slice bl.ca bl.certs.length bl.cc, .int .i64 q.view, .string q.block, .slice q.va q.votes.length q.vc]
  have hB := belowNew w (.cells [.int .i64 k, .string dg, .int .i64 vi, .int .i64 tg.who, .string tg.mac, .int .i64 ba.author, .int .i64 ba.number, .slice ba.ta ba.txs.length ba.tc, .int .i64 he.author, .int .i64 he.round, .slice he.ra he.refs.length he.rc, .slice he.pa he.parents.length he.pc, .int .i64 ce.hdr.author, .int .i64 ce.hdr.round, .slice ce.hdr.ra ce.hdr.refs.length ce.hdr.rc, .slice ce.hdr.pa ce.hdr.parents.length ce.hdr.pc, .slice ce.va ce.votes.length ce.vc, .int .i64 bl.view, .int .i64 bl.qc.view, .string bl.qc.block, .slice bl.qc.va bl.qc.votes.length bl.qc.vc, .slice bl.ca bl.certs.length bl.cc, .int .i64 q.view, .string q.block, .slice q.va q.votes.length q.vc].toArray 39)
  have hM := hA.below hB
  unfold MsgM.v MsgM.c
  simp only
  obtain ⟨w1, hw1⟩ : ∃ q', w.alloc (.cells [.int .i64 k, .string dg, .int .i64 vi, .int .i64 tg.who, .string tg.mac, .int .i64 ba.author, .int .i64 ba.number, .slice ba.ta ba.txs.length ba.tc, .int .i64 he.author, .int .i64 he.round, .slice he.ra he.refs.length he.rc, .slice he.pa he.parents.length he.pc, .int .i64 ce.hdr.author, .int .i64 ce.hdr.round, .slice ce.hdr.ra ce.hdr.refs.length ce.hdr.rc, .slice ce.hdr.pa ce.hdr.parents.length ce.hdr.pc, .slice ce.va ce.votes.length ce.vc, .int .i64 bl.view, .int .i64 bl.qc.view, .string bl.qc.block, .slice bl.qc.va bl.qc.votes.length bl.qc.vc, .slice bl.ca bl.certs.length bl.cc, .int .i64 q.view, .string q.block, .slice q.va q.votes.length q.vc].toArray 39) = q' := ⟨_, rfl⟩
  rw [hw1] at hX hB hM
  go_enter Tryz.func68, Tryz.ntmps68
  have x8 := hX.cell (i := 8) rfl
  have x9 := hX.cell (i := 9) rfl
  have x10 := hX.cell (i := 10) rfl
  have x11 := hX.cell (i := 11) rfl
  go_wp2_with fail
  refine (isPlainHeader_any he _ hM.hdr hn.refs hn.ps hn.acks).mono ?_
  rintro e w2 ⟨⟨p, rfl, hp⟩, hb⟩
  have hX2 := hX.below hb hX.lt
  have hB2 := hB.trans (hb.mono hB.size)
  have hM2 := hM.below hb
  clear hX hB hb hM hw1 x8 x9 x10 x11
  obtain ⟨hX, hB⟩ := And.intro hX2 hB2
  have hM := hM2
  clear hX2 hB2 hM2
  have hF : Hid (p = true ↔ P) := hp.trans hd.out.symm
  clear hd hp
  go_wp2
  go_ret
  exact ⟨⟨_, rfl, hF.out⟩, hB⟩

set_option maxRecDepth 100000 in
set_option maxHeartbeats 2000000 in
theorem isPlain_c (k : Int) (dg : ByteArray) (vi : Int) (tg : TagD) (ba : BatM) (he : HdrM) (ce : CertM) (bl : BlkM) (q : QcM) (w : World) (hA : MsgM.At w ⟨k, dg, vi, tg, ba, he, ce, bl, q⟩) (hn : MsgM.Num ⟨k, dg, vi, tg, ba, he, ce, bl, q⟩) :
    Calls Tryz.prog 68 #[MsgM.v ⟨k, dg, vi, tg, ba, he, ce, bl, q⟩, .int .i32 99] w (Told w (ce.d.Plain)) := by
  obtain ⟨P, hd⟩ : ∃ P : Prop, Hid (P ↔ (ce.d.Plain)) := ⟨_, Iff.rfl⟩
  refine Calls.mono ?_ (fun e w' (h : Told w P e w') => h.iff hd.out)
  replace hd : Hid (P ↔ (ce.hdr.d.Plain ∧ tagsOk ce.votes)) := hd.out.trans (Iff.rfl)
  have hX := Arr.new w 39 [.int .i64 k, .string dg, .int .i64 vi, .int .i64 tg.who, .string tg.mac, .int .i64 ba.author, .int .i64 ba.number, .slice ba.ta ba.txs.length ba.tc, .int .i64 he.author, .int .i64 he.round, .slice he.ra he.refs.length he.rc, .slice he.pa he.parents.length he.pc, .int .i64 ce.hdr.author, .int .i64 ce.hdr.round, .slice ce.hdr.ra ce.hdr.refs.length ce.hdr.rc, .slice ce.hdr.pa ce.hdr.parents.length ce.hdr.pc, .slice ce.va ce.votes.length ce.vc, .int .i64 bl.view, .int .i64 bl.qc.view, .string bl.qc.block, .slice bl.qc.va bl.qc.votes.length bl.qc.vc, .slice bl.ca bl.certs.length bl.cc, .int .i64 q.view, .string q.block, .slice q.va q.votes.length q.vc]
  have hB := belowNew w (.cells [.int .i64 k, .string dg, .int .i64 vi, .int .i64 tg.who, .string tg.mac, .int .i64 ba.author, .int .i64 ba.number, .slice ba.ta ba.txs.length ba.tc, .int .i64 he.author, .int .i64 he.round, .slice he.ra he.refs.length he.rc, .slice he.pa he.parents.length he.pc, .int .i64 ce.hdr.author, .int .i64 ce.hdr.round, .slice ce.hdr.ra ce.hdr.refs.length ce.hdr.rc, .slice ce.hdr.pa ce.hdr.parents.length ce.hdr.pc, .slice ce.va ce.votes.length ce.vc, .int .i64 bl.view, .int .i64 bl.qc.view, .string bl.qc.block, .slice bl.qc.va bl.qc.votes.length bl.qc.vc, .slice bl.ca bl.certs.length bl.cc, .int .i64 q.view, .string q.block, .slice q.va q.votes.length q.vc].toArray 39)
  have hM := hA.below hB
  unfold MsgM.v MsgM.c
  simp only
  obtain ⟨w1, hw1⟩ : ∃ q', w.alloc (.cells [.int .i64 k, .string dg, .int .i64 vi, .int .i64 tg.who, .string tg.mac, .int .i64 ba.author, .int .i64 ba.number, .slice ba.ta ba.txs.length ba.tc, .int .i64 he.author, .int .i64 he.round, .slice he.ra he.refs.length he.rc, .slice he.pa he.parents.length he.pc, .int .i64 ce.hdr.author, .int .i64 ce.hdr.round, .slice ce.hdr.ra ce.hdr.refs.length ce.hdr.rc, .slice ce.hdr.pa ce.hdr.parents.length ce.hdr.pc, .slice ce.va ce.votes.length ce.vc, .int .i64 bl.view, .int .i64 bl.qc.view, .string bl.qc.block, .slice bl.qc.va bl.qc.votes.length bl.qc.vc, .slice bl.ca bl.certs.length bl.cc, .int .i64 q.view, .string q.block, .slice q.va q.votes.length q.vc].toArray 39) = q' := ⟨_, rfl⟩
  rw [hw1] at hX hB hM
  go_enter Tryz.func68, Tryz.ntmps68
  have x12 := hX.cell (i := 12) rfl
  have x13 := hX.cell (i := 13) rfl
  have x14 := hX.cell (i := 14) rfl
  have x15 := hX.cell (i := 15) rfl
  go_wp2_with fail
  refine (isPlainHeader_any ce.hdr _ hM.cert.hdr hn.crefs hn.cps hn.cacks).mono ?_
  rintro e w2 ⟨⟨p, rfl, hp⟩, hb⟩
  have hX2 := hX.below hb hX.lt
  have hB2 := hB.trans (hb.mono hB.size)
  have hM2 := hM.below hb
  clear hX hB hb hM hw1 x12 x13 x14 x15
  obtain ⟨hX, hB⟩ := And.intro hX2 hB2
  have hM := hM2
  clear hX2 hB2 hM2
  have x16 := hX.cell (i := 16) rfl
  cases p
  case false =>
    have hno : Hid (¬ P) := fun h => by have := hp.2 (hd.out.1 h).1; cases this
    clear hd hp
    go_wp2
    go_ret
    exact told_no hno.out hB rfl
  replace hd : Hid (P ↔ (tagsOk ce.votes)) := ⟨fun h => (hd.out.1 h).2, fun h => hd.out.2 ⟨hp.1 rfl, h⟩⟩
  clear hp
  go_wp2_with fail
  refine (arePlainTags_any ce.va ce.vc ce.votes _ hM.cert.votes hn.votes).mono ?_
  rintro e w3 ⟨⟨p, rfl, hp⟩, hb⟩
  have hX2 := hX.below hb hX.lt
  have hB2 := hB.trans (hb.mono hB.size)
  have hM2 := hM.below hb
  clear hX hB hb hM x16
  obtain ⟨hX, hB⟩ := And.intro hX2 hB2
  have hM := hM2
  clear hX2 hB2 hM2
  have hF : Hid (p = true ↔ P) := hp.trans hd.out.symm
  clear hd hp
  go_wp2
  go_ret
  exact ⟨⟨_, rfl, hF.out⟩, hB⟩

set_option maxRecDepth 100000 in
set_option maxHeartbeats 2000000 in
theorem isPlain_k (k : Int) (dg : ByteArray) (vi : Int) (tg : TagD) (ba : BatM) (he : HdrM) (ce : CertM) (bl : BlkM) (q : QcM) (w : World) (hA : MsgM.At w ⟨k, dg, vi, tg, ba, he, ce, bl, q⟩) (hn : MsgM.Num ⟨k, dg, vi, tg, ba, he, ce, bl, q⟩) :
    Calls Tryz.prog 68 #[MsgM.v ⟨k, dg, vi, tg, ba, he, ce, bl, q⟩, .int .i32 107] w (Told w (bl.d.Plain)) := by
  obtain ⟨P, hd⟩ : ∃ P : Prop, Hid (P ↔ (bl.d.Plain)) := ⟨_, Iff.rfl⟩
  refine Calls.mono ?_ (fun e w' (h : Told w P e w') => h.iff hd.out)
  replace hd : Hid (P ↔ (numOk bl.view ∧ bl.qc.d.Plain ∧ (bl.certs.length ≤ 8 ∧ ∀ c ∈ bl.certs, c.size = 40))) := hd.out.trans (Iff.rfl)
  have hX := Arr.new w 39 [.int .i64 k, .string dg, .int .i64 vi, .int .i64 tg.who, .string tg.mac, .int .i64 ba.author, .int .i64 ba.number, .slice ba.ta ba.txs.length ba.tc, .int .i64 he.author, .int .i64 he.round, .slice he.ra he.refs.length he.rc, .slice he.pa he.parents.length he.pc, .int .i64 ce.hdr.author, .int .i64 ce.hdr.round, .slice ce.hdr.ra ce.hdr.refs.length ce.hdr.rc, .slice ce.hdr.pa ce.hdr.parents.length ce.hdr.pc, .slice ce.va ce.votes.length ce.vc, .int .i64 bl.view, .int .i64 bl.qc.view, .string bl.qc.block, .slice bl.qc.va bl.qc.votes.length bl.qc.vc, .slice bl.ca bl.certs.length bl.cc, .int .i64 q.view, .string q.block, .slice q.va q.votes.length q.vc]
  have hB := belowNew w (.cells [.int .i64 k, .string dg, .int .i64 vi, .int .i64 tg.who, .string tg.mac, .int .i64 ba.author, .int .i64 ba.number, .slice ba.ta ba.txs.length ba.tc, .int .i64 he.author, .int .i64 he.round, .slice he.ra he.refs.length he.rc, .slice he.pa he.parents.length he.pc, .int .i64 ce.hdr.author, .int .i64 ce.hdr.round, .slice ce.hdr.ra ce.hdr.refs.length ce.hdr.rc, .slice ce.hdr.pa ce.hdr.parents.length ce.hdr.pc, .slice ce.va ce.votes.length ce.vc, .int .i64 bl.view, .int .i64 bl.qc.view, .string bl.qc.block, .slice bl.qc.va bl.qc.votes.length bl.qc.vc, .slice bl.ca bl.certs.length bl.cc, .int .i64 q.view, .string q.block, .slice q.va q.votes.length q.vc].toArray 39)
  have hM := hA.below hB
  unfold MsgM.v MsgM.c
  simp only
  obtain ⟨w1, hw1⟩ : ∃ q', w.alloc (.cells [.int .i64 k, .string dg, .int .i64 vi, .int .i64 tg.who, .string tg.mac, .int .i64 ba.author, .int .i64 ba.number, .slice ba.ta ba.txs.length ba.tc, .int .i64 he.author, .int .i64 he.round, .slice he.ra he.refs.length he.rc, .slice he.pa he.parents.length he.pc, .int .i64 ce.hdr.author, .int .i64 ce.hdr.round, .slice ce.hdr.ra ce.hdr.refs.length ce.hdr.rc, .slice ce.hdr.pa ce.hdr.parents.length ce.hdr.pc, .slice ce.va ce.votes.length ce.vc, .int .i64 bl.view, .int .i64 bl.qc.view, .string bl.qc.block, .slice bl.qc.va bl.qc.votes.length bl.qc.vc, .slice bl.ca bl.certs.length bl.cc, .int .i64 q.view, .string q.block, .slice q.va q.votes.length q.vc].toArray 39) = q' := ⟨_, rfl⟩
  rw [hw1] at hX hB hM
  go_enter Tryz.func68, Tryz.ntmps68
  have x17 := hX.cell (i := 17) rfl
  go_wp2_with fail
  refine (isNumber_any bl.view _).mono ?_
  rintro e w2 ⟨⟨p, rfl, hp⟩, hb⟩
  have hX2 := hX.below hb hX.lt
  have hB2 := hB.trans (hb.mono hB.size)
  have hM2 := hM.below hb
  clear hX hB hb hM hw1 x17
  obtain ⟨hX, hB⟩ := And.intro hX2 hB2
  have hM := hM2
  clear hX2 hB2 hM2
  have x18 := hX.cell (i := 18) rfl
  have x19 := hX.cell (i := 19) rfl
  have x20 := hX.cell (i := 20) rfl
  cases p
  case false =>
    have hno : Hid (¬ P) := fun h => by have := hp.2 (hd.out.1 h).1; cases this
    clear hd hp
    go_wp2
    go_ret
    exact told_no hno.out hB rfl
  replace hd : Hid (P ↔ (bl.qc.d.Plain ∧ (bl.certs.length ≤ 8 ∧ ∀ c ∈ bl.certs, c.size = 40))) := ⟨fun h => (hd.out.1 h).2, fun h => hd.out.2 ⟨hp.1 rfl, h⟩⟩
  clear hp
  go_wp2_with fail
  refine (isPlainQc_any bl.qc _ hM.blk.qc hn.bvotes).mono ?_
  rintro e w3 ⟨⟨p, rfl, hp⟩, hb⟩
  have hX2 := hX.below hb hX.lt
  have hB2 := hB.trans (hb.mono hB.size)
  have hM2 := hM.below hb
  clear hX hB hb hM x18 x19 x20
  obtain ⟨hX, hB⟩ := And.intro hX2 hB2
  have hM := hM2
  clear hX2 hB2 hM2
  have x21 := hX.cell (i := 21) rfl
  cases p
  case false =>
    have hno : Hid (¬ P) := fun h => by have := hp.2 (hd.out.1 h).1; cases this
    clear hd hp
    go_wp2
    go_ret
    exact told_no hno.out hB rfl
  replace hd : Hid (P ↔ ((bl.certs.length ≤ 8 ∧ ∀ c ∈ bl.certs, c.size = 40))) := ⟨fun h => (hd.out.1 h).2, fun h => hd.out.2 ⟨hp.1 rfl, h⟩⟩
  clear hp
  go_wp2_with fail
  refine (areSized_any bl.ca bl.cc bl.certs 8 40 _ hM.blk.certs hn.certs).mono ?_
  rintro e w4 ⟨⟨p, rfl, hp⟩, hb⟩
  have hX2 := hX.below hb hX.lt
  have hB2 := hB.trans (hb.mono hB.size)
  have hM2 := hM.below hb
  clear hX hB hb hM x21
  obtain ⟨hX, hB⟩ := And.intro hX2 hB2
  have hM := hM2
  clear hX2 hB2 hM2
  have hF : Hid (p = true ↔ P) := hp.trans hd.out.symm
  clear hd hp
  go_wp2
  go_ret
  exact ⟨⟨_, rfl, hF.out⟩, hB⟩

set_option maxRecDepth 100000 in
set_option maxHeartbeats 2000000 in
theorem isPlain_q (k : Int) (dg : ByteArray) (vi : Int) (tg : TagD) (ba : BatM) (he : HdrM) (ce : CertM) (bl : BlkM) (q : QcM) (w : World) (hA : MsgM.At w ⟨k, dg, vi, tg, ba, he, ce, bl, q⟩) (hn : MsgM.Num ⟨k, dg, vi, tg, ba, he, ce, bl, q⟩) :
    Calls Tryz.prog 68 #[MsgM.v ⟨k, dg, vi, tg, ba, he, ce, bl, q⟩, .int .i32 113] w (Told w (q.d.Plain)) := by
  obtain ⟨P, hd⟩ : ∃ P : Prop, Hid (P ↔ (q.d.Plain)) := ⟨_, Iff.rfl⟩
  refine Calls.mono ?_ (fun e w' (h : Told w P e w') => h.iff hd.out)
  replace hd : Hid (P ↔ (q.d.Plain)) := hd.out.trans (Iff.rfl)
  have hX := Arr.new w 39 [.int .i64 k, .string dg, .int .i64 vi, .int .i64 tg.who, .string tg.mac, .int .i64 ba.author, .int .i64 ba.number, .slice ba.ta ba.txs.length ba.tc, .int .i64 he.author, .int .i64 he.round, .slice he.ra he.refs.length he.rc, .slice he.pa he.parents.length he.pc, .int .i64 ce.hdr.author, .int .i64 ce.hdr.round, .slice ce.hdr.ra ce.hdr.refs.length ce.hdr.rc, .slice ce.hdr.pa ce.hdr.parents.length ce.hdr.pc, .slice ce.va ce.votes.length ce.vc, .int .i64 bl.view, .int .i64 bl.qc.view, .string bl.qc.block, .slice bl.qc.va bl.qc.votes.length bl.qc.vc, .slice bl.ca bl.certs.length bl.cc, .int .i64 q.view, .string q.block, .slice q.va q.votes.length q.vc]
  have hB := belowNew w (.cells [.int .i64 k, .string dg, .int .i64 vi, .int .i64 tg.who, .string tg.mac, .int .i64 ba.author, .int .i64 ba.number, .slice ba.ta ba.txs.length ba.tc, .int .i64 he.author, .int .i64 he.round, .slice he.ra he.refs.length he.rc, .slice he.pa he.parents.length he.pc, .int .i64 ce.hdr.author, .int .i64 ce.hdr.round, .slice ce.hdr.ra ce.hdr.refs.length ce.hdr.rc, .slice ce.hdr.pa ce.hdr.parents.length ce.hdr.pc, .slice ce.va ce.votes.length ce.vc, .int .i64 bl.view, .int .i64 bl.qc.view, .string bl.qc.block, .slice bl.qc.va bl.qc.votes.length bl.qc.vc, .slice bl.ca bl.certs.length bl.cc, .int .i64 q.view, .string q.block, .slice q.va q.votes.length q.vc].toArray 39)
  have hM := hA.below hB
  unfold MsgM.v MsgM.c
  simp only
  obtain ⟨w1, hw1⟩ : ∃ q', w.alloc (.cells [.int .i64 k, .string dg, .int .i64 vi, .int .i64 tg.who, .string tg.mac, .int .i64 ba.author, .int .i64 ba.number, .slice ba.ta ba.txs.length ba.tc, .int .i64 he.author, .int .i64 he.round, .slice he.ra he.refs.length he.rc, .slice he.pa he.parents.length he.pc, .int .i64 ce.hdr.author, .int .i64 ce.hdr.round, .slice ce.hdr.ra ce.hdr.refs.length ce.hdr.rc, .slice ce.hdr.pa ce.hdr.parents.length ce.hdr.pc, .slice ce.va ce.votes.length ce.vc, .int .i64 bl.view, .int .i64 bl.qc.view, .string bl.qc.block, .slice bl.qc.va bl.qc.votes.length bl.qc.vc, .slice bl.ca bl.certs.length bl.cc, .int .i64 q.view, .string q.block, .slice q.va q.votes.length q.vc].toArray 39) = q' := ⟨_, rfl⟩
  rw [hw1] at hX hB hM
  go_enter Tryz.func68, Tryz.ntmps68
  have x22 := hX.cell (i := 22) rfl
  have x23 := hX.cell (i := 23) rfl
  have x24 := hX.cell (i := 24) rfl
  go_wp2_with fail
  refine (isPlainQc_any q _ hM.qc hn.qvotes).mono ?_
  rintro e w2 ⟨⟨p, rfl, hp⟩, hb⟩
  have hX2 := hX.below hb hX.lt
  have hB2 := hB.trans (hb.mono hB.size)
  have hM2 := hM.below hb
  clear hX hB hb hM hw1 x22 x23 x24
  obtain ⟨hX, hB⟩ := And.intro hX2 hB2
  have hM := hM2
  clear hX2 hB2 hM2
  have hF : Hid (p = true ↔ P) := hp.trans hd.out.symm
  clear hd hp
  go_wp2
  go_ret
  exact ⟨⟨_, rfl, hF.out⟩, hB⟩

theorem isZero_any (x : MsgM) (c : UInt8) (hc : c ∈ letters) (w : World) : Calls Tryz.prog 34 #[x.v, .int .i32 (c.toNat : Int)] w (Told w (zeroF x.d c)) := by
  obtain ⟨k, dg, vi, tg, ba, he, ce, bl, q⟩ := x
  simp only [letters, List.mem_cons, List.not_mem_nil, or_false] at hc
  rcases hc with rfl | rfl | rfl | rfl | rfl | rfl | rfl | rfl
  · exact isZero_v k dg vi tg ba he ce bl q w
  · exact isZero_t k dg vi tg ba he ce bl q w
  · exact isZero_d k dg vi tg ba he ce bl q w
  · exact isZero_b k dg vi tg ba he ce bl q w
  · exact isZero_h k dg vi tg ba he ce bl q w
  · exact isZero_c k dg vi tg ba he ce bl q w
  · exact isZero_k k dg vi tg ba he ce bl q w
  · exact isZero_q k dg vi tg ba he ce bl q w

theorem isPlain_any (x : MsgM) (c : UInt8) (hc : c ∈ letters) (hb : c ≠ 98) (w : World) (hA : x.At w) (hn : x.Num) : Calls Tryz.prog 68 #[x.v, .int .i32 (c.toNat : Int)] w (Told w (plainF x.d c = true)) := by
  obtain ⟨k, dg, vi, tg, ba, he, ce, bl, q⟩ := x
  simp only [letters, List.mem_cons, List.not_mem_nil, or_false] at hc
  rcases hc with rfl | rfl | rfl | rfl | rfl | rfl | rfl | rfl
  · exact (isPlain_v k dg vi tg ba he ce bl q w).mono (fun e w1 h => h.iff decide_eq_true_iff.symm)
  · exact (isPlain_t k dg vi tg ba he ce bl q w).mono (fun e w1 h => h.iff decide_eq_true_iff.symm)
  · exact (isPlain_d k dg vi tg ba he ce bl q w).mono (fun e w1 h => h.iff decide_eq_true_iff.symm)
  · exact absurd rfl hb
  · exact (isPlain_h k dg vi tg ba he ce bl q w hA hn).mono (fun e w1 h => h.iff decide_eq_true_iff.symm)
  · exact (isPlain_c k dg vi tg ba he ce bl q w hA hn).mono (fun e w1 h => h.iff decide_eq_true_iff.symm)
  · exact (isPlain_k k dg vi tg ba he ce bl q w hA hn).mono (fun e w1 h => h.iff decide_eq_true_iff.symm)
  · exact (isPlain_q k dg vi tg ba he ce bl q w hA hn).mono (fun e w1 h => h.iff decide_eq_true_iff.symm)
end Go.Proofs.YtaoiejgbbmjpkaaGreatDoor

/- What strings.ContainsRune says of a letter of a field; nothing in memory is turned. -/
namespace Go.Proofs.YtaoiejgbbmjpkaaGreatDoor
open Go.RowKit
set_option linter.unusedVariables false

set_option maxRecDepth 100000 in
set_option maxHeartbeats 1000000 in
theorem indexByteL_any (s : ByteArray) (c : Int) (w : World) :
    Calls Tryz.prog 135 #[.string s, .int .u8 c] w fun e w' => e = .returned (.int .i64 (Lib.indexByte s.data.toList c.toNat.toUInt8)) ∧ w' = w := by
  go_enter Tryz.func135, Tryz.ntmps135
  go_wp2
  rw [run_callFunc_extern Tryz.func147 (by kernel_rfl) (by kernel_rfl) (by kernel_rfl) (e := Extern.BytealgIndexByte.indexByte) (by kernel_rfl), Lib.run_indexByteString]
  simp only [Result.andThen]
  rw [Oper.upon_value]
  go_wp2
  go_ret
  exact ⟨rfl, rfl⟩

set_option maxRecDepth 100000 in
set_option maxHeartbeats 1000000 in
theorem indexByteS_any (s : ByteArray) (c : Int) (w : World) :
    Calls Tryz.prog 98 #[.string s, .int .u8 c] w fun e w' => e = .returned (.int .i64 (Lib.indexByte s.data.toList c.toNat.toUInt8)) ∧ w' = w := by
  have c1 := indexByteL_any s c
  go_enter Tryz.func98, Tryz.ntmps98
  go_wp2_with fail
  refine (c1 _).mono ?_
  rintro e w1 ⟨rfl, rfl⟩
  go_wp2
  go_ret
  exact ⟨rfl, rfl⟩

set_option maxRecDepth 100000 in
set_option maxHeartbeats 4000000 in
theorem indexRune_any (s : ByteArray) (c : UInt8) (hc : c ∈ letters) (w : World) :
    Calls Tryz.prog 64 #[.string s, .int .i32 (c.toNat : Int)] w fun e w' => e = .returned (.int .i64 (Lib.indexByte s.data.toList c)) ∧ w' = w := by
  have c1 : ∀ w1, Calls Tryz.prog 98 #[.string s, .int .u8 (c.toNat : Int)] w1 fun e w' => e = .returned (.int .i64 (Lib.indexByte s.data.toList c)) ∧ w' = w1 := fun w1 => by
    have := indexByteS_any s (c.toNat : Int) w1
    rw [show ((c.toNat : Int)).toNat.toUInt8 = c by simp] at this
    exact this
  generalize Lib.indexByte s.data.toList c = out at *
  simp only [letters, List.mem_cons, List.not_mem_nil, or_false] at hc
  rcases hc with rfl | rfl | rfl | rfl | rfl | rfl | rfl | rfl
  all_goals
    go_enter Tryz.func64, Tryz.ntmps64
    go_wp2_with fail
    refine (c1 _).mono ?_
    rintro e w1 ⟨rfl, rfl⟩
    go_wp2
    go_ret
    exact ⟨rfl, rfl⟩

set_option maxRecDepth 100000 in
set_option maxHeartbeats 1000000 in
theorem containsRune_any (s : ByteArray) (c : UInt8) (hc : c ∈ letters) (w : World) :
    Calls Tryz.prog 33 #[.string s, .int .i32 (c.toNat : Int)] w fun e w' => e = .returned (.bool (decide (c ∈ s.data.toList))) ∧ w' = w := by
  have c1 := indexRune_any s c hc
  have hx : decide (c ∈ s.data.toList) = decide (0 ≤ Lib.indexByte s.data.toList c) := by
    rw [← Lib.contains_iff_indexByte]
    by_cases h : c ∈ s.data.toList
    · rw [List.contains_iff_mem.2 h]
      exact decide_eq_true h
    · rw [decide_eq_false h]
      cases h2 : s.data.toList.contains c
      · rfl
      · exact absurd (List.contains_iff_mem.1 h2) h
  rw [hx]
  generalize Lib.indexByte s.data.toList c = out at *
  clear hx
  generalize (c.toNat : Int) = n at *
  go_enter Tryz.func33, Tryz.ntmps33
  go_wp2_with fail
  refine (c1 _).mono ?_
  rintro e w1 ⟨rfl, rfl⟩
  go_wp2
  go_ret
  exact ⟨rfl, rfl⟩
end Go.Proofs.YtaoiejgbbmjpkaaGreatDoor

/- What package msg's checkField and Check say; nothing old in memory is turned. -/
namespace Go.Proofs.YtaoiejgbbmjpkaaGreatDoor
open Go.RowKit
set_option linter.unusedVariables false

/-- What is wrong with a field that belongs to the kind. -/
def chkF9 (m : MsgD) (c : UInt8) : Nat := if c = 98 then checkB m.batch else if plainF m c = true then 0 else 3

/-- All fields. -/
def every9 : ByteArray := ⟨#[100, 118, 116, 98, 104, 99, 107, 113]⟩

theorem every9_mem (i : Nat) (h : i < every9.size) : every9[i] ∈ letters := by
  have h8 : i < 8 := h
  have : i = 0 ∨ i = 1 ∨ i = 2 ∨ i = 3 ∨ i = 4 ∨ i = 5 ∨ i = 6 ∨ i = 7 := by omega
  rcases this with rfl | rfl | rfl | rfl | rfl | rfl | rfl | rfl
  · exact (by decide : (100 : UInt8) ∈ letters)
  · exact (by decide : (118 : UInt8) ∈ letters)
  · exact (by decide : (116 : UInt8) ∈ letters)
  · exact (by decide : (98 : UInt8) ∈ letters)
  · exact (by decide : (104 : UInt8) ∈ letters)
  · exact (by decide : (99 : UInt8) ∈ letters)
  · exact (by decide : (107 : UInt8) ∈ letters)
  · exact (by decide : (113 : UInt8) ∈ letters)

theorem every9_bare {m : MsgD} (h : ∀ j (hj : j < every9.size), every9[j] ∈ fieldsK m.kind ∨ zeroF m every9[j]) : m.Bare :=
  ⟨h 0 (by decide), h 1 (by decide), h 2 (by decide), h 3 (by decide), h 4 (by decide), h 5 (by decide), h 6 (by decide), h 7 (by decide)⟩

theorem bare_every9 {m : MsgD} (h : m.Bare) : ∀ j (hj : j < every9.size), every9[j] ∈ fieldsK m.kind ∨ zeroF m every9[j] := by
  intro j hj
  obtain ⟨a, b, c, d, e, f, g, i⟩ := h
  have h8 : j < 8 := hj
  have : j = 0 ∨ j = 1 ∨ j = 2 ∨ j = 3 ∨ j = 4 ∨ j = 5 ∨ j = 6 ∨ j = 7 := by omega
  rcases this with rfl | rfl | rfl | rfl | rfl | rfl | rfl | rfl
  · exact a
  · exact b
  · exact c
  · exact d
  · exact e
  · exact f
  · exact g
  · exact i

theorem hdr_nil_plain {h : HdrD} (hz : h.Nil) : h.Plain := by
  rw [hz.eq]
  exact ⟨⟨by decide, by decide, ⟨by decide, by decide⟩, by decide, by decide⟩, (fun p hp => by cases hp), fun r hr => by cases hr⟩

theorem cert_nil_plain {c : CertD} (hz : c.Nil) : c.Plain := by
  rw [hz.eq]
  exact ⟨hdr_nil_plain ⟨rfl, rfl, rfl, rfl⟩, (fun t ht => by cases ht), by decide⟩

theorem fieldsK_b {k : Int} (h : 98 ∈ fieldsK k) : fieldsK k = [98] := by
  by_cases h0 : fieldsK k = []
  · rw [h0] at h; cases h
  rcases kind_cases h0 with rfl | rfl | rfl | rfl | rfl | rfl | rfl | rfl | rfl | rfl | rfl
  · rfl
  all_goals exact absurd h (by decide)

theorem okM_plain {m : MsgD} (hb : m.Bare) (h98 : 98 ∉ fieldsK m.kind) : okM m = true ↔ ∀ c ∈ fieldsK m.kind, plainF m c = true := by
  rw [okM_iff]
  obtain ⟨b1, b2, b3, b4, b5, b6, b7, b8⟩ := hb
  constructor
  · rintro ⟨o1, o2, o3, o4, o5, o6, o7⟩ c hc
    obtain ⟨_, hl⟩ := fieldsK_letters m.kind
    have hcl := hl c hc
    simp only [letters, List.mem_cons, List.not_mem_nil, or_false] at hcl
    rcases hcl with rfl | rfl | rfl | rfl | rfl | rfl | rfl | rfl
    · exact decide_eq_true o2
    · exact decide_eq_true (o3 hc)
    · exact decide_eq_true (o1 hc)
    · exact absurd hc h98
    · exact decide_eq_true o4
    · exact decide_eq_true o5
    · exact decide_eq_true (o7 hc)
    · exact decide_eq_true (o6 hc)
  · intro h
    refine ⟨fun hc => of_decide_eq_true (h 100 hc), ?_, fun hc => of_decide_eq_true (h 116 hc), ?_, ?_, fun hc => of_decide_eq_true (h 113 hc), fun hc => of_decide_eq_true (h 107 hc)⟩
    · rcases b2 with hc | hz
      · exact of_decide_eq_true (h 118 hc)
      · rw [hz]; exact ⟨by decide, by decide⟩
    · rcases b5 with hc | hz
      · exact of_decide_eq_true (h 104 hc)
      · exact hdr_nil_plain hz
    · rcases b6 with hc | hz
      · exact of_decide_eq_true (h 99 hc)
      · exact cert_nil_plain hz

/-- The first field that is wrong tells. -/
theorem chkM_first {m : MsgD} (hb : m.Bare) (i : Nat) (hi : i < (fieldsK m.kind).length) (h0 : ∀ j (hj : j < i), chkF9 m ((fieldsK m.kind)[j]'(by omega)) = 0) (h1 : chkF9 m (fieldsK m.kind)[i] ≠ 0) : chkM m = chkF9 m (fieldsK m.kind)[i] := by
  have hne : fieldsK m.kind ≠ [] := fun e => by rw [e] at hi; exact absurd hi (by simp)
  unfold chkM
  rw [if_neg hne, if_neg (fun h => h hb)]
  by_cases h98 : 98 ∈ fieldsK m.kind
  · rw [if_pos h98]
    have hc : (fieldsK m.kind)[i] = 98 := by
      have := List.getElem_mem hi
      have e := fieldsK_b h98
      have hm : ∀ c ∈ fieldsK m.kind, c = 98 := by rw [e]; simp
      exact hm _ this
    rw [hc]
    exact (if_pos rfl).symm
  · have hc : (fieldsK m.kind)[i] ≠ 98 := fun e => h98 (by rw [← e]; exact List.getElem_mem hi)
    rw [if_neg h98]
    unfold chkF9 at h1 ⊢
    rw [if_neg hc] at h1 ⊢
    by_cases hp : plainF m (fieldsK m.kind)[i] = true
    · rw [if_pos hp] at h1; exact absurd rfl h1
    · rw [if_neg hp, if_neg (fun h => hp ((okM_plain hb h98).1 h _ (List.getElem_mem hi)))]

theorem chkM_all {m : MsgD} (hb : m.Bare) (hne : fieldsK m.kind ≠ []) (h0 : ∀ c ∈ fieldsK m.kind, chkF9 m c = 0) : chkM m = 0 := by
  unfold chkM
  rw [if_neg hne, if_neg (fun h => h hb)]
  by_cases h98 : 98 ∈ fieldsK m.kind
  · rw [if_pos h98]
    have := h0 98 h98
    unfold chkF9 at this
    rw [if_pos rfl] at this
    exact this
  · rw [if_neg h98, if_pos]
    rw [okM_plain hb h98]
    intro c hc
    have := h0 c hc
    unfold chkF9 at this
    rw [if_neg (fun e => h98 (by rw [← e]; exact hc))] at this
    by_cases hp : plainF m c = true
    · exact hp
    · rw [if_neg hp] at this; cases this

/-- A whole row is loaded behind a guard that lets it. -/
theorem wpList_load_rowG {P : Program} {ops : Array Oper} {rest : List Oper} {o : Oper} {a : Act} {w : World} {Q : Exit → Act → World → Prop} (hw : Region.wanted o (yielded ops a.tmps) = true) (ty : TypeId) (x : Operand) (ho : o.op = .load ty x)
    (g : Nat) (hx : a.eval x = .pointer (some ⟨g, 0, none⟩)) (t : TypeId) (cs : Array Value) (fr : Nat × Nat) (d : TypeDesc) (hg : w.heap[g]? = some (.cells cs t fr))
    (hu : P.underlying ty = some d) (hd : (match d with | .struct _ | .array _ _ => true | _ => false) = true) (hi : (P.info? ty).map (·.size) = some cs.size)
    (h : wpList P ops Q rest (a.put o.dst (.agg cs)) w) : wpList P ops Q (o :: rest) a w :=
  BigFrame.wpList_want hw fun _ hK => wp_load_row ty x ho g hx t cs fr d hg hu hd hi (hK _ _ h)

set_option maxRecDepth 100000 in
set_option maxHeartbeats 4000000 in
theorem checkField_any (x : MsgM) (c : UInt8) (hc : c ∈ letters) (w : World) (hA : x.At w) (hn : x.Num) :
    Calls Tryz.prog 35 #[x.v, .int .i32 (c.toNat : Int)] w fun e w' => e = .returned (.int .i64 (chkF9 x.d c : Int)) ∧ Below w.heap.size w w' := by
  obtain ⟨k, dg, vi, tg, ba, he, ce, bl, q⟩ := x
  have hX := Arr.new w 39 [.int .i64 k, .string dg, .int .i64 vi, .int .i64 tg.who, .string tg.mac, .int .i64 ba.author, .int .i64 ba.number, .slice ba.ta ba.txs.length ba.tc, .int .i64 he.author, .int .i64 he.round, .slice he.ra he.refs.length he.rc, .slice he.pa he.parents.length he.pc, .int .i64 ce.hdr.author, .int .i64 ce.hdr.round, .slice ce.hdr.ra ce.hdr.refs.length ce.hdr.rc, .slice ce.hdr.pa ce.hdr.parents.length ce.hdr.pc, .slice ce.va ce.votes.length ce.vc, .int .i64 bl.view, .int .i64 bl.qc.view, .string bl.qc.block, .slice bl.qc.va bl.qc.votes.length bl.qc.vc, .slice bl.ca bl.certs.length bl.cc, .int .i64 q.view, .string q.block, .slice q.va q.votes.length q.vc]
  have hB := belowNew w (.cells [.int .i64 k, .string dg, .int .i64 vi, .int .i64 tg.who, .string tg.mac, .int .i64 ba.author, .int .i64 ba.number, .slice ba.ta ba.txs.length ba.tc, .int .i64 he.author, .int .i64 he.round, .slice he.ra he.refs.length he.rc, .slice he.pa he.parents.length he.pc, .int .i64 ce.hdr.author, .int .i64 ce.hdr.round, .slice ce.hdr.ra ce.hdr.refs.length ce.hdr.rc, .slice ce.hdr.pa ce.hdr.parents.length ce.hdr.pc, .slice ce.va ce.votes.length ce.vc, .int .i64 bl.view, .int .i64 bl.qc.view, .string bl.qc.block, .slice bl.qc.va bl.qc.votes.length bl.qc.vc, .slice bl.ca bl.certs.length bl.cc, .int .i64 q.view, .string q.block, .slice q.va q.votes.length q.vc].toArray 39)
  have hA1 := hA.below hB
  by_cases h98 : c = 98
  · subst h98
    have cB := batCheck_any ba.author ba.number ba.ta ba.txs ba.tc (w.alloc (.cells [.int .i64 k, .string dg, .int .i64 vi, .int .i64 tg.who, .string tg.mac, .int .i64 ba.author, .int .i64 ba.number, .slice ba.ta ba.txs.length ba.tc, .int .i64 he.author, .int .i64 he.round, .slice he.ra he.refs.length he.rc, .slice he.pa he.parents.length he.pc, .int .i64 ce.hdr.author, .int .i64 ce.hdr.round, .slice ce.hdr.ra ce.hdr.refs.length ce.hdr.rc, .slice ce.hdr.pa ce.hdr.parents.length ce.hdr.pc, .slice ce.va ce.votes.length ce.vc, .int .i64 bl.view, .int .i64 bl.qc.view, .string bl.qc.block, .slice bl.qc.va bl.qc.votes.length bl.qc.vc, .slice bl.ca bl.certs.length bl.cc, .int .i64 q.view, .string q.block, .slice q.va q.votes.length q.vc].toArray 39)) hA1.bat.txs.txs
    have hr : Hid (chkF9 (MsgM.d ⟨k, dg, vi, tg, ba, he, ce, bl, q⟩) 98 = checkB ⟨ba.author, ba.number, dl ba.txs⟩) := (if_pos rfl : _ = _)
    obtain ⟨out, hout⟩ : ∃ n : Nat, Hid (n = chkF9 (MsgM.d ⟨k, dg, vi, tg, ba, he, ce, bl, q⟩) 98) := ⟨_, rfl⟩
    rw [← hout.out]
    rw [← hr.out, ← hout.out] at cB
    unfold batV at cB
    unfold MsgM.v MsgM.c
    simp only
    clear hA hA1 hr hn
    obtain ⟨w1, hw1⟩ : ∃ q', w.alloc (.cells [.int .i64 k, .string dg, .int .i64 vi, .int .i64 tg.who, .string tg.mac, .int .i64 ba.author, .int .i64 ba.number, .slice ba.ta ba.txs.length ba.tc, .int .i64 he.author, .int .i64 he.round, .slice he.ra he.refs.length he.rc, .slice he.pa he.parents.length he.pc, .int .i64 ce.hdr.author, .int .i64 ce.hdr.round, .slice ce.hdr.ra ce.hdr.refs.length ce.hdr.rc, .slice ce.hdr.pa ce.hdr.parents.length ce.hdr.pc, .slice ce.va ce.votes.length ce.vc, .int .i64 bl.view, .int .i64 bl.qc.view, .string bl.qc.block, .slice bl.qc.va bl.qc.votes.length bl.qc.vc, .slice bl.ca bl.certs.length bl.cc, .int .i64 q.view, .string q.block, .slice q.va q.votes.length q.vc].toArray 39) = q' := ⟨_, rfl⟩
    rw [hw1] at hX hB cB
    have x5 := hX.cell (i := 5) rfl
    have x6 := hX.cell (i := 6) rfl
    have x7 := hX.cell (i := 7) rfl
    go_enter Tryz.func35, Tryz.ntmps35
    go_wp2_with fail
    refine cB.mono ?_
    rintro e w2 ⟨rfl, hb2⟩
    have hB2 := hB.trans (hb2.mono hB.size)
    clear cB hX hB hb2 x5 x6 x7 hw1
    go_wp2
    go_ret
    exact ⟨rfl, hB2⟩
  · have cP := isPlain_any ⟨k, dg, vi, tg, ba, he, ce, bl, q⟩ c hc h98 (w.alloc (.cells [.int .i64 k, .string dg, .int .i64 vi, .int .i64 tg.who, .string tg.mac, .int .i64 ba.author, .int .i64 ba.number, .slice ba.ta ba.txs.length ba.tc, .int .i64 he.author, .int .i64 he.round, .slice he.ra he.refs.length he.rc, .slice he.pa he.parents.length he.pc, .int .i64 ce.hdr.author, .int .i64 ce.hdr.round, .slice ce.hdr.ra ce.hdr.refs.length ce.hdr.rc, .slice ce.hdr.pa ce.hdr.parents.length ce.hdr.pc, .slice ce.va ce.votes.length ce.vc, .int .i64 bl.view, .int .i64 bl.qc.view, .string bl.qc.block, .slice bl.qc.va bl.qc.votes.length bl.qc.vc, .slice bl.ca bl.certs.length bl.cc, .int .i64 q.view, .string q.block, .slice q.va q.votes.length q.vc].toArray 39)) hA1 hn
    have hr : Hid (chkF9 (MsgM.d ⟨k, dg, vi, tg, ba, he, ce, bl, q⟩) c = if plainF (MsgM.d ⟨k, dg, vi, tg, ba, he, ce, bl, q⟩) c = true then 0 else 3) := (if_neg h98 : _ = _)
    have h98' : ((c.toNat : Int) == 98) = false := by
      rw [beq_eq_false_iff_ne]
      intro e
      exact h98 (UInt8.toNat_inj.1 (by show c.toNat = 98; omega))
    obtain ⟨out, hout⟩ : ∃ n : Nat, Hid (n = chkF9 (MsgM.d ⟨k, dg, vi, tg, ba, he, ce, bl, q⟩) c) := ⟨_, rfl⟩
    rw [← hout.out]
    rw [← hout.out] at hr
    obtain ⟨P, hP⟩ : ∃ b : Bool, b = plainF (MsgM.d ⟨k, dg, vi, tg, ba, he, ce, bl, q⟩) c := ⟨_, rfl⟩
    rw [← hP] at cP hr
    unfold MsgM.v MsgM.c at cP ⊢
    simp only at cP ⊢
    clear hA hA1 hn hP hout h98
    generalize (c.toNat : Int) = cn at *
    obtain ⟨w1, hw1⟩ : ∃ q', w.alloc (.cells [.int .i64 k, .string dg, .int .i64 vi, .int .i64 tg.who, .string tg.mac, .int .i64 ba.author, .int .i64 ba.number, .slice ba.ta ba.txs.length ba.tc, .int .i64 he.author, .int .i64 he.round, .slice he.ra he.refs.length he.rc, .slice he.pa he.parents.length he.pc, .int .i64 ce.hdr.author, .int .i64 ce.hdr.round, .slice ce.hdr.ra ce.hdr.refs.length ce.hdr.rc, .slice ce.hdr.pa ce.hdr.parents.length ce.hdr.pc, .slice ce.va ce.votes.length ce.vc, .int .i64 bl.view, .int .i64 bl.qc.view, .string bl.qc.block, .slice bl.qc.va bl.qc.votes.length bl.qc.vc, .slice bl.ca bl.certs.length bl.cc, .int .i64 q.view, .string q.block, .slice q.va q.votes.length q.vc].toArray 39) = q' := ⟨_, rfl⟩
    rw [hw1] at hX hB cP
    go_enter Tryz.func35, Tryz.ntmps35
    go_wp2_with (refine wpList_load_row (by rfl) 39 _ (by rfl) w.heap.size (by rfl) 39 _ (0, 0) _ hX Tryz.underlying39 (by rfl) infoMsg9 ?_)
    refine cP.mono ?_
    rintro e w2 ⟨⟨p, rfl, hp⟩, hb2⟩
    have hB2 := hB.trans (hb2.mono hB.size)
    clear cP hX hB hb2 hw1
    cases p
    case false =>
      have ho : Hid (out = 3) := by
        show _ = _
        rw [hr.out, if_neg (fun h => by have := hp.2 h; cases this)]
      clear hr hp
      go_wp2
      go_ret
      exact ⟨by rw [ho.out]; rfl, hB2⟩
    have ho : Hid (out = 0) := by
      show _ = _
      rw [hr.out, if_pos (hp.1 rfl)]
    clear hr hp
    go_wp2
    go_ret
    exact ⟨by rw [ho.out]; rfl, hB2⟩

set_option maxRecDepth 100000 in
set_option maxHeartbeats 8000000 in
theorem msgCheck_any (x : MsgM) (w : World) (hA : x.At w) (hn : x.Num) :
    Calls Tryz.prog 10 #[x.v] w fun e w' => e = .returned (.int .i64 (chkM x.d : Int)) ∧ Below w.heap.size w w' := by
  obtain ⟨k, dg, vi, tg, ba, he, ce, bl, q⟩ := x
  obtain ⟨out, hout⟩ : ∃ n : Nat, Hid (n = chkM (MsgM.d ⟨k, dg, vi, tg, ba, he, ce, bl, q⟩)) := ⟨_, rfl⟩
  rw [← hout.out]
  have hX := Arr.new w 39 [.int .i64 k, .string dg, .int .i64 vi, .int .i64 tg.who, .string tg.mac, .int .i64 ba.author, .int .i64 ba.number, .slice ba.ta ba.txs.length ba.tc, .int .i64 he.author, .int .i64 he.round, .slice he.ra he.refs.length he.rc, .slice he.pa he.parents.length he.pc, .int .i64 ce.hdr.author, .int .i64 ce.hdr.round, .slice ce.hdr.ra ce.hdr.refs.length ce.hdr.rc, .slice ce.hdr.pa ce.hdr.parents.length ce.hdr.pc, .slice ce.va ce.votes.length ce.vc, .int .i64 bl.view, .int .i64 bl.qc.view, .string bl.qc.block, .slice bl.qc.va bl.qc.votes.length bl.qc.vc, .slice bl.ca bl.certs.length bl.cc, .int .i64 q.view, .string q.block, .slice q.va q.votes.length q.vc]
  have hB := belowNew w (.cells [.int .i64 k, .string dg, .int .i64 vi, .int .i64 tg.who, .string tg.mac, .int .i64 ba.author, .int .i64 ba.number, .slice ba.ta ba.txs.length ba.tc, .int .i64 he.author, .int .i64 he.round, .slice he.ra he.refs.length he.rc, .slice he.pa he.parents.length he.pc, .int .i64 ce.hdr.author, .int .i64 ce.hdr.round, .slice ce.hdr.ra ce.hdr.refs.length ce.hdr.rc, .slice ce.hdr.pa ce.hdr.parents.length ce.hdr.pc, .slice ce.va ce.votes.length ce.vc, .int .i64 bl.view, .int .i64 bl.qc.view, .string bl.qc.block, .slice bl.qc.va bl.qc.votes.length bl.qc.vc, .slice bl.ca bl.certs.length bl.cc, .int .i64 q.view, .string q.block, .slice q.va q.votes.length q.vc].toArray 39)
  have cL := letters_any k
  have cR := fun c hc => containsRune_any (fieldsS k) c hc
  have cZ := fun c hc w1 => isZero_any ⟨k, dg, vi, tg, ba, he, ce, bl, q⟩ c hc w1
  have cF := fun c hc w1 h1 => checkField_any ⟨k, dg, vi, tg, ba, he, ce, bl, q⟩ c hc w1 h1 hn
  unfold MsgM.v MsgM.c at cZ cF ⊢
  simp only at cZ cF ⊢
  obtain ⟨w1, hw1⟩ : ∃ q', w.alloc (.cells [.int .i64 k, .string dg, .int .i64 vi, .int .i64 tg.who, .string tg.mac, .int .i64 ba.author, .int .i64 ba.number, .slice ba.ta ba.txs.length ba.tc, .int .i64 he.author, .int .i64 he.round, .slice he.ra he.refs.length he.rc, .slice he.pa he.parents.length he.pc, .int .i64 ce.hdr.author, .int .i64 ce.hdr.round, .slice ce.hdr.ra ce.hdr.refs.length ce.hdr.rc, .slice ce.hdr.pa ce.hdr.parents.length ce.hdr.pc, .slice ce.va ce.votes.length ce.vc, .int .i64 bl.view, .int .i64 bl.qc.view, .string bl.qc.block, .slice bl.qc.va bl.qc.votes.length bl.qc.vc, .slice bl.ca bl.certs.length bl.cc, .int .i64 q.view, .string q.block, .slice q.va q.votes.length q.vc].toArray 39) = q' := ⟨_, rfl⟩
  have hs1 : w1.heap.size = w.heap.size + 1 := by rw [← hw1, alloc_size]
  rw [hw1] at hX hB
  have x0 := hX.cell (i := 0) rfl
  have hK : Hid ((MsgM.d ⟨k, dg, vi, tg, ba, he, ce, bl, q⟩).kind = k) := rfl
  have hkl : (fieldsS k).data.toList = fieldsK k := rfl
  obtain ⟨own, hown⟩ : ∃ o, o = fieldsS k := ⟨_, rfl⟩
  rw [← hown] at cL cR hkl
  have HO : Hid (own = fieldsS k) := hown
  clear hown
  have HA : Hid (MsgM.At w ⟨k, dg, vi, tg, ba, he, ce, bl, q⟩) := hA
  clear hn hA
  go_enter Tryz.func10, Tryz.ntmps10
  go_wp2_with fail
  refine (cL _).mono ?_
  rintro e w2 ⟨rfl, hw2⟩
  have hX2 : Arr w2 w.heap.size 39 [.int .i64 k, .string dg, .int .i64 vi, .int .i64 tg.who, .string tg.mac, .int .i64 ba.author, .int .i64 ba.number, .slice ba.ta ba.txs.length ba.tc, .int .i64 he.author, .int .i64 he.round, .slice he.ra he.refs.length he.rc, .slice he.pa he.parents.length he.pc, .int .i64 ce.hdr.author, .int .i64 ce.hdr.round, .slice ce.hdr.ra ce.hdr.refs.length ce.hdr.rc, .slice ce.hdr.pa ce.hdr.parents.length ce.hdr.pc, .slice ce.va ce.votes.length ce.vc, .int .i64 bl.view, .int .i64 bl.qc.view, .string bl.qc.block, .slice bl.qc.va bl.qc.votes.length bl.qc.vc, .slice bl.ca bl.certs.length bl.cc, .int .i64 q.view, .string q.block, .slice q.va q.votes.length q.vc] := by rw [hw2]; exact hX
  have hB2 : Below w.heap.size w w2 := by rw [hw2]; exact hB
  have hs2 : w2.heap.size = w.heap.size + 1 := by rw [hw2]; exact hs1
  clear hX hB hs1 x0 hw2 hw1 cL
  cases hE : own.toList.isEmpty
  case true =>
    have ho : Hid (out = 5) := by
      show _ = _
      rw [hout.out]
      unfold chkM
      rw [if_pos]
      rw [hK.out, ← hkl, ← ByteArray.toList_eq]
      exact List.isEmpty_iff.1 hE
    clear hout cR cZ cF hX2 hs2 hkl HO
    go_wp2
    go_ret
    exact ⟨by rw [ho.out]; rfl, hB2⟩
  have Hne : Hid (fieldsK k ≠ []) := fun e => by
    have : own.toList.isEmpty = true := by rw [ByteArray.toList_eq, hkl, e]; rfl
    rw [hE] at this
    cases this
  have hXi := hX2.alloc (.stringIter every9 0)
  have hBi := hB2.alloc hB2.size (.stringIter every9 0)
  have hIt : (w2.alloc (.stringIter every9 0)).heap[w.heap.size + 1]? = some (.stringIter every9 0) := by rw [← hs2]; exact World.iter_heap w2 every9 0
  clear hX2 hB2
  go_wp2
  go_loopw [5] (fun v5 wr => ∃ i : Nat, i ≤ every9.size ∧ wr.heap[w.heap.size + 1]? = some (.stringIter every9 i) ∧ Arr wr w.heap.size 39 [.int .i64 k, .string dg, .int .i64 vi, .int .i64 tg.who, .string tg.mac, .int .i64 ba.author, .int .i64 ba.number, .slice ba.ta ba.txs.length ba.tc, .int .i64 he.author, .int .i64 he.round, .slice he.ra he.refs.length he.rc, .slice he.pa he.parents.length he.pc, .int .i64 ce.hdr.author, .int .i64 ce.hdr.round, .slice ce.hdr.ra ce.hdr.refs.length ce.hdr.rc, .slice ce.hdr.pa ce.hdr.parents.length ce.hdr.pc, .slice ce.va ce.votes.length ce.vc, .int .i64 bl.view, .int .i64 bl.qc.view, .string bl.qc.block, .slice bl.qc.va bl.qc.votes.length bl.qc.vc, .slice bl.ca bl.certs.length bl.cc, .int .i64 q.view, .string q.block, .slice q.va q.votes.length q.vc] ∧ Below w.heap.size w wr ∧ Hid (∀ j (hj : j < every9.size), j < i → every9[j] ∈ fieldsK k ∨ zeroF (MsgM.d ⟨k, dg, vi, tg, ba, he, ce, bl, q⟩) every9[j])) (fun _ wr => every9.size - wr.iterPos (w.heap.size + 1))
  case atStart => exact ⟨0, Nat.zero_le _, by first | exact hIt | (rw [hs2] at hIt; exact hIt), hXi, hBi, fun j hj h => absurd h (by omega)⟩
  case round =>
    clear hXi hBi hIt
    obtain ⟨i, hi8, hit, hX, hb, HF⟩ := hrel
    have hlt2 : w.heap.size + 1 < wr.heap.size := (Array.getElem?_eq_some_iff.1 hit).1
    by_cases hi : i < every9.size
    · have hmem := every9_mem i hi
      have hasc : (every9[i]).toNat < 128 := by
        have : ∀ c ∈ letters, c.toNat < 128 := by decide
        exact this _ hmem
      have hnx : ∀ ty, (Instr.next (.pointer (some ⟨w.heap.size + 1, 0, none⟩)) true ty).run Tryz.prog wr = _ := fun ty => Lib.run_next_ascii_at wr (w.heap.size + 1) every9 i ty hit hi hasc
      have hit2 := Lib.iterAt_heap wr (w.heap.size + 1) every9 i (i + 1) hit
      have hX2 : Arr (wr.iterAt (w.heap.size + 1) every9 (i + 1)) w.heap.size 39 [.int .i64 k, .string dg, .int .i64 vi, .int .i64 tg.who, .string tg.mac, .int .i64 ba.author, .int .i64 ba.number, .slice ba.ta ba.txs.length ba.tc, .int .i64 he.author, .int .i64 he.round, .slice he.ra he.refs.length he.rc, .slice he.pa he.parents.length he.pc, .int .i64 ce.hdr.author, .int .i64 ce.hdr.round, .slice ce.hdr.ra ce.hdr.refs.length ce.hdr.rc, .slice ce.hdr.pa ce.hdr.parents.length ce.hdr.pc, .slice ce.va ce.votes.length ce.vc, .int .i64 bl.view, .int .i64 bl.qc.view, .string bl.qc.block, .slice bl.qc.va bl.qc.votes.length bl.qc.vc, .slice bl.ca bl.certs.length bl.cc, .int .i64 q.view, .string q.block, .slice q.va q.votes.length q.vc] := (Lib.iterAt_other wr (w.heap.size + 1) w.heap.size every9 (i + 1) (by omega)).trans hX
      have hb2 := Lib.below_iterAt hb (k := w.heap.size + 1) (by omega) every9 (i + 1)
      obtain ⟨c, hcd⟩ : ∃ c, c = every9[i] := ⟨_, rfl⟩
      rw [← hcd] at hmem hnx
      have cR1 := cR c hmem
      have cZ1 := cZ c hmem
      have HM : Hid (every9.size - (i + 1) < every9.size - World.iterPos wr (w.heap.size + 1)) := by
        show _ < _
        simp only [World.iterPos, hit]
        omega
      have HN : Hid ((c ∈ fieldsK k ∨ zeroF (MsgM.d ⟨k, dg, vi, tg, ba, he, ce, bl, q⟩) c) → ∀ j (hj : j < every9.size), j < i + 1 → every9[j] ∈ fieldsK k ∨ zeroF (MsgM.d ⟨k, dg, vi, tg, ba, he, ce, bl, q⟩) every9[j]) := by
        intro h j hj hji
        by_cases hj2 : j < i
        · exact HF.out j hj hj2
        · have : j = i := by omega
          subst this
          rw [← hcd]
          exact h
      have HZ : Hid (¬ (c ∈ fieldsK k ∨ zeroF (MsgM.d ⟨k, dg, vi, tg, ba, he, ce, bl, q⟩) c) → out = 3) := by
        intro h
        rw [hout.out]
        unfold chkM
        rw [if_neg (show ¬ fieldsK (MsgM.d ⟨k, dg, vi, tg, ba, he, ce, bl, q⟩).kind = [] from Hne.out), if_pos]
        intro hbare
        exact h (by rw [hcd]; exact bare_every9 hbare i hi)
      clear HF hcd hasc hit hX hb
      obtain ⟨w3, hw3⟩ : ∃ q', wr.iterAt (w.heap.size + 1) every9 (i + 1) = q' := ⟨_, rfl⟩
      rw [hw3] at hit2 hX2 hb2 hnx
      have hlt3 : w.heap.size + 1 < w3.heap.size := (Array.getElem?_eq_some_iff.1 hit2).1
      clear hw3
      go_wp2_with fail
      refine (cR1 _).mono ?_
      rintro e w4 ⟨rfl, hw4⟩
      rw [← hw4] at hit2 hX2 hb2 hlt3
      clear hw4 cR1
      by_cases hin : c ∈ own.data.toList
      · have hF2 : Hid (∀ j (hj : j < every9.size), j < i + 1 → every9[j] ∈ fieldsK k ∨ zeroF (MsgM.d ⟨k, dg, vi, tg, ba, he, ce, bl, q⟩) every9[j]) := HN.out (Or.inl (by rw [← hkl]; exact hin))
        rw [decide_eq_true hin]
        clear HN HZ hnx
        go_wp2
        go_roundw
        case rel => exact ⟨i + 1, by omega, hit2, hX2, hb2, hF2⟩
        case measure =>
          have := HM.out
          simp only [World.iterPos, hit2] at this ⊢
          omega
      · rw [decide_eq_false hin]
        have hin' : ¬ c ∈ fieldsK k := by rw [← hkl]; exact hin
        go_wp2_with (refine wpList_load_rowG (by rfl) 39 _ (by rfl) w.heap.size (by rfl) 39 _ (0, 0) _ hX2 Tryz.underlying39 (by rfl) infoMsg9 ?_)
        refine (cZ1 _).mono ?_
        rintro e w5 ⟨⟨p, rfl, hp⟩, hb5⟩
        have hX5 := hX2.below hb5 hX2.lt
        have hB5 := hb2.trans (hb5.mono hb2.size)
        have hit5 : w5.heap[w.heap.size + 1]? = some (.stringIter every9 (i + 1)) := by rw [hb5.block _ hlt3]; exact hit2
        clear cZ1 hX2 hb2 hb5 hit2 hnx
        cases p
        case false =>
          have ho : Hid (out = 3) := HZ.out (fun h => h.elim hin' (fun h => by have := hp.2 h; cases this))
          clear HN HZ hp
          go_wp2
          go_ret
          exact ⟨by rw [ho.out]; rfl, hB5⟩
        have hF2 : Hid (∀ j (hj : j < every9.size), j < i + 1 → every9[j] ∈ fieldsK k ∨ zeroF (MsgM.d ⟨k, dg, vi, tg, ba, he, ce, bl, q⟩) every9[j]) := HN.out (Or.inr (hp.1 rfl))
        clear HN HZ hp
        go_wp2
        go_roundw
        case rel => exact ⟨i + 1, by omega, hit5, hX5, hB5, hF2⟩
        case measure =>
          have := HM.out
          simp only [World.iterPos, hit5] at this ⊢
          omega
    · have hbare : Hid ((MsgM.d ⟨k, dg, vi, tg, ba, he, ce, bl, q⟩).Bare) := every9_bare (fun j hj => HF.out j hj (by omega))
      have hnx : ∀ ty, (Instr.next (.pointer (some ⟨w.heap.size + 1, 0, none⟩)) true ty).run Tryz.prog wr = _ := fun ty => Lib.run_next_end_at wr (w.heap.size + 1) every9 i ty hit hi
      have hXi := hX.alloc (.stringIter own 0)
      have hBi := hb.alloc hb.size (.stringIter own 0)
      have hIt : (wr.alloc (.stringIter own 0)).heap[wr.heap.size]? = some (.stringIter own 0) := World.iter_heap wr own 0
      have HA1 : Hid (MsgM.At wr ⟨k, dg, vi, tg, ba, he, ce, bl, q⟩) := HA.out.below hb
      obtain ⟨B, hBd⟩ : ∃ B, wr.heap.size = B := ⟨_, rfl⟩
      rw [hBd] at hIt
      have hwB : w.heap.size < B := by omega
      have hos : own.size = (fieldsK k).length := by rw [← hkl]; rfl
      go_wp2
      go_loopw [7, 8] (fun v7 v8 wr => ∃ i : Nat, i ≤ own.size ∧ wr.heap[B]? = some (.stringIter own i) ∧ Arr wr w.heap.size 39 [.int .i64 k, .string dg, .int .i64 vi, .int .i64 tg.who, .string tg.mac, .int .i64 ba.author, .int .i64 ba.number, .slice ba.ta ba.txs.length ba.tc, .int .i64 he.author, .int .i64 he.round, .slice he.ra he.refs.length he.rc, .slice he.pa he.parents.length he.pc, .int .i64 ce.hdr.author, .int .i64 ce.hdr.round, .slice ce.hdr.ra ce.hdr.refs.length ce.hdr.rc, .slice ce.hdr.pa ce.hdr.parents.length ce.hdr.pc, .slice ce.va ce.votes.length ce.vc, .int .i64 bl.view, .int .i64 bl.qc.view, .string bl.qc.block, .slice bl.qc.va bl.qc.votes.length bl.qc.vc, .slice bl.ca bl.certs.length bl.cc, .int .i64 q.view, .string q.block, .slice q.va q.votes.length q.vc] ∧ Below w.heap.size w wr ∧ Hid (∀ j (hj : j < (fieldsK k).length), j < i → chkF9 (MsgM.d ⟨k, dg, vi, tg, ba, he, ce, bl, q⟩) (fieldsK k)[j] = 0)) (fun _ _ wr => own.size - wr.iterPos B)
      case atStart => exact ⟨0, Nat.zero_le _, hIt, hXi, hBi, fun j hj h => absurd h (by omega)⟩
      case round =>
        clear hXi hBi hIt hX hb hnx hit hlt2 HF
        obtain ⟨j, hj8, hit, hX, hb, HF⟩ := hrel
        have hlt2 : B < wr.heap.size := (Array.getElem?_eq_some_iff.1 hit).1
        by_cases hj : j < own.size
        · have hjl : j < (fieldsK k).length := by omega
          have hel : own[j] = (fieldsK k)[j] := by
            have hown := HO.out
            subst hown
            rfl
          have hmem : own[j] ∈ letters := by rw [hel]; exact (fieldsK_letters k).2 _ (List.getElem_mem hjl)
          have hasc : (own[j]).toNat < 128 := by
            have : ∀ c ∈ letters, c.toNat < 128 := by decide
            exact this _ hmem
          have hnx : ∀ ty, (Instr.next (.pointer (some ⟨B, 0, none⟩)) true ty).run Tryz.prog wr = _ := fun ty => Lib.run_next_ascii_at wr B own j ty hit hj hasc
          have hit2 := Lib.iterAt_heap wr B own j (j + 1) hit
          have hX2 : Arr (wr.iterAt B own (j + 1)) w.heap.size 39 [.int .i64 k, .string dg, .int .i64 vi, .int .i64 tg.who, .string tg.mac, .int .i64 ba.author, .int .i64 ba.number, .slice ba.ta ba.txs.length ba.tc, .int .i64 he.author, .int .i64 he.round, .slice he.ra he.refs.length he.rc, .slice he.pa he.parents.length he.pc, .int .i64 ce.hdr.author, .int .i64 ce.hdr.round, .slice ce.hdr.ra ce.hdr.refs.length ce.hdr.rc, .slice ce.hdr.pa ce.hdr.parents.length ce.hdr.pc, .slice ce.va ce.votes.length ce.vc, .int .i64 bl.view, .int .i64 bl.qc.view, .string bl.qc.block, .slice bl.qc.va bl.qc.votes.length bl.qc.vc, .slice bl.ca bl.certs.length bl.cc, .int .i64 q.view, .string q.block, .slice q.va q.votes.length q.vc] := (Lib.iterAt_other wr B w.heap.size own (j + 1) (by omega)).trans hX
          have hb2 := Lib.below_iterAt hb (k := B) (by omega) own (j + 1)
          have HM : Hid (own.size - (j + 1) < own.size - World.iterPos wr B) := by
            show _ < _
            simp only [World.iterPos, hit]
            omega
          obtain ⟨c, hcd⟩ : ∃ c, c = own[j] := ⟨_, rfl⟩
          rw [← hcd] at hmem hnx hel
          have cF1 := fun w1 h1 => cF c hmem w1 h1
          obtain ⟨n, hnd⟩ : ∃ n : Nat, n = chkF9 (MsgM.d ⟨k, dg, vi, tg, ba, he, ce, bl, q⟩) c := ⟨_, rfl⟩
          rw [← hnd] at cF1
          have HN : Hid (n = 0 → ∀ i (hi : i < (fieldsK k).length), i < j + 1 → chkF9 (MsgM.d ⟨k, dg, vi, tg, ba, he, ce, bl, q⟩) (fieldsK k)[i] = 0) := by
            intro h i hi hij
            by_cases hj2 : i < j
            · exact HF.out i hi hj2
            · have : i = j := by omega
              subst this
              rw [← hel, ← hnd]
              exact h
          have HZ : Hid (n ≠ 0 → out = n) := by
            intro h
            rw [hout.out, hnd, hel]
            exact chkM_first hbare.out j hjl (fun i hi => HF.out i (by omega) hi) (by rw [hnd, hel] at h; exact h)
          have hAt : MsgM.At _ _ := HA.out.below hb2
          clear HF hcd hasc hit hX hb hel hnd
          obtain ⟨w3, hw3⟩ : ∃ q', wr.iterAt B own (j + 1) = q' := ⟨_, rfl⟩
          rw [hw3] at hit2 hX2 hb2 hnx hAt
          have hlt3 : B < w3.heap.size := (Array.getElem?_eq_some_iff.1 hit2).1
          clear hw3
          go_wp2_with (refine wpList_load_row (by rfl) 39 _ (by rfl) w.heap.size (by rfl) 39 _ (0, 0) _ hX2 Tryz.underlying39 (by rfl) infoMsg9 ?_)
          refine (cF1 _ hAt).mono ?_
          rintro e w5 ⟨rfl, hb5⟩
          have hX5 := hX2.below hb5 hX2.lt
          have hB5 := hb2.trans (hb5.mono hb2.size)
          have hit5 : w5.heap[B]? = some (.stringIter own (j + 1)) := by rw [hb5.block _ hlt3]; exact hit2
          clear cF1 hX2 hb2 hb5 hit2 hnx hAt
          by_cases hz : n = 0
          · subst hz
            have hF2 : Hid (∀ i (hi : i < (fieldsK k).length), i < j + 1 → chkF9 (MsgM.d ⟨k, dg, vi, tg, ba, he, ce, bl, q⟩) (fieldsK k)[i] = 0) := HN.out rfl
            clear HN HZ
            go_wp2
            go_roundw
            case rel => exact ⟨j + 1, by omega, hit5, hX5, hB5, hF2⟩
            case measure =>
              have := HM.out
              simp only [World.iterPos, hit5] at this ⊢
              omega
          · have ho : Hid (out = n) := HZ.out hz
            have hz' : ((n : Int) != 0) = true := by rw [bne_iff_ne]; omega
            clear HN HZ hz
            go_wp2
            go_ret
            exact ⟨by rw [ho.out]; rfl, hB5⟩
        · have ho : Hid (out = 0) := by
            show _ = _
            rw [hout.out]
            refine chkM_all hbare.out Hne.out (fun c hc => ?_)
            obtain ⟨i, hi, rfl⟩ := List.getElem_of_mem hc
            exact HF.out i hi (by have : i < (fieldsK k).length := hi; omega)
          have hnx : ∀ ty, (Instr.next (.pointer (some ⟨B, 0, none⟩)) true ty).run Tryz.prog wr = _ := fun ty => Lib.run_next_end_at wr B own j ty hit hj
          clear HF
          go_wp2
          go_ret
          exact ⟨by rw [ho.out]; rfl, hb⟩
end Go.Proofs.YtaoiejgbbmjpkaaGreatDoor

/- What cert.Encode does; nothing old in memory is turned. -/
namespace Go.Proofs.YtaoiejgbbmjpkaaGreatDoor
open Go.RowKit Go.Sort
set_option linter.unusedVariables false

theorem encC_join (x : CertM) : (⟨(txt (encH x.hdr.d)).toArray⟩ ++ ⟨(tagsB x.votes).toArray⟩ : ByteArray) = ⟨(encC x.d).toArray⟩ := by
  have := append_list (txt (encH x.hdr.d)) ⟨(tagsB x.votes).toArray⟩
  exact this

/-- What Encode asks of a certificate. -/
structure CertM.Fit (x : CertM) : Prop where
  hdr : x.hdr.Fit
  few : x.votes.length ≤ 1000000000
  mac : ∀ t ∈ x.votes, t.mac.size ≤ 140737488351232
  len : (tagsB x.votes).length ≤ 140737488355328

set_option maxRecDepth 100000 in
set_option maxHeartbeats 2000000 in
theorem certEncode_any (x : CertM) (w : World) (hA : x.At w) (hf : x.Fit) :
    Calls Tryz.prog 84 #[x.v] w fun e w' => e = .returned (.string ⟨(encC x.d).toArray⟩) ∧ Below w.heap.size w w' := by
  have hX := Arr.new w 33 x.c
  have hB := belowNew w (.cells x.c.toArray 33)
  have hA1 := hA.below hB
  obtain ⟨w1, hw1⟩ : ∃ q, w.alloc (.cells x.c.toArray 33) = q := ⟨_, rfl⟩
  rw [hw1] at hX hB hA1
  have bl := fun d os => below_regrown w1 d os
  have hjo := encC_join x
  have hel := hf.hdr.len
  have hvl := hf.len
  obtain ⟨eb, heb⟩ : ∃ q, q = (⟨(encH x.hdr.d).toArray⟩ : ByteArray) := ⟨_, rfl⟩
  obtain ⟨tb, htb⟩ : ∃ q, q = (⟨(txt (encH x.hdr.d)).toArray⟩ : ByteArray) := ⟨_, rfl⟩
  obtain ⟨vb, hvb⟩ : ∃ q, q = (⟨(tagsB x.votes).toArray⟩ : ByteArray) := ⟨_, rfl⟩
  obtain ⟨out, hout⟩ : ∃ q, q = (⟨(encC x.d).toArray⟩ : ByteArray) := ⟨_, rfl⟩
  have hes : eb.size ≤ 140737488355328 := by rw [heb, size_mk]; exact hel
  have htl := txt_len_le (encH x.hdr.d)
  have hts : tb.size ≤ 140737488355337 := by rw [htb, size_mk]; omega
  have hvs : vb.size ≤ 140737488355328 := by rw [hvb, size_mk]; exact hvl
  have hsum : ¬ (9223372036854775807 < tb.size + vb.size) := by omega
  have k1 : ∀ d os, Calls Tryz.prog 41 #[x.hdr.v] (grow (redrawn w1 d) os) fun e w'' => e = .returned (.string eb) ∧ ∃ p : Regrown, w'' = grow (redrawn w1 p.d) p.os := fun d os => Calls.regrown_of (by
    rw [heb]
    exact hdrEncode_any x.hdr _ (hA1.below (bl d os)).hdr hf.hdr)
  have k2 : ∀ d os, Calls Tryz.prog 70 #[.string eb] (grow (redrawn w1 d) os) fun e w'' => e = .returned (.string tb) ∧ ∃ p : Regrown, w'' = grow (redrawn w1 p.d) p.os := fun d os => Calls.regrown_of (by
    have := text_any eb (grow (redrawn w1 d) os) (by omega)
    have hed : eb.data.toList = encH x.hdr.d := by rw [heb]
    rw [hed, ← htb] at this
    exact this)
  have k3 : ∀ d os, Calls Tryz.prog 71 #[.slice x.va x.votes.length x.vc] (grow (redrawn w1 d) os) fun e w'' => e = .returned (.string vb) ∧ ∃ p : Regrown, w'' = grow (redrawn w1 p.d) p.os := fun d os => Calls.regrown_of (by
    rw [hvb]
    exact tags_any x.va x.vc x.votes _ (hA1.below (bl d os)).votes hf.few hf.mac hf.len)
  rw [← hout, ← htb, ← hvb] at hjo
  rw [← hout]
  have Hjo : Hid (tb ++ vb = out) := hjo
  have hX0 : Arr w1 w.heap.size 33 [.int .i64 x.hdr.author, .int .i64 x.hdr.round, .slice x.hdr.ra x.hdr.refs.length x.hdr.rc, .slice x.hdr.pa x.hdr.parents.length x.hdr.pc, .slice x.va x.votes.length x.vc] := hX
  have A0 := cell_regrown (hX0.cell (i := 0) rfl)
  have A1 := cell_regrown (hX0.cell (i := 1) rfl)
  have A2 := cell_regrown (hX0.cell (i := 2) rfl)
  have A3 := cell_regrown (hX0.cell (i := 3) rfl)
  have A4 := cell_regrown (hX0.cell (i := 4) rfl)
  have HBF : Hid (∀ d os, Below w.heap.size w (grow (redrawn w1 d) os)) := fun d os => hB.trans ((bl d os).mono hB.size)
  unfold CertM.c at hw1
  unfold HdrM.v at k1
  unfold CertM.v
  clear heb htb hvb hout hjo hel hvl htl hf hA hA1 hX hX0 hB bl hes hts hvs
  go_enter Tryz.func84, Tryz.ntmps84
  go_wp2_with fail
  refine wp_region_quiet_below (by kernel_rfl) (by kernel_rfl) ?_
  iterate 2 (go_big_quiet_step (fail))
  go_big_quiet_step (exact k1 _ _)
  go_big_quiet_step (exact k2 _ _)
  iterate 2 (go_big_quiet_step (fail))
  go_big_quiet_step (exact k3 _ _)
  iterate 2 (go_big_quiet_step (fail))
  refine wpQuiet_nil ?_
  rintro w' ⟨p, rfl⟩
  have hBF := HBF.out p.d p.os
  generalize grow (redrawn w1 p.d) p.os = w6 at hBF ⊢
  clear k1 k2 k3 A0 A1 A2 A3 A4 HBF
  go_wp2
  go_ret
  exact ⟨by rw [← Hjo.out]; rfl, hBF⟩
end Go.Proofs.YtaoiejgbbmjpkaaGreatDoor

/- What can be read is short: headers, tags, quorums' certificates, blocks. -/
namespace Go.Proofs.YtaoiejgbbmjpkaaGreatDoor
open Go.RowKit
set_option linter.unusedVariables false


theorem flat_tags_fit : ∀ (l : List TagD), (∀ t ∈ l, t.Fit) → ((l.map tagB).flatMap txt).length ≤ 34 * l.length
  | [], _ => by simp
  | t :: l, h => by
    have ih := flat_tags_fit l (fun x hx => h x (by simp [hx]))
    have h1 := txt_len_le (tagB t)
    have h2 := tagB_len (h t (by simp))
    simp only [List.map_cons, List.flatMap_cons, List.length_append, List.length_cons] at ih ⊢
    omega

theorem refB_fit {r : RefD} (h : r.Fit) : (refB r).length ≤ 65800 := by
  have h1 := txt_len_le r.digest.data.toList
  have h2 := flat_tags_fit r.acks h.all
  have h3 := goInt_length ((r.acks.map tagB).length : Int)
  have h4 := h.few
  have h5 := h.dig
  have h6 : r.digest.data.toList.length = r.digest.size := by simp
  rw [refB, List.length_append, tagsB, lst, List.length_append]
  omega

theorem flat_refs_fit : ∀ (l : List RefD), (∀ r ∈ l, r.Fit) → (l.flatMap refB).length ≤ 65800 * l.length
  | [], _ => by simp
  | r :: l, h => by
    have ih := flat_refs_fit l (fun x hx => h x (by simp [hx]))
    have h1 := refB_fit (h r (by simp))
    simp only [List.flatMap_cons, List.length_append, List.length_cons] at ih ⊢
    omega

theorem flat_strs_fit : ∀ (l : List ByteArray), (∀ p ∈ l, p.size ≤ 65536) → ((bl l).flatMap txt).length ≤ 65545 * l.length
  | [], _ => by simp [bl]
  | p :: l, h => by
    have ih := flat_strs_fit l (fun x hx => h x (by simp [hx]))
    have h1 := txt_len_le p.data.toList
    have h2 := h p (by simp)
    have h6 : p.data.toList.length = p.size := by simp
    have e : (bl (p :: l)).flatMap txt = txt p.data.toList ++ (bl l).flatMap txt := by simp [bl]
    rw [e, List.length_append, List.length_cons]
    omega

theorem encH_fit {h : HdrD} (hf : h.Fit) : (encH h).length ≤ 1000000 := by
  have h1 := flat_refs_fit h.refs hf.refs
  have h2 := flat_strs_fit h.parents hf.pz
  have h3 := hf.few
  have h4 := hf.ps
  have g0 := goInt_length h.author
  have g1 := goInt_length h.round
  have g2 := goInt_length (h.refs.length : Int)
  have g3 := goInt_length ((bl h.parents).length : Int)
  unfold encH lst
  simp only [List.length_append]
  omega

theorem hdrFit_of {x : HdrM} (h : x.d.Fit) : x.Fit := by
  have h1 : x.refs.length ≤ 4 := by have := h.few; simpa [HdrM.d, rd] using this
  have h2 : x.parents.length ≤ 7 := h.ps
  have h3 : ∀ r ∈ x.refs, r.d.Fit := fun r hr => h.refs r.d (List.mem_map.2 ⟨r, hr, rfl⟩)
  refine ⟨by omega, by omega, fun r hr => ?_, fun r hr t ht => ?_, by have := encH_fit h; omega⟩
  · have : r.acks.length ≤ 7 := (h3 r hr).few
    omega
  · have : t.mac.size = 16 := ((h3 r hr).all t ht).mac
    omega

theorem fit_lens {x : HdrM} (h : x.d.Fit) : x.refs.length ≤ 4 ∧ x.parents.length ≤ 7 ∧ ∀ r ∈ x.refs, r.acks.length ≤ 7 :=
  ⟨by have := h.few; simpa [HdrM.d, rd] using this, h.ps, fun r hr => (h.refs r.d (List.mem_map.2 ⟨r, hr, rfl⟩)).few⟩
theorem tagsBulk_fit : ∀ (l : List TagD), (∀ t ∈ l, t.Fit) → tagsBulk l ≤ 17 * l.length
  | [], _ => by simp [tagsBulk]
  | t :: l, h => by
    have ih := tagsBulk_fit l (fun x hx => h x (by simp [hx]))
    have h1 := (h t (by simp)).mac
    simp only [tagsBulk, List.map_cons, List.sum_cons, List.length_cons] at ih ⊢
    omega

theorem tagsB_fit8 {l : List TagD} (h : ∀ t ∈ l, t.Fit) (hl : l.length ≤ 7) : (tagsB l).length ≤ 2200 := by
  have h1 := tagsB_len_le l
  have h2 := tagsBulk_fit l h
  omega

theorem flat_strs8 (m : Nat) : ∀ (l : List ByteArray), (∀ p ∈ l, p.size ≤ m) → ((bl l).flatMap txt).length ≤ (m + 9) * l.length
  | [], _ => by simp [bl]
  | p :: l, h => by
    have ih := flat_strs8 m l (fun x hx => h x (by simp [hx]))
    have h1 := h p (by simp)
    have h2 := txt_len_le p.data.toList
    have h3 : p.data.toList.length = p.size := by simp
    have e : bl (p :: l) = p.data.toList :: bl l := rfl
    rw [e, List.flatMap_cons, List.length_append, List.length_cons, Nat.mul_add, Nat.mul_one]
    omega

theorem lst_strs8 {l : List ByteArray} (m : Nat) (h : ∀ p ∈ l, p.size ≤ m) : (lst (bl l)).length ≤ 9 + (m + 9) * l.length := by
  have h1 := flat_strs8 m l h
  have h2 := goInt_length ((bl l).length : Int)
  rw [lst, List.length_append]
  omega

theorem qcEnc_of {x : QcM} (h : x.d.Fit) : x.Enc := by
  have h1 : x.block.size ≤ 65536 := h.blk
  have h2 : x.votes.length ≤ 7 := h.few
  have h3 : ∀ t ∈ x.votes, t.Fit := h.all
  exact ⟨by omega, by omega, fun t ht => by have := (h3 t ht).mac; omega, by have := tagsB_fit8 h3 h2; omega⟩

theorem blkEnc_of {x : BlkM} (h : x.d.Fit) : x.Enc := by
  have h1 : x.certs.length ≤ 8 := h.few
  have h2 : ∀ c ∈ x.certs, c.size ≤ 65536 := h.all
  refine ⟨qcEnc_of (x := x.qc) h.qc, by omega, ?_⟩
  have := lst_strs8 65536 h2
  have h3 : (65536 + 9) * x.certs.length ≤ (65536 + 9) * 8 := Nat.mul_le_mul_left _ h1
  omega

theorem encQ_right {q : QcD} (h : q.Fit) (hb : q.block.size = 32) : (encQ q).length ≤ 2300 := by
  have h1 := goInt_length q.view
  have h2 := txt_len_le q.block.data.toList
  have h3 : q.block.data.toList.length = q.block.size := by simp
  have h4 := tagsB_fit8 h.all h.few
  unfold encQ
  simp only [List.length_append]
  omega
end Go.Proofs.YtaoiejgbbmjpkaaGreatDoor
