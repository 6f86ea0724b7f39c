/- Texts as one: MsgTold, MsgBareSame. -/
import Derived.Test.YtmngiekobmhpaaaGreatRk18
import Derived.Test.YtmngiekobmhpaaaGreatRk21
/- What tuskref09.Same says of two messages, once it is known what is said of their parts; and of a message beside the one that has its kind's fields alone. -/
namespace Go.Proofs.YtmngiekobmhpaaaGreat
open Go.RowKit
set_option linter.unusedVariables false

set_option maxRecDepth 100000 in
set_option maxHeartbeats 8000000 in
theorem sameM_told (a b : MsgM) (w : World) (hA : a.At w) (hA' : b.At w) (hk : a.kind = b.kind) (P1 P2 P3 P4 P5 : Prop)
    (c1 : ∀ w1, a.At w1 → b.At w1 → Calls Tryz.prog 23 #[a.bat.v, b.bat.v] w1 (Told w1 P1)) (c2 : ∀ w1, a.At w1 → b.At w1 → Calls Tryz.prog 24 #[a.hdr.v, b.hdr.v] w1 (Told w1 P2))
    (c3 : ∀ w1, a.At w1 → b.At w1 → Calls Tryz.prog 25 #[a.cert.v, b.cert.v] w1 (Told w1 P3)) (c4 : ∀ w1, a.At w1 → b.At w1 → Calls Tryz.prog 26 #[a.blk.v, b.blk.v] w1 (Told w1 P4))
    (c5 : ∀ w1, a.At w1 → b.At w1 → Calls Tryz.prog 27 #[a.qc.v, b.qc.v] w1 (Told w1 P5)) :
    Calls Tryz.prog 8 #[a.v, b.v] w (Told w (a.digest = b.digest ∧ a.view = b.view ∧ a.tag = b.tag ∧ P1 ∧ P2 ∧ P3 ∧ P4 ∧ P5)) := by
  obtain ⟨ki, dg, vi, ⟨who, mac⟩, ba, he, ce, bl, q⟩ := a
  obtain ⟨ki', dg', vi', ⟨who', mac'⟩, ba', he', ce', bl', q'⟩ := b
  simp only at hk c1 c2 c3 c4 c5 ⊢
  subst hk
  obtain ⟨P, hd⟩ : ∃ P : Prop, Hid (P ↔ (dg = dg' ∧ vi = vi' ∧ (⟨who, mac⟩ : TagD) = ⟨who', mac'⟩ ∧ P1 ∧ P2 ∧ P3 ∧ P4 ∧ P5)) := ⟨_, Iff.rfl⟩
  refine Calls.mono ?_ (fun e w' (h : Told w P e w') => h.iff hd.out)
  unfold BatM.v at c1
  unfold HdrM.v at c2
  unfold CertM.v at c3
  unfold BlkM.v at c4
  unfold QcM.v at c5
  unfold MsgM.v MsgM.c
  simp only
  by_cases h1 : dg = dg'
  · subst h1
    by_cases h2 : vi = vi'
    · subst h2
      by_cases h3 : who = who'
      · subst h3
        by_cases h4 : mac = mac'
        · subst h4
          replace hd : Hid (P ↔ (P1 ∧ P2 ∧ P3 ∧ P4 ∧ P5)) := ⟨fun h => (hd.out.1 h).2.2.2, fun h => hd.out.2 ⟨rfl, rfl, rfl, h⟩⟩
          obtain ⟨hX, hY, hB⟩ := two_new w 39 39 [.int .i64 ki, .string dg, .int .i64 vi, .int .i64 who, .string mac, .int .i64 ba.author, .int .i64 ba.number, .slice ba.ta ba.txs.length ba.tc, .int .i64 he.author, .int .i64 he.round, .slice he.ra he.refs.length he.rc, .slice he.pa he.parents.length he.pc, .int .i64 ce.hdr.author, .int .i64 ce.hdr.round, .slice ce.hdr.ra ce.hdr.refs.length ce.hdr.rc, .slice ce.hdr.pa ce.hdr.parents.length ce.hdr.pc, .slice ce.va ce.votes.length ce.vc, .int .i64 bl.view, .int .i64 bl.qc.view, .string bl.qc.block, .slice bl.qc.va bl.qc.votes.length bl.qc.vc, .slice bl.ca bl.certs.length bl.cc, .int .i64 q.view, .string q.block, .slice q.va q.votes.length q.vc] [.int .i64 ki, .string dg, .int .i64 vi, .int .i64 who, .string mac, .int .i64 ba'.author, .int .i64 ba'.number, .slice ba'.ta ba'.txs.length ba'.tc, .int .i64 he'.author, .int .i64 he'.round, .slice he'.ra he'.refs.length he'.rc, .slice he'.pa he'.parents.length he'.pc, .int .i64 ce'.hdr.author, .int .i64 ce'.hdr.round, .slice ce'.hdr.ra ce'.hdr.refs.length ce'.hdr.rc, .slice ce'.hdr.pa ce'.hdr.parents.length ce'.hdr.pc, .slice ce'.va ce'.votes.length ce'.vc, .int .i64 bl'.view, .int .i64 bl'.qc.view, .string bl'.qc.block, .slice bl'.qc.va bl'.qc.votes.length bl'.qc.vc, .slice bl'.ca bl'.certs.length bl'.cc, .int .i64 q'.view, .string q'.block, .slice q'.va q'.votes.length q'.vc]
          obtain ⟨w1, hw1⟩ : ∃ q0, (w.alloc (.cells [.int .i64 ki, .string dg, .int .i64 vi, .int .i64 who, .string mac, .int .i64 ba.author, .int .i64 ba.number, .slice ba.ta ba.txs.length ba.tc, .int .i64 he.author, .int .i64 he.round, .slice he.ra he.refs.length he.rc, .slice he.pa he.parents.length he.pc, .int .i64 ce.hdr.author, .int .i64 ce.hdr.round, .slice ce.hdr.ra ce.hdr.refs.length ce.hdr.rc, .slice ce.hdr.pa ce.hdr.parents.length ce.hdr.pc, .slice ce.va ce.votes.length ce.vc, .int .i64 bl.view, .int .i64 bl.qc.view, .string bl.qc.block, .slice bl.qc.va bl.qc.votes.length bl.qc.vc, .slice bl.ca bl.certs.length bl.cc, .int .i64 q.view, .string q.block, .slice q.va q.votes.length q.vc].toArray 39)).alloc (.cells [.int .i64 ki, .string dg, .int .i64 vi, .int .i64 who, .string mac, .int .i64 ba'.author, .int .i64 ba'.number, .slice ba'.ta ba'.txs.length ba'.tc, .int .i64 he'.author, .int .i64 he'.round, .slice he'.ra he'.refs.length he'.rc, .slice he'.pa he'.parents.length he'.pc, .int .i64 ce'.hdr.author, .int .i64 ce'.hdr.round, .slice ce'.hdr.ra ce'.hdr.refs.length ce'.hdr.rc, .slice ce'.hdr.pa ce'.hdr.parents.length ce'.hdr.pc, .slice ce'.va ce'.votes.length ce'.vc, .int .i64 bl'.view, .int .i64 bl'.qc.view, .string bl'.qc.block, .slice bl'.qc.va bl'.qc.votes.length bl'.qc.vc, .slice bl'.ca bl'.certs.length bl'.cc, .int .i64 q'.view, .string q'.block, .slice q'.va q'.votes.length q'.vc].toArray 39) = q0 := ⟨_, rfl⟩
          have hA1 := hA.below hB
          have hA1' := hA'.below hB
          rw [hw1] at hX hY hB hA1 hA1'
          have x0 := hX.cell (i := 0) rfl
          have x1 := hX.cell (i := 1) rfl
          have x2 := hX.cell (i := 2) rfl
          have x3 := hX.cell (i := 3) rfl
          have x4 := hX.cell (i := 4) rfl
          have x5 := hX.cell (i := 5) rfl
          have x6 := hX.cell (i := 6) rfl
          have x7 := hX.cell (i := 7) rfl
          have y0 := hY.cell (i := 0) rfl
          have y1 := hY.cell (i := 1) rfl
          have y2 := hY.cell (i := 2) rfl
          have y3 := hY.cell (i := 3) rfl
          have y4 := hY.cell (i := 4) rfl
          have y5 := hY.cell (i := 5) rfl
          have y6 := hY.cell (i := 6) rfl
          have y7 := hY.cell (i := 7) rfl
          clear hA hA'
          go_enter Tryz.func8, Tryz.ntmps8
          go_wp2_with fail
          refine (c1 _ hA1 hA1').mono ?_
          rintro e w2 ⟨⟨p, rfl, hp⟩, hb⟩
          have hX2 := hX.below hb hX.lt
          have hY2 := hY.below hb hY.lt
          have hB2 := hB.trans (hb.mono hB.size)
          have hA2 := hA1.below hb
          have hA2' := hA1'.below hb
          clear c1 hX hY hB hA1 hA1' hb x0 x1 x2 x3 x4 x5 x6 x7 y0 y1 y2 y3 y4 y5 y6 y7 hw1
          cases p
          case false =>
            have hno : ¬ P := fun h => by have := hp.2 (hd.out.1 h).1; cases this
            clear hd hp
            go_wp2
            go_ret
            exact told_no hno hB2 rfl
          replace hd : Hid (P ↔ (P2 ∧ P3 ∧ P4 ∧ P5)) := ⟨fun h => (hd.out.1 h).2, fun h => hd.out.2 ⟨hp.1 rfl, h⟩⟩
          clear hp
          have x8 := hX2.cell (i := 8) rfl
          have x9 := hX2.cell (i := 9) rfl
          have x10 := hX2.cell (i := 10) rfl
          have x11 := hX2.cell (i := 11) rfl
          have y8 := hY2.cell (i := 8) rfl
          have y9 := hY2.cell (i := 9) rfl
          have y10 := hY2.cell (i := 10) rfl
          have y11 := hY2.cell (i := 11) rfl
          go_wp2_with fail
          refine (c2 _ hA2 hA2').mono ?_
          rintro e w3 ⟨⟨p, rfl, hp⟩, hb⟩
          have hX3 := hX2.below hb hX2.lt
          have hY3 := hY2.below hb hY2.lt
          have hB3 := hB2.trans (hb.mono hB2.size)
          have hA3 := hA2.below hb
          have hA3' := hA2'.below hb
          clear c2 hX2 hY2 hB2 hA2 hA2' hb x8 x9 x10 x11 y8 y9 y10 y11
          cases p
          case false =>
            have hno : ¬ P := fun h => by have := hp.2 (hd.out.1 h).1; cases this
            clear hd hp
            go_wp2
            go_ret
            exact told_no hno hB3 rfl
          replace hd : Hid (P ↔ (P3 ∧ P4 ∧ P5)) := ⟨fun h => (hd.out.1 h).2, fun h => hd.out.2 ⟨hp.1 rfl, h⟩⟩
          clear hp
          have x12 := hX3.cell (i := 12) rfl
          have x13 := hX3.cell (i := 13) rfl
          have x14 := hX3.cell (i := 14) rfl
          have x15 := hX3.cell (i := 15) rfl
          have x16 := hX3.cell (i := 16) rfl
          have y12 := hY3.cell (i := 12) rfl
          have y13 := hY3.cell (i := 13) rfl
          have y14 := hY3.cell (i := 14) rfl
          have y15 := hY3.cell (i := 15) rfl
          have y16 := hY3.cell (i := 16) rfl
          go_wp2_with fail
          refine (c3 _ hA3 hA3').mono ?_
          rintro e w4 ⟨⟨p, rfl, hp⟩, hb⟩
          have hX4 := hX3.below hb hX3.lt
          have hY4 := hY3.below hb hY3.lt
          have hB4 := hB3.trans (hb.mono hB3.size)
          have hA4 := hA3.below hb
          have hA4' := hA3'.below hb
          clear c3 hX3 hY3 hB3 hA3 hA3' hb x12 x13 x14 x15 x16 y12 y13 y14 y15 y16
          cases p
          case false =>
            have hno : ¬ P := fun h => by have := hp.2 (hd.out.1 h).1; cases this
            clear hd hp
            go_wp2
            go_ret
            exact told_no hno hB4 rfl
          replace hd : Hid (P ↔ (P4 ∧ P5)) := ⟨fun h => (hd.out.1 h).2, fun h => hd.out.2 ⟨hp.1 rfl, h⟩⟩
          clear hp
          have x17 := hX4.cell (i := 17) rfl
          have x18 := hX4.cell (i := 18) rfl
          have x19 := hX4.cell (i := 19) rfl
          have x20 := hX4.cell (i := 20) rfl
          have x21 := hX4.cell (i := 21) rfl
          have y17 := hY4.cell (i := 17) rfl
          have y18 := hY4.cell (i := 18) rfl
          have y19 := hY4.cell (i := 19) rfl
          have y20 := hY4.cell (i := 20) rfl
          have y21 := hY4.cell (i := 21) rfl
          go_wp2_with fail
          refine (c4 _ hA4 hA4').mono ?_
          rintro e w5 ⟨⟨p, rfl, hp⟩, hb⟩
          have hX5 := hX4.below hb hX4.lt
          have hY5 := hY4.below hb hY4.lt
          have hB5 := hB4.trans (hb.mono hB4.size)
          have hA5 := hA4.below hb
          have hA5' := hA4'.below hb
          clear c4 hX4 hY4 hB4 hA4 hA4' hb x17 x18 x19 x20 x21 y17 y18 y19 y20 y21
          cases p
          case false =>
            have hno : ¬ P := fun h => by have := hp.2 (hd.out.1 h).1; cases this
            clear hd hp
            go_wp2
            go_ret
            exact told_no hno hB5 rfl
          replace hd : Hid (P ↔ (P5)) := ⟨fun h => (hd.out.1 h).2, fun h => hd.out.2 ⟨hp.1 rfl, h⟩⟩
          clear hp
          have x22 := hX5.cell (i := 22) rfl
          have x23 := hX5.cell (i := 23) rfl
          have x24 := hX5.cell (i := 24) rfl
          have y22 := hY5.cell (i := 22) rfl
          have y23 := hY5.cell (i := 23) rfl
          have y24 := hY5.cell (i := 24) rfl
          go_wp2_with fail
          refine (c5 _ hA5 hA5').mono ?_
          rintro e w6 ⟨⟨p, rfl, hp⟩, hb⟩
          have hX6 := hX5.below hb hX5.lt
          have hY6 := hY5.below hb hY5.lt
          have hB6 := hB5.trans (hb.mono hB5.size)
          have hA6 := hA5.below hb
          have hA6' := hA5'.below hb
          clear c5 hX5 hY5 hB5 hA5 hA5' hb x22 x23 x24 y22 y23 y24
          have fin : ∀ e, e = .returned (.bool p) → Told w P e w6 := fun e he => ⟨⟨p, he, hp.trans hd.out.symm⟩, hB6⟩
          clear hp hd hX6 hY6 hB6 hA6 hA6'
          go_wp2
          go_ret
          exact fin _ rfl
        · have h5 : ¬ mac.toList = mac'.toList := fun h => h4 (bytes_ext (by rw [← ByteArray.toList_eq, ← ByteArray.toList_eq, h]))
          have hno : ¬ P := fun h => h4 (TagD.mk.inj (hd.out.1 h).2.2.1).2
          clear hd
          obtain ⟨hX, hY, hB⟩ := two_new w 39 39 [.int .i64 ki, .string dg, .int .i64 vi, .int .i64 who, .string mac, .int .i64 ba.author, .int .i64 ba.number, .slice ba.ta ba.txs.length ba.tc, .int .i64 he.author, .int .i64 he.round, .slice he.ra he.refs.length he.rc, .slice he.pa he.parents.length he.pc, .int .i64 ce.hdr.author, .int .i64 ce.hdr.round, .slice ce.hdr.ra ce.hdr.refs.length ce.hdr.rc, .slice ce.hdr.pa ce.hdr.parents.length ce.hdr.pc, .slice ce.va ce.votes.length ce.vc, .int .i64 bl.view, .int .i64 bl.qc.view, .string bl.qc.block, .slice bl.qc.va bl.qc.votes.length bl.qc.vc, .slice bl.ca bl.certs.length bl.cc, .int .i64 q.view, .string q.block, .slice q.va q.votes.length q.vc] [.int .i64 ki, .string dg, .int .i64 vi, .int .i64 who, .string mac', .int .i64 ba'.author, .int .i64 ba'.number, .slice ba'.ta ba'.txs.length ba'.tc, .int .i64 he'.author, .int .i64 he'.round, .slice he'.ra he'.refs.length he'.rc, .slice he'.pa he'.parents.length he'.pc, .int .i64 ce'.hdr.author, .int .i64 ce'.hdr.round, .slice ce'.hdr.ra ce'.hdr.refs.length ce'.hdr.rc, .slice ce'.hdr.pa ce'.hdr.parents.length ce'.hdr.pc, .slice ce'.va ce'.votes.length ce'.vc, .int .i64 bl'.view, .int .i64 bl'.qc.view, .string bl'.qc.block, .slice bl'.qc.va bl'.qc.votes.length bl'.qc.vc, .slice bl'.ca bl'.certs.length bl'.cc, .int .i64 q'.view, .string q'.block, .slice q'.va q'.votes.length q'.vc]
          obtain ⟨w1, hw1⟩ : ∃ q0, (w.alloc (.cells [.int .i64 ki, .string dg, .int .i64 vi, .int .i64 who, .string mac, .int .i64 ba.author, .int .i64 ba.number, .slice ba.ta ba.txs.length ba.tc, .int .i64 he.author, .int .i64 he.round, .slice he.ra he.refs.length he.rc, .slice he.pa he.parents.length he.pc, .int .i64 ce.hdr.author, .int .i64 ce.hdr.round, .slice ce.hdr.ra ce.hdr.refs.length ce.hdr.rc, .slice ce.hdr.pa ce.hdr.parents.length ce.hdr.pc, .slice ce.va ce.votes.length ce.vc, .int .i64 bl.view, .int .i64 bl.qc.view, .string bl.qc.block, .slice bl.qc.va bl.qc.votes.length bl.qc.vc, .slice bl.ca bl.certs.length bl.cc, .int .i64 q.view, .string q.block, .slice q.va q.votes.length q.vc].toArray 39)).alloc (.cells [.int .i64 ki, .string dg, .int .i64 vi, .int .i64 who, .string mac', .int .i64 ba'.author, .int .i64 ba'.number, .slice ba'.ta ba'.txs.length ba'.tc, .int .i64 he'.author, .int .i64 he'.round, .slice he'.ra he'.refs.length he'.rc, .slice he'.pa he'.parents.length he'.pc, .int .i64 ce'.hdr.author, .int .i64 ce'.hdr.round, .slice ce'.hdr.ra ce'.hdr.refs.length ce'.hdr.rc, .slice ce'.hdr.pa ce'.hdr.parents.length ce'.hdr.pc, .slice ce'.va ce'.votes.length ce'.vc, .int .i64 bl'.view, .int .i64 bl'.qc.view, .string bl'.qc.block, .slice bl'.qc.va bl'.qc.votes.length bl'.qc.vc, .slice bl'.ca bl'.certs.length bl'.cc, .int .i64 q'.view, .string q'.block, .slice q'.va q'.votes.length q'.vc].toArray 39) = q0 := ⟨_, rfl⟩
          have hA1 := hA.below hB
          have hA1' := hA'.below hB
          rw [hw1] at hX hY hB hA1 hA1'
          have x0 := hX.cell (i := 0) rfl
          have x1 := hX.cell (i := 1) rfl
          have x2 := hX.cell (i := 2) rfl
          have x3 := hX.cell (i := 3) rfl
          have x4 := hX.cell (i := 4) rfl
          have x5 := hX.cell (i := 5) rfl
          have x6 := hX.cell (i := 6) rfl
          have x7 := hX.cell (i := 7) rfl
          have y0 := hY.cell (i := 0) rfl
          have y1 := hY.cell (i := 1) rfl
          have y2 := hY.cell (i := 2) rfl
          have y3 := hY.cell (i := 3) rfl
          have y4 := hY.cell (i := 4) rfl
          have y5 := hY.cell (i := 5) rfl
          have y6 := hY.cell (i := 6) rfl
          have y7 := hY.cell (i := 7) rfl
          clear hA hA'
          go_enter Tryz.func8, Tryz.ntmps8
          go_wp2
          go_ret
          exact told_no hno hB rfl
      · have hno : ¬ P := fun h => h3 (TagD.mk.inj (hd.out.1 h).2.2.1).1
        clear hd
        obtain ⟨hX, hY, hB⟩ := two_new w 39 39 [.int .i64 ki, .string dg, .int .i64 vi, .int .i64 who, .string mac, .int .i64 ba.author, .int .i64 ba.number, .slice ba.ta ba.txs.length ba.tc, .int .i64 he.author, .int .i64 he.round, .slice he.ra he.refs.length he.rc, .slice he.pa he.parents.length he.pc, .int .i64 ce.hdr.author, .int .i64 ce.hdr.round, .slice ce.hdr.ra ce.hdr.refs.length ce.hdr.rc, .slice ce.hdr.pa ce.hdr.parents.length ce.hdr.pc, .slice ce.va ce.votes.length ce.vc, .int .i64 bl.view, .int .i64 bl.qc.view, .string bl.qc.block, .slice bl.qc.va bl.qc.votes.length bl.qc.vc, .slice bl.ca bl.certs.length bl.cc, .int .i64 q.view, .string q.block, .slice q.va q.votes.length q.vc] [.int .i64 ki, .string dg, .int .i64 vi, .int .i64 who', .string mac', .int .i64 ba'.author, .int .i64 ba'.number, .slice ba'.ta ba'.txs.length ba'.tc, .int .i64 he'.author, .int .i64 he'.round, .slice he'.ra he'.refs.length he'.rc, .slice he'.pa he'.parents.length he'.pc, .int .i64 ce'.hdr.author, .int .i64 ce'.hdr.round, .slice ce'.hdr.ra ce'.hdr.refs.length ce'.hdr.rc, .slice ce'.hdr.pa ce'.hdr.parents.length ce'.hdr.pc, .slice ce'.va ce'.votes.length ce'.vc, .int .i64 bl'.view, .int .i64 bl'.qc.view, .string bl'.qc.block, .slice bl'.qc.va bl'.qc.votes.length bl'.qc.vc, .slice bl'.ca bl'.certs.length bl'.cc, .int .i64 q'.view, .string q'.block, .slice q'.va q'.votes.length q'.vc]
        obtain ⟨w1, hw1⟩ : ∃ q0, (w.alloc (.cells [.int .i64 ki, .string dg, .int .i64 vi, .int .i64 who, .string mac, .int .i64 ba.author, .int .i64 ba.number, .slice ba.ta ba.txs.length ba.tc, .int .i64 he.author, .int .i64 he.round, .slice he.ra he.refs.length he.rc, .slice he.pa he.parents.length he.pc, .int .i64 ce.hdr.author, .int .i64 ce.hdr.round, .slice ce.hdr.ra ce.hdr.refs.length ce.hdr.rc, .slice ce.hdr.pa ce.hdr.parents.length ce.hdr.pc, .slice ce.va ce.votes.length ce.vc, .int .i64 bl.view, .int .i64 bl.qc.view, .string bl.qc.block, .slice bl.qc.va bl.qc.votes.length bl.qc.vc, .slice bl.ca bl.certs.length bl.cc, .int .i64 q.view, .string q.block, .slice q.va q.votes.length q.vc].toArray 39)).alloc (.cells [.int .i64 ki, .string dg, .int .i64 vi, .int .i64 who', .string mac', .int .i64 ba'.author, .int .i64 ba'.number, .slice ba'.ta ba'.txs.length ba'.tc, .int .i64 he'.author, .int .i64 he'.round, .slice he'.ra he'.refs.length he'.rc, .slice he'.pa he'.parents.length he'.pc, .int .i64 ce'.hdr.author, .int .i64 ce'.hdr.round, .slice ce'.hdr.ra ce'.hdr.refs.length ce'.hdr.rc, .slice ce'.hdr.pa ce'.hdr.parents.length ce'.hdr.pc, .slice ce'.va ce'.votes.length ce'.vc, .int .i64 bl'.view, .int .i64 bl'.qc.view, .string bl'.qc.block, .slice bl'.qc.va bl'.qc.votes.length bl'.qc.vc, .slice bl'.ca bl'.certs.length bl'.cc, .int .i64 q'.view, .string q'.block, .slice q'.va q'.votes.length q'.vc].toArray 39) = q0 := ⟨_, rfl⟩
        have hA1 := hA.below hB
        have hA1' := hA'.below hB
        rw [hw1] at hX hY hB hA1 hA1'
        have x0 := hX.cell (i := 0) rfl
        have x1 := hX.cell (i := 1) rfl
        have x2 := hX.cell (i := 2) rfl
        have x3 := hX.cell (i := 3) rfl
        have x4 := hX.cell (i := 4) rfl
        have x5 := hX.cell (i := 5) rfl
        have x6 := hX.cell (i := 6) rfl
        have x7 := hX.cell (i := 7) rfl
        have y0 := hY.cell (i := 0) rfl
        have y1 := hY.cell (i := 1) rfl
        have y2 := hY.cell (i := 2) rfl
        have y3 := hY.cell (i := 3) rfl
        have y4 := hY.cell (i := 4) rfl
        have y5 := hY.cell (i := 5) rfl
        have y6 := hY.cell (i := 6) rfl
        have y7 := hY.cell (i := 7) rfl
        clear hA hA'
        go_enter Tryz.func8, Tryz.ntmps8
        go_wp2
        go_ret
        exact told_no hno hB rfl
    · have hno : ¬ P := fun h => h2 (hd.out.1 h).2.1
      clear hd
      obtain ⟨hX, hY, hB⟩ := two_new w 39 39 [.int .i64 ki, .string dg, .int .i64 vi, .int .i64 who, .string mac, .int .i64 ba.author, .int .i64 ba.number, .slice ba.ta ba.txs.length ba.tc, .int .i64 he.author, .int .i64 he.round, .slice he.ra he.refs.length he.rc, .slice he.pa he.parents.length he.pc, .int .i64 ce.hdr.author, .int .i64 ce.hdr.round, .slice ce.hdr.ra ce.hdr.refs.length ce.hdr.rc, .slice ce.hdr.pa ce.hdr.parents.length ce.hdr.pc, .slice ce.va ce.votes.length ce.vc, .int .i64 bl.view, .int .i64 bl.qc.view, .string bl.qc.block, .slice bl.qc.va bl.qc.votes.length bl.qc.vc, .slice bl.ca bl.certs.length bl.cc, .int .i64 q.view, .string q.block, .slice q.va q.votes.length q.vc] [.int .i64 ki, .string dg, .int .i64 vi', .int .i64 who', .string mac', .int .i64 ba'.author, .int .i64 ba'.number, .slice ba'.ta ba'.txs.length ba'.tc, .int .i64 he'.author, .int .i64 he'.round, .slice he'.ra he'.refs.length he'.rc, .slice he'.pa he'.parents.length he'.pc, .int .i64 ce'.hdr.author, .int .i64 ce'.hdr.round, .slice ce'.hdr.ra ce'.hdr.refs.length ce'.hdr.rc, .slice ce'.hdr.pa ce'.hdr.parents.length ce'.hdr.pc, .slice ce'.va ce'.votes.length ce'.vc, .int .i64 bl'.view, .int .i64 bl'.qc.view, .string bl'.qc.block, .slice bl'.qc.va bl'.qc.votes.length bl'.qc.vc, .slice bl'.ca bl'.certs.length bl'.cc, .int .i64 q'.view, .string q'.block, .slice q'.va q'.votes.length q'.vc]
      obtain ⟨w1, hw1⟩ : ∃ q0, (w.alloc (.cells [.int .i64 ki, .string dg, .int .i64 vi, .int .i64 who, .string mac, .int .i64 ba.author, .int .i64 ba.number, .slice ba.ta ba.txs.length ba.tc, .int .i64 he.author, .int .i64 he.round, .slice he.ra he.refs.length he.rc, .slice he.pa he.parents.length he.pc, .int .i64 ce.hdr.author, .int .i64 ce.hdr.round, .slice ce.hdr.ra ce.hdr.refs.length ce.hdr.rc, .slice ce.hdr.pa ce.hdr.parents.length ce.hdr.pc, .slice ce.va ce.votes.length ce.vc, .int .i64 bl.view, .int .i64 bl.qc.view, .string bl.qc.block, .slice bl.qc.va bl.qc.votes.length bl.qc.vc, .slice bl.ca bl.certs.length bl.cc, .int .i64 q.view, .string q.block, .slice q.va q.votes.length q.vc].toArray 39)).alloc (.cells [.int .i64 ki, .string dg, .int .i64 vi', .int .i64 who', .string mac', .int .i64 ba'.author, .int .i64 ba'.number, .slice ba'.ta ba'.txs.length ba'.tc, .int .i64 he'.author, .int .i64 he'.round, .slice he'.ra he'.refs.length he'.rc, .slice he'.pa he'.parents.length he'.pc, .int .i64 ce'.hdr.author, .int .i64 ce'.hdr.round, .slice ce'.hdr.ra ce'.hdr.refs.length ce'.hdr.rc, .slice ce'.hdr.pa ce'.hdr.parents.length ce'.hdr.pc, .slice ce'.va ce'.votes.length ce'.vc, .int .i64 bl'.view, .int .i64 bl'.qc.view, .string bl'.qc.block, .slice bl'.qc.va bl'.qc.votes.length bl'.qc.vc, .slice bl'.ca bl'.certs.length bl'.cc, .int .i64 q'.view, .string q'.block, .slice q'.va q'.votes.length q'.vc].toArray 39) = q0 := ⟨_, rfl⟩
      have hA1 := hA.below hB
      have hA1' := hA'.below hB
      rw [hw1] at hX hY hB hA1 hA1'
      have x0 := hX.cell (i := 0) rfl
      have x1 := hX.cell (i := 1) rfl
      have x2 := hX.cell (i := 2) rfl
      have x3 := hX.cell (i := 3) rfl
      have x4 := hX.cell (i := 4) rfl
      have x5 := hX.cell (i := 5) rfl
      have x6 := hX.cell (i := 6) rfl
      have x7 := hX.cell (i := 7) rfl
      have y0 := hY.cell (i := 0) rfl
      have y1 := hY.cell (i := 1) rfl
      have y2 := hY.cell (i := 2) rfl
      have y3 := hY.cell (i := 3) rfl
      have y4 := hY.cell (i := 4) rfl
      have y5 := hY.cell (i := 5) rfl
      have y6 := hY.cell (i := 6) rfl
      have y7 := hY.cell (i := 7) rfl
      clear hA hA'
      go_enter Tryz.func8, Tryz.ntmps8
      go_wp2
      go_ret
      exact told_no hno hB rfl
  · have h5 : ¬ dg.toList = dg'.toList := fun h => h1 (bytes_ext (by rw [← ByteArray.toList_eq, ← ByteArray.toList_eq, h]))
    have hno : ¬ P := fun h => h1 (hd.out.1 h).1
    clear hd
    obtain ⟨hX, hY, hB⟩ := two_new w 39 39 [.int .i64 ki, .string dg, .int .i64 vi, .int .i64 who, .string mac, .int .i64 ba.author, .int .i64 ba.number, .slice ba.ta ba.txs.length ba.tc, .int .i64 he.author, .int .i64 he.round, .slice he.ra he.refs.length he.rc, .slice he.pa he.parents.length he.pc, .int .i64 ce.hdr.author, .int .i64 ce.hdr.round, .slice ce.hdr.ra ce.hdr.refs.length ce.hdr.rc, .slice ce.hdr.pa ce.hdr.parents.length ce.hdr.pc, .slice ce.va ce.votes.length ce.vc, .int .i64 bl.view, .int .i64 bl.qc.view, .string bl.qc.block, .slice bl.qc.va bl.qc.votes.length bl.qc.vc, .slice bl.ca bl.certs.length bl.cc, .int .i64 q.view, .string q.block, .slice q.va q.votes.length q.vc] [.int .i64 ki, .string dg', .int .i64 vi', .int .i64 who', .string mac', .int .i64 ba'.author, .int .i64 ba'.number, .slice ba'.ta ba'.txs.length ba'.tc, .int .i64 he'.author, .int .i64 he'.round, .slice he'.ra he'.refs.length he'.rc, .slice he'.pa he'.parents.length he'.pc, .int .i64 ce'.hdr.author, .int .i64 ce'.hdr.round, .slice ce'.hdr.ra ce'.hdr.refs.length ce'.hdr.rc, .slice ce'.hdr.pa ce'.hdr.parents.length ce'.hdr.pc, .slice ce'.va ce'.votes.length ce'.vc, .int .i64 bl'.view, .int .i64 bl'.qc.view, .string bl'.qc.block, .slice bl'.qc.va bl'.qc.votes.length bl'.qc.vc, .slice bl'.ca bl'.certs.length bl'.cc, .int .i64 q'.view, .string q'.block, .slice q'.va q'.votes.length q'.vc]
    obtain ⟨w1, hw1⟩ : ∃ q0, (w.alloc (.cells [.int .i64 ki, .string dg, .int .i64 vi, .int .i64 who, .string mac, .int .i64 ba.author, .int .i64 ba.number, .slice ba.ta ba.txs.length ba.tc, .int .i64 he.author, .int .i64 he.round, .slice he.ra he.refs.length he.rc, .slice he.pa he.parents.length he.pc, .int .i64 ce.hdr.author, .int .i64 ce.hdr.round, .slice ce.hdr.ra ce.hdr.refs.length ce.hdr.rc, .slice ce.hdr.pa ce.hdr.parents.length ce.hdr.pc, .slice ce.va ce.votes.length ce.vc, .int .i64 bl.view, .int .i64 bl.qc.view, .string bl.qc.block, .slice bl.qc.va bl.qc.votes.length bl.qc.vc, .slice bl.ca bl.certs.length bl.cc, .int .i64 q.view, .string q.block, .slice q.va q.votes.length q.vc].toArray 39)).alloc (.cells [.int .i64 ki, .string dg', .int .i64 vi', .int .i64 who', .string mac', .int .i64 ba'.author, .int .i64 ba'.number, .slice ba'.ta ba'.txs.length ba'.tc, .int .i64 he'.author, .int .i64 he'.round, .slice he'.ra he'.refs.length he'.rc, .slice he'.pa he'.parents.length he'.pc, .int .i64 ce'.hdr.author, .int .i64 ce'.hdr.round, .slice ce'.hdr.ra ce'.hdr.refs.length ce'.hdr.rc, .slice ce'.hdr.pa ce'.hdr.parents.length ce'.hdr.pc, .slice ce'.va ce'.votes.length ce'.vc, .int .i64 bl'.view, .int .i64 bl'.qc.view, .string bl'.qc.block, .slice bl'.qc.va bl'.qc.votes.length bl'.qc.vc, .slice bl'.ca bl'.certs.length bl'.cc, .int .i64 q'.view, .string q'.block, .slice q'.va q'.votes.length q'.vc].toArray 39) = q0 := ⟨_, rfl⟩
    have hA1 := hA.below hB
    have hA1' := hA'.below hB
    rw [hw1] at hX hY hB hA1 hA1'
    have x0 := hX.cell (i := 0) rfl
    have x1 := hX.cell (i := 1) rfl
    have x2 := hX.cell (i := 2) rfl
    have x3 := hX.cell (i := 3) rfl
    have x4 := hX.cell (i := 4) rfl
    have x5 := hX.cell (i := 5) rfl
    have x6 := hX.cell (i := 6) rfl
    have x7 := hX.cell (i := 7) rfl
    have y0 := hY.cell (i := 0) rfl
    have y1 := hY.cell (i := 1) rfl
    have y2 := hY.cell (i := 2) rfl
    have y3 := hY.cell (i := 3) rfl
    have y4 := hY.cell (i := 4) rfl
    have y5 := hY.cell (i := 5) rfl
    have y6 := hY.cell (i := 6) rfl
    have y7 := hY.cell (i := 7) rfl
    clear hA hA'
    go_enter Tryz.func8, Tryz.ntmps8
    go_wp2
    go_ret
    exact told_no hno hB rfl
end Go.Proofs.YtmngiekobmhpaaaGreat

/- What tuskref09.Same says of a message beside the one that has its kind's fields alone: is it bare? -/
namespace Go.Proofs.YtmngiekobmhpaaaGreat
open Go.RowKit
set_option linter.unusedVariables false

theorem size_nil {b : ByteArray} : b.size = 0 ↔ b = ⟨#[]⟩ := by
  constructor
  · intro h
    exact bytes_ext (List.eq_nil_of_length_eq_zero (by simpa using h))
  · rintro rfl
    rfl

theorem tag_nil (t : TagD) : t = tagZ ↔ t.Nil := by
  obtain ⟨a, b⟩ := t
  show (⟨a, b⟩ : TagD) = ⟨0, ⟨#[]⟩⟩ ↔ (a = 0 ∧ b.size = 0)
  rw [size_nil, TagD.mk.injEq]

theorem bat_nil (x : BatM) : x.d = bat0.d ↔ x.d.Nil := by
  obtain ⟨a, n, l⟩ := x.d
  show (⟨a, n, l⟩ : BatD) = ⟨0, 0, []⟩ ↔ (a = 0 ∧ n = 0 ∧ l.length = 0)
  rw [BatD.mk.injEq, List.length_eq_zero_iff]

theorem hdrD_nil (x : HdrD) : x = hdrZ ↔ x.Nil := by
  obtain ⟨a, n, l, m⟩ := x
  show (⟨a, n, l, m⟩ : HdrD) = ⟨0, 0, [], []⟩ ↔ (a = 0 ∧ n = 0 ∧ l.length = 0 ∧ m.length = 0)
  rw [HdrD.mk.injEq, List.length_eq_zero_iff, List.length_eq_zero_iff]

theorem cert_nil (x : CertM) : x.d = cert0.d ↔ x.d.Nil := by
  obtain ⟨h, l⟩ := x.d
  show (⟨h, l⟩ : CertD) = ⟨hdrZ, []⟩ ↔ (h.Nil ∧ l.length = 0)
  rw [CertD.mk.injEq, List.length_eq_zero_iff, hdrD_nil]

theorem qcD_nil (x : QcD) : x = qcZ ↔ x.Nil := by
  obtain ⟨v, b, l⟩ := x
  show (⟨v, b, l⟩ : QcD) = ⟨0, ⟨#[]⟩, []⟩ ↔ (v = 0 ∧ b.size = 0 ∧ l.length = 0)
  rw [QcD.mk.injEq, List.length_eq_zero_iff, size_nil]

theorem blk_nil (x : BlkM) : x.d = blk0.d ↔ x.d.Nil := by
  obtain ⟨v, q, l⟩ := x.d
  show (⟨v, q, l⟩ : BlkD) = ⟨0, qcZ, []⟩ ↔ (v = 0 ∧ q.Nil ∧ l.length = 0)
  rw [BlkD.mk.injEq, List.length_eq_zero_iff, qcD_nil]

theorem ite_nil {α : Type} {c : Prop} [Decidable c] {x z : α} {N : Prop} (h : x = z ↔ N) : (x = if c then x else z) ↔ (c ∨ N) := by
  by_cases hc : c
  · simp [hc]
  · simp [hc, h]

theorem bareM_at {x : MsgM} {w : World} (h : x.At w) : (bareM x).At w := by
  have h0 := msg0_at 0 w
  refine ⟨?_, ?_, ?_, ?_, ?_⟩
  · show BatM.At w (if _ then _ else _)
    split
    · exact h.bat
    · exact h0.bat
  · show HdrM.At w (if _ then _ else _)
    split
    · exact h.hdr
    · exact h0.hdr
  · show CertM.At w (if _ then _ else _)
    split
    · exact h.cert
    · exact h0.cert
  · show BlkM.At w (if _ then _ else _)
    split
    · exact h.blk
    · exact h0.blk
  · show QcM.At w (if _ then _ else _)
    split
    · exact h.qc
    · exact h0.qc

theorem sameBare_any (x : MsgM) (w : World) (hA : x.At w) (hn : x.Num) :
    Calls Tryz.prog 8 #[x.v, (bareM x).v] w (Told w x.d.Bare) := by
  have c1 : ∀ w1, x.At w1 → (bareM x).At w1 → Calls Tryz.prog 23 #[x.bat.v, (bareM x).bat.v] w1 (Told w1 (98 ∈ fieldsK x.kind ∨ x.bat.d.Nil)) := fun w1 h1 _ => by
    show Calls Tryz.prog 23 #[x.bat.v, (if 98 ∈ fieldsK x.kind then x.bat else bat0).v] w1 _
    by_cases hc : 98 ∈ fieldsK x.kind
    · rw [if_pos hc]
      exact (sameB_any x.bat.author x.bat.number x.bat.ta x.bat.txs x.bat.tc x.bat.ta x.bat.txs x.bat.tc w1 h1.bat.txs.txs h1.bat.txs.txs rfl hn.txs hn.keys).mono (fun e w' h => told_yes (Or.inl hc) h.2 h.1)
    · rw [if_neg hc]
      exact (sameB_none x.bat w1).mono (fun e w' h => h.iff ((bat_nil x.bat).trans ⟨Or.inr, fun h => h.elim (fun h => absurd h hc) id⟩))
  have c2 : ∀ w1, x.At w1 → (bareM x).At w1 → Calls Tryz.prog 24 #[x.hdr.v, (bareM x).hdr.v] w1 (Told w1 (104 ∈ fieldsK x.kind ∨ x.hdr.d.Nil)) := fun w1 h1 _ => by
    show Calls Tryz.prog 24 #[x.hdr.v, (if 104 ∈ fieldsK x.kind then x.hdr else hdr9).v] w1 _
    by_cases hc : 104 ∈ fieldsK x.kind
    · rw [if_pos hc]
      exact (sameH_any x.hdr x.hdr w1 h1.hdr h1.hdr rfl hn.refs hn.ps hn.acks).mono (fun e w' h => told_yes (Or.inl hc) h.2 h.1)
    · rw [if_neg hc]
      exact (sameH_none x.hdr w1 h1.hdr).mono (fun e w' h => h.iff ((hdrD_nil x.hdr.d).trans ⟨Or.inr, fun h => h.elim (fun h => absurd h hc) id⟩))
  have c3 : ∀ w1, x.At w1 → (bareM x).At w1 → Calls Tryz.prog 25 #[x.cert.v, (bareM x).cert.v] w1 (Told w1 (99 ∈ fieldsK x.kind ∨ x.cert.d.Nil)) := fun w1 h1 _ => by
    show Calls Tryz.prog 25 #[x.cert.v, (if 99 ∈ fieldsK x.kind then x.cert else cert0).v] w1 _
    by_cases hc : 99 ∈ fieldsK x.kind
    · rw [if_pos hc]
      exact (sameC_any x.cert x.cert w1 h1.cert h1.cert rfl hn.crefs hn.cps hn.cacks hn.votes).mono (fun e w' h => told_yes (Or.inl hc) h.2 h.1)
    · rw [if_neg hc]
      exact (sameC_none x.cert w1 h1.cert).mono (fun e w' h => h.iff ((cert_nil x.cert).trans ⟨Or.inr, fun h => h.elim (fun h => absurd h hc) id⟩))
  have c4 : ∀ w1, x.At w1 → (bareM x).At w1 → Calls Tryz.prog 26 #[x.blk.v, (bareM x).blk.v] w1 (Told w1 (107 ∈ fieldsK x.kind ∨ x.blk.d.Nil)) := fun w1 h1 _ => by
    show Calls Tryz.prog 26 #[x.blk.v, (if 107 ∈ fieldsK x.kind then x.blk else blk0).v] w1 _
    by_cases hc : 107 ∈ fieldsK x.kind
    · rw [if_pos hc]
      exact (sameK_any x.blk x.blk w1 h1.blk h1.blk rfl hn.bvotes hn.certs).mono (fun e w' h => told_yes (Or.inl hc) h.2 h.1)
    · rw [if_neg hc]
      exact (sameK_none x.blk w1).mono (fun e w' h => h.iff ((blk_nil x.blk).trans ⟨Or.inr, fun h => h.elim (fun h => absurd h hc) id⟩))
  have c5 : ∀ w1, x.At w1 → (bareM x).At w1 → Calls Tryz.prog 27 #[x.qc.v, (bareM x).qc.v] w1 (Told w1 (113 ∈ fieldsK x.kind ∨ x.qc.d.Nil)) := fun w1 h1 _ => by
    show Calls Tryz.prog 27 #[x.qc.v, (if 113 ∈ fieldsK x.kind then x.qc else qc0).v] w1 _
    by_cases hc : 113 ∈ fieldsK x.kind
    · rw [if_pos hc]
      exact (sameQ_any x.qc x.qc w1 h1.qc h1.qc rfl hn.qvotes).mono (fun e w' h => told_yes (Or.inl hc) h.2 h.1)
    · rw [if_neg hc]
      exact (sameQ_none x.qc w1).mono (fun e w' h => h.iff ((qcD_nil x.qc.d).trans ⟨Or.inr, fun h => h.elim (fun h => absurd h hc) id⟩))
  refine (sameM_told x (bareM x) w hA (bareM_at hA) rfl _ _ _ _ _ c1 c2 c3 c4 c5).mono (fun e w' h => h.iff ?_)
  have e1 : (x.digest = (bareM x).digest) ↔ (100 ∈ fieldsK x.kind ∨ x.digest.size = 0) := ite_nil size_nil.symm
  have e2 : (x.view = (bareM x).view) ↔ (118 ∈ fieldsK x.kind ∨ x.view = 0) := ite_nil Iff.rfl
  have e3 : (x.tag = (bareM x).tag) ↔ (116 ∈ fieldsK x.kind ∨ x.tag.Nil) := ite_nil (tag_nil x.tag)
  rw [e1, e2, e3]
  exact Iff.rfl
end Go.Proofs.YtmngiekobmhpaaaGreat
