/- Texts as one: MsgTold, MsgBareSame, RefTxName, RefTxCheck, RefTxRight, RefBatCheck. -/
import Derived.Test.YtaoiejgbbmjpkaaGreatDoorWk10
import Derived.Test.YtaoiejgbbmjpkaaGreatDoorWk16
import Derived.Test.YtaoiejgbbmjpkaaGreatDoorWk04
import Derived.Test.YtaoiejgbbmjpkaaGreatDoorWk05
import Derived.Deep.QuietTactic
import Derived.BigQuiet
import Derived.Test.YtaoiejgbbmjpkaaGreatDoorWk06
/- What tuskref09.Same says of two messages, once it is known what is said of their parts; and of a message beside the one that has its kind's fields alone. -/
namespace Go.Proofs.YtaoiejgbbmjpkaaGreatDoor
open Go.RowKit
set_option linter.unusedVariables false

set_option maxRecDepth 100000 in
set_option maxHeartbeats 8000000 in
theorem sameM_told (a b : MsgM) (w : World) (hA : a.At w) (hA' : b.At w) (hk : a.kind = b.kind) (P1 P2 P3 P4 P5 : Prop)
    (c1 : ∀ w1, a.At w1 → b.At w1 → Calls Tryz.prog 74 #[a.bat.v, b.bat.v] w1 (Told w1 P1)) (c2 : ∀ w1, a.At w1 → b.At w1 → Calls Tryz.prog 75 #[a.hdr.v, b.hdr.v] w1 (Told w1 P2))
    (c3 : ∀ w1, a.At w1 → b.At w1 → Calls Tryz.prog 76 #[a.cert.v, b.cert.v] w1 (Told w1 P3)) (c4 : ∀ w1, a.At w1 → b.At w1 → Calls Tryz.prog 77 #[a.blk.v, b.blk.v] w1 (Told w1 P4))
    (c5 : ∀ w1, a.At w1 → b.At w1 → Calls Tryz.prog 78 #[a.qc.v, b.qc.v] w1 (Told w1 P5)) :
    Calls Tryz.prog 44 #[a.v, b.v] w (Told w (a.digest = b.digest ∧ a.view = b.view ∧ a.tag = b.tag ∧ P1 ∧ P2 ∧ P3 ∧ P4 ∧ P5)) := by
  obtain ⟨ki, dg, vi, ⟨who, mac⟩, ba, he, ce, bl, q⟩ := a
  obtain ⟨ki', dg', vi', ⟨who', mac'⟩, ba', he', ce', bl', q'⟩ := b
  simp only at hk c1 c2 c3 c4 c5 ⊢
  subst hk
  obtain ⟨P, hd⟩ : ∃ P : Prop, Hid (P ↔ (dg = dg' ∧ vi = vi' ∧ (⟨who, mac⟩ : TagD) = ⟨who', mac'⟩ ∧ P1 ∧ P2 ∧ P3 ∧ P4 ∧ P5)) := ⟨_, Iff.rfl⟩
  refine Calls.mono ?_ (fun e w' (h : Told w P e w') => h.iff hd.out)
  unfold BatM.v at c1
  unfold HdrM.v at c2
  unfold CertM.v at c3
  unfold BlkM.v at c4
  unfold QcM.v at c5
  unfold MsgM.v MsgM.c
  simp only
  by_cases h1 : dg = dg'
  · subst h1
    by_cases h2 : vi = vi'
    · subst h2
      by_cases h3 : who = who'
      · subst h3
        by_cases h4 : mac = mac'
        · subst h4
          replace hd : Hid (P ↔ (P1 ∧ P2 ∧ P3 ∧ P4 ∧ P5)) := ⟨fun h => (hd.out.1 h).2.2.2, fun h => hd.out.2 ⟨rfl, rfl, rfl, h⟩⟩
          obtain ⟨hX, hY, hB⟩ := two_new w 39 39 [.int .i64 ki, .string dg, .int .i64 vi, .int .i64 who, .string mac, .int .i64 ba.author, .int .i64 ba.number, .slice ba.ta ba.txs.length ba.tc, .int .i64 he.author, .int .i64 he.round, .slice he.ra he.refs.length he.rc, .slice he.pa he.parents.length he.pc, .int .i64 ce.hdr.author, .int .i64 ce.hdr.round, .slice ce.hdr.ra ce.hdr.refs.length ce.hdr.rc, .slice ce.hdr.pa ce.hdr.parents.length ce.hdr.pc, .slice ce.va ce.votes.length ce.vc, .int .i64 bl.view, .int .i64 bl.qc.view, .string bl.qc.block, .slice bl.qc.va bl.qc.votes.length bl.qc.vc, .slice bl.ca bl.certs.length bl.cc, .int .i64 q.view, .string q.block, .slice q.va q.votes.length q.vc] [.int .i64 ki, .string dg, .int .i64 vi, .int .i64 who, .string mac, .int .i64 ba'.author, .int .i64 ba'.number, .slice ba'.ta ba'.txs.length ba'.tc, .int .i64 he'.author, .int .i64 he'.round, .slice he'.ra he'.refs.length he'.rc, .slice he'.pa he'.parents.length he'.pc, .int .i64 ce'.hdr.author, .int .i64 ce'.hdr.round, .slice ce'.hdr.ra ce'.hdr.refs.length ce'.hdr.rc, .slice ce'.hdr.pa ce'.hdr.parents.length ce'.hdr.pc, .slice ce'.va ce'.votes.length ce'.vc, .int .i64 bl'.view, .int .i64 bl'.qc.view, .string bl'.qc.block, .slice bl'.qc.va bl'.qc.votes.length bl'.qc.vc, .slice bl'.ca bl'.certs.length bl'.cc, .int .i64 q'.view, .string q'.block, .slice q'.va q'.votes.length q'.vc]
          obtain ⟨w1, hw1⟩ : ∃ q0, (w.alloc (.cells [.int .i64 ki, .string dg, .int .i64 vi, .int .i64 who, .string mac, .int .i64 ba.author, .int .i64 ba.number, .slice ba.ta ba.txs.length ba.tc, .int .i64 he.author, .int .i64 he.round, .slice he.ra he.refs.length he.rc, .slice he.pa he.parents.length he.pc, .int .i64 ce.hdr.author, .int .i64 ce.hdr.round, .slice ce.hdr.ra ce.hdr.refs.length ce.hdr.rc, .slice ce.hdr.pa ce.hdr.parents.length ce.hdr.pc, .slice ce.va ce.votes.length ce.vc, .int .i64 bl.view, .int .i64 bl.qc.view, .string bl.qc.block, .slice bl.qc.va bl.qc.votes.length bl.qc.vc, .slice bl.ca bl.certs.length bl.cc, .int .i64 q.view, .string q.block, .slice q.va q.votes.length q.vc].toArray 39)).alloc (.cells [.int .i64 ki, .string dg, .int .i64 vi, .int .i64 who, .string mac, .int .i64 ba'.author, .int .i64 ba'.number, .slice ba'.ta ba'.txs.length ba'.tc, .int .i64 he'.author, .int .i64 he'.round, .slice he'.ra he'.refs.length he'.rc, .slice he'.pa he'.parents.length he'.pc, .int .i64 ce'.hdr.author, .int .i64 ce'.hdr.round, .slice ce'.hdr.ra ce'.hdr.refs.length ce'.hdr.rc, .slice ce'.hdr.pa ce'.hdr.parents.length ce'.hdr.pc, .slice ce'.va ce'.votes.length ce'.vc, .int .i64 bl'.view, .int .i64 bl'.qc.view, .string bl'.qc.block, .slice bl'.qc.va bl'.qc.votes.length bl'.qc.vc, .slice bl'.ca bl'.certs.length bl'.cc, .int .i64 q'.view, .string q'.block, .slice q'.va q'.votes.length q'.vc].toArray 39) = q0 := ⟨_, rfl⟩
          have hA1 := hA.below hB
          have hA1' := hA'.below hB
          rw [hw1] at hX hY hB hA1 hA1'
          have x0 := hX.cell (i := 0) rfl
          have x1 := hX.cell (i := 1) rfl
          have x2 := hX.cell (i := 2) rfl
          have x3 := hX.cell (i := 3) rfl
          have x4 := hX.cell (i := 4) rfl
          have x5 := hX.cell (i := 5) rfl
          have x6 := hX.cell (i := 6) rfl
          have x7 := hX.cell (i := 7) rfl
          have y0 := hY.cell (i := 0) rfl
          have y1 := hY.cell (i := 1) rfl
          have y2 := hY.cell (i := 2) rfl
          have y3 := hY.cell (i := 3) rfl
          have y4 := hY.cell (i := 4) rfl
          have y5 := hY.cell (i := 5) rfl
          have y6 := hY.cell (i := 6) rfl
          have y7 := hY.cell (i := 7) rfl
          clear hA hA'
          go_enter Tryz.func44, Tryz.ntmps44
          go_wp2_with fail
          refine (c1 _ hA1 hA1').mono ?_
          rintro e w2 ⟨⟨p, rfl, hp⟩, hb⟩
          have hX2 := hX.below hb hX.lt
          have hY2 := hY.below hb hY.lt
          have hB2 := hB.trans (hb.mono hB.size)
          have hA2 := hA1.below hb
          have hA2' := hA1'.below hb
          clear c1 hX hY hB hA1 hA1' hb x0 x1 x2 x3 x4 x5 x6 x7 y0 y1 y2 y3 y4 y5 y6 y7 hw1
          cases p
          case false =>
            have hno : ¬ P := fun h => by have := hp.2 (hd.out.1 h).1; cases this
            clear hd hp
            go_wp2
            go_ret
            exact told_no hno hB2 rfl
          replace hd : Hid (P ↔ (P2 ∧ P3 ∧ P4 ∧ P5)) := ⟨fun h => (hd.out.1 h).2, fun h => hd.out.2 ⟨hp.1 rfl, h⟩⟩
          clear hp
          have x8 := hX2.cell (i := 8) rfl
          have x9 := hX2.cell (i := 9) rfl
          have x10 := hX2.cell (i := 10) rfl
          have x11 := hX2.cell (i := 11) rfl
          have y8 := hY2.cell (i := 8) rfl
          have y9 := hY2.cell (i := 9) rfl
          have y10 := hY2.cell (i := 10) rfl
          have y11 := hY2.cell (i := 11) rfl
          go_wp2_with fail
          refine (c2 _ hA2 hA2').mono ?_
          rintro e w3 ⟨⟨p, rfl, hp⟩, hb⟩
          have hX3 := hX2.below hb hX2.lt
          have hY3 := hY2.below hb hY2.lt
          have hB3 := hB2.trans (hb.mono hB2.size)
          have hA3 := hA2.below hb
          have hA3' := hA2'.below hb
          clear c2 hX2 hY2 hB2 hA2 hA2' hb x8 x9 x10 x11 y8 y9 y10 y11
          cases p
          case false =>
            have hno : ¬ P := fun h => by have := hp.2 (hd.out.1 h).1; cases this
            clear hd hp
            go_wp2
            go_ret
            exact told_no hno hB3 rfl
          replace hd : Hid (P ↔ (P3 ∧ P4 ∧ P5)) := ⟨fun h => (hd.out.1 h).2, fun h => hd.out.2 ⟨hp.1 rfl, h⟩⟩
          clear hp
          have x12 := hX3.cell (i := 12) rfl
          have x13 := hX3.cell (i := 13) rfl
          have x14 := hX3.cell (i := 14) rfl
          have x15 := hX3.cell (i := 15) rfl
          have x16 := hX3.cell (i := 16) rfl
          have y12 := hY3.cell (i := 12) rfl
          have y13 := hY3.cell (i := 13) rfl
          have y14 := hY3.cell (i := 14) rfl
          have y15 := hY3.cell (i := 15) rfl
          have y16 := hY3.cell (i := 16) rfl
          go_wp2_with fail
          refine (c3 _ hA3 hA3').mono ?_
          rintro e w4 ⟨⟨p, rfl, hp⟩, hb⟩
          have hX4 := hX3.below hb hX3.lt
          have hY4 := hY3.below hb hY3.lt
          have hB4 := hB3.trans (hb.mono hB3.size)
          have hA4 := hA3.below hb
          have hA4' := hA3'.below hb
          clear c3 hX3 hY3 hB3 hA3 hA3' hb x12 x13 x14 x15 x16 y12 y13 y14 y15 y16
          cases p
          case false =>
            have hno : ¬ P := fun h => by have := hp.2 (hd.out.1 h).1; cases this
            clear hd hp
            go_wp2
            go_ret
            exact told_no hno hB4 rfl
          replace hd : Hid (P ↔ (P4 ∧ P5)) := ⟨fun h => (hd.out.1 h).2, fun h => hd.out.2 ⟨hp.1 rfl, h⟩⟩
          clear hp
          have x17 := hX4.cell (i := 17) rfl
          have x18 := hX4.cell (i := 18) rfl
          have x19 := hX4.cell (i := 19) rfl
          have x20 := hX4.cell (i := 20) rfl
          have x21 := hX4.cell (i := 21) rfl
          have y17 := hY4.cell (i := 17) rfl
          have y18 := hY4.cell (i := 18) rfl
          have y19 := hY4.cell (i := 19) rfl
          have y20 := hY4.cell (i := 20) rfl
          have y21 := hY4.cell (i := 21) rfl
          go_wp2_with fail
          refine (c4 _ hA4 hA4').mono ?_
          rintro e w5 ⟨⟨p, rfl, hp⟩, hb⟩
          have hX5 := hX4.below hb hX4.lt
          have hY5 := hY4.below hb hY4.lt
          have hB5 := hB4.trans (hb.mono hB4.size)
          have hA5 := hA4.below hb
          have hA5' := hA4'.below hb
          clear c4 hX4 hY4 hB4 hA4 hA4' hb x17 x18 x19 x20 x21 y17 y18 y19 y20 y21
          cases p
          case false =>
            have hno : ¬ P := fun h => by have := hp.2 (hd.out.1 h).1; cases this
            clear hd hp
            go_wp2
            go_ret
            exact told_no hno hB5 rfl
          replace hd : Hid (P ↔ (P5)) := ⟨fun h => (hd.out.1 h).2, fun h => hd.out.2 ⟨hp.1 rfl, h⟩⟩
          clear hp
          have x22 := hX5.cell (i := 22) rfl
          have x23 := hX5.cell (i := 23) rfl
          have x24 := hX5.cell (i := 24) rfl
          have y22 := hY5.cell (i := 22) rfl
          have y23 := hY5.cell (i := 23) rfl
          have y24 := hY5.cell (i := 24) rfl
          go_wp2_with fail
          refine (c5 _ hA5 hA5').mono ?_
          rintro e w6 ⟨⟨p, rfl, hp⟩, hb⟩
          have hX6 := hX5.below hb hX5.lt
          have hY6 := hY5.below hb hY5.lt
          have hB6 := hB5.trans (hb.mono hB5.size)
          have hA6 := hA5.below hb
          have hA6' := hA5'.below hb
          clear c5 hX5 hY5 hB5 hA5 hA5' hb x22 x23 x24 y22 y23 y24
          have fin : ∀ e, e = .returned (.bool p) → Told w P e w6 := fun e he => ⟨⟨p, he, hp.trans hd.out.symm⟩, hB6⟩
          clear hp hd hX6 hY6 hB6 hA6 hA6'
          go_wp2
          go_ret
          exact fin _ rfl
        · have h5 : ¬ mac.toList = mac'.toList := fun h => h4 (bytes_ext (by rw [← ByteArray.toList_eq, ← ByteArray.toList_eq, h]))
          have hno : ¬ P := fun h => h4 (TagD.mk.inj (hd.out.1 h).2.2.1).2
          clear hd
          obtain ⟨hX, hY, hB⟩ := two_new w 39 39 [.int .i64 ki, .string dg, .int .i64 vi, .int .i64 who, .string mac, .int .i64 ba.author, .int .i64 ba.number, .slice ba.ta ba.txs.length ba.tc, .int .i64 he.author, .int .i64 he.round, .slice he.ra he.refs.length he.rc, .slice he.pa he.parents.length he.pc, .int .i64 ce.hdr.author, .int .i64 ce.hdr.round, .slice ce.hdr.ra ce.hdr.refs.length ce.hdr.rc, .slice ce.hdr.pa ce.hdr.parents.length ce.hdr.pc, .slice ce.va ce.votes.length ce.vc, .int .i64 bl.view, .int .i64 bl.qc.view, .string bl.qc.block, .slice bl.qc.va bl.qc.votes.length bl.qc.vc, .slice bl.ca bl.certs.length bl.cc, .int .i64 q.view, .string q.block, .slice q.va q.votes.length q.vc] [.int .i64 ki, .string dg, .int .i64 vi, .int .i64 who, .string mac', .int .i64 ba'.author, .int .i64 ba'.number, .slice ba'.ta ba'.txs.length ba'.tc, .int .i64 he'.author, .int .i64 he'.round, .slice he'.ra he'.refs.length he'.rc, .slice he'.pa he'.parents.length he'.pc, .int .i64 ce'.hdr.author, .int .i64 ce'.hdr.round, .slice ce'.hdr.ra ce'.hdr.refs.length ce'.hdr.rc, .slice ce'.hdr.pa ce'.hdr.parents.length ce'.hdr.pc, .slice ce'.va ce'.votes.length ce'.vc, .int .i64 bl'.view, .int .i64 bl'.qc.view, .string bl'.qc.block, .slice bl'.qc.va bl'.qc.votes.length bl'.qc.vc, .slice bl'.ca bl'.certs.length bl'.cc, .int .i64 q'.view, .string q'.block, .slice q'.va q'.votes.length q'.vc]
          obtain ⟨w1, hw1⟩ : ∃ q0, (w.alloc (.cells [.int .i64 ki, .string dg, .int .i64 vi, .int .i64 who, .string mac, .int .i64 ba.author, .int .i64 ba.number, .slice ba.ta ba.txs.length ba.tc, .int .i64 he.author, .int .i64 he.round, .slice he.ra he.refs.length he.rc, .slice he.pa he.parents.length he.pc, .int .i64 ce.hdr.author, .int .i64 ce.hdr.round, .slice ce.hdr.ra ce.hdr.refs.length ce.hdr.rc, .slice ce.hdr.pa ce.hdr.parents.length ce.hdr.pc, .slice ce.va ce.votes.length ce.vc, .int .i64 bl.view, .int .i64 bl.qc.view, .string bl.qc.block, .slice bl.qc.va bl.qc.votes.length bl.qc.vc, .slice bl.ca bl.certs.length bl.cc, .int .i64 q.view, .string q.block, .slice q.va q.votes.length q.vc].toArray 39)).alloc (.cells [.int .i64 ki, .string dg, .int .i64 vi, .int .i64 who, .string mac', .int .i64 ba'.author, .int .i64 ba'.number, .slice ba'.ta ba'.txs.length ba'.tc, .int .i64 he'.author, .int .i64 he'.round, .slice he'.ra he'.refs.length he'.rc, .slice he'.pa he'.parents.length he'.pc, .int .i64 ce'.hdr.author, .int .i64 ce'.hdr.round, .slice ce'.hdr.ra ce'.hdr.refs.length ce'.hdr.rc, .slice ce'.hdr.pa ce'.hdr.parents.length ce'.hdr.pc, .slice ce'.va ce'.votes.length ce'.vc, .int .i64 bl'.view, .int .i64 bl'.qc.view, .string bl'.qc.block, .slice bl'.qc.va bl'.qc.votes.length bl'.qc.vc, .slice bl'.ca bl'.certs.length bl'.cc, .int .i64 q'.view, .string q'.block, .slice q'.va q'.votes.length q'.vc].toArray 39) = q0 := ⟨_, rfl⟩
          have hA1 := hA.below hB
          have hA1' := hA'.below hB
          rw [hw1] at hX hY hB hA1 hA1'
          have x0 := hX.cell (i := 0) rfl
          have x1 := hX.cell (i := 1) rfl
          have x2 := hX.cell (i := 2) rfl
          have x3 := hX.cell (i := 3) rfl
          have x4 := hX.cell (i := 4) rfl
          have x5 := hX.cell (i := 5) rfl
          have x6 := hX.cell (i := 6) rfl
          have x7 := hX.cell (i := 7) rfl
          have y0 := hY.cell (i := 0) rfl
          have y1 := hY.cell (i := 1) rfl
          have y2 := hY.cell (i := 2) rfl
          have y3 := hY.cell (i := 3) rfl
          have y4 := hY.cell (i := 4) rfl
          have y5 := hY.cell (i := 5) rfl
          have y6 := hY.cell (i := 6) rfl
          have y7 := hY.cell (i := 7) rfl
          clear hA hA'
          go_enter Tryz.func44, Tryz.ntmps44
          go_wp2
          go_ret
          exact told_no hno hB rfl
      · have hno : ¬ P := fun h => h3 (TagD.mk.inj (hd.out.1 h).2.2.1).1
        clear hd
        obtain ⟨hX, hY, hB⟩ := two_new w 39 39 [.int .i64 ki, .string dg, .int .i64 vi, .int .i64 who, .string mac, .int .i64 ba.author, .int .i64 ba.number, .slice ba.ta ba.txs.length ba.tc, .int .i64 he.author, .int .i64 he.round, .slice he.ra he.refs.length he.rc, .slice he.pa he.parents.length he.pc, .int .i64 ce.hdr.author, .int .i64 ce.hdr.round, .slice ce.hdr.ra ce.hdr.refs.length ce.hdr.rc, .slice ce.hdr.pa ce.hdr.parents.length ce.hdr.pc, .slice ce.va ce.votes.length ce.vc, .int .i64 bl.view, .int .i64 bl.qc.view, .string bl.qc.block, .slice bl.qc.va bl.qc.votes.length bl.qc.vc, .slice bl.ca bl.certs.length bl.cc, .int .i64 q.view, .string q.block, .slice q.va q.votes.length q.vc] [.int .i64 ki, .string dg, .int .i64 vi, .int .i64 who', .string mac', .int .i64 ba'.author, .int .i64 ba'.number, .slice ba'.ta ba'.txs.length ba'.tc, .int .i64 he'.author, .int .i64 he'.round, .slice he'.ra he'.refs.length he'.rc, .slice he'.pa he'.parents.length he'.pc, .int .i64 ce'.hdr.author, .int .i64 ce'.hdr.round, .slice ce'.hdr.ra ce'.hdr.refs.length ce'.hdr.rc, .slice ce'.hdr.pa ce'.hdr.parents.length ce'.hdr.pc, .slice ce'.va ce'.votes.length ce'.vc, .int .i64 bl'.view, .int .i64 bl'.qc.view, .string bl'.qc.block, .slice bl'.qc.va bl'.qc.votes.length bl'.qc.vc, .slice bl'.ca bl'.certs.length bl'.cc, .int .i64 q'.view, .string q'.block, .slice q'.va q'.votes.length q'.vc]
        obtain ⟨w1, hw1⟩ : ∃ q0, (w.alloc (.cells [.int .i64 ki, .string dg, .int .i64 vi, .int .i64 who, .string mac, .int .i64 ba.author, .int .i64 ba.number, .slice ba.ta ba.txs.length ba.tc, .int .i64 he.author, .int .i64 he.round, .slice he.ra he.refs.length he.rc, .slice he.pa he.parents.length he.pc, .int .i64 ce.hdr.author, .int .i64 ce.hdr.round, .slice ce.hdr.ra ce.hdr.refs.length ce.hdr.rc, .slice ce.hdr.pa ce.hdr.parents.length ce.hdr.pc, .slice ce.va ce.votes.length ce.vc, .int .i64 bl.view, .int .i64 bl.qc.view, .string bl.qc.block, .slice bl.qc.va bl.qc.votes.length bl.qc.vc, .slice bl.ca bl.certs.length bl.cc, .int .i64 q.view, .string q.block, .slice q.va q.votes.length q.vc].toArray 39)).alloc (.cells [.int .i64 ki, .string dg, .int .i64 vi, .int .i64 who', .string mac', .int .i64 ba'.author, .int .i64 ba'.number, .slice ba'.ta ba'.txs.length ba'.tc, .int .i64 he'.author, .int .i64 he'.round, .slice he'.ra he'.refs.length he'.rc, .slice he'.pa he'.parents.length he'.pc, .int .i64 ce'.hdr.author, .int .i64 ce'.hdr.round, .slice ce'.hdr.ra ce'.hdr.refs.length ce'.hdr.rc, .slice ce'.hdr.pa ce'.hdr.parents.length ce'.hdr.pc, .slice ce'.va ce'.votes.length ce'.vc, .int .i64 bl'.view, .int .i64 bl'.qc.view, .string bl'.qc.block, .slice bl'.qc.va bl'.qc.votes.length bl'.qc.vc, .slice bl'.ca bl'.certs.length bl'.cc, .int .i64 q'.view, .string q'.block, .slice q'.va q'.votes.length q'.vc].toArray 39) = q0 := ⟨_, rfl⟩
        have hA1 := hA.below hB
        have hA1' := hA'.below hB
        rw [hw1] at hX hY hB hA1 hA1'
        have x0 := hX.cell (i := 0) rfl
        have x1 := hX.cell (i := 1) rfl
        have x2 := hX.cell (i := 2) rfl
        have x3 := hX.cell (i := 3) rfl
        have x4 := hX.cell (i := 4) rfl
        have x5 := hX.cell (i := 5) rfl
        have x6 := hX.cell (i := 6) rfl
        have x7 := hX.cell (i := 7) rfl
        have y0 := hY.cell (i := 0) rfl
        have y1 := hY.cell (i := 1) rfl
        have y2 := hY.cell (i := 2) rfl
        have y3 := hY.cell (i := 3) rfl
        have y4 := hY.cell (i := 4) rfl
        have y5 := hY.cell (i := 5) rfl
        have y6 := hY.cell (i := 6) rfl
        have y7 := hY.cell (i := 7) rfl
        clear hA hA'
        go_enter Tryz.func44, Tryz.ntmps44
        go_wp2
        go_ret
        exact told_no hno hB rfl
    · have hno : ¬ P := fun h => h2 (hd.out.1 h).2.1
      clear hd
      obtain ⟨hX, hY, hB⟩ := two_new w 39 39 [.int .i64 ki, .string dg, .int .i64 vi, .int .i64 who, .string mac, .int .i64 ba.author, .int .i64 ba.number, .slice ba.ta ba.txs.length ba.tc, .int .i64 he.author, .int .i64 he.round, .slice he.ra he.refs.length he.rc, .slice he.pa he.parents.length he.pc, .int .i64 ce.hdr.author, .int .i64 ce.hdr.round, .slice ce.hdr.ra ce.hdr.refs.length ce.hdr.rc, .slice ce.hdr.pa ce.hdr.parents.length ce.hdr.pc, .slice ce.va ce.votes.length ce.vc, .int .i64 bl.view, .int .i64 bl.qc.view, .string bl.qc.block, .slice bl.qc.va bl.qc.votes.length bl.qc.vc, .slice bl.ca bl.certs.length bl.cc, .int .i64 q.view, .string q.block, .slice q.va q.votes.length q.vc] [.int .i64 ki, .string dg, .int .i64 vi', .int .i64 who', .string mac', .int .i64 ba'.author, .int .i64 ba'.number, .slice ba'.ta ba'.txs.length ba'.tc, .int .i64 he'.author, .int .i64 he'.round, .slice he'.ra he'.refs.length he'.rc, .slice he'.pa he'.parents.length he'.pc, .int .i64 ce'.hdr.author, .int .i64 ce'.hdr.round, .slice ce'.hdr.ra ce'.hdr.refs.length ce'.hdr.rc, .slice ce'.hdr.pa ce'.hdr.parents.length ce'.hdr.pc, .slice ce'.va ce'.votes.length ce'.vc, .int .i64 bl'.view, .int .i64 bl'.qc.view, .string bl'.qc.block, .slice bl'.qc.va bl'.qc.votes.length bl'.qc.vc, .slice bl'.ca bl'.certs.length bl'.cc, .int .i64 q'.view, .string q'.block, .slice q'.va q'.votes.length q'.vc]
      obtain ⟨w1, hw1⟩ : ∃ q0, (w.alloc (.cells [.int .i64 ki, .string dg, .int .i64 vi, .int .i64 who, .string mac, .int .i64 ba.author, .int .i64 ba.number, .slice ba.ta ba.txs.length ba.tc, .int .i64 he.author, .int .i64 he.round, .slice he.ra he.refs.length he.rc, .slice he.pa he.parents.length he.pc, .int .i64 ce.hdr.author, .int .i64 ce.hdr.round, .slice ce.hdr.ra ce.hdr.refs.length ce.hdr.rc, .slice ce.hdr.pa ce.hdr.parents.length ce.hdr.pc, .slice ce.va ce.votes.length ce.vc, .int .i64 bl.view, .int .i64 bl.qc.view, .string bl.qc.block, .slice bl.qc.va bl.qc.votes.length bl.qc.vc, .slice bl.ca bl.certs.length bl.cc, .int .i64 q.view, .string q.block, .slice q.va q.votes.length q.vc].toArray 39)).alloc (.cells [.int .i64 ki, .string dg, .int .i64 vi', .int .i64 who', .string mac', .int .i64 ba'.author, .int .i64 ba'.number, .slice ba'.ta ba'.txs.length ba'.tc, .int .i64 he'.author, .int .i64 he'.round, .slice he'.ra he'.refs.length he'.rc, .slice he'.pa he'.parents.length he'.pc, .int .i64 ce'.hdr.author, .int .i64 ce'.hdr.round, .slice ce'.hdr.ra ce'.hdr.refs.length ce'.hdr.rc, .slice ce'.hdr.pa ce'.hdr.parents.length ce'.hdr.pc, .slice ce'.va ce'.votes.length ce'.vc, .int .i64 bl'.view, .int .i64 bl'.qc.view, .string bl'.qc.block, .slice bl'.qc.va bl'.qc.votes.length bl'.qc.vc, .slice bl'.ca bl'.certs.length bl'.cc, .int .i64 q'.view, .string q'.block, .slice q'.va q'.votes.length q'.vc].toArray 39) = q0 := ⟨_, rfl⟩
      have hA1 := hA.below hB
      have hA1' := hA'.below hB
      rw [hw1] at hX hY hB hA1 hA1'
      have x0 := hX.cell (i := 0) rfl
      have x1 := hX.cell (i := 1) rfl
      have x2 := hX.cell (i := 2) rfl
      have x3 := hX.cell (i := 3) rfl
      have x4 := hX.cell (i := 4) rfl
      have x5 := hX.cell (i := 5) rfl
      have x6 := hX.cell (i := 6) rfl
      have x7 := hX.cell (i := 7) rfl
      have y0 := hY.cell (i := 0) rfl
      have y1 := hY.cell (i := 1) rfl
      have y2 := hY.cell (i := 2) rfl
      have y3 := hY.cell (i := 3) rfl
      have y4 := hY.cell (i := 4) rfl
      have y5 := hY.cell (i := 5) rfl
      have y6 := hY.cell (i := 6) rfl
      have y7 := hY.cell (i := 7) rfl
      clear hA hA'
      go_enter Tryz.func44, Tryz.ntmps44
      go_wp2
      go_ret
      exact told_no hno hB rfl
  · have h5 : ¬ dg.toList = dg'.toList := fun h => h1 (bytes_ext (by rw [← ByteArray.toList_eq, ← ByteArray.toList_eq, h]))
    have hno : ¬ P := fun h => h1 (hd.out.1 h).1
    clear hd
    obtain ⟨hX, hY, hB⟩ := two_new w 39 39 [.int .i64 ki, .string dg, .int .i64 vi, .int .i64 who, .string mac, .int .i64 ba.author, .int .i64 ba.number, .slice ba.ta ba.txs.length ba.tc, .int .i64 he.author, .int .i64 he.round, .slice he.ra he.refs.length he.rc, .slice he.pa he.parents.length he.pc, .int .i64 ce.hdr.author, .int .i64 ce.hdr.round, .slice ce.hdr.ra ce.hdr.refs.length ce.hdr.rc, .slice ce.hdr.pa ce.hdr.parents.length ce.hdr.pc, .slice ce.va ce.votes.length ce.vc, .int .i64 bl.view, .int .i64 bl.qc.view, .string bl.qc.block, .slice bl.qc.va bl.qc.votes.length bl.qc.vc, .slice bl.ca bl.certs.length bl.cc, .int .i64 q.view, .string q.block, .slice q.va q.votes.length q.vc] [.int .i64 ki, .string dg', .int .i64 vi', .int .i64 who', .string mac', .int .i64 ba'.author, .int .i64 ba'.number, .slice ba'.ta ba'.txs.length ba'.tc, .int .i64 he'.author, .int .i64 he'.round, .slice he'.ra he'.refs.length he'.rc, .slice he'.pa he'.parents.length he'.pc, .int .i64 ce'.hdr.author, .int .i64 ce'.hdr.round, .slice ce'.hdr.ra ce'.hdr.refs.length ce'.hdr.rc, .slice ce'.hdr.pa ce'.hdr.parents.length ce'.hdr.pc, .slice ce'.va ce'.votes.length ce'.vc, .int .i64 bl'.view, .int .i64 bl'.qc.view, .string bl'.qc.block, .slice bl'.qc.va bl'.qc.votes.length bl'.qc.vc, .slice bl'.ca bl'.certs.length bl'.cc, .int .i64 q'.view, .string q'.block, .slice q'.va q'.votes.length q'.vc]
    obtain ⟨w1, hw1⟩ : ∃ q0, (w.alloc (.cells [.int .i64 ki, .string dg, .int .i64 vi, .int .i64 who, .string mac, .int .i64 ba.author, .int .i64 ba.number, .slice ba.ta ba.txs.length ba.tc, .int .i64 he.author, .int .i64 he.round, .slice he.ra he.refs.length he.rc, .slice he.pa he.parents.length he.pc, .int .i64 ce.hdr.author, .int .i64 ce.hdr.round, .slice ce.hdr.ra ce.hdr.refs.length ce.hdr.rc, .slice ce.hdr.pa ce.hdr.parents.length ce.hdr.pc, .slice ce.va ce.votes.length ce.vc, .int .i64 bl.view, .int .i64 bl.qc.view, .string bl.qc.block, .slice bl.qc.va bl.qc.votes.length bl.qc.vc, .slice bl.ca bl.certs.length bl.cc, .int .i64 q.view, .string q.block, .slice q.va q.votes.length q.vc].toArray 39)).alloc (.cells [.int .i64 ki, .string dg', .int .i64 vi', .int .i64 who', .string mac', .int .i64 ba'.author, .int .i64 ba'.number, .slice ba'.ta ba'.txs.length ba'.tc, .int .i64 he'.author, .int .i64 he'.round, .slice he'.ra he'.refs.length he'.rc, .slice he'.pa he'.parents.length he'.pc, .int .i64 ce'.hdr.author, .int .i64 ce'.hdr.round, .slice ce'.hdr.ra ce'.hdr.refs.length ce'.hdr.rc, .slice ce'.hdr.pa ce'.hdr.parents.length ce'.hdr.pc, .slice ce'.va ce'.votes.length ce'.vc, .int .i64 bl'.view, .int .i64 bl'.qc.view, .string bl'.qc.block, .slice bl'.qc.va bl'.qc.votes.length bl'.qc.vc, .slice bl'.ca bl'.certs.length bl'.cc, .int .i64 q'.view, .string q'.block, .slice q'.va q'.votes.length q'.vc].toArray 39) = q0 := ⟨_, rfl⟩
    have hA1 := hA.below hB
    have hA1' := hA'.below hB
    rw [hw1] at hX hY hB hA1 hA1'
    have x0 := hX.cell (i := 0) rfl
    have x1 := hX.cell (i := 1) rfl
    have x2 := hX.cell (i := 2) rfl
    have x3 := hX.cell (i := 3) rfl
    have x4 := hX.cell (i := 4) rfl
    have x5 := hX.cell (i := 5) rfl
    have x6 := hX.cell (i := 6) rfl
    have x7 := hX.cell (i := 7) rfl
    have y0 := hY.cell (i := 0) rfl
    have y1 := hY.cell (i := 1) rfl
    have y2 := hY.cell (i := 2) rfl
    have y3 := hY.cell (i := 3) rfl
    have y4 := hY.cell (i := 4) rfl
    have y5 := hY.cell (i := 5) rfl
    have y6 := hY.cell (i := 6) rfl
    have y7 := hY.cell (i := 7) rfl
    clear hA hA'
    go_enter Tryz.func44, Tryz.ntmps44
    go_wp2
    go_ret
    exact told_no hno hB rfl
end Go.Proofs.YtaoiejgbbmjpkaaGreatDoor

/- What tuskref09.Same says of a message beside the one that has its kind's fields alone: is it bare? -/
namespace Go.Proofs.YtaoiejgbbmjpkaaGreatDoor
open Go.RowKit
set_option linter.unusedVariables false

theorem size_nil {b : ByteArray} : b.size = 0 ↔ b = ⟨#[]⟩ := by
  constructor
  · intro h
    exact bytes_ext (List.eq_nil_of_length_eq_zero (by simpa using h))
  · rintro rfl
    rfl

theorem tag_nil (t : TagD) : t = tagZ ↔ t.Nil := by
  obtain ⟨a, b⟩ := t
  show (⟨a, b⟩ : TagD) = ⟨0, ⟨#[]⟩⟩ ↔ (a = 0 ∧ b.size = 0)
  rw [size_nil, TagD.mk.injEq]

theorem bat_nil (x : BatM) : x.d = bat0.d ↔ x.d.Nil := by
  obtain ⟨a, n, l⟩ := x.d
  show (⟨a, n, l⟩ : BatD) = ⟨0, 0, []⟩ ↔ (a = 0 ∧ n = 0 ∧ l.length = 0)
  rw [BatD.mk.injEq, List.length_eq_zero_iff]

theorem hdrD_nil (x : HdrD) : x = hdrZ ↔ x.Nil := by
  obtain ⟨a, n, l, m⟩ := x
  show (⟨a, n, l, m⟩ : HdrD) = ⟨0, 0, [], []⟩ ↔ (a = 0 ∧ n = 0 ∧ l.length = 0 ∧ m.length = 0)
  rw [HdrD.mk.injEq, List.length_eq_zero_iff, List.length_eq_zero_iff]

theorem cert_nil (x : CertM) : x.d = cert0.d ↔ x.d.Nil := by
  obtain ⟨h, l⟩ := x.d
  show (⟨h, l⟩ : CertD) = ⟨hdrZ, []⟩ ↔ (h.Nil ∧ l.length = 0)
  rw [CertD.mk.injEq, List.length_eq_zero_iff, hdrD_nil]

theorem qcD_nil (x : QcD) : x = qcZ ↔ x.Nil := by
  obtain ⟨v, b, l⟩ := x
  show (⟨v, b, l⟩ : QcD) = ⟨0, ⟨#[]⟩, []⟩ ↔ (v = 0 ∧ b.size = 0 ∧ l.length = 0)
  rw [QcD.mk.injEq, List.length_eq_zero_iff, size_nil]

theorem blk_nil (x : BlkM) : x.d = blk0.d ↔ x.d.Nil := by
  obtain ⟨v, q, l⟩ := x.d
  show (⟨v, q, l⟩ : BlkD) = ⟨0, qcZ, []⟩ ↔ (v = 0 ∧ q.Nil ∧ l.length = 0)
  rw [BlkD.mk.injEq, List.length_eq_zero_iff, qcD_nil]

theorem ite_nil {α : Type} {c : Prop} [Decidable c] {x z : α} {N : Prop} (h : x = z ↔ N) : (x = if c then x else z) ↔ (c ∨ N) := by
  by_cases hc : c
  · simp [hc]
  · simp [hc, h]

theorem bareM_at {x : MsgM} {w : World} (h : x.At w) : (bareM x).At w := by
  have h0 := msg0_at 0 w
  refine ⟨?_, ?_, ?_, ?_, ?_⟩
  · show BatM.At w (if _ then _ else _)
    split
    · exact h.bat
    · exact h0.bat
  · show HdrM.At w (if _ then _ else _)
    split
    · exact h.hdr
    · exact h0.hdr
  · show CertM.At w (if _ then _ else _)
    split
    · exact h.cert
    · exact h0.cert
  · show BlkM.At w (if _ then _ else _)
    split
    · exact h.blk
    · exact h0.blk
  · show QcM.At w (if _ then _ else _)
    split
    · exact h.qc
    · exact h0.qc

theorem sameBare_any (x : MsgM) (w : World) (hA : x.At w) (hn : x.Num) :
    Calls Tryz.prog 44 #[x.v, (bareM x).v] w (Told w x.d.Bare) := by
  have c1 : ∀ w1, x.At w1 → (bareM x).At w1 → Calls Tryz.prog 74 #[x.bat.v, (bareM x).bat.v] w1 (Told w1 (98 ∈ fieldsK x.kind ∨ x.bat.d.Nil)) := fun w1 h1 _ => by
    show Calls Tryz.prog 74 #[x.bat.v, (if 98 ∈ fieldsK x.kind then x.bat else bat0).v] w1 _
    by_cases hc : 98 ∈ fieldsK x.kind
    · rw [if_pos hc]
      exact (sameB_any x.bat.author x.bat.number x.bat.ta x.bat.txs x.bat.tc x.bat.ta x.bat.txs x.bat.tc w1 h1.bat.txs.txs h1.bat.txs.txs rfl hn.txs hn.keys).mono (fun e w' h => told_yes (Or.inl hc) h.2 h.1)
    · rw [if_neg hc]
      exact (sameB_none x.bat w1).mono (fun e w' h => h.iff ((bat_nil x.bat).trans ⟨Or.inr, fun h => h.elim (fun h => absurd h hc) id⟩))
  have c2 : ∀ w1, x.At w1 → (bareM x).At w1 → Calls Tryz.prog 75 #[x.hdr.v, (bareM x).hdr.v] w1 (Told w1 (104 ∈ fieldsK x.kind ∨ x.hdr.d.Nil)) := fun w1 h1 _ => by
    show Calls Tryz.prog 75 #[x.hdr.v, (if 104 ∈ fieldsK x.kind then x.hdr else hdr9).v] w1 _
    by_cases hc : 104 ∈ fieldsK x.kind
    · rw [if_pos hc]
      exact (sameH_any x.hdr x.hdr w1 h1.hdr h1.hdr rfl hn.refs hn.ps hn.acks).mono (fun e w' h => told_yes (Or.inl hc) h.2 h.1)
    · rw [if_neg hc]
      exact (sameH_none x.hdr w1 h1.hdr).mono (fun e w' h => h.iff ((hdrD_nil x.hdr.d).trans ⟨Or.inr, fun h => h.elim (fun h => absurd h hc) id⟩))
  have c3 : ∀ w1, x.At w1 → (bareM x).At w1 → Calls Tryz.prog 76 #[x.cert.v, (bareM x).cert.v] w1 (Told w1 (99 ∈ fieldsK x.kind ∨ x.cert.d.Nil)) := fun w1 h1 _ => by
    show Calls Tryz.prog 76 #[x.cert.v, (if 99 ∈ fieldsK x.kind then x.cert else cert0).v] w1 _
    by_cases hc : 99 ∈ fieldsK x.kind
    · rw [if_pos hc]
      exact (sameC_any x.cert x.cert w1 h1.cert h1.cert rfl hn.crefs hn.cps hn.cacks hn.votes).mono (fun e w' h => told_yes (Or.inl hc) h.2 h.1)
    · rw [if_neg hc]
      exact (sameC_none x.cert w1 h1.cert).mono (fun e w' h => h.iff ((cert_nil x.cert).trans ⟨Or.inr, fun h => h.elim (fun h => absurd h hc) id⟩))
  have c4 : ∀ w1, x.At w1 → (bareM x).At w1 → Calls Tryz.prog 77 #[x.blk.v, (bareM x).blk.v] w1 (Told w1 (107 ∈ fieldsK x.kind ∨ x.blk.d.Nil)) := fun w1 h1 _ => by
    show Calls Tryz.prog 77 #[x.blk.v, (if 107 ∈ fieldsK x.kind then x.blk else blk0).v] w1 _
    by_cases hc : 107 ∈ fieldsK x.kind
    · rw [if_pos hc]
      exact (sameK_any x.blk x.blk w1 h1.blk h1.blk rfl hn.bvotes hn.certs).mono (fun e w' h => told_yes (Or.inl hc) h.2 h.1)
    · rw [if_neg hc]
      exact (sameK_none x.blk w1).mono (fun e w' h => h.iff ((blk_nil x.blk).trans ⟨Or.inr, fun h => h.elim (fun h => absurd h hc) id⟩))
  have c5 : ∀ w1, x.At w1 → (bareM x).At w1 → Calls Tryz.prog 78 #[x.qc.v, (bareM x).qc.v] w1 (Told w1 (113 ∈ fieldsK x.kind ∨ x.qc.d.Nil)) := fun w1 h1 _ => by
    show Calls Tryz.prog 78 #[x.qc.v, (if 113 ∈ fieldsK x.kind then x.qc else qc0).v] w1 _
    by_cases hc : 113 ∈ fieldsK x.kind
    · rw [if_pos hc]
      exact (sameQ_any x.qc x.qc w1 h1.qc h1.qc rfl hn.qvotes).mono (fun e w' h => told_yes (Or.inl hc) h.2 h.1)
    · rw [if_neg hc]
      exact (sameQ_none x.qc w1).mono (fun e w' h => h.iff ((qcD_nil x.qc.d).trans ⟨Or.inr, fun h => h.elim (fun h => absurd h hc) id⟩))
  refine (sameM_told x (bareM x) w hA (bareM_at hA) rfl _ _ _ _ _ c1 c2 c3 c4 c5).mono (fun e w' h => h.iff ?_)
  have e1 : (x.digest = (bareM x).digest) ↔ (100 ∈ fieldsK x.kind ∨ x.digest.size = 0) := ite_nil size_nil.symm
  have e2 : (x.view = (bareM x).view) ↔ (118 ∈ fieldsK x.kind ∨ x.view = 0) := ite_nil Iff.rfl
  have e3 : (x.tag = (bareM x).tag) ↔ (116 ∈ fieldsK x.kind ∨ x.tag.Nil) := ite_nil (tag_nil x.tag)
  rw [e1, e2, e3]
  exact Iff.rfl
end Go.Proofs.YtaoiejgbbmjpkaaGreatDoor

/- What tuskref04.Name and Key do; memory stands. -/
namespace Go.Proofs.YtaoiejgbbmjpkaaGreatDoor
open Go.RowKit
set_option linter.unusedVariables false

set_option maxRecDepth 100000 in
set_option maxHeartbeats 1000000 in
theorem refName_any (s : ByteArray) (w : World) (hs : s.size ≤ maxLen) :
    Calls Tryz.prog 118 #[.string s] w fun e w' => e = .returned (.bool (isNm s)) ∧ w' = w := by
  unfold maxLen at hs
  go_enter Tryz.func118, Tryz.ntmps118
  go_wp2
  go_loop [3] (fun v => ∃ k : Nat, k ≤ s.size ∧ v = .int .i64 k ∧ Hid ((s.data.toList.take k).all nameByte = true)) (fun v => s.size - (intOf v).toNat)
  case atStart => exact ⟨0, by omega, rfl, by show _ = _; simp⟩
  case round =>
    obtain ⟨k, hk, rfl, hall⟩ := hrel
    by_cases hlt : k < s.size
    · obtain ⟨c, hc⟩ : ∃ c, s[k].toNat = c := ⟨_, rfl⟩
      have hY : (97 ≤ c ∧ c ≤ 122 ∨ 48 ≤ c ∧ c ≤ 57) → Hid ((s.data.toList.take (k + 1)).all nameByte = true) := by
        intro h
        show _ = _
        rw [all_take_succ s k hlt, hall.out]
        unfold nameByte
        rw [hc]
        simp only [Bool.true_and, Bool.or_eq_true, Bool.and_eq_true, decide_eq_true_eq]
        exact h
      have hN : ¬ (97 ≤ c ∧ c ≤ 122 ∨ 48 ≤ c ∧ c ≤ 57) → Hid (isNm s = false) := by
        intro h
        show _ = _
        unfold isNm
        rw [all_of_take s k hlt _ (by
          unfold nameByte
          rw [hc]
          simp only [Bool.or_eq_false_iff, Bool.and_eq_false_iff, decide_eq_false_iff_not]
          omega)]
        simp
      clear hall
      have hI : ((c : Int) < 48 ∧ (c : Int) ≤ 57 ∧ (c : Int) < 97 ∧ (c : Int) ≤ 122) ∨ ((48 : Int) ≤ c ∧ (57 : Int) < c ∧ (c : Int) < 97 ∧ (c : Int) ≤ 122) ∨ ((48 : Int) ≤ c ∧ (57 : Int) < c ∧ (97 : Int) ≤ c ∧ (122 : Int) < c) ∨
          ((48 : Int) ≤ c ∧ (c : Int) ≤ 57 ∧ (c : Int) < 97 ∧ (c : Int) ≤ 122) ∨ ((48 : Int) ≤ c ∧ (57 : Int) < c ∧ (97 : Int) ≤ c ∧ (c : Int) ≤ 122) := by omega
      rcases hI with ⟨i1, i2, i3, i4⟩ | ⟨i1, i2, i3, i4⟩ | ⟨i1, i2, i3, i4⟩ | ⟨i1, i2, i3, i4⟩ | ⟨i1, i2, i3, i4⟩
      · have H := hN (by omega)
        clear hY hN
        go_wp2
        go_ret
        exact ⟨by rw [H.out]; rfl, rfl⟩
      · have H := hN (by omega)
        clear hY hN
        go_wp2
        go_ret
        exact ⟨by rw [H.out]; rfl, rfl⟩
      · have H := hN (by omega)
        clear hY hN
        go_wp2
        go_ret
        exact ⟨by rw [H.out]; rfl, rfl⟩
      · have H := hY (by omega)
        clear hY hN
        have d57 : decide ((57 : Int) < c) = false := decide_eq_false (by omega)
        go_wp2
        go_round
        case rel => exact ⟨k + 1, by omega, by go_num, H⟩
        case measure => simp [intOf]; omega
      · have H := hY (by omega)
        clear hY hN
        have d122 : decide ((122 : Int) < c) = false := decide_eq_false (by omega)
        go_wp2
        go_round
        case rel => exact ⟨k + 1, by omega, by go_num, H⟩
        case measure => simp [intOf]; omega
    · have H : Hid (isNm s = (decide (1 ≤ s.size) && decide (s.size ≤ 32))) := by
        show _ = _
        have h1 := hall.out
        rw [List.take_of_length_le (by simp; omega)] at h1
        unfold isNm
        rw [h1]
        simp
      clear hall
      by_cases h1 : 1 ≤ s.size
      · have h1' : (1 : Int) ≤ s.size := by omega
        replace H : Hid (isNm s = decide (s.size ≤ 32)) := by show _ = _; rw [H.out, decide_eq_true h1]; rfl
        by_cases h2 : s.size ≤ 32
        · replace H : Hid (isNm s = true) := by show _ = _; rw [H.out, decide_eq_true h2]
          have h2' : (s.size : Int) ≤ 32 := by omega
          go_wp2
          go_ret
          exact ⟨by rw [H.out]; rfl, rfl⟩
        · replace H : Hid (isNm s = false) := by show _ = _; rw [H.out, decide_eq_false h2]
          have h2' : (32 : Int) < s.size := by omega
          have d2 : decide ((s.size : Int) ≤ 32) = false := decide_eq_false (by omega)
          go_wp2
          go_ret
          exact ⟨by rw [H.out]; rfl, rfl⟩
      · replace H : Hid (isNm s = false) := by show _ = _; rw [H.out, decide_eq_false h1]; rfl
        have h1' : (s.size : Int) < 1 := by omega
        go_wp2
        go_ret
        exact ⟨by rw [H.out]; rfl, rfl⟩
end Go.Proofs.YtaoiejgbbmjpkaaGreatDoor

/- What tuskref04.Key, keys and Check do; nothing old in memory is turned. -/
namespace Go.Proofs.YtaoiejgbbmjpkaaGreatDoor
open Go.RowKit
set_option linter.unusedVariables false

theorem cut_two {s : ByteArray} (h : 2 < s.size) (a b : UInt8) : cutOk s ⟨#[a, b]⟩ = ((s.extract 0 2).toList == [a, b]) := by
  unfold cutOk
  have h1 : (⟨#[a, b]⟩ : ByteArray).size = 2 := rfl
  rw [h1, decide_eq_true (by omega), ByteArray.toList_eq ⟨#[a, b]⟩]
  rfl

theorem small_key {s : ByteArray} (h : s.size ≤ 2) : isKy s = false := by
  unfold isKy
  have h1 : isNm (s.extract 2 s.size) = false := by
    cases hn : isNm (s.extract 2 s.size) with
    | false => rfl
    | true =>
      unfold isNm at hn
      simp only [Bool.and_eq_true, decide_eq_true_eq, ByteArray.size_extract] at hn
      omega
  rw [h1]
  simp

set_option maxRecDepth 100000 in
set_option maxHeartbeats 400000 in
theorem refKey_any (s : ByteArray) (w : World) (hs : s.size ≤ maxLen) :
    Calls Tryz.prog 140 #[.string s] w fun e w' => e = .returned (.bool (isKy s)) ∧ w' = w := by
  by_cases h2 : 2 < s.size
  · have h2' : (2 : Int) < s.size := by omega
    have hsz : (2 : Int) ≤ s.size := by omega
    have cn := refName_any (s.extract 2 s.size) w (by rw [ByteArray.size_extract]; omega)
    have H : Hid (isKy s = ((((s.extract 0 2).toList == [97, 58]) || ((s.extract 0 2).toList == [107, 58])) && isNm (s.extract 2 s.size))) := by
      show _ = _
      unfold isKy aP kP
      rw [cut_two h2, cut_two h2]
    generalize isNm (s.extract 2 s.size) = b at cn H
    clear hs
    by_cases ha : (s.extract 0 2).toList = [97, 58]
    · replace H : Hid (isKy s = b) := by show _ = _; rw [H.out, ha]; simp
      go_enter Tryz.func140, Tryz.ntmps140
      go_wp2_with fail
      refine cn.mono ?_
      rintro e w' ⟨rfl, rfl⟩
      go_wp2
      go_ret
      exact ⟨by rw [H.out]; rfl, rfl⟩
    · have ha' : ((s.extract 0 2).toList == [97, 58]) = false := beq_eq_false_iff_ne.2 ha
      by_cases hk : (s.extract 0 2).toList = [107, 58]
      · replace H : Hid (isKy s = b) := by show _ = _; rw [H.out, ha', hk]; simp
        go_enter Tryz.func140, Tryz.ntmps140
        go_wp2_with fail
        refine cn.mono ?_
        rintro e w' ⟨rfl, rfl⟩
        go_wp2
        go_ret
        exact ⟨by rw [H.out]; rfl, rfl⟩
      · have hk' : ((s.extract 0 2).toList == [107, 58]) = false := beq_eq_false_iff_ne.2 hk
        replace H : Hid (isKy s = false) := by show _ = _; rw [H.out, ha', hk']; simp
        go_enter Tryz.func140, Tryz.ntmps140
        go_wp2
        go_ret
        exact ⟨by rw [H.out]; rfl, rfl⟩
  · have h2' : ¬ (2 : Int) < s.size := by omega
    have H : Hid (isKy s = false) := small_key (by omega)
    go_enter Tryz.func140, Tryz.ntmps140
    go_wp2
    go_ret
    exact ⟨by rw [H.out]; rfl, rfl⟩

/-- The one ahead. -/
def prevK (ss : List ByteArray) (k : Nat) : ByteArray := if k = 0 then ⟨#[]⟩ else ss.getD (k - 1) ⟨#[]⟩

set_option maxRecDepth 100000 in
set_option maxHeartbeats 1000000 in
theorem refKeys_any (ao : Option Addr) (cap : Nat) (ss : List ByteArray) (w : World) (hc : StrsAt w ao ss) (hz : ∀ s ∈ ss, s.size ≤ maxLen) :
    Calls Tryz.prog 119 #[.slice ao ss.length cap] w fun e w' => e = .returned (.int .i64 (keysL ss : Int)) ∧ Below w.heap.size w w' := by
  by_cases h8 : 8 < ss.length
  · have H : Hid (keysL ss = 8) := by show _ = _; unfold keysL; rw [if_pos h8]
    have h8' : (8 : Int) < ss.length := by omega
    go_enter Tryz.func119, Tryz.ntmps119
    go_wp2
    go_ret
    exact ⟨by rw [H.out]; rfl, Below.refl _ _⟩
  have h8' : ¬ (8 : Int) < ss.length := by omega
  have HK : Hid (keysL ss = keysGo ⟨#[]⟩ ss) := by show _ = _; unfold keysL; rw [if_neg h8]
  go_enter Tryz.func119, Tryz.ntmps119
  go_wp2
  go_loopw [3] (fun v wr => ∃ k : Nat, k ≤ ss.length ∧ v = .int .i64 k ∧ Hid (keysL ss = keysGo (prevK ss k) (ss.drop k)) ∧ Below w.heap.size w wr) (fun v _ => ss.length - (intOf v).toNat)
  case atStart => exact ⟨0, by omega, rfl, HK, Below.refl _ _⟩
  case round =>
    obtain ⟨k, hk, rfl, hK, hb⟩ := hrel
    by_cases hlt : k < ss.length
    · obtain ⟨b, off, rfl, hbl, hcell⟩ := (hc.below hb) k hlt
      have hd : ss.drop k = ss[k] :: ss.drop (k + 1) := List.drop_eq_getElem_cons hlt
      have hK2 := hK.out
      rw [hd, keysGo] at hK2
      have cn := fun w1 => refKey_any ss[k] w1 (hz _ (List.getElem_mem hlt))
      obtain ⟨x, hx⟩ : ∃ x, x = ss[k] := ⟨_, rfl⟩
      have hpr : prevK ss (k + 1) = x := by rw [hx]; unfold prevK; rw [if_neg (by omega)]; simp [List.getD, hlt]
      rw [← hx] at hK2 cn hcell
      clear hK hd HK
      cases hky : isKy x with
      | false =>
        have H : Hid (keysL ss = 3) := by show _ = _; rw [hK2, if_pos hky]
        simp only [hky] at cn
        clear hK2 hky hx hpr hc
        go_wp2_with fail
        refine (cn _).mono ?_
        rintro e w' ⟨rfl, rfl⟩
        go_wp2
        go_ret
        exact ⟨by rw [H.out]; rfl, hb⟩
      | true =>
        have hab := ky_above hky
        simp only [hky] at cn
        rw [if_neg (by rw [hky]; simp)] at hK2
        by_cases hk0 : k = 0
        · subst hk0
          have H : Hid (keysL ss = keysGo (prevK ss (0 + 1)) (ss.drop (0 + 1))) := by
            show _ = _
            rw [hpr, hK2]
            have : prevK ss 0 = ⟨#[]⟩ := rfl
            rw [this, hab, if_neg (by simp)]
          replace hcell : wr.cell? ⟨b, off, none⟩ = some (.string x) := hcell
          clear hK2 hky hx hpr hc hab
          go_wp2_with fail
          refine (cn _).mono ?_
          rintro e w' ⟨rfl, rfl⟩
          go_wp2_with fail
          go_quiet (fail)
          have hb2 := below_drewN hb nq
          clear hb hcell
          go_wp2
          go_roundw
          case rel => exact ⟨0 + 1, by omega, by go_num, H, hb2⟩
          case measure => simp [intOf]; omega
        · obtain ⟨j, rfl⟩ : ∃ j, k = j + 1 := ⟨k - 1, by omega⟩
          obtain ⟨b', off', e', _, hcell'⟩ := (hc.below hb) j (by omega)
          simp at e'
          obtain ⟨rfl, rfl⟩ := e'
          obtain ⟨y, hy⟩ : ∃ y, y = ss[j] := ⟨_, rfl⟩
          have hpy : prevK ss (j + 1) = y := by rw [hy]; unfold prevK; rw [if_neg (by omega)]; simp [List.getD, show j < ss.length by omega]
          rw [← hy] at hcell'
          rw [hpy] at hK2
          have hj1 : (((j + 1 : Nat) : Int)) - 1 = (j : Int) := by omega
          have hdk : decide ((0 : Int) < ((j + 1 : Nat) : Int)) = true := decide_eq_true (by omega)
          cases hle : (Op.bytesLess x.toList y.toList || x.toList == y.toList) with
          | true =>
            have H : Hid (keysL ss = 9) := by show _ = _; rw [hK2, if_pos hle]
            clear hK2 hky hx hpr hc hab hy hpy
            go_wp2_with fail
            refine (cn _).mono ?_
            rintro e w' ⟨rfl, rfl⟩
            go_wp2_with fail
            go_quiet (fail)
            have hb2 := below_drewN hb nq
            clear hb hcell hcell'
            go_wp2
            go_ret
            exact ⟨by rw [H.out]; rfl, hb2⟩
          | false =>
            have H : Hid (keysL ss = keysGo (prevK ss (j + 1 + 1)) (ss.drop (j + 1 + 1))) := by show _ = _; rw [hpr, hK2, if_neg (by rw [hle]; simp)]
            clear hK2 hky hx hpr hc hab hy hpy
            go_wp2_with fail
            refine (cn _).mono ?_
            rintro e w' ⟨rfl, rfl⟩
            go_wp2_with fail
            go_quiet (fail)
            have hb2 := below_drewN hb nq
            clear hb hcell hcell'
            go_wp2
            go_roundw
            case rel => exact ⟨j + 1 + 1, by omega, by go_num, H, hb2⟩
            case measure => simp [intOf]; omega
    · have H : Hid (keysL ss = 0) := by
        show _ = _
        rw [hK.out, List.drop_of_length_le (by omega), keysGo]
      clear hK
      go_wp2
      go_ret
      exact ⟨by rw [H.out]; rfl, hb⟩
end Go.Proofs.YtaoiejgbbmjpkaaGreatDoor

/- What tuskref04.Check does; nothing old in memory is turned. -/
namespace Go.Proofs.YtaoiejgbbmjpkaaGreatDoor
open Go.RowKit
set_option linter.unusedVariables false

theorem check_three {d : TxD} (hk : d.kind = 1 ∨ d.kind = 2) (h : fieldsR d = false) : checkL d = 3 := by
  unfold checkL
  rw [if_neg (by omega), if_pos h]

theorem check_two {d : TxD} (hk : d.kind = 1 ∨ d.kind = 2) (h : fieldsR d = true) (hr : 4611686018427387903 < d.amt ∨ 4611686018427387903 < d.non) : checkL d = 2 := by
  unfold checkL
  rw [if_neg (by omega), if_neg (by rw [h]; simp), if_pos hr]

theorem check_rs {d : TxD} (hk : d.kind = 1 ∨ d.kind = 2) (h : fieldsR d = true) (h1 : d.amt ≤ 4611686018427387903) (h2 : d.non ≤ 4611686018427387903) (hz : keysL d.rs ≠ 0) : checkL d = keysL d.rs := by
  unfold checkL
  rw [if_neg (by omega), if_neg (by rw [h]; simp), if_neg (by omega), if_pos hz]

theorem check_ws {d : TxD} (hk : d.kind = 1 ∨ d.kind = 2) (h : fieldsR d = true) (h1 : d.amt ≤ 4611686018427387903) (h2 : d.non ≤ 4611686018427387903) (hz : keysL d.rs = 0) : checkL d = keysL d.ws := by
  unfold checkL
  rw [if_neg (by omega), if_neg (by rw [h]; simp), if_neg (by omega), if_neg (by rw [hz]; simp)]

set_option maxRecDepth 100000 in
set_option maxHeartbeats 4000000 in
theorem refCheck_any (d : TxD) (ra : Option Addr) (rc : Nat) (wa : Option Addr) (wc : Nat) (w : World) (hA : TxAt w d ra wa) (hs : TxSizes d) :
    Calls Tryz.prog 79 #[txV d ra rc wa wc] w fun e w' => e = .returned (.int .i64 (checkL d : Int)) ∧ Below w.heap.size w w' := by
  have hX : Arr _ _ _ (txC d ra rc wa wc) := TxBox.new w d ra rc wa wc
  have hB := belowNew w (.cells (txC d ra rc wa wc).toArray 86)
  have hA0 := hA.below hB
  have cF := fun w1 => refName_any d.frm w1 hs.frm
  have cT := fun w1 => refName_any d.to w1 hs.to
  have cK := fun w1 => refName_any d.key w1 hs.key
  have ck1 := fun w1 (h : StrsAt w1 ra d.rs) => refKeys_any ra rc d.rs w1 h hs.rs
  have ck2 := fun w1 (h : StrsAt w1 wa d.ws) => refKeys_any wa wc d.ws w1 h hs.ws
  have hR0 := hA0.rd
  have hW0 := hA0.wr
  have t3 := check_three (d := d)
  have t2 := check_two (d := d)
  have tr := check_rs (d := d)
  have tw := check_ws (d := d)
  have t5 : d.kind ≠ 1 ∧ d.kind ≠ 2 → checkL d = 5 := fun h => by unfold checkL; rw [if_pos h]
  have F : fieldsR d = (isNm d.frm && (if d.kind = 1 then isNm d.to && (d.key.toList == []) && (d.val.toList == []) else isNm d.key && decide (d.val.size ≤ 64) && (d.to.toList == []) && decide (d.amt = 0))) := rfl
  simp only [bemp] at F
  clear hA hA0 hs
  obtain ⟨kind, frm, to, amt, non, key, val, rs, ws⟩ := d
  dsimp only at cF cT cK ck1 ck2 hR0 hW0 t3 t2 tr tw t5 F
  unfold txV
  generalize hchk : checkL ⟨kind, frm, to, amt, non, key, val, rs, ws⟩ = chk at *
  clear hchk
  generalize hfld : fieldsR ⟨kind, frm, to, amt, non, key, val, rs, ws⟩ = fld at *
  clear hfld
  by_cases hk : kind ≠ 1 ∧ kind ≠ 2
  · have H : Hid (chk = 5) := t5 hk
    have hk1 : (kind != 1) = true := by simpa using hk.1
    have hk2 : (kind != 2) = true := by simpa using hk.2
    clear t3 t2 tr tw t5 F hk cF cT cK ck1 ck2 hR0 hW0 hX
    go_enter Tryz.func79, Tryz.ntmps79
    go_wp2
    go_ret
    exact ⟨by rw [H.out]; rfl, hB⟩
  clear t5
  cases n1 : isNm frm with
  | false =>
    have hkk : kind = 1 ∨ kind = 2 := by omega
    clear hk
    simp only [n1] at cF
    replace F : fld = false := by rw [F, n1]; rfl
    rcases hkk with rfl | rfl
    · have hkk : (1 : Int) = 1 ∨ (1 : Int) = 2 := Or.inl rfl
      have H : Hid (chk = 3) := t3 hkk F
      clear t3 t2 tr tw F hkk hX
      clear ck1 ck2 hR0 hW0
      go_enter Tryz.func79, Tryz.ntmps79
      go_wp2_with fail
      refine (cF _).mono ?_
      rintro e w0 ⟨rfl, hw1⟩
      subst hw1
      go_wp2
      go_ret
      exact ⟨by rw [H.out]; rfl, hB⟩
    · have hkk : (2 : Int) = 1 ∨ (2 : Int) = 2 := Or.inr rfl
      have H : Hid (chk = 3) := t3 hkk F
      clear t3 t2 tr tw F hkk hX
      clear ck1 ck2 hR0 hW0
      go_enter Tryz.func79, Tryz.ntmps79
      go_wp2_with fail
      refine (cF _).mono ?_
      rintro e w0 ⟨rfl, hw1⟩
      subst hw1
      go_wp2
      go_ret
      exact ⟨by rw [H.out]; rfl, hB⟩
  | true =>
    simp only [n1] at cF
    rw [n1, Bool.true_and] at F
    by_cases hk1 : kind = 1
    · subst hk1
      have hkk : (1 : Int) = 1 ∨ (1 : Int) = 2 := Or.inl rfl
      rw [if_pos rfl] at F
      clear hk cK
      cases n2 : isNm to with
      | false =>
        simp only [n2] at cT
        replace F : fld = false := by rw [F, n2]; rfl
        have H : Hid (chk = 3) := t3 hkk F
        clear t3 t2 tr tw F hkk hX
        clear ck1 ck2 hR0 hW0
        go_enter Tryz.func79, Tryz.ntmps79
        go_wp2_with fail
        refine (cF _).mono ?_
        rintro e w0 ⟨rfl, hw1⟩
        subst hw1
        go_wp2_with fail
        refine (cT _).mono ?_
        rintro e w1 ⟨rfl, hw1⟩
        subst hw1
        go_wp2
        go_ret
        exact ⟨by rw [H.out]; rfl, hB⟩
      | true =>
        simp only [n2] at cT
        rw [n2, Bool.true_and] at F
        by_cases hkey : key.toList = []
        · have e1 : key.toList.isEmpty = true := by rw [hkey]; rfl
          rw [e1, Bool.true_and] at F
          by_cases hval : val.toList = []
          · have e2 : val.toList.isEmpty = true := by rw [hval]; rfl
            rw [e2] at F
            by_cases ha : 4611686018427387903 < amt
            · have H : Hid (chk = 2) := t2 hkk F (Or.inl ha)
              have ha' : (4611686018427387903 : Int) < amt := by omega
              clear t3 t2 tr tw F hkk hX
              clear ck1 ck2 hR0 hW0 ha
              go_enter Tryz.func79, Tryz.ntmps79
              go_wp2_with fail
              refine (cF _).mono ?_
              rintro e w0 ⟨rfl, hw1⟩
              subst hw1
              go_wp2_with fail
              refine (cT _).mono ?_
              rintro e w1 ⟨rfl, hw1⟩
              subst hw1
              go_wp2
              go_ret
              exact ⟨by rw [H.out]; rfl, hB⟩
            have ha' : (amt : Int) ≤ 4611686018427387903 := by omega
            by_cases hn : 4611686018427387903 < non
            · have H : Hid (chk = 2) := t2 hkk F (Or.inr hn)
              have hn' : (4611686018427387903 : Int) < non := by omega
              clear t3 t2 tr tw F hkk hX
              clear ck1 ck2 hR0 hW0 hn ha
              go_enter Tryz.func79, Tryz.ntmps79
              go_wp2_with fail
              refine (cF _).mono ?_
              rintro e w0 ⟨rfl, hw1⟩
              subst hw1
              go_wp2_with fail
              refine (cT _).mono ?_
              rintro e w1 ⟨rfl, hw1⟩
              subst hw1
              go_wp2
              go_ret
              exact ⟨by rw [H.out]; rfl, hB⟩
            have hn' : (non : Int) ≤ 4611686018427387903 := by omega
            by_cases hz : keysL rs = 0
            · have H : Hid (chk = keysL ws) := tw hkk F (by omega) (by omega) hz
              simp only [hz] at ck1
              generalize keysL ws = n2 at ck2 H
              clear t3 t2 tr tw F hkk hz hn ha
              go_enter Tryz.func79, Tryz.ntmps79
              go_wp2_with fail
              refine (cF _).mono ?_
              rintro e w0 ⟨rfl, hw1⟩
              subst hw1
              go_wp2_with fail
              refine (cT _).mono ?_
              rintro e w1 ⟨rfl, hw1⟩
              subst hw1
              go_wp2_with fail
              refine (ck1 _ hR0).mono ?_
              rintro e w5 ⟨rfl, hb5⟩
              have hB5 := hB.trans (hb5.mono hB.size)
              have x8 := (hX.below hb5 hX.lt).cell (i := 8) rfl
              have hW5 := hW0.below hb5
              clear hb5 hX hW0 hR0 ck1
              go_wp2_with fail
              refine (ck2 _ hW5).mono ?_
              rintro e w6 ⟨rfl, hb6⟩
              have hB6 := hB5.trans (hb6.mono hB5.size)
              clear hb6 hB5 hW5 ck2
              go_wp2
              go_ret
              exact ⟨by rw [H.out]; rfl, hB6⟩
            · have H : Hid (chk = keysL rs) := tr hkk F (by omega) (by omega) hz
              have hz' : ((keysL rs : Int) == 0) = false := beq_eq_false_iff_ne.2 (by omega)
              generalize keysL rs = n2 at ck1 H hz'
              clear t3 t2 tr tw F hkk hz hn ha ck2
              go_enter Tryz.func79, Tryz.ntmps79
              go_wp2_with fail
              refine (cF _).mono ?_
              rintro e w0 ⟨rfl, hw1⟩
              subst hw1
              go_wp2_with fail
              refine (cT _).mono ?_
              rintro e w1 ⟨rfl, hw1⟩
              subst hw1
              go_wp2_with fail
              refine (ck1 _ hR0).mono ?_
              rintro e w5 ⟨rfl, hb5⟩
              have hB5 := hB.trans (hb5.mono hB.size)
              clear hb5 hX hW0 hR0 ck1
              go_wp2
              go_ret
              exact ⟨by rw [H.out]; rfl, hB5⟩
          · have e2 : val.toList.isEmpty = false := by simpa using hval
            rw [e2] at F
            have H : Hid (chk = 3) := t3 hkk F
            clear t3 t2 tr tw F hkk hX
            clear ck1 ck2 hR0 hW0
            go_enter Tryz.func79, Tryz.ntmps79
            go_wp2_with fail
            refine (cF _).mono ?_
            rintro e w0 ⟨rfl, hw1⟩
            subst hw1
            go_wp2_with fail
            refine (cT _).mono ?_
            rintro e w1 ⟨rfl, hw1⟩
            subst hw1
            go_wp2
            go_ret
            exact ⟨by rw [H.out]; rfl, hB⟩
        · have e1 : key.toList.isEmpty = false := by simpa using hkey
          replace F : fld = false := by rw [F, e1]; rfl
          have H : Hid (chk = 3) := t3 hkk F
          clear t3 t2 tr tw F hkk hX
          clear ck1 ck2 hR0 hW0
          go_enter Tryz.func79, Tryz.ntmps79
          go_wp2_with fail
          refine (cF _).mono ?_
          rintro e w0 ⟨rfl, hw1⟩
          subst hw1
          go_wp2_with fail
          refine (cT _).mono ?_
          rintro e w1 ⟨rfl, hw1⟩
          subst hw1
          go_wp2
          go_ret
          exact ⟨by rw [H.out]; rfl, hB⟩
    · have hk2 : kind = 2 := by omega
      subst hk2
      have hkk : (2 : Int) = 1 ∨ (2 : Int) = 2 := Or.inr rfl
      rw [if_neg (by decide)] at F
      clear hk hk1 cT
      cases n2 : isNm key with
      | false =>
        simp only [n2] at cK
        replace F : fld = false := by rw [F, n2]; rfl
        have H : Hid (chk = 3) := t3 hkk F
        clear t3 t2 tr tw F hkk hX
        clear ck1 ck2 hR0 hW0
        go_enter Tryz.func79, Tryz.ntmps79
        go_wp2_with fail
        refine (cF _).mono ?_
        rintro e w0 ⟨rfl, hw1⟩
        subst hw1
        go_wp2_with fail
        refine (cK _).mono ?_
        rintro e w1 ⟨rfl, hw1⟩
        subst hw1
        go_wp2
        go_ret
        exact ⟨by rw [H.out]; rfl, hB⟩
      | true =>
        simp only [n2] at cK
        rw [n2, Bool.true_and] at F
        by_cases hv : val.size ≤ 64
        · have hv' : (val.size : Int) ≤ 64 := by omega
          have dv : decide ((64 : Int) < val.size) = false := decide_eq_false (by omega)
          rw [decide_eq_true hv, Bool.true_and] at F
          by_cases ht : to.toList = []
          · have e1 : to.toList.isEmpty = true := by rw [ht]; rfl
            rw [e1, Bool.true_and] at F
            by_cases ham : amt = 0
            · subst ham
              replace F : fld = true := by rw [F]; rfl
              have ha : ¬ (4611686018427387903 < 0) := by omega
              by_cases hn : 4611686018427387903 < non
              · have H : Hid (chk = 2) := t2 hkk F (Or.inr hn)
                have hn' : (4611686018427387903 : Int) < non := by omega
                clear t3 t2 tr tw F hkk hX
                clear ck1 ck2 hR0 hW0 hn ha
                go_enter Tryz.func79, Tryz.ntmps79
                go_wp2_with fail
                refine (cF _).mono ?_
                rintro e w0 ⟨rfl, hw1⟩
                subst hw1
                go_wp2_with fail
                refine (cK _).mono ?_
                rintro e w1 ⟨rfl, hw1⟩
                subst hw1
                go_wp2
                go_ret
                exact ⟨by rw [H.out]; rfl, hB⟩
              have hn' : (non : Int) ≤ 4611686018427387903 := by omega
              by_cases hz : keysL rs = 0
              · have H : Hid (chk = keysL ws) := tw hkk F (by omega) (by omega) hz
                simp only [hz] at ck1
                generalize keysL ws = n2 at ck2 H
                clear t3 t2 tr tw F hkk hz hn ha
                go_enter Tryz.func79, Tryz.ntmps79
                go_wp2_with fail
                refine (cF _).mono ?_
                rintro e w0 ⟨rfl, hw1⟩
                subst hw1
                go_wp2_with fail
                refine (cK _).mono ?_
                rintro e w1 ⟨rfl, hw1⟩
                subst hw1
                go_wp2_with fail
                refine (ck1 _ hR0).mono ?_
                rintro e w5 ⟨rfl, hb5⟩
                have hB5 := hB.trans (hb5.mono hB.size)
                have x8 := (hX.below hb5 hX.lt).cell (i := 8) rfl
                have hW5 := hW0.below hb5
                clear hb5 hX hW0 hR0 ck1
                go_wp2_with fail
                refine (ck2 _ hW5).mono ?_
                rintro e w6 ⟨rfl, hb6⟩
                have hB6 := hB5.trans (hb6.mono hB5.size)
                clear hb6 hB5 hW5 ck2
                go_wp2
                go_ret
                exact ⟨by rw [H.out]; rfl, hB6⟩
              · have H : Hid (chk = keysL rs) := tr hkk F (by omega) (by omega) hz
                have hz' : ((keysL rs : Int) == 0) = false := beq_eq_false_iff_ne.2 (by omega)
                generalize keysL rs = n2 at ck1 H hz'
                clear t3 t2 tr tw F hkk hz hn ha ck2
                go_enter Tryz.func79, Tryz.ntmps79
                go_wp2_with fail
                refine (cF _).mono ?_
                rintro e w0 ⟨rfl, hw1⟩
                subst hw1
                go_wp2_with fail
                refine (cK _).mono ?_
                rintro e w1 ⟨rfl, hw1⟩
                subst hw1
                go_wp2_with fail
                refine (ck1 _ hR0).mono ?_
                rintro e w5 ⟨rfl, hb5⟩
                have hB5 := hB.trans (hb5.mono hB.size)
                clear hb5 hX hW0 hR0 ck1
                go_wp2
                go_ret
                exact ⟨by rw [H.out]; rfl, hB5⟩
            · have ha' : ((amt : Int) != 0) = true := by rw [bne_iff_ne]; omega
              rw [decide_eq_false ham] at F
              have H : Hid (chk = 3) := t3 hkk F
              clear t3 t2 tr tw F hkk hX
              clear ck1 ck2 hR0 hW0
              go_enter Tryz.func79, Tryz.ntmps79
              go_wp2_with fail
              refine (cF _).mono ?_
              rintro e w0 ⟨rfl, hw1⟩
              subst hw1
              go_wp2_with fail
              refine (cK _).mono ?_
              rintro e w1 ⟨rfl, hw1⟩
              subst hw1
              go_wp2
              go_ret
              exact ⟨by rw [H.out]; rfl, hB⟩
          · have e1 : to.toList.isEmpty = false := by simpa using ht
            replace F : fld = false := by rw [F, e1]; rfl
            have H : Hid (chk = 3) := t3 hkk F
            clear t3 t2 tr tw F hkk hX
            clear ck1 ck2 hR0 hW0
            go_enter Tryz.func79, Tryz.ntmps79
            go_wp2_with fail
            refine (cF _).mono ?_
            rintro e w0 ⟨rfl, hw1⟩
            subst hw1
            go_wp2_with fail
            refine (cK _).mono ?_
            rintro e w1 ⟨rfl, hw1⟩
            subst hw1
            go_wp2
            go_ret
            exact ⟨by rw [H.out]; rfl, hB⟩
        · have hv' : (64 : Int) < val.size := by omega
          replace F : fld = false := by rw [F, decide_eq_false hv]; rfl
          have H : Hid (chk = 3) := t3 hkk F
          clear t3 t2 tr tw F hkk hX
          clear ck1 ck2 hR0 hW0
          go_enter Tryz.func79, Tryz.ntmps79
          go_wp2_with fail
          refine (cF _).mono ?_
          rintro e w0 ⟨rfl, hw1⟩
          subst hw1
          go_wp2_with fail
          refine (cK _).mono ?_
          rintro e w1 ⟨rfl, hw1⟩
          subst hw1
          go_wp2
          go_ret
          exact ⟨by rw [H.out]; rfl, hB⟩
end Go.Proofs.YtaoiejgbbmjpkaaGreatDoor

/- What tuskref05.Check does; nothing old in memory is turned. -/
namespace Go.Proofs.YtaoiejgbbmjpkaaGreatDoor
open Go.RowKit
set_option linter.unusedVariables false

set_option maxRecDepth 100000 in
set_option maxHeartbeats 1000000 in
theorem refBatCheck_any (a n : Int) (ao : Option Addr) (l : List TxM) (cap : Nat) (w : World) (hA : TxsAt w ao l) (hS : ∀ x ∈ l, TxSizes x.d) :
    Calls Tryz.prog 47 #[batV a n ao l.length cap] w fun e w' => e = .returned (.int .i64 (checkB ⟨a, n, dl l⟩ : Int)) ∧ Below w.heap.size w w' := by
  have hX : Arr _ _ _ (batC a n ao l.length cap) := Arr.new w 26 (batC a n ao l.length cap)
  have hB := belowNew w (.cells (batC a n ao l.length cap).toArray 26)
  have x0 := hX.cell (i := 0) rfl
  have x1 := hX.cell (i := 1) rfl
  have x2 := hX.cell (i := 2) rfl
  have hdl := dl_length l
  have bad : ∀ {P : Prop}, (a < 0 ∨ 6 < a ∨ n < 1 ∨ 4611686018427387903 < n) → Hid (checkB ⟨a, n, dl l⟩ = 2) := fun h => (if_pos h : _ = _)
  unfold batV
  by_cases h0 : a < 0
  · have H := bad (P := True) (by omega)
    go_enter Tryz.func47, Tryz.ntmps47
    go_wp2
    go_ret
    exact ⟨by rw [H.out]; rfl, hB⟩
  have d0 : decide (a < 0) = false := decide_eq_false h0
  by_cases h00 : 6 < a
  · have H := bad (P := True) (by omega)
    go_enter Tryz.func47, Tryz.ntmps47
    go_wp2
    go_ret
    exact ⟨by rw [H.out]; rfl, hB⟩
  have d00 : decide (6 < a) = false := decide_eq_false h00
  by_cases h1 : n < 1
  · have H := bad (P := True) (by omega)
    go_enter Tryz.func47, Tryz.ntmps47
    go_wp2
    go_ret
    exact ⟨by rw [H.out]; rfl, hB⟩
  have d1 : decide (n < 1) = false := decide_eq_false h1
  by_cases h2 : 4611686018427387903 < n
  · have H := bad (P := True) (by omega)
    go_enter Tryz.func47, Tryz.ntmps47
    go_wp2
    go_ret
    exact ⟨by rw [H.out]; rfl, hB⟩
  have d2 : decide (4611686018427387903 < n) = false := decide_eq_false h2
  have H0 : checkB ⟨a, n, dl l⟩ = _ := if_neg (show ¬ (a < 0 ∨ 6 < a ∨ n < 1 ∨ 4611686018427387903 < n) by omega)
  clear bad
  by_cases h3 : l.length = 0
  · have H : Hid (checkB ⟨a, n, dl l⟩ = 12) := (H0.trans (if_pos (by show (dl l).length = 0; omega)) : _ = _)
    have hn : l = [] := List.eq_nil_of_length_eq_zero h3
    clear H0
    subst hn
    go_enter Tryz.func47, Tryz.ntmps47
    go_wp2
    go_ret
    exact ⟨by rw [H.out]; rfl, hB⟩
  have e3 : ((l.length : Int) == 0) = false := beq_eq_false_iff_ne.2 (by omega)
  replace H0 := H0.trans (if_neg (by show ¬ (dl l).length = 0; omega))
  by_cases h4 : 16 < l.length
  · have H : Hid (checkB ⟨a, n, dl l⟩ = 8) := (H0.trans (if_pos (by show 16 < (dl l).length; omega)) : _ = _)
    have e4 : (16 : Int) < l.length := by omega
    clear H0
    go_enter Tryz.func47, Tryz.ntmps47
    go_wp2
    go_ret
    exact ⟨by rw [H.out]; rfl, hB⟩
  have e4 : decide ((16 : Int) < l.length) = false := decide_eq_false (by omega)
  have H : Hid (checkB ⟨a, n, dl l⟩ = firstE (dl l)) := (H0.trans (if_neg (by show ¬ 16 < (dl l).length; omega)) : _ = _)
  have e5 : l.length ≤ 16 := by omega
  clear H0 h3 h4 h0 h1 h2 h00
  go_enter Tryz.func47, Tryz.ntmps47
  go_wp2
  go_loopw [3, 4] (fun v3 v4 wr => ∃ k : Nat, k ≤ l.length ∧ v3 = .int .i64 (k : Int) ∧ Hid (checkB ⟨a, n, dl l⟩ = firstE (dl (l.drop k))) ∧ Arr wr w.heap.size 26 (batC a n ao l.length cap) ∧ Below w.heap.size w wr) (fun v _ _ => l.length - (intOf v).toNat)
  case atStart => exact ⟨0, Nat.zero_le _, rfl, H, hX, hB⟩
  case round =>
    obtain ⟨k, hk, rfl, hK, hX1, hb⟩ := hrel
    clear H hB hX x0 x1 x2
    have x2 := hX1.cell (i := 2) rfl
    by_cases hlt : k < l.length
    · obtain ⟨x, hx⟩ : ∃ x, l[k]? = some x := ⟨l[k], List.getElem?_eq_getElem hlt⟩
      obtain ⟨b, off, rfl, hbl, y0, y1, y2, y3, y4, y5, y6, y7, y8⟩ := (hA.below hb).cells hx
      have hAt := (hA k x hx).2.below hb
      have hstep := hK.out.trans (firstE_drop l k x hx)
      have cC := fun w1 (h : TxAt w1 x.d x.ra x.wa) => refCheck_any x.d x.ra x.rc x.wa x.wc w1 h (hS x (List.mem_of_getElem? hx))
      clear hK hx
      go_wp2_with fail
      refine (cC _ hAt.at_).mono ?_
      rintro e w2 ⟨rfl, hb3⟩
      have hX2 := hX1.below hb3 hX1.lt
      have hb4 := hb.trans (hb3.mono hb.size)
      clear hb3 hX1 hAt cC y0 y1 y2 y3 y4 y5 y6 y7 y8 x2
      by_cases hc : checkL x.d ≠ 0
      · have H : Hid (checkB ⟨a, n, dl l⟩ = checkL x.d) := (hstep.trans (if_pos hc) : _ = _)
        have hc2 : ((checkL x.d : Int) != 0) = true := by rw [bne_iff_ne]; omega
        clear hstep
        go_wp2
        go_ret
        exact ⟨by rw [H.out]; rfl, hb4⟩
      · have H : Hid (checkB ⟨a, n, dl l⟩ = firstE (dl (l.drop (k + 1)))) := (hstep.trans (if_neg hc) : _ = _)
        have hc2 : checkL x.d = 0 := by omega
        clear hstep hc
        go_wp2
        go_roundw
        case rel => exact ⟨k + 1, by omega, by go_num, H, hX2, hb4⟩
        case measure => simp [intOf]; omega
    · have H : Hid (checkB ⟨a, n, dl l⟩ = 0) := by show _ = _; rw [hK.out, List.drop_of_length_le (by omega)]; rfl
      clear hK
      go_wp2
      go_ret
      exact ⟨by rw [H.out]; rfl, hb⟩
end Go.Proofs.YtaoiejgbbmjpkaaGreatDoor
