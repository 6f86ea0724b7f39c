/- Texts as one: RefBlkEncode, RefBlkId, RefBlkWord, RefWordsFn, MsgWorks, BlkGreat, MsgGreat, HdrOpenH. -/
import Derived.Test.YtaoiejgbbmjpkaaGreatDoorWk07
import Derived.Test.YtaoiejgbbmjpkaaGreatDoorWk19
import Derived.Test.YtaoiejgbbmjpkaaGreatDoorWk20
import Derived.Test.YtaoiejgbbmjpkaaGreatDoorWk09
import Derived.Test.YtaoiejgbbmjpkaaGreatDoorWk03
import Derived.Test.YtaoiejgbbmjpkaaGreatDoorWk13
import Derived.Test.YtaoiejgbbmjpkaaGreatDoorWk18
import Derived.Deep.RegionHeld3
import Derived.Test.YtaoiejgbbmjpkaaGreatDoorWk12
import Derived.Test.YtaoiejgbbmjpkaaGreatDoorWk06
import Derived.Test.YtaoiejgbbmjpkaaGreatDoorWk10
import Derived.Test.YtaoiejgbbmjpkaaGreatDoorWk15
/- What tuskref08.EncodeQc and tuskref08.Encode do; nothing old in memory is turned. -/
namespace Go.Proofs.YtaoiejgbbmjpkaaGreatDoor
open Go.RowKit Go.Sort
set_option linter.unusedVariables false

set_option maxRecDepth 100000 in
set_option maxHeartbeats 2000000 in
theorem refEncodeQc_any (x : QcM) (w : World) (hA : x.At w) (hf : x.Enc) :
    Calls Tryz.prog 30 #[x.v] w fun e w' => e = .returned (.string ⟨(encQ x.d).toArray⟩) ∧ Below w.heap.size w w' := by
  have hX := Arr.new w 35 x.c
  have hB := belowNew w (.cells x.c.toArray 35)
  have hA1 := hA.below hB
  obtain ⟨w1, hw1⟩ : ∃ q, w.alloc (.cells x.c.toArray 35) = q := ⟨_, rfl⟩
  rw [hw1] at hX hB hA1
  have bl := fun d os => below_regrown w1 d os
  have hjo := encQ_join x
  have hbl := hf.blk
  have hvl := hf.len
  have hil := goInt_length x.view
  have htl := txt_len_le x.block.data.toList
  have hbz : x.block.data.toList.length = x.block.size := by simp
  obtain ⟨ib, hib⟩ : ∃ q, q = (⟨(goInt x.view).toArray⟩ : ByteArray) := ⟨_, rfl⟩
  obtain ⟨tb, htb⟩ : ∃ q, q = (⟨(txt x.block.data.toList).toArray⟩ : ByteArray) := ⟨_, rfl⟩
  obtain ⟨vb, hvb⟩ : ∃ q, q = (⟨(tagsB x.votes).toArray⟩ : ByteArray) := ⟨_, rfl⟩
  obtain ⟨out, hout⟩ : ∃ q, q = (⟨(encQ x.d).toArray⟩ : ByteArray) := ⟨_, rfl⟩
  have his : ib.size ≤ 9 := by rw [hib, size_mk]; exact hil
  have hts : tb.size ≤ 140737488351241 := by rw [htb, size_mk]; omega
  have hvs : vb.size ≤ 140737488355328 := by rw [hvb, size_mk]; exact hvl
  have hsum0 : ¬ (9223372036854775807 < ib.size + tb.size) := by omega
  have hsum : ¬ (9223372036854775807 < ib.size + tb.size + vb.size) := by omega
  have k1 : ∀ d os, Calls Tryz.prog 29 #[.int .i64 x.view] (grow (redrawn w1 d) os) fun e w'' => e = .returned (.string ib) ∧ ∃ p : Regrown, w'' = grow (redrawn w1 p.d) p.os := fun d os => Calls.regrown_of (by
    rw [hib]
    exact refInt_any x.view _)
  have k2 : ∀ d os, Calls Tryz.prog 57 #[.string x.block] (grow (redrawn w1 d) os) fun e w'' => e = .returned (.string tb) ∧ ∃ p : Regrown, w'' = grow (redrawn w1 p.d) p.os := fun d os => Calls.regrown_of (by
    rw [htb]
    exact refText_any x.block _ (by omega))
  have k3 : ∀ d os, Calls Tryz.prog 58 #[.slice x.va x.votes.length x.vc] (grow (redrawn w1 d) os) fun e w'' => e = .returned (.string vb) ∧ ∃ p : Regrown, w'' = grow (redrawn w1 p.d) p.os := fun d os => Calls.regrown_of (by
    rw [hvb]
    exact refTags_any x.va x.vc x.votes _ (hA1.below (bl d os)).votes hf.few hf.mac hf.len)
  rw [← hout, ← htb, ← hvb, ← hib] at hjo
  rw [← hout]
  have Hjo : Hid (ib ++ tb ++ vb = out) := hjo
  have hX0 : Arr w1 w.heap.size 35 [.int .i64 x.view, .string x.block, .slice x.va x.votes.length x.vc] := hX
  have A0 := cell_regrown (hX0.cell (i := 0) rfl)
  have A1 := cell_regrown (hX0.cell (i := 1) rfl)
  have A2 := cell_regrown (hX0.cell (i := 2) rfl)
  have HBF : Hid (∀ d os, Below w.heap.size w (grow (redrawn w1 d) os)) := fun d os => hB.trans ((bl d os).mono hB.size)
  unfold QcM.c at hw1
  unfold QcM.v
  clear hib htb hvb hout hjo hbl hvl htl hil hbz hf hA hA1 hX hX0 hB bl his hts hvs
  go_enter Tryz.func30, Tryz.ntmps30
  go_wp2_with fail
  refine wp_region_quiet_below (by kernel_rfl) (by kernel_rfl) ?_
  iterate 2 (go_big_quiet_step (fail))
  go_big_quiet_step (exact k1 _ _)
  iterate 2 (go_big_quiet_step (fail))
  go_big_quiet_step (exact k2 _ _)
  iterate 3 (go_big_quiet_step (fail))
  go_big_quiet_step (exact k3 _ _)
  iterate 2 (go_big_quiet_step (fail))
  refine wpQuiet_nil ?_
  rintro w' ⟨p, rfl⟩
  have hBF := HBF.out p.d p.os
  generalize grow (redrawn w1 p.d) p.os = w6 at hBF ⊢
  clear k1 k2 k3 A0 A1 A2 HBF
  go_wp2
  go_ret
  exact ⟨by rw [← Hjo.out]; rfl, hBF⟩

set_option maxRecDepth 100000 in
set_option maxHeartbeats 2000000 in
theorem refBlkEncode_any (x : BlkM) (w : World) (hA : x.At w) (hf : x.Enc) :
    Calls Tryz.prog 56 #[x.v] w fun e w' => e = .returned (.string ⟨(encK x.d).toArray⟩) ∧ Below w.heap.size w w' := by
  have hX := Arr.new w 37 x.c
  have hB := belowNew w (.cells x.c.toArray 37)
  have hA1 := hA.below hB
  obtain ⟨w1, hw1⟩ : ∃ q, w.alloc (.cells x.c.toArray 37) = q := ⟨_, rfl⟩
  rw [hw1] at hX hB hA1
  have bl' := fun d os => below_regrown w1 d os
  have hjo := encK_join x
  have hql := encQ_len x.qc hf.qc
  have hcl := hf.len
  have hil := goInt_length x.view
  have htl := txt_len_le (encQ x.qc.d)
  obtain ⟨ib, hib⟩ : ∃ q, q = (⟨(goInt x.view).toArray⟩ : ByteArray) := ⟨_, rfl⟩
  obtain ⟨qb, hqb⟩ : ∃ q, q = (⟨(encQ x.qc.d).toArray⟩ : ByteArray) := ⟨_, rfl⟩
  obtain ⟨tb, htb⟩ : ∃ q, q = (⟨(txt (encQ x.qc.d)).toArray⟩ : ByteArray) := ⟨_, rfl⟩
  obtain ⟨vb, hvb⟩ : ∃ q, q = (⟨(lst (bl x.certs)).toArray⟩ : ByteArray) := ⟨_, rfl⟩
  obtain ⟨out, hout⟩ : ∃ q, q = (⟨(encK x.d).toArray⟩ : ByteArray) := ⟨_, rfl⟩
  have his : ib.size ≤ 9 := by rw [hib, size_mk]; exact hil
  have hqs : qb.size ≤ 281474976706580 := by rw [hqb, size_mk]; exact hql
  have hts : tb.size ≤ 281474976706589 := by rw [htb, size_mk]; omega
  have hvs : vb.size ≤ 140737488355328 := by rw [hvb, size_mk]; exact hcl
  have hsum0 : ¬ (9223372036854775807 < ib.size + tb.size) := by omega
  have hsum : ¬ (9223372036854775807 < ib.size + tb.size + vb.size) := by omega
  have k1 : ∀ d os, Calls Tryz.prog 29 #[.int .i64 x.view] (grow (redrawn w1 d) os) fun e w'' => e = .returned (.string ib) ∧ ∃ p : Regrown, w'' = grow (redrawn w1 p.d) p.os := fun d os => Calls.regrown_of (by
    rw [hib]
    exact refInt_any x.view _)
  have k2 : ∀ d os, Calls Tryz.prog 30 #[x.qc.v] (grow (redrawn w1 d) os) fun e w'' => e = .returned (.string qb) ∧ ∃ p : Regrown, w'' = grow (redrawn w1 p.d) p.os := fun d os => Calls.regrown_of (by
    rw [hqb]
    exact refEncodeQc_any x.qc _ (hA1.below (bl' d os)).qc hf.qc)
  have k3 : ∀ d os, Calls Tryz.prog 57 #[.string qb] (grow (redrawn w1 d) os) fun e w'' => e = .returned (.string tb) ∧ ∃ p : Regrown, w'' = grow (redrawn w1 p.d) p.os := fun d os => Calls.regrown_of (by
    have := refText_any qb (grow (redrawn w1 d) os) (by omega)
    have hed : qb.data.toList = encQ x.qc.d := by rw [hqb]
    rw [hed, ← htb] at this
    exact this)
  have k4 : ∀ d os, Calls Tryz.prog 81 #[.slice x.ca x.certs.length x.cc] (grow (redrawn w1 d) os) fun e w'' => e = .returned (.string vb) ∧ ∃ p : Regrown, w'' = grow (redrawn w1 p.d) p.os := fun d os => Calls.regrown_of (by
    rw [hvb]
    exact refList_any x.ca x.cc x.certs _ (hA1.below (bl' d os)).certs.strs hf.len (by have := hf.few; omega))
  rw [← hout, ← htb, ← hvb, ← hib] at hjo
  rw [← hout]
  have Hjo : Hid (ib ++ tb ++ vb = out) := hjo
  have hX0 : Arr w1 w.heap.size 37 [.int .i64 x.view, .int .i64 x.qc.view, .string x.qc.block, .slice x.qc.va x.qc.votes.length x.qc.vc, .slice x.ca x.certs.length x.cc] := hX
  have A0 := cell_regrown (hX0.cell (i := 0) rfl)
  have A1 := cell_regrown (hX0.cell (i := 1) rfl)
  have A2 := cell_regrown (hX0.cell (i := 2) rfl)
  have A3 := cell_regrown (hX0.cell (i := 3) rfl)
  have A4 := cell_regrown (hX0.cell (i := 4) rfl)
  have HBF : Hid (∀ d os, Below w.heap.size w (grow (redrawn w1 d) os)) := fun d os => hB.trans ((bl' d os).mono hB.size)
  unfold BlkM.c at hw1
  unfold QcM.v at k2
  unfold BlkM.v
  clear hib hqb htb hvb hout hjo hql hcl htl hil hf hA hA1 hX hX0 hB bl' his hqs hts hvs
  go_enter Tryz.func56, Tryz.ntmps56
  go_wp2_with fail
  refine wp_region_quiet_below (by kernel_rfl) (by kernel_rfl) ?_
  iterate 2 (go_big_quiet_step (fail))
  go_big_quiet_step (exact k1 _ _)
  iterate 2 (go_big_quiet_step (fail))
  go_big_quiet_step (exact k2 _ _)
  go_big_quiet_step (exact k3 _ _)
  iterate 3 (go_big_quiet_step (fail))
  go_big_quiet_step (exact k4 _ _)
  iterate 2 (go_big_quiet_step (fail))
  refine wpQuiet_nil ?_
  rintro w' ⟨p, rfl⟩
  have hBF := HBF.out p.d p.os
  generalize grow (redrawn w1 p.d) p.os = w6 at hBF ⊢
  clear k1 k2 k3 k4 A0 A1 A2 A3 A4 HBF
  go_wp2
  go_ret
  exact ⟨by rw [← Hjo.out]; rfl, hBF⟩
end Go.Proofs.YtaoiejgbbmjpkaaGreatDoor

/- What tuskref08.Id does; nothing old in memory is turned. -/
namespace Go.Proofs.YtaoiejgbbmjpkaaGreatDoor
open Go.RowKit
set_option linter.unusedVariables false

set_option maxRecDepth 100000 in
set_option maxHeartbeats 1000000 in
theorem refBlkId_any (x : BlkM) (w : World) (hA : x.At w) (hf : x.Enc) (hl : (encK x.d).length ≤ 1073741824) :
    Calls Tryz.prog 28 #[x.v] w fun e w' => e = .returned (.string (idK x.d)) ∧ Below w.heap.size w w' := by
  have hX := Arr.new w 37 x.c
  have hB := belowNew w (.cells x.c.toArray 37)
  have cE := refBlkEncode_any x _ (hA.below hB) hf
  obtain ⟨eb, heb⟩ : ∃ q, q = (⟨(encK x.d).toArray⟩ : ByteArray) := ⟨_, rfl⟩
  have hes : eb.size ≤ 1073741824 := by rw [heb, size_mk]; exact hl
  have cS := fun w1 => Mx.refSum_any eb w1 hes
  have HE : Hid (idK x.d = Mx.bytes (Mx.sumL eb.data.toList)) := by show idK x.d = _; rw [heb]; rfl
  rw [← heb] at cE
  obtain ⟨out, hout⟩ : ∃ q, Hid (q = idK x.d) := ⟨_, rfl⟩
  rw [← hout.out]
  clear heb hes hA hf hl
  unfold BlkM.v at cE ⊢
  unfold BlkM.c at hX hB cE
  have x0 := hX.cell (i := 0) rfl
  have x1 := hX.cell (i := 1) rfl
  have x2 := hX.cell (i := 2) rfl
  have x3 := hX.cell (i := 3) rfl
  have x4 := hX.cell (i := 4) rfl
  go_enter Tryz.func28, Tryz.ntmps28
  go_wp2_with fail
  refine cE.mono ?_
  rintro e w1 ⟨rfl, hb1⟩
  have hB1 := hB.trans (hb1.mono hB.size)
  clear cE hX hB x0 x1 x2 x3 x4 hb1
  go_wp2_with fail
  refine (cS _).mono ?_
  rintro e w2 ⟨rfl, hb2⟩
  have hB2 := hB1.trans (hb2.mono hB1.size)
  clear cS hB1 hb2
  go_wp2
  go_ret
  exact ⟨by rw [hout.out, HE.out]; rfl, hB2⟩
end Go.Proofs.YtaoiejgbbmjpkaaGreatDoor

/- What tuskref08.Word does; nothing old in memory is turned. -/
namespace Go.Proofs.YtaoiejgbbmjpkaaGreatDoor
open Go.RowKit
set_option linter.unusedVariables false

set_option maxRecDepth 100000 in
theorem refWord_any (v : Int) (id : ByteArray) (w : World) (hid : id.size ≤ 140737488351232) :
    Calls Tryz.prog 27 #[.int .i64 v, .string id] w fun e w' => e = .returned (.string (wordB v id)) ∧ Below w.heap.size w w' := by
  have c := refInt_any v w
  have hg := goInt_length v
  have hjo : Hid _ := word_join v id
  have hz : (⟨(goInt v).toArray⟩ : ByteArray).size ≤ 9 := by rw [size_mk]; exact hg
  generalize (⟨(goInt v).toArray⟩ : ByteArray) = q at *
  generalize wordB v id = out at *
  clear hg
  go_enter Tryz.func27, Tryz.ntmps27
  go_wp2_with fail
  refine c.mono ?_
  rintro e w1 ⟨rfl, hb⟩
  clear c
  go_wp2
  go_ret
  exact ⟨by rw [← hjo.out]; rfl, hb⟩
end Go.Proofs.YtaoiejgbbmjpkaaGreatDoor

/- What tuskref09.Words does: the words of all tags in a message; nothing old in memory is turned. (Laid by gen_refwords.py.) -/
namespace Go.Proofs.YtaoiejgbbmjpkaaGreatDoor
open Go.RowKit
set_option linter.unusedVariables false

/-- Words hands back a row of words. -/
def GotW (W : World) (l : List WordD) (e : Ending) (w' : World) : Prop := ∃ ao cap, e = .returned (.slice ao l.length cap) ∧ RowAt wordK w' ao l ∧ Below W.heap.size W w'

/-- What is turned while the words are listed. -/
def RW (B k : Nat) : Prop := B ≤ k

/-- How a call of words goes on. -/
theorem refAdd_goes (B : Nat) (w4 wr : World) (v : Value) (l : List WordD) (kind word : ByteArray) (ao : Option Addr) (cap : Nat) (ts : List TagD) (hB : B ≤ w4.heap.size) (hk : Kept (RW B) w4 wr) (h : KQ wordK 48 wr B v l) (hA : ∀ w1, Kept (RW B) w4 w1 → RowAt tagK w1 ao ts) (hn : l.length + ts.length ≤ 1000000000) :
    Calls Tryz.prog 25 #[v, .slice ao ts.length cap, .string kind, .string word] wr fun e w' => ∃ v', e = .returned v' ∧ KQ wordK 48 w' B v' (l ++ ofWord kind word ts) ∧ Kept (RW B) w4 w' := by
  refine (refWordsAdd_any B v l kind word ao cap ts wr h (Nat.le_trans hB hk.size) (fun w1 h1 => hA w1 (hk.trans h1)) hn).mono ?_
  rintro e w' ⟨v', rfl, h1, h2⟩
  exact ⟨v', rfl, h1, hk.trans h2⟩

theorem RW.cell {B : Nat} {w4 w' : World} (hk : Kept (RW B) w4 w') {b : Nat} {t : TypeId} {cs : List Value} (h : Arr w4 b t cs) (hb : b < B) : Arr w' b t cs := h.kept hk (fun e => by have e' : B ≤ b := e; omega)

theorem refOne_goes (B : Nat) (w4 wr : World) (v : Value) (l : List WordD) (kind word : ByteArray) (ob : Nat) (t : TagD) (hB : B ≤ w4.heap.size) (hk : Kept (RW B) w4 wr) (h : KQ wordK 48 wr B v l) (hA : ∀ w1, Kept (RW B) w4 w1 → RowAt tagK w1 (some ⟨ob, 0, none⟩) [t]) (hn : l.length + 1 ≤ 1000000000) :
    Calls Tryz.prog 25 #[v, .slice (some ⟨ob, 0, none⟩) 1 1, .string kind, .string word] wr fun e w' => ∃ v', e = .returned v' ∧ KQ wordK 48 w' B v' (l ++ ofWord kind word [t]) ∧ Kept (RW B) w4 w' :=
  refAdd_goes B w4 wr v l kind word (some ⟨ob, 0, none⟩) 1 [t] hB hk h hA hn

theorem kept_belowR {B : Nat} {w4 wr w' : World} (hk : Kept (RW B) w4 wr) (hb : Below wr.heap.size wr w') : Kept (RW B) w4 w' := hk.trans (Kept.of_below hb)

set_option maxRecDepth 100000 in
set_option maxHeartbeats 8000000 in
theorem refWords5_any (dg : ByteArray) (vi : Int) (tg : TagD) (ba : BatM) (he : HdrM) (ce : CertM) (bl : BlkM) (q : QcM) (w : World) (hA : MsgM.At w ⟨5, dg, vi, tg, ba, he, ce, bl, q⟩) (hn : MsgM.Num ⟨5, dg, vi, tg, ba, he, ce, bl, q⟩) (hS : ∀ t ∈ ba.txs, TxSizes t.d) :
    Calls Tryz.prog 8 #[MsgM.v ⟨5, dg, vi, tg, ba, he, ce, bl, q⟩] w (fun e w' => GotW w (wordsM (MsgM.d ⟨5, dg, vi, tg, ba, he, ce, bl, q⟩)) e w') := by
  have hX := Arr.new w 39 [.int .i64 5, .string dg, .int .i64 vi, .int .i64 tg.who, .string tg.mac, .int .i64 ba.author, .int .i64 ba.number, .slice ba.ta ba.txs.length ba.tc, .int .i64 he.author, .int .i64 he.round, .slice he.ra he.refs.length he.rc, .slice he.pa he.parents.length he.pc, .int .i64 ce.hdr.author, .int .i64 ce.hdr.round, .slice ce.hdr.ra ce.hdr.refs.length ce.hdr.rc, .slice ce.hdr.pa ce.hdr.parents.length ce.hdr.pc, .slice ce.va ce.votes.length ce.vc, .int .i64 bl.view, .int .i64 bl.qc.view, .string bl.qc.block, .slice bl.qc.va bl.qc.votes.length bl.qc.vc, .slice bl.ca bl.certs.length bl.cc, .int .i64 q.view, .string q.block, .slice q.va q.votes.length q.vc]
  have hB := belowNew w (.cells [.int .i64 5, .string dg, .int .i64 vi, .int .i64 tg.who, .string tg.mac, .int .i64 ba.author, .int .i64 ba.number, .slice ba.ta ba.txs.length ba.tc, .int .i64 he.author, .int .i64 he.round, .slice he.ra he.refs.length he.rc, .slice he.pa he.parents.length he.pc, .int .i64 ce.hdr.author, .int .i64 ce.hdr.round, .slice ce.hdr.ra ce.hdr.refs.length ce.hdr.rc, .slice ce.hdr.pa ce.hdr.parents.length ce.hdr.pc, .slice ce.va ce.votes.length ce.vc, .int .i64 bl.view, .int .i64 bl.qc.view, .string bl.qc.block, .slice bl.qc.va bl.qc.votes.length bl.qc.vc, .slice bl.ca bl.certs.length bl.cc, .int .i64 q.view, .string q.block, .slice q.va q.votes.length q.vc].toArray 39)
  have cC := fun w1 h1 => refMsgCheck_any ⟨5, dg, vi, tg, ba, he, ce, bl, q⟩ w1 h1 hn hS
  obtain ⟨er, her⟩ : ∃ n : Nat, n = chkM (MsgM.d ⟨5, dg, vi, tg, ba, he, ce, bl, q⟩) := ⟨_, rfl⟩
  have HW : Hid (er ≠ 0 → wordsM (MsgM.d ⟨5, dg, vi, tg, ba, he, ce, bl, q⟩) = []) := by
    intro hz
    unfold wordsM
    rw [if_neg (by rw [← her]; exact hz)]
  have HR : Hid (er = 0 → wordsM (MsgM.d ⟨5, dg, vi, tg, ba, he, ce, bl, q⟩) = refWords (rd ce.hdr.refs) ++ tailW (MsgM.d ⟨5, dg, vi, tg, ba, he, ce, bl, q⟩)) := by
    intro hz
    have e : wordsM (MsgM.d ⟨5, dg, vi, tg, ba, he, ce, bl, q⟩) = refWords (if (5 : Int) = 5 then rd ce.hdr.refs else rd he.refs) ++ tailW (MsgM.d ⟨5, dg, vi, tg, ba, he, ce, bl, q⟩) := wordsR_eq (m := MsgM.d ⟨5, dg, vi, tg, ba, he, ce, bl, q⟩) (her.symm.trans hz)
    rw [if_pos rfl] at e
    exact e
  have HF : Hid (er = 0 → RefFit ⟨5, dg, vi, tg, ba, he, ce, bl, q⟩) := fun hz => ref_fit _ (her.symm.trans hz)
  rw [← her] at cC
  obtain ⟨ws, hws⟩ : ∃ l, l = wordsM (MsgM.d ⟨5, dg, vi, tg, ba, he, ce, bl, q⟩) := ⟨_, rfl⟩
  rw [← hws] at HW HR ⊢
  obtain ⟨tw, htw⟩ : ∃ l, l = tailW (MsgM.d ⟨5, dg, vi, tg, ba, he, ce, bl, q⟩) := ⟨_, rfl⟩
  rw [← htw] at HR
  have HT : Hid (tw = tailW (MsgM.d ⟨5, dg, vi, tg, ba, he, ce, bl, q⟩)) := htw
  have HA : Hid (MsgM.At w ⟨5, dg, vi, tg, ba, he, ce, bl, q⟩) := hA
  unfold MsgM.v MsgM.c at cC ⊢
  simp only at cC ⊢
  obtain ⟨w1, hw1⟩ : ∃ q', w.alloc (.cells [.int .i64 5, .string dg, .int .i64 vi, .int .i64 tg.who, .string tg.mac, .int .i64 ba.author, .int .i64 ba.number, .slice ba.ta ba.txs.length ba.tc, .int .i64 he.author, .int .i64 he.round, .slice he.ra he.refs.length he.rc, .slice he.pa he.parents.length he.pc, .int .i64 ce.hdr.author, .int .i64 ce.hdr.round, .slice ce.hdr.ra ce.hdr.refs.length ce.hdr.rc, .slice ce.hdr.pa ce.hdr.parents.length ce.hdr.pc, .slice ce.va ce.votes.length ce.vc, .int .i64 bl.view, .int .i64 bl.qc.view, .string bl.qc.block, .slice bl.qc.va bl.qc.votes.length bl.qc.vc, .slice bl.ca bl.certs.length bl.cc, .int .i64 q.view, .string q.block, .slice q.va q.votes.length q.vc].toArray 39) = q' := ⟨_, rfl⟩
  rw [hw1] at hX hB
  have cC1 := cC w1 (hA.below hB)
  clear her hws htw hA cC hn
  go_enter Tryz.func8, Tryz.ntmps8
  go_wp2_with (refine wpList_load_row (by rfl) 39 _ (by rfl) w.heap.size (by rfl) 39 _ (0, 0) _ hX Tryz.underlying39 (by rfl) infoMsg9 ?_)
  refine cC1.mono ?_
  rintro e w2 ⟨rfl, hb2⟩
  have hX2 := hX.below hb2 hX.lt
  have hB2 := hB.trans (hb2.mono hB.size)
  clear hX hB hb2 cC1 hw1
  by_cases hz : er = 0
  case neg =>
    have ho : Hid (ws = []) := HW.out hz
    have hz' : ((er : Int) != 0) = true := by rw [bne_iff_ne]; omega
    clear HW HR HF hz hX2
    go_wp2
    go_ret
    exact ⟨none, 0, by rw [ho.out]; rfl, by rw [ho.out]; exact nil_row _ _, hB2⟩
  subst hz
  have hR : Hid (ws = refWords (rd ce.hdr.refs) ++ tw) := HR.out rfl
  have hFit : Hid (RefFit ⟨5, dg, vi, tg, ba, he, ce, bl, q⟩) := HF.out rfl
  clear HW HR HF
  have x0 := hX2.cell (i := 0) rfl
  have x3 := hX2.cell (i := 3) rfl
  have x4 := hX2.cell (i := 4) rfl
  have x8 := hX2.cell (i := 8) rfl
  have x9 := hX2.cell (i := 9) rfl
  have x10 := hX2.cell (i := 10) rfl
  have x11 := hX2.cell (i := 11) rfl
  have x12 := hX2.cell (i := 12) rfl
  have x13 := hX2.cell (i := 13) rfl
  have x14 := hX2.cell (i := 14) rfl
  have x15 := hX2.cell (i := 15) rfl
  have lt2 := hX2.lt
  have hO := Arr.new w2 23 [.int .i64 tg.who, .string tg.mac]
  have hbO := belowNew w2 (.cells #[.int .i64 tg.who, .string tg.mac] 23)
  have hH := Arr.new (w2.alloc (.cells #[.int .i64 tg.who, .string tg.mac] 23)) 30 [.int .i64 ce.hdr.author, .int .i64 ce.hdr.round, .slice ce.hdr.ra ce.hdr.refs.length ce.hdr.rc, .slice ce.hdr.pa ce.hdr.parents.length ce.hdr.pc]
  have hbH := belowNew (w2.alloc (.cells #[.int .i64 tg.who, .string tg.mac] 23)) (.cells #[.int .i64 ce.hdr.author, .int .i64 ce.hdr.round, .slice ce.hdr.ra ce.hdr.refs.length ce.hdr.rc, .slice ce.hdr.pa ce.hdr.parents.length ce.hdr.pc] 30)
  have hs3 : (w2.alloc (.cells #[.int .i64 tg.who, .string tg.mac] 23)).heap.size = w2.heap.size + 1 := alloc_size _ _
  rw [hs3] at hH
  have hs4 : ((w2.alloc (.cells #[.int .i64 tg.who, .string tg.mac] 23)).alloc (.cells #[.int .i64 ce.hdr.author, .int .i64 ce.hdr.round, .slice ce.hdr.ra ce.hdr.refs.length ce.hdr.rc, .slice ce.hdr.pa ce.hdr.parents.length ce.hdr.pc] 30)).heap.size = w2.heap.size + 1 + 1 := by rw [alloc_size, hs3]
  have hO4 := hO.below hbH hO.lt
  have hb4 := hbO.trans (hbH.mono hbO.size)
  have hX4 := (hX2.below hb4 hX2.lt)
  have hB4 := hB2.trans (hb4.mono hB2.size)
  clear hO hbO hbH hs3 hX2 hb4 hB2
  go_wp2_with fail
  generalize World.alloc _ _ = w4 at hO4 hH hX4 hB4 hs4 ⊢
  obtain ⟨ob, hob⟩ : ∃ n, Hid (w2.heap.size = n) := ⟨_, rfl⟩
  obtain ⟨hb, hhb⟩ : ∃ n, Hid (w2.heap.size + 1 = n) := ⟨_, rfl⟩
  obtain ⟨Bd, hBde⟩ : ∃ n, Hid (w2.heap.size + 1 + 1 = n) := ⟨_, rfl⟩
  rw [hBde.out] at hs4
  have hBd : Bd ≤ w4.heap.size := by omega
  have hoB : ob < Bd := by have := hob.out; have := hBde.out; omega
  have hhB : hb < Bd := by have := hhb.out; have := hBde.out; omega
  have hXB : w.heap.size < Bd := by have := hBde.out; omega
  rw [hhb.out] at hH ⊢
  rw [hob.out] at hO4 ⊢
  have hH4 := hH
  clear hH hs4 x0 x3 x4 x8 x9 x10 x11 x12 x13 x14 x15 lt2 hob hhb hBde
  have HX4 : Hid (Arr w4 w.heap.size 39 [.int .i64 5, .string dg, .int .i64 vi, .int .i64 tg.who, .string tg.mac, .int .i64 ba.author, .int .i64 ba.number, .slice ba.ta ba.txs.length ba.tc, .int .i64 he.author, .int .i64 he.round, .slice he.ra he.refs.length he.rc, .slice he.pa he.parents.length he.pc, .int .i64 ce.hdr.author, .int .i64 ce.hdr.round, .slice ce.hdr.ra ce.hdr.refs.length ce.hdr.rc, .slice ce.hdr.pa ce.hdr.parents.length ce.hdr.pc, .slice ce.va ce.votes.length ce.vc, .int .i64 bl.view, .int .i64 bl.qc.view, .string bl.qc.block, .slice bl.qc.va bl.qc.votes.length bl.qc.vc, .slice bl.ca bl.certs.length bl.cc, .int .i64 q.view, .string q.block, .slice q.va q.votes.length q.vc]) := hX4
  have HA4 : Hid (∀ wr, Kept (RW Bd) w4 wr → MsgM.At wr ⟨5, dg, vi, tg, ba, he, ce, bl, q⟩) := fun wr hk => HA.out.below (hB4.trans ((hk.below hBd (fun _ e => e)).mono (by omega)))
  have hQ0 : KQ wordK 48 w4 Bd (.slice none 0 0) [] := KQ.empty _ _ _ _
  have hrl : ce.hdr.refs.length ≤ 4 := hFit.out.crefs
  have hrw : (refWords (rd ce.hdr.refs)).length ≤ 28 := hFit.out.crw
  go_loopw [3, 6] (fun v3 v6 wr => ∃ i : Nat, i ≤ ce.hdr.refs.length ∧ v6 = .int .i64 (i : Int) ∧ KQ wordK 48 wr Bd v3 (refWords (rd (ce.hdr.refs.take i))) ∧ Kept (RW Bd) w4 wr) (fun _ v _ => ce.hdr.refs.length - (intOf v).toNat)
  case atStart => exact ⟨0, Nat.zero_le _, rfl, hQ0, Kept.refl _ _⟩
  case round =>
    obtain ⟨i, hil, rfl, hQ, hk⟩ := hrel
    clear hQ0
    have c2 := (RW.cell hk hH4 hhB).cell (i := 2) rfl
    by_cases hlt : i < ce.hdr.refs.length
    · have g1 : (i : Int) < (ce.hdr.refs.length : Int) := by omega
      obtain ⟨r, hr0⟩ : ∃ r, ce.hdr.refs[i]? = some r := ⟨_, List.getElem?_eq_getElem hlt⟩
      have hms := refWords_succ ce.hdr.refs i r hr0
      have hle := refWords_le ce.hdr.refs (i + 1)
      rw [hms, List.length_append, ofWord_length] at hle
      obtain ⟨ms, hmse⟩ : ∃ z, z = refWords (rd (ce.hdr.refs.take i)) := ⟨_, rfl⟩
      rw [← hmse] at hQ hms hle
      have Hms : Hid (refWords (rd (ce.hdr.refs.take (i + 1))) = ms ++ ofWord ackB r.digest r.acks) := hms
      have hRw : ∀ w1, Kept (RW Bd) w4 w1 → RowAt refK w1 ce.hdr.ra ce.hdr.refs := fun w1 h1 => (HA4.out w1 h1).cert.hdr.refs
      have hK : ∀ w1, Kept (RW Bd) w4 w1 → RowAt tagK w1 r.ao r.acks := fun w1 h1 => ((hRw w1 h1).at_ r (List.mem_of_getElem? hr0)).1
      obtain ⟨b, off, hra, hbl, _, _⟩ := (hRw wr hk).ref hr0
      have hS2 : ∀ w1, Kept (RW Bd) w4 w1 → w1.cell? ⟨hb, 2, none⟩ = some (.slice (some ⟨b, off, none⟩) ce.hdr.refs.length ce.hdr.rc) ∧ w1.cell? ⟨b, off + i * 2, none⟩ = some (.string r.digest) ∧ w1.cell? ⟨b, off + i * 2 + 1, none⟩ = some (.slice r.ao r.acks.length r.cap) := by
        intro w1 h1
        obtain ⟨b', off', e', _, z0, z1⟩ := (hRw w1 h1).ref hr0
        rw [hra] at e'
        simp only [Option.some.injEq, Addr.mk.injEq, and_true] at e'
        obtain ⟨rfl, rfl⟩ := e'
        have z2 := (RW.cell h1 hH4 hhB).cell (i := 2) rfl
        rw [hra] at z2
        exact ⟨z2, z0, z1⟩
      rw [hra] at c2
      have hkd : Kept (RW Bd) w4 wr.drew := hk.trans (Kept.of_below (below_drewN (Below.refl _ wr) 1))
      have hQd : KQ wordK 48 wr.drew Bd u3 ms := hQ.below (below_drewN (Below.refl _ wr) 1)
      have cA := fun w1 (h1 : Kept (RW Bd) w4 w1) (h2 : KQ wordK 48 w1 Bd u3 ms) => refAdd_goes Bd w4 w1 u3 ms ackB r.digest r.ao r.cap r.acks hBd h1 h2 hK (by omega)
      unfold ackB at cA
      clear hms hle hmse hRw hK hQ hra
      go_wp2_with fail
      go_region_held3 (fun w' => w'.cell? ⟨hb, 2, none⟩ = some (.slice (some ⟨b, off, none⟩) ce.hdr.refs.length ce.hdr.rc) ∧ w'.cell? ⟨b, off + i * 2, none⟩ = some (.string r.digest) ∧ w'.cell? ⟨b, off + i * 2 + 1, none⟩ = some (.slice r.ao r.acks.length r.cap)) (exact hS2 _ (by assumption))
        (first | (go_at_call 25; refine (cA _ hkd hQd).mono ?_; rintro e w5 ⟨v5, rfl, hQ5, hk5⟩))
      clear cA hS2 hkd hQd c2
      go_wp2
      go_roundw
      case rel => exact ⟨i + 1, by omega, by go_num, by rw [Hms.out]; exact hQ5, hk5⟩
      case measure => simp [intOf]; omega
    · obtain rfl : i = ce.hdr.refs.length := by omega
      rw [List.take_length] at hQ
      have g1 : ¬ ((ce.hdr.refs.length : Nat) : Int) < (ce.hdr.refs.length : Int) := by omega
      have hQ1 : KQ wordK 48 wr Bd u3 (refWords (rd ce.hdr.refs)) := hQ
      clear hQ
      obtain ⟨ms, hms⟩ : ∃ l, Hid (refWords (rd ce.hdr.refs) = l) := ⟨_, rfl⟩
      rw [hms.out] at hQ1 hrw
      have hR1 : Hid (ws = ms ++ tw) := hR.out.trans (by rw [← hms.out])
      have x0 := (RW.cell hk HX4.out hXB).cell (i := 0) rfl
      have hct := hFit.out.cert (by show 99 ∈ fieldsK 5; decide)
      have hv : ∀ w1, Kept (RW Bd) w4 w1 → RowAt tagK w1 ce.va ce.votes := fun w1 h1 => (HA4.out w1 h1).cert.votes
      obtain ⟨wd, hwd⟩ : ∃ z, Hid (idH9 ce.hdr.d = z) := ⟨_, rfl⟩
      have cI : ∀ w1, Kept (RW Bd) w4 w1 → Calls Tryz.prog 26 #[ce.hdr.v] w1 fun e w2 => e = .returned (.string wd) ∧ Below w1.heap.size w1 w2 := fun w1 h1 => by rw [← hwd.out]; exact refHdrId_any ce.hdr w1 (HA4.out w1 h1).cert.hdr hct.1 hct.2.1
      unfold HdrM.v at cI
      have hvl : ce.votes.length ≤ 7 := hct.2.2
      have cA := fun w1 (h1 : Kept (RW Bd) w4 w1) (h2 : KQ wordK 48 w1 Bd u3 ms) => refAdd_goes Bd w4 w1 u3 ms voteB wd ce.va ce.vc ce.votes hBd h1 h2 hv (by omega)
      unfold voteB at cA
      have hSc : ∀ w', Kept (RW Bd) w4 w' → w'.cell? ⟨w.heap.size, 16, none⟩ = some (.slice ce.va ce.votes.length ce.vc) ∧ w'.cell? ⟨hb, 0, none⟩ = some (.int .i64 ce.hdr.author) ∧ w'.cell? ⟨hb, 1, none⟩ = some (.int .i64 ce.hdr.round) ∧ w'.cell? ⟨hb, 2, none⟩ = some (.slice ce.hdr.ra ce.hdr.refs.length ce.hdr.rc) ∧ w'.cell? ⟨hb, 3, none⟩ = some (.slice ce.hdr.pa ce.hdr.parents.length ce.hdr.pc) := fun w' h1 => ⟨(RW.cell h1 HX4.out hXB).cell (i := 16) rfl, (RW.cell h1 hH4 hhB).cell (i := 0) rfl, (RW.cell h1 hH4 hhB).cell (i := 1) rfl, (RW.cell h1 hH4 hhB).cell (i := 2) rfl, (RW.cell h1 hH4 hhB).cell (i := 3) rfl⟩
      have hkd : Kept (RW Bd) w4 wr.drew := hk.trans (Kept.of_below (below_drewN (Below.refl _ wr) 1))
      have hQd : KQ wordK 48 wr.drew Bd u3 ms := hQ1.below (below_drewN (Below.refl _ wr) 1)
      go_wp2_with fail
      go_region_held3 (fun w' => w'.cell? ⟨w.heap.size, 16, none⟩ = some (.slice ce.va ce.votes.length ce.vc) ∧ w'.cell? ⟨hb, 0, none⟩ = some (.int .i64 ce.hdr.author) ∧ w'.cell? ⟨hb, 1, none⟩ = some (.int .i64 ce.hdr.round) ∧ w'.cell? ⟨hb, 2, none⟩ = some (.slice ce.hdr.ra ce.hdr.refs.length ce.hdr.rc) ∧ w'.cell? ⟨hb, 3, none⟩ = some (.slice ce.hdr.pa ce.hdr.parents.length ce.hdr.pc)) (exact hSc _ (by assumption))
        (first
        | (go_at_call 26; refine (cI _ hkd).mono ?_; rintro e w6 ⟨rfl, hb6⟩; have hk6 := kept_belowR hkd hb6; have hQ6 := hQd.below hb6)
        | (go_at_call 25; refine (cA _ hk6 hQ6).mono ?_; rintro e w9 ⟨v9, rfl, hQ9', hk9⟩))
      have hQ9 : KQ wordK 48 w9 Bd v9 (ms ++ ofWord voteB (idH9 ce.hdr.d) ce.votes) := by rw [hwd.out]; exact hQ9'
      clear hQ9' hQ6 hk6 hb6 hkd hQd cA cI hv hSc hQ1
      have hbF : Below w.heap.size w w9 := hB4.trans (hk9.below hB4.size (fun j e => by have e' : Bd ≤ j := e; omega))
      obtain ⟨wl, hwl⟩ : ∃ z, Hid (ms ++ ofWord voteB (idH9 ce.hdr.d) ce.votes = z) := ⟨_, rfl⟩
      rw [hwl.out] at hQ9
      obtain ⟨ao9, cap9, rfl, _, hRow9⟩ := hQ9.form
      have e9 : Hid (ws = wl) := by show ws = _; rw [← hwl.out, hR1.out, HT.out]; rfl
      go_wp2
      go_ret
      exact ⟨ao9, cap9, by rw [e9.out]; rfl, by rw [e9.out]; exact hRow9, hbF⟩

set_option maxRecDepth 100000 in
set_option maxHeartbeats 8000000 in
theorem refWordsK_any (k : Int) (dg : ByteArray) (vi : Int) (tg : TagD) (ba : BatM) (he : HdrM) (ce : CertM) (bl : BlkM) (q : QcM) (w : World) (hA : MsgM.At w ⟨k, dg, vi, tg, ba, he, ce, bl, q⟩) (hn : MsgM.Num ⟨k, dg, vi, tg, ba, he, ce, bl, q⟩) (hS : ∀ t ∈ ba.txs, TxSizes t.d) (hk5 : k ≠ 5) :
    Calls Tryz.prog 8 #[MsgM.v ⟨k, dg, vi, tg, ba, he, ce, bl, q⟩] w (fun e w' => GotW w (wordsM (MsgM.d ⟨k, dg, vi, tg, ba, he, ce, bl, q⟩)) e w') := by
  have hX := Arr.new w 39 [.int .i64 k, .string dg, .int .i64 vi, .int .i64 tg.who, .string tg.mac, .int .i64 ba.author, .int .i64 ba.number, .slice ba.ta ba.txs.length ba.tc, .int .i64 he.author, .int .i64 he.round, .slice he.ra he.refs.length he.rc, .slice he.pa he.parents.length he.pc, .int .i64 ce.hdr.author, .int .i64 ce.hdr.round, .slice ce.hdr.ra ce.hdr.refs.length ce.hdr.rc, .slice ce.hdr.pa ce.hdr.parents.length ce.hdr.pc, .slice ce.va ce.votes.length ce.vc, .int .i64 bl.view, .int .i64 bl.qc.view, .string bl.qc.block, .slice bl.qc.va bl.qc.votes.length bl.qc.vc, .slice bl.ca bl.certs.length bl.cc, .int .i64 q.view, .string q.block, .slice q.va q.votes.length q.vc]
  have hB := belowNew w (.cells [.int .i64 k, .string dg, .int .i64 vi, .int .i64 tg.who, .string tg.mac, .int .i64 ba.author, .int .i64 ba.number, .slice ba.ta ba.txs.length ba.tc, .int .i64 he.author, .int .i64 he.round, .slice he.ra he.refs.length he.rc, .slice he.pa he.parents.length he.pc, .int .i64 ce.hdr.author, .int .i64 ce.hdr.round, .slice ce.hdr.ra ce.hdr.refs.length ce.hdr.rc, .slice ce.hdr.pa ce.hdr.parents.length ce.hdr.pc, .slice ce.va ce.votes.length ce.vc, .int .i64 bl.view, .int .i64 bl.qc.view, .string bl.qc.block, .slice bl.qc.va bl.qc.votes.length bl.qc.vc, .slice bl.ca bl.certs.length bl.cc, .int .i64 q.view, .string q.block, .slice q.va q.votes.length q.vc].toArray 39)
  have cC := fun w1 h1 => refMsgCheck_any ⟨k, dg, vi, tg, ba, he, ce, bl, q⟩ w1 h1 hn hS
  obtain ⟨er, her⟩ : ∃ n : Nat, n = chkM (MsgM.d ⟨k, dg, vi, tg, ba, he, ce, bl, q⟩) := ⟨_, rfl⟩
  have HW : Hid (er ≠ 0 → wordsM (MsgM.d ⟨k, dg, vi, tg, ba, he, ce, bl, q⟩) = []) := by
    intro hz
    unfold wordsM
    rw [if_neg (by rw [← her]; exact hz)]
  have HR : Hid (er = 0 → wordsM (MsgM.d ⟨k, dg, vi, tg, ba, he, ce, bl, q⟩) = refWords (rd he.refs) ++ tailW (MsgM.d ⟨k, dg, vi, tg, ba, he, ce, bl, q⟩)) := by
    intro hz
    have e : wordsM (MsgM.d ⟨k, dg, vi, tg, ba, he, ce, bl, q⟩) = refWords (if k = 5 then rd ce.hdr.refs else rd he.refs) ++ tailW (MsgM.d ⟨k, dg, vi, tg, ba, he, ce, bl, q⟩) := wordsR_eq (m := MsgM.d ⟨k, dg, vi, tg, ba, he, ce, bl, q⟩) (her.symm.trans hz)
    rw [if_neg hk5] at e
    exact e
  have HN0 : Hid (er = 0 → fieldsK k ≠ []) := fun hz => (chkM_parts (her.symm.trans hz)).1
  have HF : Hid (er = 0 → RefFit ⟨k, dg, vi, tg, ba, he, ce, bl, q⟩) := fun hz => ref_fit _ (her.symm.trans hz)
  rw [← her] at cC
  obtain ⟨ws, hws⟩ : ∃ l, l = wordsM (MsgM.d ⟨k, dg, vi, tg, ba, he, ce, bl, q⟩) := ⟨_, rfl⟩
  rw [← hws] at HW HR ⊢
  obtain ⟨tw, htw⟩ : ∃ l, l = tailW (MsgM.d ⟨k, dg, vi, tg, ba, he, ce, bl, q⟩) := ⟨_, rfl⟩
  rw [← htw] at HR
  have HT : Hid (tw = tailW (MsgM.d ⟨k, dg, vi, tg, ba, he, ce, bl, q⟩)) := htw
  have HA : Hid (MsgM.At w ⟨k, dg, vi, tg, ba, he, ce, bl, q⟩) := hA
  unfold MsgM.v MsgM.c at cC ⊢
  simp only at cC ⊢
  obtain ⟨w1, hw1⟩ : ∃ q', w.alloc (.cells [.int .i64 k, .string dg, .int .i64 vi, .int .i64 tg.who, .string tg.mac, .int .i64 ba.author, .int .i64 ba.number, .slice ba.ta ba.txs.length ba.tc, .int .i64 he.author, .int .i64 he.round, .slice he.ra he.refs.length he.rc, .slice he.pa he.parents.length he.pc, .int .i64 ce.hdr.author, .int .i64 ce.hdr.round, .slice ce.hdr.ra ce.hdr.refs.length ce.hdr.rc, .slice ce.hdr.pa ce.hdr.parents.length ce.hdr.pc, .slice ce.va ce.votes.length ce.vc, .int .i64 bl.view, .int .i64 bl.qc.view, .string bl.qc.block, .slice bl.qc.va bl.qc.votes.length bl.qc.vc, .slice bl.ca bl.certs.length bl.cc, .int .i64 q.view, .string q.block, .slice q.va q.votes.length q.vc].toArray 39) = q' := ⟨_, rfl⟩
  rw [hw1] at hX hB
  have cC1 := cC w1 (hA.below hB)
  have HK5 : Hid (k ≠ 5) := hk5
  have e5 : (k == 5) = false := by rw [beq_eq_false_iff_ne]; exact hk5
  clear her hws htw hA cC hn hk5
  go_enter Tryz.func8, Tryz.ntmps8
  go_wp2_with (refine wpList_load_row (by rfl) 39 _ (by rfl) w.heap.size (by rfl) 39 _ (0, 0) _ hX Tryz.underlying39 (by rfl) infoMsg9 ?_)
  refine cC1.mono ?_
  rintro e w2 ⟨rfl, hb2⟩
  have hX2 := hX.below hb2 hX.lt
  have hB2 := hB.trans (hb2.mono hB.size)
  clear hX hB hb2 cC1 hw1
  by_cases hz : er = 0
  case neg =>
    have ho : Hid (ws = []) := HW.out hz
    have hz' : ((er : Int) != 0) = true := by rw [bne_iff_ne]; omega
    clear HW HR HF hz hX2
    go_wp2
    go_ret
    exact ⟨none, 0, by rw [ho.out]; rfl, by rw [ho.out]; exact nil_row _ _, hB2⟩
  subst hz
  have hR : Hid (ws = refWords (rd he.refs) ++ tw) := HR.out rfl
  have hFit : Hid (RefFit ⟨k, dg, vi, tg, ba, he, ce, bl, q⟩) := HF.out rfl
  have HN : Hid (fieldsK k ≠ []) := HN0.out rfl
  clear HW HR HF HN0
  have x0 := hX2.cell (i := 0) rfl
  have x3 := hX2.cell (i := 3) rfl
  have x4 := hX2.cell (i := 4) rfl
  have x8 := hX2.cell (i := 8) rfl
  have x9 := hX2.cell (i := 9) rfl
  have x10 := hX2.cell (i := 10) rfl
  have x11 := hX2.cell (i := 11) rfl
  have lt2 := hX2.lt
  have hO := Arr.new w2 23 [.int .i64 tg.who, .string tg.mac]
  have hbO := belowNew w2 (.cells #[.int .i64 tg.who, .string tg.mac] 23)
  have hH := Arr.new (w2.alloc (.cells #[.int .i64 tg.who, .string tg.mac] 23)) 30 [.int .i64 he.author, .int .i64 he.round, .slice he.ra he.refs.length he.rc, .slice he.pa he.parents.length he.pc]
  have hbH := belowNew (w2.alloc (.cells #[.int .i64 tg.who, .string tg.mac] 23)) (.cells #[.int .i64 he.author, .int .i64 he.round, .slice he.ra he.refs.length he.rc, .slice he.pa he.parents.length he.pc] 30)
  have hs3 : (w2.alloc (.cells #[.int .i64 tg.who, .string tg.mac] 23)).heap.size = w2.heap.size + 1 := alloc_size _ _
  rw [hs3] at hH
  have hs4 : ((w2.alloc (.cells #[.int .i64 tg.who, .string tg.mac] 23)).alloc (.cells #[.int .i64 he.author, .int .i64 he.round, .slice he.ra he.refs.length he.rc, .slice he.pa he.parents.length he.pc] 30)).heap.size = w2.heap.size + 1 + 1 := by rw [alloc_size, hs3]
  have hO4 := hO.below hbH hO.lt
  have hb4 := hbO.trans (hbH.mono hbO.size)
  have hX4 := (hX2.below hb4 hX2.lt)
  have hB4 := hB2.trans (hb4.mono hB2.size)
  clear hO hbO hbH hs3 hX2 hb4 hB2
  go_wp2_with fail
  generalize World.alloc _ _ = w4 at hO4 hH hX4 hB4 hs4 ⊢
  obtain ⟨ob, hob⟩ : ∃ n, Hid (w2.heap.size = n) := ⟨_, rfl⟩
  obtain ⟨hb, hhb⟩ : ∃ n, Hid (w2.heap.size + 1 = n) := ⟨_, rfl⟩
  obtain ⟨Bd, hBde⟩ : ∃ n, Hid (w2.heap.size + 1 + 1 = n) := ⟨_, rfl⟩
  rw [hBde.out] at hs4
  have hBd : Bd ≤ w4.heap.size := by omega
  have hoB : ob < Bd := by have := hob.out; have := hBde.out; omega
  have hhB : hb < Bd := by have := hhb.out; have := hBde.out; omega
  have hXB : w.heap.size < Bd := by have := hBde.out; omega
  rw [hhb.out] at hH ⊢
  rw [hob.out] at hO4 ⊢
  have hH4 := hH
  clear hH hs4 x0 x3 x4 x8 x9 x10 x11 lt2 hob hhb hBde
  have HX4 : Hid (Arr w4 w.heap.size 39 [.int .i64 k, .string dg, .int .i64 vi, .int .i64 tg.who, .string tg.mac, .int .i64 ba.author, .int .i64 ba.number, .slice ba.ta ba.txs.length ba.tc, .int .i64 he.author, .int .i64 he.round, .slice he.ra he.refs.length he.rc, .slice he.pa he.parents.length he.pc, .int .i64 ce.hdr.author, .int .i64 ce.hdr.round, .slice ce.hdr.ra ce.hdr.refs.length ce.hdr.rc, .slice ce.hdr.pa ce.hdr.parents.length ce.hdr.pc, .slice ce.va ce.votes.length ce.vc, .int .i64 bl.view, .int .i64 bl.qc.view, .string bl.qc.block, .slice bl.qc.va bl.qc.votes.length bl.qc.vc, .slice bl.ca bl.certs.length bl.cc, .int .i64 q.view, .string q.block, .slice q.va q.votes.length q.vc]) := hX4
  have HA4 : Hid (∀ wr, Kept (RW Bd) w4 wr → MsgM.At wr ⟨k, dg, vi, tg, ba, he, ce, bl, q⟩) := fun wr hk => HA.out.below (hB4.trans ((hk.below hBd (fun _ e => e)).mono (by omega)))
  have hQ0 : KQ wordK 48 w4 Bd (.slice none 0 0) [] := KQ.empty _ _ _ _
  have hrl : he.refs.length ≤ 4 := hFit.out.refs
  have hrw : (refWords (rd he.refs)).length ≤ 28 := hFit.out.rw_
  go_loopw [3, 6] (fun v3 v6 wr => ∃ i : Nat, i ≤ he.refs.length ∧ v6 = .int .i64 (i : Int) ∧ KQ wordK 48 wr Bd v3 (refWords (rd (he.refs.take i))) ∧ Kept (RW Bd) w4 wr) (fun _ v _ => he.refs.length - (intOf v).toNat)
  case atStart => exact ⟨0, Nat.zero_le _, rfl, hQ0, Kept.refl _ _⟩
  case round =>
    obtain ⟨i, hil, rfl, hQ, hk⟩ := hrel
    clear hQ0
    have c2 := (RW.cell hk hH4 hhB).cell (i := 2) rfl
    by_cases hlt : i < he.refs.length
    · have g1 : (i : Int) < (he.refs.length : Int) := by omega
      obtain ⟨r, hr0⟩ : ∃ r, he.refs[i]? = some r := ⟨_, List.getElem?_eq_getElem hlt⟩
      have hms := refWords_succ he.refs i r hr0
      have hle := refWords_le he.refs (i + 1)
      rw [hms, List.length_append, ofWord_length] at hle
      obtain ⟨ms, hmse⟩ : ∃ z, z = refWords (rd (he.refs.take i)) := ⟨_, rfl⟩
      rw [← hmse] at hQ hms hle
      have Hms : Hid (refWords (rd (he.refs.take (i + 1))) = ms ++ ofWord ackB r.digest r.acks) := hms
      have hRw : ∀ w1, Kept (RW Bd) w4 w1 → RowAt refK w1 he.ra he.refs := fun w1 h1 => (HA4.out w1 h1).hdr.refs
      have hK : ∀ w1, Kept (RW Bd) w4 w1 → RowAt tagK w1 r.ao r.acks := fun w1 h1 => ((hRw w1 h1).at_ r (List.mem_of_getElem? hr0)).1
      obtain ⟨b, off, hra, hbl, _, _⟩ := (hRw wr hk).ref hr0
      have hS2 : ∀ w1, Kept (RW Bd) w4 w1 → w1.cell? ⟨hb, 2, none⟩ = some (.slice (some ⟨b, off, none⟩) he.refs.length he.rc) ∧ w1.cell? ⟨b, off + i * 2, none⟩ = some (.string r.digest) ∧ w1.cell? ⟨b, off + i * 2 + 1, none⟩ = some (.slice r.ao r.acks.length r.cap) := by
        intro w1 h1
        obtain ⟨b', off', e', _, z0, z1⟩ := (hRw w1 h1).ref hr0
        rw [hra] at e'
        simp only [Option.some.injEq, Addr.mk.injEq, and_true] at e'
        obtain ⟨rfl, rfl⟩ := e'
        have z2 := (RW.cell h1 hH4 hhB).cell (i := 2) rfl
        rw [hra] at z2
        exact ⟨z2, z0, z1⟩
      rw [hra] at c2
      have hkd : Kept (RW Bd) w4 wr.drew := hk.trans (Kept.of_below (below_drewN (Below.refl _ wr) 1))
      have hQd : KQ wordK 48 wr.drew Bd u3 ms := hQ.below (below_drewN (Below.refl _ wr) 1)
      have cA := fun w1 (h1 : Kept (RW Bd) w4 w1) (h2 : KQ wordK 48 w1 Bd u3 ms) => refAdd_goes Bd w4 w1 u3 ms ackB r.digest r.ao r.cap r.acks hBd h1 h2 hK (by omega)
      unfold ackB at cA
      clear hms hle hmse hRw hK hQ hra
      go_wp2_with fail
      go_region_held3 (fun w' => w'.cell? ⟨hb, 2, none⟩ = some (.slice (some ⟨b, off, none⟩) he.refs.length he.rc) ∧ w'.cell? ⟨b, off + i * 2, none⟩ = some (.string r.digest) ∧ w'.cell? ⟨b, off + i * 2 + 1, none⟩ = some (.slice r.ao r.acks.length r.cap)) (exact hS2 _ (by assumption))
        (first | (go_at_call 25; refine (cA _ hkd hQd).mono ?_; rintro e w5 ⟨v5, rfl, hQ5, hk5⟩))
      clear cA hS2 hkd hQd c2
      go_wp2
      go_roundw
      case rel => exact ⟨i + 1, by omega, by go_num, by rw [Hms.out]; exact hQ5, hk5⟩
      case measure => simp [intOf]; omega
    · obtain rfl : i = he.refs.length := by omega
      rw [List.take_length] at hQ
      have g1 : ¬ ((he.refs.length : Nat) : Int) < (he.refs.length : Int) := by omega
      have hQ1 : KQ wordK 48 wr Bd u3 (refWords (rd he.refs)) := hQ
      clear hQ
      obtain ⟨ms, hms⟩ : ∃ l, Hid (refWords (rd he.refs) = l) := ⟨_, rfl⟩
      rw [hms.out] at hQ1 hrw
      have hR1 : Hid (ws = ms ++ tw) := hR.out.trans (by rw [← hms.out])
      have x0 := (RW.cell hk HX4.out hXB).cell (i := 0) rfl
      have hkc : k = 1 ∨ k = 2 ∨ k = 3 ∨ k = 4 ∨ k = 6 ∨ k = 7 ∨ k = 8 ∨ k = 9 ∨ k = 10 ∨ k = 11 := by
        have := kind_cases HN.out
        have := HK5.out
        omega
      clear e5 HK5
      rcases hkc with rfl | rfl | rfl | rfl | rfl | rfl | rfl | rfl | rfl | rfl
      · have hbF : Below w.heap.size w wr := hB4.trans (hk.below hB4.size (fun j e => by have e' : Bd ≤ j := e; omega))
        obtain ⟨ao9, cap9, rfl, _, hRow9⟩ := hQ1.form
        have e9 : Hid (ws = ms) := by show ws = _; rw [hR1.out, HT.out]; exact List.append_nil _
        go_wp2
        go_ret
        exact ⟨ao9, cap9, by rw [e9.out]; rfl, by rw [e9.out]; exact hRow9, hbF⟩
      · have hOne : ∀ w1, Kept (RW Bd) w4 w1 → RowAt tagK w1 (some ⟨ob, 0, none⟩) [tg] := fun w1 h1 => one_tag (RW.cell h1 hO4 hoB)
        have c1 := (RW.cell hk HX4.out hXB).cell (i := 1) rfl
        have cA := refOne_goes Bd w4 wr u3 ms ackB dg ob tg hBd hk hQ1 hOne (by omega)
        have cB := cA
        unfold ackB at cA
        go_wp2_with fail
        refine cA.mono ?_
        clear cA cB
        rintro e w9 ⟨v9, rfl, hQ9', hk9⟩
        have hQ9 : KQ wordK 48 w9 Bd v9 (ms ++ ofWord ackB dg [tg]) := hQ9'
        clear hQ9'
        have hbF : Below w.heap.size w w9 := hB4.trans (hk9.below hB4.size (fun j e => by have e' : Bd ≤ j := e; omega))
        obtain ⟨wl, hwl⟩ : ∃ z, Hid (ms ++ ofWord ackB dg [tg] = z) := ⟨_, rfl⟩
        rw [hwl.out] at hQ9
        obtain ⟨ao9, cap9, rfl, _, hRow9⟩ := hQ9.form
        have e9 : Hid (ws = wl) := by show ws = _; rw [← hwl.out, hR1.out, HT.out]; rfl
        go_wp2
        go_ret
        exact ⟨ao9, cap9, by rw [e9.out]; rfl, by rw [e9.out]; exact hRow9, hbF⟩
      · have hbF : Below w.heap.size w wr := hB4.trans (hk.below hB4.size (fun j e => by have e' : Bd ≤ j := e; omega))
        obtain ⟨ao9, cap9, rfl, _, hRow9⟩ := hQ1.form
        have e9 : Hid (ws = ms) := by show ws = _; rw [hR1.out, HT.out]; exact List.append_nil _
        go_wp2
        go_ret
        exact ⟨ao9, cap9, by rw [e9.out]; rfl, by rw [e9.out]; exact hRow9, hbF⟩
      · have hOne : ∀ w1, Kept (RW Bd) w4 w1 → RowAt tagK w1 (some ⟨ob, 0, none⟩) [tg] := fun w1 h1 => one_tag (RW.cell h1 hO4 hoB)
        have c1 := (RW.cell hk HX4.out hXB).cell (i := 1) rfl
        have cA := refOne_goes Bd w4 wr u3 ms voteB dg ob tg hBd hk hQ1 hOne (by omega)
        have cB := cA
        unfold voteB at cA
        go_wp2_with fail
        refine cA.mono ?_
        clear cA cB
        rintro e w9 ⟨v9, rfl, hQ9', hk9⟩
        have hQ9 : KQ wordK 48 w9 Bd v9 (ms ++ ofWord voteB dg [tg]) := hQ9'
        clear hQ9'
        have hbF : Below w.heap.size w w9 := hB4.trans (hk9.below hB4.size (fun j e => by have e' : Bd ≤ j := e; omega))
        obtain ⟨wl, hwl⟩ : ∃ z, Hid (ms ++ ofWord voteB dg [tg] = z) := ⟨_, rfl⟩
        rw [hwl.out] at hQ9
        obtain ⟨ao9, cap9, rfl, _, hRow9⟩ := hQ9.form
        have e9 : Hid (ws = wl) := by show ws = _; rw [← hwl.out, hR1.out, HT.out]; rfl
        go_wp2
        go_ret
        exact ⟨ao9, cap9, by rw [e9.out]; rfl, by rw [e9.out]; exact hRow9, hbF⟩
      · have hv : ∀ w1, Kept (RW Bd) w4 w1 → RowAt tagK w1 bl.qc.va bl.qc.votes := fun w1 h1 => (HA4.out w1 h1).blk.qc.votes
        obtain ⟨wd, hwd⟩ : ∃ z, Hid (wordB bl.qc.view bl.qc.block = z) := ⟨_, rfl⟩
        have cW := fun w1 => refWord_any bl.qc.view bl.qc.block w1 (hFit.out.blk (by show 107 ∈ fieldsK 6; decide)).2.2.1
        rw [hwd.out] at cW
        have hvl : bl.qc.votes.length ≤ 7 := (hFit.out.blk (by show 107 ∈ fieldsK 6; decide)).2.2.2
        have cA := fun w1 (h1 : Kept (RW Bd) w4 w1) (h2 : KQ wordK 48 w1 Bd u3 ms) => refAdd_goes Bd w4 w1 u3 ms agreeB wd bl.qc.va bl.qc.vc bl.qc.votes hBd h1 h2 hv (by omega)
        unfold agreeB at cA
        have hSc : ∀ w', Kept (RW Bd) w4 w' → w'.cell? ⟨w.heap.size, 18, none⟩ = some (.int .i64 bl.qc.view) ∧ w'.cell? ⟨w.heap.size, 19, none⟩ = some (.string bl.qc.block) ∧ w'.cell? ⟨w.heap.size, 20, none⟩ = some (.slice bl.qc.va bl.qc.votes.length bl.qc.vc) := fun w' h1 => ⟨(RW.cell h1 HX4.out hXB).cell (i := 18) rfl, (RW.cell h1 HX4.out hXB).cell (i := 19) rfl, (RW.cell h1 HX4.out hXB).cell (i := 20) rfl⟩
        have hkd : Kept (RW Bd) w4 wr.drew := hk.trans (Kept.of_below (below_drewN (Below.refl _ wr) 1))
        have hQd : KQ wordK 48 wr.drew Bd u3 ms := hQ1.below (below_drewN (Below.refl _ wr) 1)
        go_wp2_with fail
        go_region_held3 (fun w' => w'.cell? ⟨w.heap.size, 18, none⟩ = some (.int .i64 bl.qc.view) ∧ w'.cell? ⟨w.heap.size, 19, none⟩ = some (.string bl.qc.block) ∧ w'.cell? ⟨w.heap.size, 20, none⟩ = some (.slice bl.qc.va bl.qc.votes.length bl.qc.vc)) (exact hSc _ (by assumption))
          (first
          | (go_at_call 27; refine (cW _).mono ?_; rintro e w6 ⟨rfl, hb6⟩; have hk6 := kept_belowR hkd hb6; have hQ6 := hQd.below hb6)
          | (go_at_call 25; refine (cA _ hk6 hQ6).mono ?_; rintro e w7 ⟨v7, rfl, hQ7', hk7⟩))
        have hQ7 : KQ wordK 48 w7 Bd v7 (ms ++ ofWord agreeB (wordB bl.qc.view bl.qc.block) bl.qc.votes) := by rw [hwd.out]; exact hQ7'
        obtain ⟨ms2, hms2⟩ : ∃ z, Hid (ms ++ ofWord agreeB (wordB bl.qc.view bl.qc.block) bl.qc.votes = z) := ⟨_, rfl⟩
        have hl2 : ms2.length ≤ 35 := by rw [← hms2.out, List.length_append, ofWord_length]; omega
        rw [hms2.out] at hQ7
        clear hQ7' hQ6 hk6 hb6 hkd hQd cA cW hv hSc hQ1
        have hOne : ∀ w1, Kept (RW Bd) w4 w1 → RowAt tagK w1 (some ⟨ob, 0, none⟩) [tg] := fun w1 h1 => one_tag (RW.cell h1 hO4 hoB)
        have c17 := (RW.cell hk7 HX4.out hXB).cell (i := 17) rfl
        have c18 := (RW.cell hk7 HX4.out hXB).cell (i := 18) rfl
        have c19 := (RW.cell hk7 HX4.out hXB).cell (i := 19) rfl
        have c20 := (RW.cell hk7 HX4.out hXB).cell (i := 20) rfl
        have c21 := (RW.cell hk7 HX4.out hXB).cell (i := 21) rfl
        have hbk := hFit.out.blk (by show 107 ∈ fieldsK 6; decide)
        have cI := refBlkId_any bl w7 (HA4.out w7 hk7).blk hbk.1 hbk.2.1
        obtain ⟨id, hid⟩ : ∃ z, Hid (idK bl.d = z) := ⟨_, rfl⟩
        rw [hid.out] at cI
        unfold BlkM.v at cI
        go_wp2_with fail
        refine cI.mono ?_
        rintro e w8 ⟨rfl, hb8⟩
        have hk8 := kept_belowR hk7 hb8
        have cA := refOne_goes Bd w4 w8 v7 ms2 proposeB id ob tg hBd hk8 (hQ7.below hb8) hOne (by omega)
        unfold proposeB at cA
        clear cI hb8 c17 c18 c19 c20 c21 hQ7 hk7
        go_wp2_with fail
        refine cA.mono ?_
        rintro e w9 ⟨v9, rfl, hQ9', hk9⟩
        have hQ9 : KQ wordK 48 w9 Bd v9 (ms ++ ofWord agreeB (wordB bl.qc.view bl.qc.block) bl.qc.votes ++ ofWord proposeB (idK bl.d) [tg]) := by rw [hid.out, hms2.out]; exact hQ9'
        clear hQ9' cA
        have hbF : Below w.heap.size w w9 := hB4.trans (hk9.below hB4.size (fun j e => by have e' : Bd ≤ j := e; omega))
        obtain ⟨wl, hwl⟩ : ∃ z, Hid (ms ++ ofWord agreeB (wordB bl.qc.view bl.qc.block) bl.qc.votes ++ ofWord proposeB (idK bl.d) [tg] = z) := ⟨_, rfl⟩
        rw [hwl.out] at hQ9
        obtain ⟨ao9, cap9, rfl, _, hRow9⟩ := hQ9.form
        have e9 : Hid (ws = wl) := by show ws = _; rw [← hwl.out, hR1.out, HT.out]; exact (List.append_assoc _ _ _).symm
        go_wp2
        go_ret
        exact ⟨ao9, cap9, by rw [e9.out]; rfl, by rw [e9.out]; exact hRow9, hbF⟩
      · have hOne : ∀ w1, Kept (RW Bd) w4 w1 → RowAt tagK w1 (some ⟨ob, 0, none⟩) [tg] := fun w1 h1 => one_tag (RW.cell h1 hO4 hoB)
        have c1 := (RW.cell hk HX4.out hXB).cell (i := 1) rfl
        have c2 := (RW.cell hk HX4.out hXB).cell (i := 2) rfl
        obtain ⟨wd, hwd⟩ : ∃ z, Hid (wordB vi dg = z) := ⟨_, rfl⟩
        have cW := refWord_any vi dg wr (hFit.out.dig (by show 100 ∈ fieldsK 7; decide))
        rw [hwd.out] at cW
        go_wp2_with fail
        refine cW.mono ?_
        rintro e w6 ⟨rfl, hb6⟩
        have hk6 := kept_belowR hk hb6
        have cA := refOne_goes Bd w4 w6 u3 ms agreeB wd ob tg hBd hk6 (hQ1.below hb6) hOne (by omega)
        unfold agreeB at cA
        clear cW hb6 c1 c2
        go_wp2_with fail
        refine cA.mono ?_
        rintro e w9 ⟨v9, rfl, hQ9', hk9⟩
        have hQ9 : KQ wordK 48 w9 Bd v9 (ms ++ ofWord agreeB (wordB vi dg) [tg]) := by rw [hwd.out]; exact hQ9'
        clear hQ9' cA
        have hbF : Below w.heap.size w w9 := hB4.trans (hk9.below hB4.size (fun j e => by have e' : Bd ≤ j := e; omega))
        obtain ⟨wl, hwl⟩ : ∃ z, Hid (ms ++ ofWord agreeB (wordB vi dg) [tg] = z) := ⟨_, rfl⟩
        rw [hwl.out] at hQ9
        obtain ⟨ao9, cap9, rfl, _, hRow9⟩ := hQ9.form
        have e9 : Hid (ws = wl) := by show ws = _; rw [← hwl.out, hR1.out, HT.out]; rfl
        go_wp2
        go_ret
        exact ⟨ao9, cap9, by rw [e9.out]; rfl, by rw [e9.out]; exact hRow9, hbF⟩
      · have hv : ∀ w1, Kept (RW Bd) w4 w1 → RowAt tagK w1 q.va q.votes := fun w1 h1 => (HA4.out w1 h1).qc.votes
        obtain ⟨wd, hwd⟩ : ∃ z, Hid (wordB q.view q.block = z) := ⟨_, rfl⟩
        have cW := fun w1 => refWord_any q.view q.block w1 (hFit.out.qc (by show 113 ∈ fieldsK 8; decide)).2.2.1
        rw [hwd.out] at cW
        have hvl : q.votes.length ≤ 7 := (hFit.out.qc (by show 113 ∈ fieldsK 8; decide)).2.2.2
        have cA := fun w1 (h1 : Kept (RW Bd) w4 w1) (h2 : KQ wordK 48 w1 Bd u3 ms) => refAdd_goes Bd w4 w1 u3 ms agreeB wd q.va q.vc q.votes hBd h1 h2 hv (by omega)
        unfold agreeB at cA
        have hSc : ∀ w', Kept (RW Bd) w4 w' → w'.cell? ⟨w.heap.size, 22, none⟩ = some (.int .i64 q.view) ∧ w'.cell? ⟨w.heap.size, 23, none⟩ = some (.string q.block) ∧ w'.cell? ⟨w.heap.size, 24, none⟩ = some (.slice q.va q.votes.length q.vc) := fun w' h1 => ⟨(RW.cell h1 HX4.out hXB).cell (i := 22) rfl, (RW.cell h1 HX4.out hXB).cell (i := 23) rfl, (RW.cell h1 HX4.out hXB).cell (i := 24) rfl⟩
        have hkd : Kept (RW Bd) w4 wr.drew := hk.trans (Kept.of_below (below_drewN (Below.refl _ wr) 1))
        have hQd : KQ wordK 48 wr.drew Bd u3 ms := hQ1.below (below_drewN (Below.refl _ wr) 1)
        go_wp2_with fail
        go_region_held3 (fun w' => w'.cell? ⟨w.heap.size, 22, none⟩ = some (.int .i64 q.view) ∧ w'.cell? ⟨w.heap.size, 23, none⟩ = some (.string q.block) ∧ w'.cell? ⟨w.heap.size, 24, none⟩ = some (.slice q.va q.votes.length q.vc)) (exact hSc _ (by assumption))
          (first
          | (go_at_call 27; refine (cW _).mono ?_; rintro e w6 ⟨rfl, hb6⟩; have hk6 := kept_belowR hkd hb6; have hQ6 := hQd.below hb6)
          | (go_at_call 25; refine (cA _ hk6 hQ6).mono ?_; rintro e w7 ⟨v7, rfl, hQ7', hk7⟩))
        have hQ7 : KQ wordK 48 w7 Bd v7 (ms ++ ofWord agreeB (wordB q.view q.block) q.votes) := by rw [hwd.out]; exact hQ7'
        obtain ⟨ms2, hms2⟩ : ∃ z, Hid (ms ++ ofWord agreeB (wordB q.view q.block) q.votes = z) := ⟨_, rfl⟩
        have hl2 : ms2.length ≤ 35 := by rw [← hms2.out, List.length_append, ofWord_length]; omega
        rw [hms2.out] at hQ7
        clear hQ7' hQ6 hk6 hb6 hkd hQd cA cW hv hSc hQ1
        have hOne : ∀ w1, Kept (RW Bd) w4 w1 → RowAt tagK w1 (some ⟨ob, 0, none⟩) [tg] := fun w1 h1 => one_tag (RW.cell h1 hO4 hoB)
        have hqc := hFit.out.qc (by show 113 ∈ fieldsK 8; decide)
        obtain ⟨wd2, hwd2⟩ : ∃ z, z = nvB vi q.d := ⟨_, rfl⟩
        obtain ⟨nb, hnb⟩ : ∃ z, z = (⟨(goInt vi).toArray⟩ : ByteArray) := ⟨_, rfl⟩
        obtain ⟨qb, hqb⟩ : ∃ z, z = (⟨(encQ q.d).toArray⟩ : ByteArray) := ⟨_, rfl⟩
        have hjo := nv_join vi q.d
        rw [← hnb, ← hqb, ← hwd2] at hjo
        have hnl : nb.size ≤ 9 := by rw [hnb, size_mk]; exact goInt_length _
        have hql : qb.size ≤ 140737488351232 := by rw [hqb, size_mk]; exact hqc.2.1
        have hsum : ¬ (9223372036854775807 < nb.size + qb.size) := by omega
        have cI : ∀ w2, Calls Tryz.prog 29 #[.int .i64 vi] w2 fun e w3 => e = .returned (.string nb) ∧ Below w2.heap.size w2 w3 := fun w2 => by rw [hnb]; exact refInt_any vi w2
        have cQ : ∀ w2, Kept (RW Bd) w4 w2 → Calls Tryz.prog 30 #[q.v] w2 fun e w3 => e = .returned (.string qb) ∧ Below w2.heap.size w2 w3 := fun w2 h2 => by rw [hqb]; exact refEncodeQc_any q w2 (HA4.out w2 h2).qc hqc.1
        unfold QcM.v at cQ
        have HWD : Hid (nvB vi q.d = wd2) := hwd2.symm
        clear hnb hqb hwd2 hqc
        have cA := fun w1 (h1 : Kept (RW Bd) w4 w1) (h2 : KQ wordK 48 w1 Bd v7 ms2) => refOne_goes Bd w4 w1 v7 ms2 newviewB wd2 ob tg hBd h1 h2 hOne (by omega)
        unfold newviewB at cA
        have hSc : ∀ w', Kept (RW Bd) w4 w' → w'.cell? ⟨w.heap.size, 2, none⟩ = some (.int .i64 vi) ∧ w'.cell? ⟨w.heap.size, 22, none⟩ = some (.int .i64 q.view) ∧ w'.cell? ⟨w.heap.size, 23, none⟩ = some (.string q.block) ∧ w'.cell? ⟨w.heap.size, 24, none⟩ = some (.slice q.va q.votes.length q.vc) := fun w' h1 => ⟨(RW.cell h1 HX4.out hXB).cell (i := 2) rfl, (RW.cell h1 HX4.out hXB).cell (i := 22) rfl, (RW.cell h1 HX4.out hXB).cell (i := 23) rfl, (RW.cell h1 HX4.out hXB).cell (i := 24) rfl⟩
        have hkd : Kept (RW Bd) w4 w7.drew := hk7.trans (Kept.of_below (below_drewN (Below.refl _ w7) 1))
        have hQd : KQ wordK 48 w7.drew Bd v7 ms2 := hQ7.below (below_drewN (Below.refl _ w7) 1)
        clear hQ7
        go_wp2_with fail
        go_region_held3 (fun w' => w'.cell? ⟨w.heap.size, 2, none⟩ = some (.int .i64 vi) ∧ w'.cell? ⟨w.heap.size, 22, none⟩ = some (.int .i64 q.view) ∧ w'.cell? ⟨w.heap.size, 23, none⟩ = some (.string q.block) ∧ w'.cell? ⟨w.heap.size, 24, none⟩ = some (.slice q.va q.votes.length q.vc)) (exact hSc _ (by assumption))
          (first
          | (go_at_call 29; refine (cI _).mono ?_; rintro e w10 ⟨rfl, hb10⟩; have hk10 := kept_belowR hkd hb10; have hQ10 := hQd.below hb10)
          | (go_at_call 30; refine (cQ _ hk10).mono ?_; rintro e w11 ⟨rfl, hb11⟩; have hk11 := kept_belowR hk10 hb11; have hQ11 := hQ10.below hb11)
          | (go_at_call 25; refine (cA _ hk11 hQ11).mono ?_; rintro e w9 ⟨v9, rfl, hQ9', hk9⟩))
        have hQ9 : KQ wordK 48 w9 Bd v9 (ms ++ ofWord agreeB (wordB q.view q.block) q.votes ++ ofWord newviewB (nvB vi q.d) [tg]) := by rw [HWD.out, hms2.out]; exact hQ9'
        clear hQ9' cA cI cQ hSc hkd hQd hk10 hQ10 hk11 hQ11 hb10 hb11
        have hbF : Below w.heap.size w w9 := hB4.trans (hk9.below hB4.size (fun j e => by have e' : Bd ≤ j := e; omega))
        obtain ⟨wl, hwl⟩ : ∃ z, Hid (ms ++ ofWord agreeB (wordB q.view q.block) q.votes ++ ofWord newviewB (nvB vi q.d) [tg] = z) := ⟨_, rfl⟩
        rw [hwl.out] at hQ9
        obtain ⟨ao9, cap9, rfl, _, hRow9⟩ := hQ9.form
        have e9 : Hid (ws = wl) := by show ws = _; rw [← hwl.out, hR1.out, HT.out]; exact (List.append_assoc _ _ _).symm
        go_wp2
        go_ret
        exact ⟨ao9, cap9, by rw [e9.out]; rfl, by rw [e9.out]; exact hRow9, hbF⟩
      · have hbF : Below w.heap.size w wr := hB4.trans (hk.below hB4.size (fun j e => by have e' : Bd ≤ j := e; omega))
        obtain ⟨ao9, cap9, rfl, _, hRow9⟩ := hQ1.form
        have e9 : Hid (ws = ms) := by show ws = _; rw [hR1.out, HT.out]; exact List.append_nil _
        go_wp2
        go_ret
        exact ⟨ao9, cap9, by rw [e9.out]; rfl, by rw [e9.out]; exact hRow9, hbF⟩
      · have hbF : Below w.heap.size w wr := hB4.trans (hk.below hB4.size (fun j e => by have e' : Bd ≤ j := e; omega))
        obtain ⟨ao9, cap9, rfl, _, hRow9⟩ := hQ1.form
        have e9 : Hid (ws = ms) := by show ws = _; rw [hR1.out, HT.out]; exact List.append_nil _
        go_wp2
        go_ret
        exact ⟨ao9, cap9, by rw [e9.out]; rfl, by rw [e9.out]; exact hRow9, hbF⟩
      · have hbF : Below w.heap.size w wr := hB4.trans (hk.below hB4.size (fun j e => by have e' : Bd ≤ j := e; omega))
        obtain ⟨ao9, cap9, rfl, _, hRow9⟩ := hQ1.form
        have e9 : Hid (ws = ms) := by show ws = _; rw [hR1.out, HT.out]; exact List.append_nil _
        go_wp2
        go_ret
        exact ⟨ao9, cap9, by rw [e9.out]; rfl, by rw [e9.out]; exact hRow9, hbF⟩
end Go.Proofs.YtaoiejgbbmjpkaaGreatDoor

/- What tusklaw09.works does: it says yes; nothing old in memory is turned. -/
namespace Go.Proofs.YtaoiejgbbmjpkaaGreatDoor
open Go.RowKit
set_option linter.unusedVariables false

/-- A message that asks. -/
def askM (k : Int) (d : ByteArray) : MsgM := ⟨k, d, 0, tagZ, bat0, hdr9, cert0, blk0, qc0⟩

/-- Its bytes. -/
def askB (k : UInt8) (d : ByteArray) : ByteArray := ⟨(k :: 32 :: d.data.toList).toArray⟩

/-- Thirty-two zero bytes. -/
def zero32 : ByteArray := ⟨(List.replicate 32 0).toArray⟩
def zeroC9 : List Value := List.replicate 32 (.int .u8 0)
end Go.Proofs.YtaoiejgbbmjpkaaGreatDoor

/- What tusklaw08.Great does: it answers yes or no; nothing old in memory is turned. -/
namespace Go.Proofs.YtaoiejgbbmjpkaaGreatDoor
open Go.RowKit
set_option linter.unusedVariables false

/-- Yes or no. -/
def YesNo (e : Ending) : Prop := ∃ g : Bool, e = .returned (.bool g)

set_option maxRecDepth 100000 in
set_option maxHeartbeats 2000000 in
theorem greatBlk_any (x : BlkM) (w : World) (hA : x.At w) (hc : x.certs.length ≤ maxLen) :
    Calls Tryz.prog 12 #[x.v] w fun e w' => YesNo e ∧ Below w.heap.size w w' := by
  obtain ⟨v, q, ca, l, cc⟩ := x
  have hX := Arr.new w 37 [.int .i64 v, .int .i64 q.view, .string q.block, .slice q.va q.votes.length q.vc, .slice ca l.length cc]
  have hB := belowNew w (.cells #[.int .i64 v, .int .i64 q.view, .string q.block, .slice q.va q.votes.length q.vc, .slice ca l.length cc] 37)
  have hR : RowAt strK _ ca l := (hA.below hB).certs
  have hc' : l.length ≤ maxLen := hc
  unfold maxLen at hc'
  unfold BlkM.v
  simp only
  have x2 := hX.cell (i := 2) rfl
  have x3 := hX.cell (i := 3) rfl
  have x4 := hX.cell (i := 4) rfl
  clear hA hc
  go_enter Tryz.func12, Tryz.ntmps12
  go_wp2
  obtain ⟨w1, hw1⟩ : ∃ q', w.alloc (.cells #[.int .i64 v, .int .i64 q.view, .string q.block, .slice q.va q.votes.length q.vc, .slice ca l.length cc] 37) = q' := ⟨_, rfl⟩
  rw [hw1] at hX hB hR x2 x3 x4 ⊢
  go_loopw [3, 4] (fun v3 v4 wr => ∃ (k : Nat) (z : Int), k ≤ l.length ∧ v4 = .int .i64 (k : Int) ∧ v3 = .int .i64 z ∧ wr = w1) (fun _ v _ => l.length - (intOf v).toNat)
  case atStart => exact ⟨0, _, Nat.zero_le _, rfl, rfl, rfl⟩
  case round =>
    obtain ⟨k, z, hk, rfl, rfl, rfl⟩ := hrel
    by_cases hlt : k < l.length
    · obtain ⟨m, hm⟩ : ∃ m, l[k]? = some m := ⟨l[k], List.getElem?_eq_getElem hlt⟩
      obtain ⟨b, off, rfl, hbl, hcc⟩ := hR.cell k m hm
      have c0 := hcc 0 (.string m) rfl
      have e0 : off + k * strK.n + 0 = off + k := by show off + k * 1 + 0 = _; omega
      rw [e0] at c0
      clear hcc hm e0
      go_wp2
      go_roundw
      case rel => exact ⟨k + 1, _, by omega, by go_num, rfl, trivial⟩
      case measure => simp [intOf]; omega
    · go_wp2
      go_ret
      exact ⟨⟨_, rfl⟩, hB⟩
end Go.Proofs.YtaoiejgbbmjpkaaGreatDoor

/- What tusklaw09.Great does: it answers yes or no; nothing old in memory is turned. -/
namespace Go.Proofs.YtaoiejgbbmjpkaaGreatDoor
open Go.RowKit
set_option linter.unusedVariables false

/-- Yes, or no, and then some lists are short. -/
def GotGreat (x : MsgM) (e : Ending) : Prop := ∃ g : Bool, e = .returned (.bool g) ∧ (g = false → x.bat.txs.length ≤ 50 ∧ x.cert.votes.length ≤ 50 ∧ x.qc.votes.length ≤ 50)

/-- A message's lists are no longer than lists are. -/
structure MsgM.Max (x : MsgM) : Prop where
  txs : x.bat.txs.length ≤ maxLen
  refs : x.hdr.refs.length ≤ maxLen
  ps : x.hdr.parents.length ≤ maxLen
  crefs : x.cert.hdr.refs.length ≤ maxLen
  cps : x.cert.hdr.parents.length ≤ maxLen
  certs : x.blk.certs.length ≤ maxLen

set_option maxRecDepth 100000 in
set_option maxHeartbeats 4000000 in
theorem great9_any (x : MsgM) (w : World) (hA : x.At w) (hm : x.Max) :
    Calls Tryz.prog 5 #[x.v] w fun e w' => GotGreat x e ∧ Below w.heap.size w w' := by
  obtain ⟨ki, dg, vi, tg, ba, he, ce, bl, q⟩ := x
  have hX1 := Arr.new w 39 [.int .i64 ki, .string dg, .int .i64 vi, .int .i64 tg.who, .string tg.mac, .int .i64 ba.author, .int .i64 ba.number, .slice ba.ta ba.txs.length ba.tc, .int .i64 he.author, .int .i64 he.round, .slice he.ra he.refs.length he.rc, .slice he.pa he.parents.length he.pc, .int .i64 ce.hdr.author, .int .i64 ce.hdr.round, .slice ce.hdr.ra ce.hdr.refs.length ce.hdr.rc, .slice ce.hdr.pa ce.hdr.parents.length ce.hdr.pc, .slice ce.va ce.votes.length ce.vc, .int .i64 bl.view, .int .i64 bl.qc.view, .string bl.qc.block, .slice bl.qc.va bl.qc.votes.length bl.qc.vc, .slice bl.ca bl.certs.length bl.cc, .int .i64 q.view, .string q.block, .slice q.va q.votes.length q.vc]
  have hB1 := belowNew w (.cells #[.int .i64 ki, .string dg, .int .i64 vi, .int .i64 tg.who, .string tg.mac, .int .i64 ba.author, .int .i64 ba.number, .slice ba.ta ba.txs.length ba.tc, .int .i64 he.author, .int .i64 he.round, .slice he.ra he.refs.length he.rc, .slice he.pa he.parents.length he.pc, .int .i64 ce.hdr.author, .int .i64 ce.hdr.round, .slice ce.hdr.ra ce.hdr.refs.length ce.hdr.rc, .slice ce.hdr.pa ce.hdr.parents.length ce.hdr.pc, .slice ce.va ce.votes.length ce.vc, .int .i64 bl.view, .int .i64 bl.qc.view, .string bl.qc.block, .slice bl.qc.va bl.qc.votes.length bl.qc.vc, .slice bl.ca bl.certs.length bl.cc, .int .i64 q.view, .string q.block, .slice q.va q.votes.length q.vc] 39)
  have hA1 := hA.below hB1
  have c1 := fun w1 h1 => great_any he w1 h1 hm.refs hm.ps
  have c2 := fun w1 h1 => great_any ce.hdr w1 h1 hm.crefs hm.cps
  have c3 := fun w1 h1 => greatBlk_any bl w1 h1 hm.certs
  unfold HdrM.v at c1 c2
  unfold BlkM.v at c3
  have yes : ∀ {w'}, Below w.heap.size w w' → ∀ e, e = .returned (.bool true) → GotGreat ⟨ki, dg, vi, tg, ba, he, ce, bl, q⟩ e ∧ Below w.heap.size w w' := fun hb e he => ⟨⟨true, he, fun h => by cases h⟩, hb⟩
  unfold MsgM.v MsgM.c
  simp only
  clear hA hm
  have x7 := hX1.cell (i := 7) rfl
  have x8 := hX1.cell (i := 8) rfl
  have x9 := hX1.cell (i := 9) rfl
  have x10 := hX1.cell (i := 10) rfl
  have x11 := hX1.cell (i := 11) rfl
  obtain ⟨w1, hw1⟩ : ∃ q', w.alloc (.cells #[.int .i64 ki, .string dg, .int .i64 vi, .int .i64 tg.who, .string tg.mac, .int .i64 ba.author, .int .i64 ba.number, .slice ba.ta ba.txs.length ba.tc, .int .i64 he.author, .int .i64 he.round, .slice he.ra he.refs.length he.rc, .slice he.pa he.parents.length he.pc, .int .i64 ce.hdr.author, .int .i64 ce.hdr.round, .slice ce.hdr.ra ce.hdr.refs.length ce.hdr.rc, .slice ce.hdr.pa ce.hdr.parents.length ce.hdr.pc, .slice ce.va ce.votes.length ce.vc, .int .i64 bl.view, .int .i64 bl.qc.view, .string bl.qc.block, .slice bl.qc.va bl.qc.votes.length bl.qc.vc, .slice bl.ca bl.certs.length bl.cc, .int .i64 q.view, .string q.block, .slice q.va q.votes.length q.vc] 39) = q' := ⟨_, rfl⟩
  replace hX1 : Arr w1 w.heap.size 39 [.int .i64 ki, .string dg, .int .i64 vi, .int .i64 tg.who, .string tg.mac, .int .i64 ba.author, .int .i64 ba.number, .slice ba.ta ba.txs.length ba.tc, .int .i64 he.author, .int .i64 he.round, .slice he.ra he.refs.length he.rc, .slice he.pa he.parents.length he.pc, .int .i64 ce.hdr.author, .int .i64 ce.hdr.round, .slice ce.hdr.ra ce.hdr.refs.length ce.hdr.rc, .slice ce.hdr.pa ce.hdr.parents.length ce.hdr.pc, .slice ce.va ce.votes.length ce.vc, .int .i64 bl.view, .int .i64 bl.qc.view, .string bl.qc.block, .slice bl.qc.va bl.qc.votes.length bl.qc.vc, .slice bl.ca bl.certs.length bl.cc, .int .i64 q.view, .string q.block, .slice q.va q.votes.length q.vc] := by rw [← hw1]; exact hX1
  rw [hw1] at hB1 hA1 x7 x8 x9 x10 x11
  go_enter Tryz.func5, Tryz.ntmps5
  by_cases h1 : 50 < ba.txs.length
  · go_wp2
    go_ret
    exact yes hB1 _ rfl
  go_wp2_with fail
  refine (c1 _ hA1.hdr).mono ?_
  rintro e w2 ⟨⟨g1, rfl⟩, hb1⟩
  have hX2 := hX1.below hb1 hX1.lt
  have hA2 := hA1.below hb1
  have hB2 := hB1.trans (hb1.mono hB1.size)
  clear c1 hX1 hA1 hB1 hb1 x7 x8 x9 x10 x11 hw1
  have x12 := hX2.cell (i := 12) rfl
  have x13 := hX2.cell (i := 13) rfl
  have x14 := hX2.cell (i := 14) rfl
  have x15 := hX2.cell (i := 15) rfl
  cases g1
  case true =>
    go_wp2
    go_ret
    exact yes hB2 _ rfl
  go_wp2_with fail
  refine (c2 _ hA2.cert.hdr).mono ?_
  rintro e w3 ⟨⟨g2, rfl⟩, hb2⟩
  have hX3 := hX2.below hb2 hX2.lt
  have hA3 := hA2.below hb2
  have hB3 := hB2.trans (hb2.mono hB2.size)
  clear c2 hX2 hA2 hB2 hb2 x12 x13 x14 x15
  have x16 := hX3.cell (i := 16) rfl
  have x17 := hX3.cell (i := 17) rfl
  have x18 := hX3.cell (i := 18) rfl
  have x19 := hX3.cell (i := 19) rfl
  have x20 := hX3.cell (i := 20) rfl
  have x21 := hX3.cell (i := 21) rfl
  cases g2
  case true =>
    go_wp2
    go_ret
    exact yes hB3 _ rfl
  by_cases h2 : 50 < ce.votes.length
  · go_wp2
    go_ret
    exact yes hB3 _ rfl
  go_wp2_with fail
  refine (c3 _ hA3.blk).mono ?_
  rintro e w4 ⟨⟨g3, rfl⟩, hb3⟩
  have hX4 := hX3.below hb3 hX3.lt
  have hB4 := hB3.trans (hb3.mono hB3.size)
  clear c3 hX3 hA3 hB3 hb3 x16 x17 x18 x19 x20 x21
  have x1 := hX4.cell (i := 1) rfl
  have x23 := hX4.cell (i := 23) rfl
  have x24 := hX4.cell (i := 24) rfl
  cases g3
  case true =>
    go_wp2
    go_ret
    exact yes hB4 _ rfl
  by_cases h3 : 50 < q.votes.length
  · go_wp2
    go_ret
    exact yes hB4 _ rfl
  go_wp2
  go_ret
  exact ⟨⟨_, rfl, fun _ => ⟨Nat.le_of_not_lt h1, Nat.le_of_not_lt h2, Nat.le_of_not_lt h3⟩⟩, hB4⟩
end Go.Proofs.YtaoiejgbbmjpkaaGreatDoor

/- How a header that came in is opened; its sizes. -/
namespace Go.Proofs.YtaoiejgbbmjpkaaGreatDoor
open Go.ChangeShapes Go.WideShapes Go.ChangeAt Go.RowKit Go.Joins Go.Deep
set_option linter.unusedVariables false

/-- How a Ref reads. -/
def RefQ {H : Type} (d : DataW H) (r : RefM) : Prop := ∃ y0 y1, d = .agg [y0, y1] ∧ StrQ y0 r.digest ∧ RowD TagQ y1 r.acks

theorem cellsRef6 : Tryz.prog.cellsOf 53 = 2 := by kernel_rfl
theorem cellsHdr6 : Tryz.prog.cellsOf 30 = 4 := by kernel_rfl
theorem cellsRefs6 : Tryz.prog.cellsOf 27 = 1 := by kernel_rfl
theorem bytesRef6 : Tryz.prog.bytesOf 53 = 40 := by kernel_rfl

set_option maxRecDepth 100000 in
theorem open_ref_cells {H : Type} {enc : TypeId × Value → H} {W : World} {fuel : Nat} {cs : List Value} {y : DataW H × List MemPlace}
    (hf : DataW.trod enc Tryz.prog W 0 (fun _ => true) true fuel 53 cs = some y) : ∃ r : RefM, cs = refK.c r ∧ refK.At W r ∧ RefQ y.1 r := by
  obtain ⟨xs, n, _, hx, hcl, hl, hg⟩ := DataW.trod_struct Tryz.underlying53 hf
  obtain ⟨c0, c1, rfl⟩ := list2x (hcl.trans cellsRef6)
  obtain ⟨y0, y1, rfl⟩ := list2x hl
  have g0 := hg 0 _ rfl
  have g1 := hg 1 _ rfl
  simp [cellsTags6, cellsStr6] at g0 g1
  obtain ⟨a0, e0, hy0, s0⟩ := DataW.trod_string Tryz.underlying9 g0
  obtain ⟨ao, len, cap, e1⟩ := slice_form Tryz.underlying31 g1
  simp at e0 e1
  subst e0 e1
  obtain ⟨l, rfl, l1, l2, l3, l4⟩ := open_tagsK g1
  refine ⟨⟨a0, l, ao, cap⟩, rfl, ⟨l1, l2⟩, y0.1, y1.1, ?_, ⟨by rw [hy0], s0⟩, l4⟩
  have := congrArg Prod.fst hx
  simpa using this

/-- How a header reads. -/
def HdrQ {H : Type} (d : DataW H) (x : HdrM) : Prop := ∃ y0 y1 y2 y3, d = .agg [y0, y1, y2, y3] ∧ RowD RefQ y2 x.refs ∧ RowD StrQ y3 x.parents

set_option maxRecDepth 100000 in
theorem open_hdr_cells {H : Type} {enc : TypeId × Value → H} {W : World} {fuel : Nat} {cs : List Value} {y : DataW H × List MemPlace}
    (hf : DataW.trod enc Tryz.prog W 0 (fun _ => true) true fuel 30 cs = some y) : ∃ x : HdrM, cs = hdrK.c x ∧ hdrK.At W x ∧ HdrQ y.1 x := by
  obtain ⟨xs, n, _, hx, hcl, hl, hg⟩ := DataW.trod_struct Tryz.underlying30 hf
  obtain ⟨c0, c1, c2, c3, rfl⟩ := list4x (hcl.trans cellsHdr6)
  obtain ⟨y0, y1, y2, y3, rfl⟩ := list4x hl
  have g0 := hg 0 _ rfl
  have g1 := hg 1 _ rfl
  have g2 := hg 2 _ rfl
  have g3 := hg 3 _ rfl
  simp [cellsInt6, cellsRefs6, cellsStrs6] at g0 g1 g2 g3
  obtain ⟨a0, e0, _, _⟩ := DataW.trod_int Tryz.underlying3 g0
  obtain ⟨a1, e1, _, _⟩ := DataW.trod_int Tryz.underlying3 g1
  obtain ⟨ra, rlen, rc, e2⟩ := slice_form Tryz.underlying27 g2
  obtain ⟨pa, plen, pc, e3⟩ := slice_form Tryz.underlying28 g3
  simp at e0 e1 e2 e3
  subst e0 e1 e2 e3
  obtain ⟨rs, rfl, r1, r2, r3, r4⟩ := open_row refK RefQ Tryz.underlying27 cellsRef6 open_ref_cells g2
  obtain ⟨ps, rfl, p1, p2, p3, p4⟩ := open_row strK StrQ Tryz.underlying28 cellsStr6 open_str_cells g3
  refine ⟨⟨a0, a1, ra, rs, rc, pa, ps, pc⟩, rfl, ⟨r1, r2, p1, p2⟩, y0.1, y1.1, y2.1, y3.1, ?_, r4, p4⟩
  have := congrArg Prod.fst hx
  simpa using this

set_option maxRecDepth 100000 in
theorem ref_acks_fit {H : Type} {y : DataW H} {r : RefM} (h : RefQ y r) (hw : ∀ n ∈ y.weights Tryz.prog 53, n ≤ reachBytes) : r.acks.length * 24 ≤ 140737488351232 := by
  obtain ⟨y0, y1, rfl, _, h1⟩ := h
  have := (h1.fit Tryz.underlying31 (fun n hn => hw n (by
    rw [DataW.weights, Tryz.underlying53]
    exact DataW.weights_mem_each (ts := [9, 31]) (j := 1) rfl rfl n hn))).1
  rw [bytesTag6] at this
  simpa [reachBytes] using this

set_option maxRecDepth 100000 in
theorem hdr_fit {H : Type} {d : DataW H} {x : HdrM} (h : HdrQ d x) (hw : ∀ n ∈ d.weights Tryz.prog 30, n ≤ reachBytes) : x.Lens := by
  obtain ⟨y0, y1, y2, y3, rfl, h2, h3⟩ := h
  obtain ⟨f1, f2⟩ := h2.fit Tryz.underlying27 (fun n hn => hw n (by
    rw [DataW.weights, Tryz.underlying30]
    exact DataW.weights_mem_each (ts := [3, 3, 27, 28]) (j := 2) rfl rfl n hn))
  obtain ⟨g1, _⟩ := h3.fit Tryz.underlying28 (fun n hn => hw n (by
    rw [DataW.weights, Tryz.underlying30]
    exact DataW.weights_mem_each (ts := [3, 3, 27, 28]) (j := 3) rfl rfl n hn))
  rw [bytesRef6] at f1
  rw [bytesStr6] at g1
  refine ⟨by simpa [reachBytes] using f1, by simpa [reachBytes] using g1, fun r hr => ?_⟩
  obtain ⟨y, hy, hyw⟩ := f2 r hr
  exact ref_acks_fit hy hyw
end Go.Proofs.YtaoiejgbbmjpkaaGreatDoor
