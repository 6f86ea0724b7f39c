/- Texts as one: MsgBare. -/
import Derived.Test.YtaoiejgbbmjpkaaGreatDoorWk10
import Derived.Test.YtaoiejgbbmjpkaaGreatDoorWk15
/- What tuskref09.bare does: a message with the fields of its kind alone; nothing old in memory is turned. -/
namespace Go.Proofs.YtaoiejgbbmjpkaaGreatDoor
open Go.RowKit
set_option linter.unusedVariables false

/-- A message with the fields of its kind alone. -/
def bareM (x : MsgM) : MsgM := ⟨x.kind, if 100 ∈ fieldsK x.kind then x.digest else ⟨#[]⟩, if 118 ∈ fieldsK x.kind then x.view else 0, if 116 ∈ fieldsK x.kind then x.tag else tagZ, if 98 ∈ fieldsK x.kind then x.bat else bat0,
  if 104 ∈ fieldsK x.kind then x.hdr else hdr9, if 99 ∈ fieldsK x.kind then x.cert else cert0, if 107 ∈ fieldsK x.kind then x.blk else blk0, if 113 ∈ fieldsK x.kind then x.qc else qc0⟩

set_option maxRecDepth 100000 in
set_option maxHeartbeats 8000000 in
theorem refBare_1 (dg : ByteArray) (vi : Int) (tg : TagD) (ba : BatM) (he : HdrM) (ce : CertM) (bl : BlkM) (q : QcM) (w : World) :
    Calls Tryz.prog 45 #[MsgM.v ⟨1, dg, vi, tg, ba, he, ce, bl, q⟩] w fun e w' => e = .returned (MsgM.v ⟨1, ⟨#[]⟩, 0, tagZ, ba, hdr9, cert0, blk0, qc0⟩) ∧ Below w.heap.size w w' := by
  obtain ⟨hX, hZ, hB⟩ := two_new w 39 39 [.int .i64 1, .string dg, .int .i64 vi, .int .i64 tg.who, .string tg.mac, .int .i64 ba.author, .int .i64 ba.number, .slice ba.ta ba.txs.length ba.tc, .int .i64 he.author, .int .i64 he.round, .slice he.ra he.refs.length he.rc, .slice he.pa he.parents.length he.pc, .int .i64 ce.hdr.author, .int .i64 ce.hdr.round, .slice ce.hdr.ra ce.hdr.refs.length ce.hdr.rc, .slice ce.hdr.pa ce.hdr.parents.length ce.hdr.pc, .slice ce.va ce.votes.length ce.vc, .int .i64 bl.view, .int .i64 bl.qc.view, .string bl.qc.block, .slice bl.qc.va bl.qc.votes.length bl.qc.vc, .slice bl.ca bl.certs.length bl.cc, .int .i64 q.view, .string q.block, .slice q.va q.votes.length q.vc] [.int .i64 0, .string ⟨#[]⟩, .int .i64 0, .int .i64 0, .string ⟨#[]⟩, .int .i64 0, .int .i64 0, .slice none 0 0, .int .i64 0, .int .i64 0, .slice none 0 0, .slice none 0 0, .int .i64 0, .int .i64 0, .slice none 0 0, .slice none 0 0, .slice none 0 0, .int .i64 0, .int .i64 0, .string ⟨#[]⟩, .slice none 0 0, .slice none 0 0, .int .i64 0, .string ⟨#[]⟩, .slice none 0 0]
  obtain ⟨out, hout⟩ : ∃ v, Hid (v = MsgM.v ⟨1, ⟨#[]⟩, 0, tagZ, ba, hdr9, cert0, blk0, qc0⟩) := ⟨_, rfl⟩
  rw [← hout.out]
  have cF : ∀ w1, Calls Tryz.prog 43 #[.int .i64 1] w1 fun e w' => e = .returned (.string ⟨#[98]⟩) ∧ Below w1.heap.size w1 w' := fun w1 => refFields_any 1 w1
  have cb : ∀ w1, Calls Tryz.prog 46 #[.string ⟨#[98]⟩, .int .u8 98] w1 fun e w' => e = .returned (.bool true) ∧ w' = w1 := fun w1 => refHas_any ⟨#[98]⟩ 98 w1 (by decide)
  have cd : ∀ w1, Calls Tryz.prog 46 #[.string ⟨#[98]⟩, .int .u8 100] w1 fun e w' => e = .returned (.bool false) ∧ w' = w1 := fun w1 => refHas_any ⟨#[98]⟩ 100 w1 (by decide)
  have cv : ∀ w1, Calls Tryz.prog 46 #[.string ⟨#[98]⟩, .int .u8 118] w1 fun e w' => e = .returned (.bool false) ∧ w' = w1 := fun w1 => refHas_any ⟨#[98]⟩ 118 w1 (by decide)
  have ct : ∀ w1, Calls Tryz.prog 46 #[.string ⟨#[98]⟩, .int .u8 116] w1 fun e w' => e = .returned (.bool false) ∧ w' = w1 := fun w1 => refHas_any ⟨#[98]⟩ 116 w1 (by decide)
  have ch : ∀ w1, Calls Tryz.prog 46 #[.string ⟨#[98]⟩, .int .u8 104] w1 fun e w' => e = .returned (.bool false) ∧ w' = w1 := fun w1 => refHas_any ⟨#[98]⟩ 104 w1 (by decide)
  have cc : ∀ w1, Calls Tryz.prog 46 #[.string ⟨#[98]⟩, .int .u8 99] w1 fun e w' => e = .returned (.bool false) ∧ w' = w1 := fun w1 => refHas_any ⟨#[98]⟩ 99 w1 (by decide)
  have ck : ∀ w1, Calls Tryz.prog 46 #[.string ⟨#[98]⟩, .int .u8 107] w1 fun e w' => e = .returned (.bool false) ∧ w' = w1 := fun w1 => refHas_any ⟨#[98]⟩ 107 w1 (by decide)
  have cq : ∀ w1, Calls Tryz.prog 46 #[.string ⟨#[98]⟩, .int .u8 113] w1 fun e w' => e = .returned (.bool false) ∧ w' = w1 := fun w1 => refHas_any ⟨#[98]⟩ 113 w1 (by decide)
  unfold MsgM.v MsgM.c
  simp only
  obtain ⟨w1, hw1⟩ : ∃ q', (w.alloc (.cells [.int .i64 1, .string dg, .int .i64 vi, .int .i64 tg.who, .string tg.mac, .int .i64 ba.author, .int .i64 ba.number, .slice ba.ta ba.txs.length ba.tc, .int .i64 he.author, .int .i64 he.round, .slice he.ra he.refs.length he.rc, .slice he.pa he.parents.length he.pc, .int .i64 ce.hdr.author, .int .i64 ce.hdr.round, .slice ce.hdr.ra ce.hdr.refs.length ce.hdr.rc, .slice ce.hdr.pa ce.hdr.parents.length ce.hdr.pc, .slice ce.va ce.votes.length ce.vc, .int .i64 bl.view, .int .i64 bl.qc.view, .string bl.qc.block, .slice bl.qc.va bl.qc.votes.length bl.qc.vc, .slice bl.ca bl.certs.length bl.cc, .int .i64 q.view, .string q.block, .slice q.va q.votes.length q.vc].toArray 39)).alloc (.cells [.int .i64 0, .string ⟨#[]⟩, .int .i64 0, .int .i64 0, .string ⟨#[]⟩, .int .i64 0, .int .i64 0, .slice none 0 0, .int .i64 0, .int .i64 0, .slice none 0 0, .slice none 0 0, .int .i64 0, .int .i64 0, .slice none 0 0, .slice none 0 0, .slice none 0 0, .int .i64 0, .int .i64 0, .string ⟨#[]⟩, .slice none 0 0, .slice none 0 0, .int .i64 0, .string ⟨#[]⟩, .slice none 0 0].toArray 39) = q' := ⟨_, rfl⟩
  have hs1 : w.heap.size + 2 ≤ w1.heap.size := by rw [← hw1, alloc_size, alloc_size]; omega
  rw [hw1] at hX hZ hB
  have x0 := hX.cell (i := 0) rfl
  go_enter Tryz.func45, Tryz.ntmps45
  go_wp2_with fail
  refine (cF _).mono ?_
  rintro e w2 ⟨rfl, hb2⟩
  have hX2 := hX.below hb2 hX.lt
  have hZ2 := hZ.below hb2 hZ.lt
  have hB2 := hB.trans (hb2.mono hB.size)
  have hs2 : w.heap.size + 2 ≤ w2.heap.size := Nat.le_trans hs1 hb2.size
  clear hX hZ hB hb2 x0 hs1 hw1 cF
  have x0 := hX2.cell (i := 0) rfl
  have hN := Arr.new w2 39 [.int .i64 0, .string ⟨#[]⟩, .int .i64 0, .int .i64 0, .string ⟨#[]⟩, .int .i64 0, .int .i64 0, .slice none 0 0, .int .i64 0, .int .i64 0, .slice none 0 0, .slice none 0 0, .int .i64 0, .int .i64 0, .slice none 0 0, .slice none 0 0, .slice none 0 0, .int .i64 0, .int .i64 0, .string ⟨#[]⟩, .slice none 0 0, .slice none 0 0, .int .i64 0, .string ⟨#[]⟩, .slice none 0 0]
  have hbn := belowNew w2 (.cells [.int .i64 0, .string ⟨#[]⟩, .int .i64 0, .int .i64 0, .string ⟨#[]⟩, .int .i64 0, .int .i64 0, .slice none 0 0, .int .i64 0, .int .i64 0, .slice none 0 0, .slice none 0 0, .int .i64 0, .int .i64 0, .slice none 0 0, .slice none 0 0, .slice none 0 0, .int .i64 0, .int .i64 0, .string ⟨#[]⟩, .slice none 0 0, .slice none 0 0, .int .i64 0, .string ⟨#[]⟩, .slice none 0 0].toArray 39)
  have h1 : (List.toArray (α := Value) [.int .i64 1, .string ⟨#[]⟩, .int .i64 0, .int .i64 0, .string ⟨#[]⟩, .int .i64 0, .int .i64 0, .slice none 0 0, .int .i64 0, .int .i64 0, .slice none 0 0, .slice none 0 0, .int .i64 0, .int .i64 0, .slice none 0 0, .slice none 0 0, .slice none 0 0, .int .i64 0, .int .i64 0, .string ⟨#[]⟩, .slice none 0 0, .slice none 0 0, .int .i64 0, .string ⟨#[]⟩, .slice none 0 0]).all (·.oneCell') = true := Array.all_eq_true_iff_forall_mem.2 (fun v hv => msgK.one (msg0 1) v (List.mem_toArray.1 hv))
  have kN := kept_row (w2.alloc (.cells [.int .i64 0, .string ⟨#[]⟩, .int .i64 0, .int .i64 0, .string ⟨#[]⟩, .int .i64 0, .int .i64 0, .slice none 0 0, .int .i64 0, .int .i64 0, .slice none 0 0, .slice none 0 0, .int .i64 0, .int .i64 0, .slice none 0 0, .slice none 0 0, .slice none 0 0, .int .i64 0, .int .i64 0, .string ⟨#[]⟩, .slice none 0 0, .slice none 0 0, .int .i64 0, .string ⟨#[]⟩, .slice none 0 0].toArray 39)) w2.heap.size [.int .i64 1, .string ⟨#[]⟩, .int .i64 0, .int .i64 0, .string ⟨#[]⟩, .int .i64 0, .int .i64 0, .slice none 0 0, .int .i64 0, .int .i64 0, .slice none 0 0, .slice none 0 0, .int .i64 0, .int .i64 0, .slice none 0 0, .slice none 0 0, .slice none 0 0, .int .i64 0, .int .i64 0, .string ⟨#[]⟩, .slice none 0 0, .slice none 0 0, .int .i64 0, .string ⟨#[]⟩, .slice none 0 0].toArray
  have hY3 := hN.row [.int .i64 1, .string ⟨#[]⟩, .int .i64 0, .int .i64 0, .string ⟨#[]⟩, .int .i64 0, .int .i64 0, .slice none 0 0, .int .i64 0, .int .i64 0, .slice none 0 0, .slice none 0 0, .int .i64 0, .int .i64 0, .slice none 0 0, .slice none 0 0, .slice none 0 0, .int .i64 0, .int .i64 0, .string ⟨#[]⟩, .slice none 0 0, .slice none 0 0, .int .i64 0, .string ⟨#[]⟩, .slice none 0 0]
  have hX3 := (hX2.below hbn hX2.lt).kept kN (by omega)
  have hZ3 := (hZ2.below hbn hZ2.lt).kept kN (by omega)
  have hB3 := below_setRow (hB2.trans (hbn.mono hB2.size)) (g := w2.heap.size) (by omega) [.int .i64 1, .string ⟨#[]⟩, .int .i64 0, .int .i64 0, .string ⟨#[]⟩, .int .i64 0, .int .i64 0, .slice none 0 0, .int .i64 0, .int .i64 0, .slice none 0 0, .slice none 0 0, .int .i64 0, .int .i64 0, .slice none 0 0, .slice none 0 0, .slice none 0 0, .int .i64 0, .int .i64 0, .string ⟨#[]⟩, .slice none 0 0, .slice none 0 0, .int .i64 0, .string ⟨#[]⟩, .slice none 0 0].toArray
  go_wp2_with (refine wpList_store_row (by rfl) 39 _ _ (by rfl) w2.heap.size [.int .i64 1, .string ⟨#[]⟩, .int .i64 0, .int .i64 0, .string ⟨#[]⟩, .int .i64 0, .int .i64 0, .slice none 0 0, .int .i64 0, .int .i64 0, .slice none 0 0, .slice none 0 0, .int .i64 0, .int .i64 0, .slice none 0 0, .slice none 0 0, .slice none 0 0, .int .i64 0, .int .i64 0, .string ⟨#[]⟩, .slice none 0 0, .slice none 0 0, .int .i64 0, .string ⟨#[]⟩, .slice none 0 0].toArray (by rfl) (by rfl) 39 _ hN infoMsg9 (by rfl) h1 ?_)
  refine (cb _).mono ?_
  rintro e w3 ⟨rfl, hw⟩
  rw [← hw] at hX3 hZ3 hY3 hB3
  clear hw cb
  clear hN hbn h1 kN hX2 hZ2 hB2 x0
  have x5 := hX3.cell (i := 5) rfl
  have x6 := hX3.cell (i := 6) rfl
  have x7 := hX3.cell (i := 7) rfl
  have y5 := hY3.cell (i := 5) rfl
  have y6 := hY3.cell (i := 6) rfl
  have y7 := hY3.cell (i := 7) rfl
  have f5 := hY3.frozen 5
  have f6 := hY3.frozen 6
  have f7 := hY3.frozen 7
  have hY4 := (((hY3.set 5 (.int .i64 ba.author)).set 6 (.int .i64 ba.number)).set 7 (.slice ba.ta ba.txs.length ba.tc))
  have kk := ((((Kept.refl (fun k => k = w2.heap.size) w3).set (p := ⟨w2.heap.size, 5, none⟩) rfl (.int .i64 ba.author)).set (p := ⟨w2.heap.size, 6, none⟩) rfl (.int .i64 ba.number)).set (p := ⟨w2.heap.size, 7, none⟩) rfl (.slice ba.ta ba.txs.length ba.tc))
  have hX4 := hX3.kept kk (by omega)
  have hZ4 := hZ3.kept kk (by omega)
  have hB4 := (((hB3.setCell (p := ⟨w2.heap.size, 5, none⟩) (by show _ ≤ w2.heap.size; omega) (.int .i64 ba.author)).setCell (p := ⟨w2.heap.size, 6, none⟩) (by show _ ≤ w2.heap.size; omega) (.int .i64 ba.number)).setCell (p := ⟨w2.heap.size, 7, none⟩) (by show _ ≤ w2.heap.size; omega) (.slice ba.ta ba.txs.length ba.tc))
  replace hY4 : Arr _ w2.heap.size 39 [.int .i64 1, .string ⟨#[]⟩, .int .i64 0, .int .i64 0, .string ⟨#[]⟩, .int .i64 ba.author, .int .i64 ba.number, .slice ba.ta ba.txs.length ba.tc, .int .i64 0, .int .i64 0, .slice none 0 0, .slice none 0 0, .int .i64 0, .int .i64 0, .slice none 0 0, .slice none 0 0, .slice none 0 0, .int .i64 0, .int .i64 0, .string ⟨#[]⟩, .slice none 0 0, .slice none 0 0, .int .i64 0, .string ⟨#[]⟩, .slice none 0 0] := hY4
  clear kk hX3 hZ3 hY3 hB3
  go_wp2_with fail
  refine (cd _).mono ?_
  rintro e w4 ⟨rfl, hw⟩
  rw [← hw] at hX4 hZ4 hY4 hB4
  clear hw cd
  clear x5 x6 x7 y5 y6 y7 f5 f6 f7
  go_wp2_with fail
  refine (cv _).mono ?_
  rintro e w4 ⟨rfl, hw⟩
  subst hw
  clear cv
  go_wp2_with fail
  refine (ct _).mono ?_
  rintro e w4 ⟨rfl, hw⟩
  subst hw
  clear ct
  go_wp2_with fail
  refine (ch _).mono ?_
  rintro e w4 ⟨rfl, hw⟩
  subst hw
  clear ch
  go_wp2_with fail
  refine (cc _).mono ?_
  rintro e w4 ⟨rfl, hw⟩
  subst hw
  clear cc
  go_wp2_with fail
  refine (ck _).mono ?_
  rintro e w4 ⟨rfl, hw⟩
  subst hw
  clear ck
  go_wp2_with fail
  refine (cq _).mono ?_
  rintro e w4 ⟨rfl, hw⟩
  subst hw
  clear cq
  have hF := hZ4.row [.int .i64 1, .string ⟨#[]⟩, .int .i64 0, .int .i64 0, .string ⟨#[]⟩, .int .i64 ba.author, .int .i64 ba.number, .slice ba.ta ba.txs.length ba.tc, .int .i64 0, .int .i64 0, .slice none 0 0, .slice none 0 0, .int .i64 0, .int .i64 0, .slice none 0 0, .slice none 0 0, .slice none 0 0, .int .i64 0, .int .i64 0, .string ⟨#[]⟩, .slice none 0 0, .slice none 0 0, .int .i64 0, .string ⟨#[]⟩, .slice none 0 0]
  have hBF := below_setRow hB4 (g := w.heap.size + 1) (Nat.le_succ _) [.int .i64 1, .string ⟨#[]⟩, .int .i64 0, .int .i64 0, .string ⟨#[]⟩, .int .i64 ba.author, .int .i64 ba.number, .slice ba.ta ba.txs.length ba.tc, .int .i64 0, .int .i64 0, .slice none 0 0, .slice none 0 0, .int .i64 0, .int .i64 0, .slice none 0 0, .slice none 0 0, .slice none 0 0, .int .i64 0, .int .i64 0, .string ⟨#[]⟩, .slice none 0 0, .slice none 0 0, .int .i64 0, .string ⟨#[]⟩, .slice none 0 0].toArray
  have h1 : (List.toArray (α := Value) [.int .i64 1, .string ⟨#[]⟩, .int .i64 0, .int .i64 0, .string ⟨#[]⟩, .int .i64 ba.author, .int .i64 ba.number, .slice ba.ta ba.txs.length ba.tc, .int .i64 0, .int .i64 0, .slice none 0 0, .slice none 0 0, .int .i64 0, .int .i64 0, .slice none 0 0, .slice none 0 0, .slice none 0 0, .int .i64 0, .int .i64 0, .string ⟨#[]⟩, .slice none 0 0, .slice none 0 0, .int .i64 0, .string ⟨#[]⟩, .slice none 0 0]).all (·.oneCell') = true := Array.all_eq_true_iff_forall_mem.2 (fun v hv => msgK.one ⟨1, ⟨#[]⟩, 0, tagZ, ba, hdr9, cert0, blk0, qc0⟩ v (List.mem_toArray.1 hv))
  go_wp2_with (first | refine wpList_load_row (by rfl) 39 _ (by rfl) w2.heap.size (by rfl) 39 _ (0, 0) _ hY4 Tryz.underlying39 (by rfl) infoMsg9 ?_ | refine wpList_store_row (by rfl) 39 _ _ (by rfl) (w.heap.size + 1) [.int .i64 1, .string ⟨#[]⟩, .int .i64 0, .int .i64 0, .string ⟨#[]⟩, .int .i64 ba.author, .int .i64 ba.number, .slice ba.ta ba.txs.length ba.tc, .int .i64 0, .int .i64 0, .slice none 0 0, .slice none 0 0, .int .i64 0, .int .i64 0, .slice none 0 0, .slice none 0 0, .slice none 0 0, .int .i64 0, .int .i64 0, .string ⟨#[]⟩, .slice none 0 0, .slice none 0 0, .int .i64 0, .string ⟨#[]⟩, .slice none 0 0].toArray (by rfl) (by rfl) 39 _ hZ4 infoMsg9 (by rfl) h1 ?_)
  refine bodyPost_ret (v := MsgM.v ⟨1, ⟨#[]⟩, 0, tagZ, ba, hdr9, cert0, blk0, qc0⟩) ?r1 ?r2 ?r3
  case r1 => exact results_msgO rfl _ _ (w.heap.size + 1) ⟨1, ⟨#[]⟩, 0, tagZ, ba, hdr9, cert0, blk0, qc0⟩ rfl hF
  case r2 => rfl
  exact ⟨by rw [hout.out], hBF⟩

set_option maxRecDepth 100000 in
set_option maxHeartbeats 8000000 in
theorem refBare_2 (dg : ByteArray) (vi : Int) (tg : TagD) (ba : BatM) (he : HdrM) (ce : CertM) (bl : BlkM) (q : QcM) (w : World) :
    Calls Tryz.prog 45 #[MsgM.v ⟨2, dg, vi, tg, ba, he, ce, bl, q⟩] w fun e w' => e = .returned (MsgM.v ⟨2, dg, 0, tg, bat0, hdr9, cert0, blk0, qc0⟩) ∧ Below w.heap.size w w' := by
  obtain ⟨hX, hZ, hB⟩ := two_new w 39 39 [.int .i64 2, .string dg, .int .i64 vi, .int .i64 tg.who, .string tg.mac, .int .i64 ba.author, .int .i64 ba.number, .slice ba.ta ba.txs.length ba.tc, .int .i64 he.author, .int .i64 he.round, .slice he.ra he.refs.length he.rc, .slice he.pa he.parents.length he.pc, .int .i64 ce.hdr.author, .int .i64 ce.hdr.round, .slice ce.hdr.ra ce.hdr.refs.length ce.hdr.rc, .slice ce.hdr.pa ce.hdr.parents.length ce.hdr.pc, .slice ce.va ce.votes.length ce.vc, .int .i64 bl.view, .int .i64 bl.qc.view, .string bl.qc.block, .slice bl.qc.va bl.qc.votes.length bl.qc.vc, .slice bl.ca bl.certs.length bl.cc, .int .i64 q.view, .string q.block, .slice q.va q.votes.length q.vc] [.int .i64 0, .string ⟨#[]⟩, .int .i64 0, .int .i64 0, .string ⟨#[]⟩, .int .i64 0, .int .i64 0, .slice none 0 0, .int .i64 0, .int .i64 0, .slice none 0 0, .slice none 0 0, .int .i64 0, .int .i64 0, .slice none 0 0, .slice none 0 0, .slice none 0 0, .int .i64 0, .int .i64 0, .string ⟨#[]⟩, .slice none 0 0, .slice none 0 0, .int .i64 0, .string ⟨#[]⟩, .slice none 0 0]
  obtain ⟨out, hout⟩ : ∃ v, Hid (v = MsgM.v ⟨2, dg, 0, tg, bat0, hdr9, cert0, blk0, qc0⟩) := ⟨_, rfl⟩
  rw [← hout.out]
  have cF : ∀ w1, Calls Tryz.prog 43 #[.int .i64 2] w1 fun e w' => e = .returned (.string ⟨#[100, 116]⟩) ∧ Below w1.heap.size w1 w' := fun w1 => refFields_any 2 w1
  have cb : ∀ w1, Calls Tryz.prog 46 #[.string ⟨#[100, 116]⟩, .int .u8 98] w1 fun e w' => e = .returned (.bool false) ∧ w' = w1 := fun w1 => refHas_any ⟨#[100, 116]⟩ 98 w1 (by decide)
  have cd : ∀ w1, Calls Tryz.prog 46 #[.string ⟨#[100, 116]⟩, .int .u8 100] w1 fun e w' => e = .returned (.bool true) ∧ w' = w1 := fun w1 => refHas_any ⟨#[100, 116]⟩ 100 w1 (by decide)
  have cv : ∀ w1, Calls Tryz.prog 46 #[.string ⟨#[100, 116]⟩, .int .u8 118] w1 fun e w' => e = .returned (.bool false) ∧ w' = w1 := fun w1 => refHas_any ⟨#[100, 116]⟩ 118 w1 (by decide)
  have ct : ∀ w1, Calls Tryz.prog 46 #[.string ⟨#[100, 116]⟩, .int .u8 116] w1 fun e w' => e = .returned (.bool true) ∧ w' = w1 := fun w1 => refHas_any ⟨#[100, 116]⟩ 116 w1 (by decide)
  have ch : ∀ w1, Calls Tryz.prog 46 #[.string ⟨#[100, 116]⟩, .int .u8 104] w1 fun e w' => e = .returned (.bool false) ∧ w' = w1 := fun w1 => refHas_any ⟨#[100, 116]⟩ 104 w1 (by decide)
  have cc : ∀ w1, Calls Tryz.prog 46 #[.string ⟨#[100, 116]⟩, .int .u8 99] w1 fun e w' => e = .returned (.bool false) ∧ w' = w1 := fun w1 => refHas_any ⟨#[100, 116]⟩ 99 w1 (by decide)
  have ck : ∀ w1, Calls Tryz.prog 46 #[.string ⟨#[100, 116]⟩, .int .u8 107] w1 fun e w' => e = .returned (.bool false) ∧ w' = w1 := fun w1 => refHas_any ⟨#[100, 116]⟩ 107 w1 (by decide)
  have cq : ∀ w1, Calls Tryz.prog 46 #[.string ⟨#[100, 116]⟩, .int .u8 113] w1 fun e w' => e = .returned (.bool false) ∧ w' = w1 := fun w1 => refHas_any ⟨#[100, 116]⟩ 113 w1 (by decide)
  unfold MsgM.v MsgM.c
  simp only
  obtain ⟨w1, hw1⟩ : ∃ q', (w.alloc (.cells [.int .i64 2, .string dg, .int .i64 vi, .int .i64 tg.who, .string tg.mac, .int .i64 ba.author, .int .i64 ba.number, .slice ba.ta ba.txs.length ba.tc, .int .i64 he.author, .int .i64 he.round, .slice he.ra he.refs.length he.rc, .slice he.pa he.parents.length he.pc, .int .i64 ce.hdr.author, .int .i64 ce.hdr.round, .slice ce.hdr.ra ce.hdr.refs.length ce.hdr.rc, .slice ce.hdr.pa ce.hdr.parents.length ce.hdr.pc, .slice ce.va ce.votes.length ce.vc, .int .i64 bl.view, .int .i64 bl.qc.view, .string bl.qc.block, .slice bl.qc.va bl.qc.votes.length bl.qc.vc, .slice bl.ca bl.certs.length bl.cc, .int .i64 q.view, .string q.block, .slice q.va q.votes.length q.vc].toArray 39)).alloc (.cells [.int .i64 0, .string ⟨#[]⟩, .int .i64 0, .int .i64 0, .string ⟨#[]⟩, .int .i64 0, .int .i64 0, .slice none 0 0, .int .i64 0, .int .i64 0, .slice none 0 0, .slice none 0 0, .int .i64 0, .int .i64 0, .slice none 0 0, .slice none 0 0, .slice none 0 0, .int .i64 0, .int .i64 0, .string ⟨#[]⟩, .slice none 0 0, .slice none 0 0, .int .i64 0, .string ⟨#[]⟩, .slice none 0 0].toArray 39) = q' := ⟨_, rfl⟩
  have hs1 : w.heap.size + 2 ≤ w1.heap.size := by rw [← hw1, alloc_size, alloc_size]; omega
  rw [hw1] at hX hZ hB
  have x0 := hX.cell (i := 0) rfl
  go_enter Tryz.func45, Tryz.ntmps45
  go_wp2_with fail
  refine (cF _).mono ?_
  rintro e w2 ⟨rfl, hb2⟩
  have hX2 := hX.below hb2 hX.lt
  have hZ2 := hZ.below hb2 hZ.lt
  have hB2 := hB.trans (hb2.mono hB.size)
  have hs2 : w.heap.size + 2 ≤ w2.heap.size := Nat.le_trans hs1 hb2.size
  clear hX hZ hB hb2 x0 hs1 hw1 cF
  have x0 := hX2.cell (i := 0) rfl
  have hN := Arr.new w2 39 [.int .i64 0, .string ⟨#[]⟩, .int .i64 0, .int .i64 0, .string ⟨#[]⟩, .int .i64 0, .int .i64 0, .slice none 0 0, .int .i64 0, .int .i64 0, .slice none 0 0, .slice none 0 0, .int .i64 0, .int .i64 0, .slice none 0 0, .slice none 0 0, .slice none 0 0, .int .i64 0, .int .i64 0, .string ⟨#[]⟩, .slice none 0 0, .slice none 0 0, .int .i64 0, .string ⟨#[]⟩, .slice none 0 0]
  have hbn := belowNew w2 (.cells [.int .i64 0, .string ⟨#[]⟩, .int .i64 0, .int .i64 0, .string ⟨#[]⟩, .int .i64 0, .int .i64 0, .slice none 0 0, .int .i64 0, .int .i64 0, .slice none 0 0, .slice none 0 0, .int .i64 0, .int .i64 0, .slice none 0 0, .slice none 0 0, .slice none 0 0, .int .i64 0, .int .i64 0, .string ⟨#[]⟩, .slice none 0 0, .slice none 0 0, .int .i64 0, .string ⟨#[]⟩, .slice none 0 0].toArray 39)
  have h1 : (List.toArray (α := Value) [.int .i64 2, .string ⟨#[]⟩, .int .i64 0, .int .i64 0, .string ⟨#[]⟩, .int .i64 0, .int .i64 0, .slice none 0 0, .int .i64 0, .int .i64 0, .slice none 0 0, .slice none 0 0, .int .i64 0, .int .i64 0, .slice none 0 0, .slice none 0 0, .slice none 0 0, .int .i64 0, .int .i64 0, .string ⟨#[]⟩, .slice none 0 0, .slice none 0 0, .int .i64 0, .string ⟨#[]⟩, .slice none 0 0]).all (·.oneCell') = true := Array.all_eq_true_iff_forall_mem.2 (fun v hv => msgK.one (msg0 2) v (List.mem_toArray.1 hv))
  have kN := kept_row (w2.alloc (.cells [.int .i64 0, .string ⟨#[]⟩, .int .i64 0, .int .i64 0, .string ⟨#[]⟩, .int .i64 0, .int .i64 0, .slice none 0 0, .int .i64 0, .int .i64 0, .slice none 0 0, .slice none 0 0, .int .i64 0, .int .i64 0, .slice none 0 0, .slice none 0 0, .slice none 0 0, .int .i64 0, .int .i64 0, .string ⟨#[]⟩, .slice none 0 0, .slice none 0 0, .int .i64 0, .string ⟨#[]⟩, .slice none 0 0].toArray 39)) w2.heap.size [.int .i64 2, .string ⟨#[]⟩, .int .i64 0, .int .i64 0, .string ⟨#[]⟩, .int .i64 0, .int .i64 0, .slice none 0 0, .int .i64 0, .int .i64 0, .slice none 0 0, .slice none 0 0, .int .i64 0, .int .i64 0, .slice none 0 0, .slice none 0 0, .slice none 0 0, .int .i64 0, .int .i64 0, .string ⟨#[]⟩, .slice none 0 0, .slice none 0 0, .int .i64 0, .string ⟨#[]⟩, .slice none 0 0].toArray
  have hY3 := hN.row [.int .i64 2, .string ⟨#[]⟩, .int .i64 0, .int .i64 0, .string ⟨#[]⟩, .int .i64 0, .int .i64 0, .slice none 0 0, .int .i64 0, .int .i64 0, .slice none 0 0, .slice none 0 0, .int .i64 0, .int .i64 0, .slice none 0 0, .slice none 0 0, .slice none 0 0, .int .i64 0, .int .i64 0, .string ⟨#[]⟩, .slice none 0 0, .slice none 0 0, .int .i64 0, .string ⟨#[]⟩, .slice none 0 0]
  have hX3 := (hX2.below hbn hX2.lt).kept kN (by omega)
  have hZ3 := (hZ2.below hbn hZ2.lt).kept kN (by omega)
  have hB3 := below_setRow (hB2.trans (hbn.mono hB2.size)) (g := w2.heap.size) (by omega) [.int .i64 2, .string ⟨#[]⟩, .int .i64 0, .int .i64 0, .string ⟨#[]⟩, .int .i64 0, .int .i64 0, .slice none 0 0, .int .i64 0, .int .i64 0, .slice none 0 0, .slice none 0 0, .int .i64 0, .int .i64 0, .slice none 0 0, .slice none 0 0, .slice none 0 0, .int .i64 0, .int .i64 0, .string ⟨#[]⟩, .slice none 0 0, .slice none 0 0, .int .i64 0, .string ⟨#[]⟩, .slice none 0 0].toArray
  go_wp2_with (refine wpList_store_row (by rfl) 39 _ _ (by rfl) w2.heap.size [.int .i64 2, .string ⟨#[]⟩, .int .i64 0, .int .i64 0, .string ⟨#[]⟩, .int .i64 0, .int .i64 0, .slice none 0 0, .int .i64 0, .int .i64 0, .slice none 0 0, .slice none 0 0, .int .i64 0, .int .i64 0, .slice none 0 0, .slice none 0 0, .slice none 0 0, .int .i64 0, .int .i64 0, .string ⟨#[]⟩, .slice none 0 0, .slice none 0 0, .int .i64 0, .string ⟨#[]⟩, .slice none 0 0].toArray (by rfl) (by rfl) 39 _ hN infoMsg9 (by rfl) h1 ?_)
  refine (cb _).mono ?_
  rintro e w3 ⟨rfl, hw⟩
  rw [← hw] at hX3 hZ3 hY3 hB3
  clear hw cb
  clear hN hbn h1 kN hX2 hZ2 hB2 x0
  go_wp2_with fail
  refine (cd _).mono ?_
  rintro e w3 ⟨rfl, hw⟩
  subst hw
  clear cd
  have x1 := hX3.cell (i := 1) rfl
  have y1 := hY3.cell (i := 1) rfl
  have f1 := hY3.frozen 1
  have hY4 := (hY3.set 1 (.string dg))
  have kk := ((Kept.refl (fun k => k = w2.heap.size) w3).set (p := ⟨w2.heap.size, 1, none⟩) rfl (.string dg))
  have hX4 := hX3.kept kk (by omega)
  have hZ4 := hZ3.kept kk (by omega)
  have hB4 := (hB3.setCell (p := ⟨w2.heap.size, 1, none⟩) (by show _ ≤ w2.heap.size; omega) (.string dg))
  replace hY4 : Arr _ w2.heap.size 39 [.int .i64 2, .string dg, .int .i64 0, .int .i64 0, .string ⟨#[]⟩, .int .i64 0, .int .i64 0, .slice none 0 0, .int .i64 0, .int .i64 0, .slice none 0 0, .slice none 0 0, .int .i64 0, .int .i64 0, .slice none 0 0, .slice none 0 0, .slice none 0 0, .int .i64 0, .int .i64 0, .string ⟨#[]⟩, .slice none 0 0, .slice none 0 0, .int .i64 0, .string ⟨#[]⟩, .slice none 0 0] := hY4
  clear kk hX3 hZ3 hY3 hB3
  go_wp2_with fail
  refine (cv _).mono ?_
  rintro e w4 ⟨rfl, hw⟩
  rw [← hw] at hX4 hZ4 hY4 hB4
  clear hw cv
  clear x1 y1 f1
  go_wp2_with fail
  refine (ct _).mono ?_
  rintro e w4 ⟨rfl, hw⟩
  subst hw
  clear ct
  have x3 := hX4.cell (i := 3) rfl
  have x4 := hX4.cell (i := 4) rfl
  have y3 := hY4.cell (i := 3) rfl
  have y4 := hY4.cell (i := 4) rfl
  have f3 := hY4.frozen 3
  have f4 := hY4.frozen 4
  have hY5 := ((hY4.set 3 (.int .i64 tg.who)).set 4 (.string tg.mac))
  have kk := (((Kept.refl (fun k => k = w2.heap.size) w4).set (p := ⟨w2.heap.size, 3, none⟩) rfl (.int .i64 tg.who)).set (p := ⟨w2.heap.size, 4, none⟩) rfl (.string tg.mac))
  have hX5 := hX4.kept kk (by omega)
  have hZ5 := hZ4.kept kk (by omega)
  have hB5 := ((hB4.setCell (p := ⟨w2.heap.size, 3, none⟩) (by show _ ≤ w2.heap.size; omega) (.int .i64 tg.who)).setCell (p := ⟨w2.heap.size, 4, none⟩) (by show _ ≤ w2.heap.size; omega) (.string tg.mac))
  replace hY5 : Arr _ w2.heap.size 39 [.int .i64 2, .string dg, .int .i64 0, .int .i64 tg.who, .string tg.mac, .int .i64 0, .int .i64 0, .slice none 0 0, .int .i64 0, .int .i64 0, .slice none 0 0, .slice none 0 0, .int .i64 0, .int .i64 0, .slice none 0 0, .slice none 0 0, .slice none 0 0, .int .i64 0, .int .i64 0, .string ⟨#[]⟩, .slice none 0 0, .slice none 0 0, .int .i64 0, .string ⟨#[]⟩, .slice none 0 0] := hY5
  clear kk hX4 hZ4 hY4 hB4
  go_wp2_with fail
  refine (ch _).mono ?_
  rintro e w5 ⟨rfl, hw⟩
  rw [← hw] at hX5 hZ5 hY5 hB5
  clear hw ch
  clear x3 x4 y3 y4 f3 f4
  go_wp2_with fail
  refine (cc _).mono ?_
  rintro e w5 ⟨rfl, hw⟩
  subst hw
  clear cc
  go_wp2_with fail
  refine (ck _).mono ?_
  rintro e w5 ⟨rfl, hw⟩
  subst hw
  clear ck
  go_wp2_with fail
  refine (cq _).mono ?_
  rintro e w5 ⟨rfl, hw⟩
  subst hw
  clear cq
  have hF := hZ5.row [.int .i64 2, .string dg, .int .i64 0, .int .i64 tg.who, .string tg.mac, .int .i64 0, .int .i64 0, .slice none 0 0, .int .i64 0, .int .i64 0, .slice none 0 0, .slice none 0 0, .int .i64 0, .int .i64 0, .slice none 0 0, .slice none 0 0, .slice none 0 0, .int .i64 0, .int .i64 0, .string ⟨#[]⟩, .slice none 0 0, .slice none 0 0, .int .i64 0, .string ⟨#[]⟩, .slice none 0 0]
  have hBF := below_setRow hB5 (g := w.heap.size + 1) (Nat.le_succ _) [.int .i64 2, .string dg, .int .i64 0, .int .i64 tg.who, .string tg.mac, .int .i64 0, .int .i64 0, .slice none 0 0, .int .i64 0, .int .i64 0, .slice none 0 0, .slice none 0 0, .int .i64 0, .int .i64 0, .slice none 0 0, .slice none 0 0, .slice none 0 0, .int .i64 0, .int .i64 0, .string ⟨#[]⟩, .slice none 0 0, .slice none 0 0, .int .i64 0, .string ⟨#[]⟩, .slice none 0 0].toArray
  have h1 : (List.toArray (α := Value) [.int .i64 2, .string dg, .int .i64 0, .int .i64 tg.who, .string tg.mac, .int .i64 0, .int .i64 0, .slice none 0 0, .int .i64 0, .int .i64 0, .slice none 0 0, .slice none 0 0, .int .i64 0, .int .i64 0, .slice none 0 0, .slice none 0 0, .slice none 0 0, .int .i64 0, .int .i64 0, .string ⟨#[]⟩, .slice none 0 0, .slice none 0 0, .int .i64 0, .string ⟨#[]⟩, .slice none 0 0]).all (·.oneCell') = true := Array.all_eq_true_iff_forall_mem.2 (fun v hv => msgK.one ⟨2, dg, 0, tg, bat0, hdr9, cert0, blk0, qc0⟩ v (List.mem_toArray.1 hv))
  go_wp2_with (first | refine wpList_load_row (by rfl) 39 _ (by rfl) w2.heap.size (by rfl) 39 _ (0, 0) _ hY5 Tryz.underlying39 (by rfl) infoMsg9 ?_ | refine wpList_store_row (by rfl) 39 _ _ (by rfl) (w.heap.size + 1) [.int .i64 2, .string dg, .int .i64 0, .int .i64 tg.who, .string tg.mac, .int .i64 0, .int .i64 0, .slice none 0 0, .int .i64 0, .int .i64 0, .slice none 0 0, .slice none 0 0, .int .i64 0, .int .i64 0, .slice none 0 0, .slice none 0 0, .slice none 0 0, .int .i64 0, .int .i64 0, .string ⟨#[]⟩, .slice none 0 0, .slice none 0 0, .int .i64 0, .string ⟨#[]⟩, .slice none 0 0].toArray (by rfl) (by rfl) 39 _ hZ5 infoMsg9 (by rfl) h1 ?_)
  refine bodyPost_ret (v := MsgM.v ⟨2, dg, 0, tg, bat0, hdr9, cert0, blk0, qc0⟩) ?r1 ?r2 ?r3
  case r1 => exact results_msgO rfl _ _ (w.heap.size + 1) ⟨2, dg, 0, tg, bat0, hdr9, cert0, blk0, qc0⟩ rfl hF
  case r2 => rfl
  exact ⟨by rw [hout.out], hBF⟩

set_option maxRecDepth 100000 in
set_option maxHeartbeats 8000000 in
theorem refBare_3 (dg : ByteArray) (vi : Int) (tg : TagD) (ba : BatM) (he : HdrM) (ce : CertM) (bl : BlkM) (q : QcM) (w : World) :
    Calls Tryz.prog 45 #[MsgM.v ⟨3, dg, vi, tg, ba, he, ce, bl, q⟩] w fun e w' => e = .returned (MsgM.v ⟨3, ⟨#[]⟩, 0, tagZ, bat0, he, cert0, blk0, qc0⟩) ∧ Below w.heap.size w w' := by
  obtain ⟨hX, hZ, hB⟩ := two_new w 39 39 [.int .i64 3, .string dg, .int .i64 vi, .int .i64 tg.who, .string tg.mac, .int .i64 ba.author, .int .i64 ba.number, .slice ba.ta ba.txs.length ba.tc, .int .i64 he.author, .int .i64 he.round, .slice he.ra he.refs.length he.rc, .slice he.pa he.parents.length he.pc, .int .i64 ce.hdr.author, .int .i64 ce.hdr.round, .slice ce.hdr.ra ce.hdr.refs.length ce.hdr.rc, .slice ce.hdr.pa ce.hdr.parents.length ce.hdr.pc, .slice ce.va ce.votes.length ce.vc, .int .i64 bl.view, .int .i64 bl.qc.view, .string bl.qc.block, .slice bl.qc.va bl.qc.votes.length bl.qc.vc, .slice bl.ca bl.certs.length bl.cc, .int .i64 q.view, .string q.block, .slice q.va q.votes.length q.vc] [.int .i64 0, .string ⟨#[]⟩, .int .i64 0, .int .i64 0, .string ⟨#[]⟩, .int .i64 0, .int .i64 0, .slice none 0 0, .int .i64 0, .int .i64 0, .slice none 0 0, .slice none 0 0, .int .i64 0, .int .i64 0, .slice none 0 0, .slice none 0 0, .slice none 0 0, .int .i64 0, .int .i64 0, .string ⟨#[]⟩, .slice none 0 0, .slice none 0 0, .int .i64 0, .string ⟨#[]⟩, .slice none 0 0]
  obtain ⟨out, hout⟩ : ∃ v, Hid (v = MsgM.v ⟨3, ⟨#[]⟩, 0, tagZ, bat0, he, cert0, blk0, qc0⟩) := ⟨_, rfl⟩
  rw [← hout.out]
  have cF : ∀ w1, Calls Tryz.prog 43 #[.int .i64 3] w1 fun e w' => e = .returned (.string ⟨#[104]⟩) ∧ Below w1.heap.size w1 w' := fun w1 => refFields_any 3 w1
  have cb : ∀ w1, Calls Tryz.prog 46 #[.string ⟨#[104]⟩, .int .u8 98] w1 fun e w' => e = .returned (.bool false) ∧ w' = w1 := fun w1 => refHas_any ⟨#[104]⟩ 98 w1 (by decide)
  have cd : ∀ w1, Calls Tryz.prog 46 #[.string ⟨#[104]⟩, .int .u8 100] w1 fun e w' => e = .returned (.bool false) ∧ w' = w1 := fun w1 => refHas_any ⟨#[104]⟩ 100 w1 (by decide)
  have cv : ∀ w1, Calls Tryz.prog 46 #[.string ⟨#[104]⟩, .int .u8 118] w1 fun e w' => e = .returned (.bool false) ∧ w' = w1 := fun w1 => refHas_any ⟨#[104]⟩ 118 w1 (by decide)
  have ct : ∀ w1, Calls Tryz.prog 46 #[.string ⟨#[104]⟩, .int .u8 116] w1 fun e w' => e = .returned (.bool false) ∧ w' = w1 := fun w1 => refHas_any ⟨#[104]⟩ 116 w1 (by decide)
  have ch : ∀ w1, Calls Tryz.prog 46 #[.string ⟨#[104]⟩, .int .u8 104] w1 fun e w' => e = .returned (.bool true) ∧ w' = w1 := fun w1 => refHas_any ⟨#[104]⟩ 104 w1 (by decide)
  have cc : ∀ w1, Calls Tryz.prog 46 #[.string ⟨#[104]⟩, .int .u8 99] w1 fun e w' => e = .returned (.bool false) ∧ w' = w1 := fun w1 => refHas_any ⟨#[104]⟩ 99 w1 (by decide)
  have ck : ∀ w1, Calls Tryz.prog 46 #[.string ⟨#[104]⟩, .int .u8 107] w1 fun e w' => e = .returned (.bool false) ∧ w' = w1 := fun w1 => refHas_any ⟨#[104]⟩ 107 w1 (by decide)
  have cq : ∀ w1, Calls Tryz.prog 46 #[.string ⟨#[104]⟩, .int .u8 113] w1 fun e w' => e = .returned (.bool false) ∧ w' = w1 := fun w1 => refHas_any ⟨#[104]⟩ 113 w1 (by decide)
  unfold MsgM.v MsgM.c
  simp only
  obtain ⟨w1, hw1⟩ : ∃ q', (w.alloc (.cells [.int .i64 3, .string dg, .int .i64 vi, .int .i64 tg.who, .string tg.mac, .int .i64 ba.author, .int .i64 ba.number, .slice ba.ta ba.txs.length ba.tc, .int .i64 he.author, .int .i64 he.round, .slice he.ra he.refs.length he.rc, .slice he.pa he.parents.length he.pc, .int .i64 ce.hdr.author, .int .i64 ce.hdr.round, .slice ce.hdr.ra ce.hdr.refs.length ce.hdr.rc, .slice ce.hdr.pa ce.hdr.parents.length ce.hdr.pc, .slice ce.va ce.votes.length ce.vc, .int .i64 bl.view, .int .i64 bl.qc.view, .string bl.qc.block, .slice bl.qc.va bl.qc.votes.length bl.qc.vc, .slice bl.ca bl.certs.length bl.cc, .int .i64 q.view, .string q.block, .slice q.va q.votes.length q.vc].toArray 39)).alloc (.cells [.int .i64 0, .string ⟨#[]⟩, .int .i64 0, .int .i64 0, .string ⟨#[]⟩, .int .i64 0, .int .i64 0, .slice none 0 0, .int .i64 0, .int .i64 0, .slice none 0 0, .slice none 0 0, .int .i64 0, .int .i64 0, .slice none 0 0, .slice none 0 0, .slice none 0 0, .int .i64 0, .int .i64 0, .string ⟨#[]⟩, .slice none 0 0, .slice none 0 0, .int .i64 0, .string ⟨#[]⟩, .slice none 0 0].toArray 39) = q' := ⟨_, rfl⟩
  have hs1 : w.heap.size + 2 ≤ w1.heap.size := by rw [← hw1, alloc_size, alloc_size]; omega
  rw [hw1] at hX hZ hB
  have x0 := hX.cell (i := 0) rfl
  go_enter Tryz.func45, Tryz.ntmps45
  go_wp2_with fail
  refine (cF _).mono ?_
  rintro e w2 ⟨rfl, hb2⟩
  have hX2 := hX.below hb2 hX.lt
  have hZ2 := hZ.below hb2 hZ.lt
  have hB2 := hB.trans (hb2.mono hB.size)
  have hs2 : w.heap.size + 2 ≤ w2.heap.size := Nat.le_trans hs1 hb2.size
  clear hX hZ hB hb2 x0 hs1 hw1 cF
  have x0 := hX2.cell (i := 0) rfl
  have hN := Arr.new w2 39 [.int .i64 0, .string ⟨#[]⟩, .int .i64 0, .int .i64 0, .string ⟨#[]⟩, .int .i64 0, .int .i64 0, .slice none 0 0, .int .i64 0, .int .i64 0, .slice none 0 0, .slice none 0 0, .int .i64 0, .int .i64 0, .slice none 0 0, .slice none 0 0, .slice none 0 0, .int .i64 0, .int .i64 0, .string ⟨#[]⟩, .slice none 0 0, .slice none 0 0, .int .i64 0, .string ⟨#[]⟩, .slice none 0 0]
  have hbn := belowNew w2 (.cells [.int .i64 0, .string ⟨#[]⟩, .int .i64 0, .int .i64 0, .string ⟨#[]⟩, .int .i64 0, .int .i64 0, .slice none 0 0, .int .i64 0, .int .i64 0, .slice none 0 0, .slice none 0 0, .int .i64 0, .int .i64 0, .slice none 0 0, .slice none 0 0, .slice none 0 0, .int .i64 0, .int .i64 0, .string ⟨#[]⟩, .slice none 0 0, .slice none 0 0, .int .i64 0, .string ⟨#[]⟩, .slice none 0 0].toArray 39)
  have h1 : (List.toArray (α := Value) [.int .i64 3, .string ⟨#[]⟩, .int .i64 0, .int .i64 0, .string ⟨#[]⟩, .int .i64 0, .int .i64 0, .slice none 0 0, .int .i64 0, .int .i64 0, .slice none 0 0, .slice none 0 0, .int .i64 0, .int .i64 0, .slice none 0 0, .slice none 0 0, .slice none 0 0, .int .i64 0, .int .i64 0, .string ⟨#[]⟩, .slice none 0 0, .slice none 0 0, .int .i64 0, .string ⟨#[]⟩, .slice none 0 0]).all (·.oneCell') = true := Array.all_eq_true_iff_forall_mem.2 (fun v hv => msgK.one (msg0 3) v (List.mem_toArray.1 hv))
  have kN := kept_row (w2.alloc (.cells [.int .i64 0, .string ⟨#[]⟩, .int .i64 0, .int .i64 0, .string ⟨#[]⟩, .int .i64 0, .int .i64 0, .slice none 0 0, .int .i64 0, .int .i64 0, .slice none 0 0, .slice none 0 0, .int .i64 0, .int .i64 0, .slice none 0 0, .slice none 0 0, .slice none 0 0, .int .i64 0, .int .i64 0, .string ⟨#[]⟩, .slice none 0 0, .slice none 0 0, .int .i64 0, .string ⟨#[]⟩, .slice none 0 0].toArray 39)) w2.heap.size [.int .i64 3, .string ⟨#[]⟩, .int .i64 0, .int .i64 0, .string ⟨#[]⟩, .int .i64 0, .int .i64 0, .slice none 0 0, .int .i64 0, .int .i64 0, .slice none 0 0, .slice none 0 0, .int .i64 0, .int .i64 0, .slice none 0 0, .slice none 0 0, .slice none 0 0, .int .i64 0, .int .i64 0, .string ⟨#[]⟩, .slice none 0 0, .slice none 0 0, .int .i64 0, .string ⟨#[]⟩, .slice none 0 0].toArray
  have hY3 := hN.row [.int .i64 3, .string ⟨#[]⟩, .int .i64 0, .int .i64 0, .string ⟨#[]⟩, .int .i64 0, .int .i64 0, .slice none 0 0, .int .i64 0, .int .i64 0, .slice none 0 0, .slice none 0 0, .int .i64 0, .int .i64 0, .slice none 0 0, .slice none 0 0, .slice none 0 0, .int .i64 0, .int .i64 0, .string ⟨#[]⟩, .slice none 0 0, .slice none 0 0, .int .i64 0, .string ⟨#[]⟩, .slice none 0 0]
  have hX3 := (hX2.below hbn hX2.lt).kept kN (by omega)
  have hZ3 := (hZ2.below hbn hZ2.lt).kept kN (by omega)
  have hB3 := below_setRow (hB2.trans (hbn.mono hB2.size)) (g := w2.heap.size) (by omega) [.int .i64 3, .string ⟨#[]⟩, .int .i64 0, .int .i64 0, .string ⟨#[]⟩, .int .i64 0, .int .i64 0, .slice none 0 0, .int .i64 0, .int .i64 0, .slice none 0 0, .slice none 0 0, .int .i64 0, .int .i64 0, .slice none 0 0, .slice none 0 0, .slice none 0 0, .int .i64 0, .int .i64 0, .string ⟨#[]⟩, .slice none 0 0, .slice none 0 0, .int .i64 0, .string ⟨#[]⟩, .slice none 0 0].toArray
  go_wp2_with (refine wpList_store_row (by rfl) 39 _ _ (by rfl) w2.heap.size [.int .i64 3, .string ⟨#[]⟩, .int .i64 0, .int .i64 0, .string ⟨#[]⟩, .int .i64 0, .int .i64 0, .slice none 0 0, .int .i64 0, .int .i64 0, .slice none 0 0, .slice none 0 0, .int .i64 0, .int .i64 0, .slice none 0 0, .slice none 0 0, .slice none 0 0, .int .i64 0, .int .i64 0, .string ⟨#[]⟩, .slice none 0 0, .slice none 0 0, .int .i64 0, .string ⟨#[]⟩, .slice none 0 0].toArray (by rfl) (by rfl) 39 _ hN infoMsg9 (by rfl) h1 ?_)
  refine (cb _).mono ?_
  rintro e w3 ⟨rfl, hw⟩
  rw [← hw] at hX3 hZ3 hY3 hB3
  clear hw cb
  clear hN hbn h1 kN hX2 hZ2 hB2 x0
  go_wp2_with fail
  refine (cd _).mono ?_
  rintro e w3 ⟨rfl, hw⟩
  subst hw
  clear cd
  go_wp2_with fail
  refine (cv _).mono ?_
  rintro e w3 ⟨rfl, hw⟩
  subst hw
  clear cv
  go_wp2_with fail
  refine (ct _).mono ?_
  rintro e w3 ⟨rfl, hw⟩
  subst hw
  clear ct
  go_wp2_with fail
  refine (ch _).mono ?_
  rintro e w3 ⟨rfl, hw⟩
  subst hw
  clear ch
  have x8 := hX3.cell (i := 8) rfl
  have x9 := hX3.cell (i := 9) rfl
  have x10 := hX3.cell (i := 10) rfl
  have x11 := hX3.cell (i := 11) rfl
  have y8 := hY3.cell (i := 8) rfl
  have y9 := hY3.cell (i := 9) rfl
  have y10 := hY3.cell (i := 10) rfl
  have y11 := hY3.cell (i := 11) rfl
  have f8 := hY3.frozen 8
  have f9 := hY3.frozen 9
  have f10 := hY3.frozen 10
  have f11 := hY3.frozen 11
  have hY4 := ((((hY3.set 8 (.int .i64 he.author)).set 9 (.int .i64 he.round)).set 10 (.slice he.ra he.refs.length he.rc)).set 11 (.slice he.pa he.parents.length he.pc))
  have kk := (((((Kept.refl (fun k => k = w2.heap.size) w3).set (p := ⟨w2.heap.size, 8, none⟩) rfl (.int .i64 he.author)).set (p := ⟨w2.heap.size, 9, none⟩) rfl (.int .i64 he.round)).set (p := ⟨w2.heap.size, 10, none⟩) rfl (.slice he.ra he.refs.length he.rc)).set (p := ⟨w2.heap.size, 11, none⟩) rfl (.slice he.pa he.parents.length he.pc))
  have hX4 := hX3.kept kk (by omega)
  have hZ4 := hZ3.kept kk (by omega)
  have hB4 := ((((hB3.setCell (p := ⟨w2.heap.size, 8, none⟩) (by show _ ≤ w2.heap.size; omega) (.int .i64 he.author)).setCell (p := ⟨w2.heap.size, 9, none⟩) (by show _ ≤ w2.heap.size; omega) (.int .i64 he.round)).setCell (p := ⟨w2.heap.size, 10, none⟩) (by show _ ≤ w2.heap.size; omega) (.slice he.ra he.refs.length he.rc)).setCell (p := ⟨w2.heap.size, 11, none⟩) (by show _ ≤ w2.heap.size; omega) (.slice he.pa he.parents.length he.pc))
  replace hY4 : Arr _ w2.heap.size 39 [.int .i64 3, .string ⟨#[]⟩, .int .i64 0, .int .i64 0, .string ⟨#[]⟩, .int .i64 0, .int .i64 0, .slice none 0 0, .int .i64 he.author, .int .i64 he.round, .slice he.ra he.refs.length he.rc, .slice he.pa he.parents.length he.pc, .int .i64 0, .int .i64 0, .slice none 0 0, .slice none 0 0, .slice none 0 0, .int .i64 0, .int .i64 0, .string ⟨#[]⟩, .slice none 0 0, .slice none 0 0, .int .i64 0, .string ⟨#[]⟩, .slice none 0 0] := hY4
  clear kk hX3 hZ3 hY3 hB3
  go_wp2_with fail
  refine (cc _).mono ?_
  rintro e w4 ⟨rfl, hw⟩
  rw [← hw] at hX4 hZ4 hY4 hB4
  clear hw cc
  clear x8 x9 x10 x11 y8 y9 y10 y11 f8 f9 f10 f11
  go_wp2_with fail
  refine (ck _).mono ?_
  rintro e w4 ⟨rfl, hw⟩
  subst hw
  clear ck
  go_wp2_with fail
  refine (cq _).mono ?_
  rintro e w4 ⟨rfl, hw⟩
  subst hw
  clear cq
  have hF := hZ4.row [.int .i64 3, .string ⟨#[]⟩, .int .i64 0, .int .i64 0, .string ⟨#[]⟩, .int .i64 0, .int .i64 0, .slice none 0 0, .int .i64 he.author, .int .i64 he.round, .slice he.ra he.refs.length he.rc, .slice he.pa he.parents.length he.pc, .int .i64 0, .int .i64 0, .slice none 0 0, .slice none 0 0, .slice none 0 0, .int .i64 0, .int .i64 0, .string ⟨#[]⟩, .slice none 0 0, .slice none 0 0, .int .i64 0, .string ⟨#[]⟩, .slice none 0 0]
  have hBF := below_setRow hB4 (g := w.heap.size + 1) (Nat.le_succ _) [.int .i64 3, .string ⟨#[]⟩, .int .i64 0, .int .i64 0, .string ⟨#[]⟩, .int .i64 0, .int .i64 0, .slice none 0 0, .int .i64 he.author, .int .i64 he.round, .slice he.ra he.refs.length he.rc, .slice he.pa he.parents.length he.pc, .int .i64 0, .int .i64 0, .slice none 0 0, .slice none 0 0, .slice none 0 0, .int .i64 0, .int .i64 0, .string ⟨#[]⟩, .slice none 0 0, .slice none 0 0, .int .i64 0, .string ⟨#[]⟩, .slice none 0 0].toArray
  have h1 : (List.toArray (α := Value) [.int .i64 3, .string ⟨#[]⟩, .int .i64 0, .int .i64 0, .string ⟨#[]⟩, .int .i64 0, .int .i64 0, .slice none 0 0, .int .i64 he.author, .int .i64 he.round, .slice he.ra he.refs.length he.rc, .slice he.pa he.parents.length he.pc, .int .i64 0, .int .i64 0, .slice none 0 0, .slice none 0 0, .slice none 0 0, .int .i64 0, .int .i64 0, .string ⟨#[]⟩, .slice none 0 0, .slice none 0 0, .int .i64 0, .string ⟨#[]⟩, .slice none 0 0]).all (·.oneCell') = true := Array.all_eq_true_iff_forall_mem.2 (fun v hv => msgK.one ⟨3, ⟨#[]⟩, 0, tagZ, bat0, he, cert0, blk0, qc0⟩ v (List.mem_toArray.1 hv))
  go_wp2_with (first | refine wpList_load_row (by rfl) 39 _ (by rfl) w2.heap.size (by rfl) 39 _ (0, 0) _ hY4 Tryz.underlying39 (by rfl) infoMsg9 ?_ | refine wpList_store_row (by rfl) 39 _ _ (by rfl) (w.heap.size + 1) [.int .i64 3, .string ⟨#[]⟩, .int .i64 0, .int .i64 0, .string ⟨#[]⟩, .int .i64 0, .int .i64 0, .slice none 0 0, .int .i64 he.author, .int .i64 he.round, .slice he.ra he.refs.length he.rc, .slice he.pa he.parents.length he.pc, .int .i64 0, .int .i64 0, .slice none 0 0, .slice none 0 0, .slice none 0 0, .int .i64 0, .int .i64 0, .string ⟨#[]⟩, .slice none 0 0, .slice none 0 0, .int .i64 0, .string ⟨#[]⟩, .slice none 0 0].toArray (by rfl) (by rfl) 39 _ hZ4 infoMsg9 (by rfl) h1 ?_)
  refine bodyPost_ret (v := MsgM.v ⟨3, ⟨#[]⟩, 0, tagZ, bat0, he, cert0, blk0, qc0⟩) ?r1 ?r2 ?r3
  case r1 => exact results_msgO rfl _ _ (w.heap.size + 1) ⟨3, ⟨#[]⟩, 0, tagZ, bat0, he, cert0, blk0, qc0⟩ rfl hF
  case r2 => rfl
  exact ⟨by rw [hout.out], hBF⟩

set_option maxRecDepth 100000 in
set_option maxHeartbeats 8000000 in
theorem refBare_4 (dg : ByteArray) (vi : Int) (tg : TagD) (ba : BatM) (he : HdrM) (ce : CertM) (bl : BlkM) (q : QcM) (w : World) :
    Calls Tryz.prog 45 #[MsgM.v ⟨4, dg, vi, tg, ba, he, ce, bl, q⟩] w fun e w' => e = .returned (MsgM.v ⟨4, dg, 0, tg, bat0, hdr9, cert0, blk0, qc0⟩) ∧ Below w.heap.size w w' := by
  obtain ⟨hX, hZ, hB⟩ := two_new w 39 39 [.int .i64 4, .string dg, .int .i64 vi, .int .i64 tg.who, .string tg.mac, .int .i64 ba.author, .int .i64 ba.number, .slice ba.ta ba.txs.length ba.tc, .int .i64 he.author, .int .i64 he.round, .slice he.ra he.refs.length he.rc, .slice he.pa he.parents.length he.pc, .int .i64 ce.hdr.author, .int .i64 ce.hdr.round, .slice ce.hdr.ra ce.hdr.refs.length ce.hdr.rc, .slice ce.hdr.pa ce.hdr.parents.length ce.hdr.pc, .slice ce.va ce.votes.length ce.vc, .int .i64 bl.view, .int .i64 bl.qc.view, .string bl.qc.block, .slice bl.qc.va bl.qc.votes.length bl.qc.vc, .slice bl.ca bl.certs.length bl.cc, .int .i64 q.view, .string q.block, .slice q.va q.votes.length q.vc] [.int .i64 0, .string ⟨#[]⟩, .int .i64 0, .int .i64 0, .string ⟨#[]⟩, .int .i64 0, .int .i64 0, .slice none 0 0, .int .i64 0, .int .i64 0, .slice none 0 0, .slice none 0 0, .int .i64 0, .int .i64 0, .slice none 0 0, .slice none 0 0, .slice none 0 0, .int .i64 0, .int .i64 0, .string ⟨#[]⟩, .slice none 0 0, .slice none 0 0, .int .i64 0, .string ⟨#[]⟩, .slice none 0 0]
  obtain ⟨out, hout⟩ : ∃ v, Hid (v = MsgM.v ⟨4, dg, 0, tg, bat0, hdr9, cert0, blk0, qc0⟩) := ⟨_, rfl⟩
  rw [← hout.out]
  have cF : ∀ w1, Calls Tryz.prog 43 #[.int .i64 4] w1 fun e w' => e = .returned (.string ⟨#[100, 116]⟩) ∧ Below w1.heap.size w1 w' := fun w1 => refFields_any 4 w1
  have cb : ∀ w1, Calls Tryz.prog 46 #[.string ⟨#[100, 116]⟩, .int .u8 98] w1 fun e w' => e = .returned (.bool false) ∧ w' = w1 := fun w1 => refHas_any ⟨#[100, 116]⟩ 98 w1 (by decide)
  have cd : ∀ w1, Calls Tryz.prog 46 #[.string ⟨#[100, 116]⟩, .int .u8 100] w1 fun e w' => e = .returned (.bool true) ∧ w' = w1 := fun w1 => refHas_any ⟨#[100, 116]⟩ 100 w1 (by decide)
  have cv : ∀ w1, Calls Tryz.prog 46 #[.string ⟨#[100, 116]⟩, .int .u8 118] w1 fun e w' => e = .returned (.bool false) ∧ w' = w1 := fun w1 => refHas_any ⟨#[100, 116]⟩ 118 w1 (by decide)
  have ct : ∀ w1, Calls Tryz.prog 46 #[.string ⟨#[100, 116]⟩, .int .u8 116] w1 fun e w' => e = .returned (.bool true) ∧ w' = w1 := fun w1 => refHas_any ⟨#[100, 116]⟩ 116 w1 (by decide)
  have ch : ∀ w1, Calls Tryz.prog 46 #[.string ⟨#[100, 116]⟩, .int .u8 104] w1 fun e w' => e = .returned (.bool false) ∧ w' = w1 := fun w1 => refHas_any ⟨#[100, 116]⟩ 104 w1 (by decide)
  have cc : ∀ w1, Calls Tryz.prog 46 #[.string ⟨#[100, 116]⟩, .int .u8 99] w1 fun e w' => e = .returned (.bool false) ∧ w' = w1 := fun w1 => refHas_any ⟨#[100, 116]⟩ 99 w1 (by decide)
  have ck : ∀ w1, Calls Tryz.prog 46 #[.string ⟨#[100, 116]⟩, .int .u8 107] w1 fun e w' => e = .returned (.bool false) ∧ w' = w1 := fun w1 => refHas_any ⟨#[100, 116]⟩ 107 w1 (by decide)
  have cq : ∀ w1, Calls Tryz.prog 46 #[.string ⟨#[100, 116]⟩, .int .u8 113] w1 fun e w' => e = .returned (.bool false) ∧ w' = w1 := fun w1 => refHas_any ⟨#[100, 116]⟩ 113 w1 (by decide)
  unfold MsgM.v MsgM.c
  simp only
  obtain ⟨w1, hw1⟩ : ∃ q', (w.alloc (.cells [.int .i64 4, .string dg, .int .i64 vi, .int .i64 tg.who, .string tg.mac, .int .i64 ba.author, .int .i64 ba.number, .slice ba.ta ba.txs.length ba.tc, .int .i64 he.author, .int .i64 he.round, .slice he.ra he.refs.length he.rc, .slice he.pa he.parents.length he.pc, .int .i64 ce.hdr.author, .int .i64 ce.hdr.round, .slice ce.hdr.ra ce.hdr.refs.length ce.hdr.rc, .slice ce.hdr.pa ce.hdr.parents.length ce.hdr.pc, .slice ce.va ce.votes.length ce.vc, .int .i64 bl.view, .int .i64 bl.qc.view, .string bl.qc.block, .slice bl.qc.va bl.qc.votes.length bl.qc.vc, .slice bl.ca bl.certs.length bl.cc, .int .i64 q.view, .string q.block, .slice q.va q.votes.length q.vc].toArray 39)).alloc (.cells [.int .i64 0, .string ⟨#[]⟩, .int .i64 0, .int .i64 0, .string ⟨#[]⟩, .int .i64 0, .int .i64 0, .slice none 0 0, .int .i64 0, .int .i64 0, .slice none 0 0, .slice none 0 0, .int .i64 0, .int .i64 0, .slice none 0 0, .slice none 0 0, .slice none 0 0, .int .i64 0, .int .i64 0, .string ⟨#[]⟩, .slice none 0 0, .slice none 0 0, .int .i64 0, .string ⟨#[]⟩, .slice none 0 0].toArray 39) = q' := ⟨_, rfl⟩
  have hs1 : w.heap.size + 2 ≤ w1.heap.size := by rw [← hw1, alloc_size, alloc_size]; omega
  rw [hw1] at hX hZ hB
  have x0 := hX.cell (i := 0) rfl
  go_enter Tryz.func45, Tryz.ntmps45
  go_wp2_with fail
  refine (cF _).mono ?_
  rintro e w2 ⟨rfl, hb2⟩
  have hX2 := hX.below hb2 hX.lt
  have hZ2 := hZ.below hb2 hZ.lt
  have hB2 := hB.trans (hb2.mono hB.size)
  have hs2 : w.heap.size + 2 ≤ w2.heap.size := Nat.le_trans hs1 hb2.size
  clear hX hZ hB hb2 x0 hs1 hw1 cF
  have x0 := hX2.cell (i := 0) rfl
  have hN := Arr.new w2 39 [.int .i64 0, .string ⟨#[]⟩, .int .i64 0, .int .i64 0, .string ⟨#[]⟩, .int .i64 0, .int .i64 0, .slice none 0 0, .int .i64 0, .int .i64 0, .slice none 0 0, .slice none 0 0, .int .i64 0, .int .i64 0, .slice none 0 0, .slice none 0 0, .slice none 0 0, .int .i64 0, .int .i64 0, .string ⟨#[]⟩, .slice none 0 0, .slice none 0 0, .int .i64 0, .string ⟨#[]⟩, .slice none 0 0]
  have hbn := belowNew w2 (.cells [.int .i64 0, .string ⟨#[]⟩, .int .i64 0, .int .i64 0, .string ⟨#[]⟩, .int .i64 0, .int .i64 0, .slice none 0 0, .int .i64 0, .int .i64 0, .slice none 0 0, .slice none 0 0, .int .i64 0, .int .i64 0, .slice none 0 0, .slice none 0 0, .slice none 0 0, .int .i64 0, .int .i64 0, .string ⟨#[]⟩, .slice none 0 0, .slice none 0 0, .int .i64 0, .string ⟨#[]⟩, .slice none 0 0].toArray 39)
  have h1 : (List.toArray (α := Value) [.int .i64 4, .string ⟨#[]⟩, .int .i64 0, .int .i64 0, .string ⟨#[]⟩, .int .i64 0, .int .i64 0, .slice none 0 0, .int .i64 0, .int .i64 0, .slice none 0 0, .slice none 0 0, .int .i64 0, .int .i64 0, .slice none 0 0, .slice none 0 0, .slice none 0 0, .int .i64 0, .int .i64 0, .string ⟨#[]⟩, .slice none 0 0, .slice none 0 0, .int .i64 0, .string ⟨#[]⟩, .slice none 0 0]).all (·.oneCell') = true := Array.all_eq_true_iff_forall_mem.2 (fun v hv => msgK.one (msg0 4) v (List.mem_toArray.1 hv))
  have kN := kept_row (w2.alloc (.cells [.int .i64 0, .string ⟨#[]⟩, .int .i64 0, .int .i64 0, .string ⟨#[]⟩, .int .i64 0, .int .i64 0, .slice none 0 0, .int .i64 0, .int .i64 0, .slice none 0 0, .slice none 0 0, .int .i64 0, .int .i64 0, .slice none 0 0, .slice none 0 0, .slice none 0 0, .int .i64 0, .int .i64 0, .string ⟨#[]⟩, .slice none 0 0, .slice none 0 0, .int .i64 0, .string ⟨#[]⟩, .slice none 0 0].toArray 39)) w2.heap.size [.int .i64 4, .string ⟨#[]⟩, .int .i64 0, .int .i64 0, .string ⟨#[]⟩, .int .i64 0, .int .i64 0, .slice none 0 0, .int .i64 0, .int .i64 0, .slice none 0 0, .slice none 0 0, .int .i64 0, .int .i64 0, .slice none 0 0, .slice none 0 0, .slice none 0 0, .int .i64 0, .int .i64 0, .string ⟨#[]⟩, .slice none 0 0, .slice none 0 0, .int .i64 0, .string ⟨#[]⟩, .slice none 0 0].toArray
  have hY3 := hN.row [.int .i64 4, .string ⟨#[]⟩, .int .i64 0, .int .i64 0, .string ⟨#[]⟩, .int .i64 0, .int .i64 0, .slice none 0 0, .int .i64 0, .int .i64 0, .slice none 0 0, .slice none 0 0, .int .i64 0, .int .i64 0, .slice none 0 0, .slice none 0 0, .slice none 0 0, .int .i64 0, .int .i64 0, .string ⟨#[]⟩, .slice none 0 0, .slice none 0 0, .int .i64 0, .string ⟨#[]⟩, .slice none 0 0]
  have hX3 := (hX2.below hbn hX2.lt).kept kN (by omega)
  have hZ3 := (hZ2.below hbn hZ2.lt).kept kN (by omega)
  have hB3 := below_setRow (hB2.trans (hbn.mono hB2.size)) (g := w2.heap.size) (by omega) [.int .i64 4, .string ⟨#[]⟩, .int .i64 0, .int .i64 0, .string ⟨#[]⟩, .int .i64 0, .int .i64 0, .slice none 0 0, .int .i64 0, .int .i64 0, .slice none 0 0, .slice none 0 0, .int .i64 0, .int .i64 0, .slice none 0 0, .slice none 0 0, .slice none 0 0, .int .i64 0, .int .i64 0, .string ⟨#[]⟩, .slice none 0 0, .slice none 0 0, .int .i64 0, .string ⟨#[]⟩, .slice none 0 0].toArray
  go_wp2_with (refine wpList_store_row (by rfl) 39 _ _ (by rfl) w2.heap.size [.int .i64 4, .string ⟨#[]⟩, .int .i64 0, .int .i64 0, .string ⟨#[]⟩, .int .i64 0, .int .i64 0, .slice none 0 0, .int .i64 0, .int .i64 0, .slice none 0 0, .slice none 0 0, .int .i64 0, .int .i64 0, .slice none 0 0, .slice none 0 0, .slice none 0 0, .int .i64 0, .int .i64 0, .string ⟨#[]⟩, .slice none 0 0, .slice none 0 0, .int .i64 0, .string ⟨#[]⟩, .slice none 0 0].toArray (by rfl) (by rfl) 39 _ hN infoMsg9 (by rfl) h1 ?_)
  refine (cb _).mono ?_
  rintro e w3 ⟨rfl, hw⟩
  rw [← hw] at hX3 hZ3 hY3 hB3
  clear hw cb
  clear hN hbn h1 kN hX2 hZ2 hB2 x0
  go_wp2_with fail
  refine (cd _).mono ?_
  rintro e w3 ⟨rfl, hw⟩
  subst hw
  clear cd
  have x1 := hX3.cell (i := 1) rfl
  have y1 := hY3.cell (i := 1) rfl
  have f1 := hY3.frozen 1
  have hY4 := (hY3.set 1 (.string dg))
  have kk := ((Kept.refl (fun k => k = w2.heap.size) w3).set (p := ⟨w2.heap.size, 1, none⟩) rfl (.string dg))
  have hX4 := hX3.kept kk (by omega)
  have hZ4 := hZ3.kept kk (by omega)
  have hB4 := (hB3.setCell (p := ⟨w2.heap.size, 1, none⟩) (by show _ ≤ w2.heap.size; omega) (.string dg))
  replace hY4 : Arr _ w2.heap.size 39 [.int .i64 4, .string dg, .int .i64 0, .int .i64 0, .string ⟨#[]⟩, .int .i64 0, .int .i64 0, .slice none 0 0, .int .i64 0, .int .i64 0, .slice none 0 0, .slice none 0 0, .int .i64 0, .int .i64 0, .slice none 0 0, .slice none 0 0, .slice none 0 0, .int .i64 0, .int .i64 0, .string ⟨#[]⟩, .slice none 0 0, .slice none 0 0, .int .i64 0, .string ⟨#[]⟩, .slice none 0 0] := hY4
  clear kk hX3 hZ3 hY3 hB3
  go_wp2_with fail
  refine (cv _).mono ?_
  rintro e w4 ⟨rfl, hw⟩
  rw [← hw] at hX4 hZ4 hY4 hB4
  clear hw cv
  clear x1 y1 f1
  go_wp2_with fail
  refine (ct _).mono ?_
  rintro e w4 ⟨rfl, hw⟩
  subst hw
  clear ct
  have x3 := hX4.cell (i := 3) rfl
  have x4 := hX4.cell (i := 4) rfl
  have y3 := hY4.cell (i := 3) rfl
  have y4 := hY4.cell (i := 4) rfl
  have f3 := hY4.frozen 3
  have f4 := hY4.frozen 4
  have hY5 := ((hY4.set 3 (.int .i64 tg.who)).set 4 (.string tg.mac))
  have kk := (((Kept.refl (fun k => k = w2.heap.size) w4).set (p := ⟨w2.heap.size, 3, none⟩) rfl (.int .i64 tg.who)).set (p := ⟨w2.heap.size, 4, none⟩) rfl (.string tg.mac))
  have hX5 := hX4.kept kk (by omega)
  have hZ5 := hZ4.kept kk (by omega)
  have hB5 := ((hB4.setCell (p := ⟨w2.heap.size, 3, none⟩) (by show _ ≤ w2.heap.size; omega) (.int .i64 tg.who)).setCell (p := ⟨w2.heap.size, 4, none⟩) (by show _ ≤ w2.heap.size; omega) (.string tg.mac))
  replace hY5 : Arr _ w2.heap.size 39 [.int .i64 4, .string dg, .int .i64 0, .int .i64 tg.who, .string tg.mac, .int .i64 0, .int .i64 0, .slice none 0 0, .int .i64 0, .int .i64 0, .slice none 0 0, .slice none 0 0, .int .i64 0, .int .i64 0, .slice none 0 0, .slice none 0 0, .slice none 0 0, .int .i64 0, .int .i64 0, .string ⟨#[]⟩, .slice none 0 0, .slice none 0 0, .int .i64 0, .string ⟨#[]⟩, .slice none 0 0] := hY5
  clear kk hX4 hZ4 hY4 hB4
  go_wp2_with fail
  refine (ch _).mono ?_
  rintro e w5 ⟨rfl, hw⟩
  rw [← hw] at hX5 hZ5 hY5 hB5
  clear hw ch
  clear x3 x4 y3 y4 f3 f4
  go_wp2_with fail
  refine (cc _).mono ?_
  rintro e w5 ⟨rfl, hw⟩
  subst hw
  clear cc
  go_wp2_with fail
  refine (ck _).mono ?_
  rintro e w5 ⟨rfl, hw⟩
  subst hw
  clear ck
  go_wp2_with fail
  refine (cq _).mono ?_
  rintro e w5 ⟨rfl, hw⟩
  subst hw
  clear cq
  have hF := hZ5.row [.int .i64 4, .string dg, .int .i64 0, .int .i64 tg.who, .string tg.mac, .int .i64 0, .int .i64 0, .slice none 0 0, .int .i64 0, .int .i64 0, .slice none 0 0, .slice none 0 0, .int .i64 0, .int .i64 0, .slice none 0 0, .slice none 0 0, .slice none 0 0, .int .i64 0, .int .i64 0, .string ⟨#[]⟩, .slice none 0 0, .slice none 0 0, .int .i64 0, .string ⟨#[]⟩, .slice none 0 0]
  have hBF := below_setRow hB5 (g := w.heap.size + 1) (Nat.le_succ _) [.int .i64 4, .string dg, .int .i64 0, .int .i64 tg.who, .string tg.mac, .int .i64 0, .int .i64 0, .slice none 0 0, .int .i64 0, .int .i64 0, .slice none 0 0, .slice none 0 0, .int .i64 0, .int .i64 0, .slice none 0 0, .slice none 0 0, .slice none 0 0, .int .i64 0, .int .i64 0, .string ⟨#[]⟩, .slice none 0 0, .slice none 0 0, .int .i64 0, .string ⟨#[]⟩, .slice none 0 0].toArray
  have h1 : (List.toArray (α := Value) [.int .i64 4, .string dg, .int .i64 0, .int .i64 tg.who, .string tg.mac, .int .i64 0, .int .i64 0, .slice none 0 0, .int .i64 0, .int .i64 0, .slice none 0 0, .slice none 0 0, .int .i64 0, .int .i64 0, .slice none 0 0, .slice none 0 0, .slice none 0 0, .int .i64 0, .int .i64 0, .string ⟨#[]⟩, .slice none 0 0, .slice none 0 0, .int .i64 0, .string ⟨#[]⟩, .slice none 0 0]).all (·.oneCell') = true := Array.all_eq_true_iff_forall_mem.2 (fun v hv => msgK.one ⟨4, dg, 0, tg, bat0, hdr9, cert0, blk0, qc0⟩ v (List.mem_toArray.1 hv))
  go_wp2_with (first | refine wpList_load_row (by rfl) 39 _ (by rfl) w2.heap.size (by rfl) 39 _ (0, 0) _ hY5 Tryz.underlying39 (by rfl) infoMsg9 ?_ | refine wpList_store_row (by rfl) 39 _ _ (by rfl) (w.heap.size + 1) [.int .i64 4, .string dg, .int .i64 0, .int .i64 tg.who, .string tg.mac, .int .i64 0, .int .i64 0, .slice none 0 0, .int .i64 0, .int .i64 0, .slice none 0 0, .slice none 0 0, .int .i64 0, .int .i64 0, .slice none 0 0, .slice none 0 0, .slice none 0 0, .int .i64 0, .int .i64 0, .string ⟨#[]⟩, .slice none 0 0, .slice none 0 0, .int .i64 0, .string ⟨#[]⟩, .slice none 0 0].toArray (by rfl) (by rfl) 39 _ hZ5 infoMsg9 (by rfl) h1 ?_)
  refine bodyPost_ret (v := MsgM.v ⟨4, dg, 0, tg, bat0, hdr9, cert0, blk0, qc0⟩) ?r1 ?r2 ?r3
  case r1 => exact results_msgO rfl _ _ (w.heap.size + 1) ⟨4, dg, 0, tg, bat0, hdr9, cert0, blk0, qc0⟩ rfl hF
  case r2 => rfl
  exact ⟨by rw [hout.out], hBF⟩

set_option maxRecDepth 100000 in
set_option maxHeartbeats 8000000 in
theorem refBare_5 (dg : ByteArray) (vi : Int) (tg : TagD) (ba : BatM) (he : HdrM) (ce : CertM) (bl : BlkM) (q : QcM) (w : World) :
    Calls Tryz.prog 45 #[MsgM.v ⟨5, dg, vi, tg, ba, he, ce, bl, q⟩] w fun e w' => e = .returned (MsgM.v ⟨5, ⟨#[]⟩, 0, tagZ, bat0, hdr9, ce, blk0, qc0⟩) ∧ Below w.heap.size w w' := by
  obtain ⟨hX, hZ, hB⟩ := two_new w 39 39 [.int .i64 5, .string dg, .int .i64 vi, .int .i64 tg.who, .string tg.mac, .int .i64 ba.author, .int .i64 ba.number, .slice ba.ta ba.txs.length ba.tc, .int .i64 he.author, .int .i64 he.round, .slice he.ra he.refs.length he.rc, .slice he.pa he.parents.length he.pc, .int .i64 ce.hdr.author, .int .i64 ce.hdr.round, .slice ce.hdr.ra ce.hdr.refs.length ce.hdr.rc, .slice ce.hdr.pa ce.hdr.parents.length ce.hdr.pc, .slice ce.va ce.votes.length ce.vc, .int .i64 bl.view, .int .i64 bl.qc.view, .string bl.qc.block, .slice bl.qc.va bl.qc.votes.length bl.qc.vc, .slice bl.ca bl.certs.length bl.cc, .int .i64 q.view, .string q.block, .slice q.va q.votes.length q.vc] [.int .i64 0, .string ⟨#[]⟩, .int .i64 0, .int .i64 0, .string ⟨#[]⟩, .int .i64 0, .int .i64 0, .slice none 0 0, .int .i64 0, .int .i64 0, .slice none 0 0, .slice none 0 0, .int .i64 0, .int .i64 0, .slice none 0 0, .slice none 0 0, .slice none 0 0, .int .i64 0, .int .i64 0, .string ⟨#[]⟩, .slice none 0 0, .slice none 0 0, .int .i64 0, .string ⟨#[]⟩, .slice none 0 0]
  obtain ⟨out, hout⟩ : ∃ v, Hid (v = MsgM.v ⟨5, ⟨#[]⟩, 0, tagZ, bat0, hdr9, ce, blk0, qc0⟩) := ⟨_, rfl⟩
  rw [← hout.out]
  have cF : ∀ w1, Calls Tryz.prog 43 #[.int .i64 5] w1 fun e w' => e = .returned (.string ⟨#[99]⟩) ∧ Below w1.heap.size w1 w' := fun w1 => refFields_any 5 w1
  have cb : ∀ w1, Calls Tryz.prog 46 #[.string ⟨#[99]⟩, .int .u8 98] w1 fun e w' => e = .returned (.bool false) ∧ w' = w1 := fun w1 => refHas_any ⟨#[99]⟩ 98 w1 (by decide)
  have cd : ∀ w1, Calls Tryz.prog 46 #[.string ⟨#[99]⟩, .int .u8 100] w1 fun e w' => e = .returned (.bool false) ∧ w' = w1 := fun w1 => refHas_any ⟨#[99]⟩ 100 w1 (by decide)
  have cv : ∀ w1, Calls Tryz.prog 46 #[.string ⟨#[99]⟩, .int .u8 118] w1 fun e w' => e = .returned (.bool false) ∧ w' = w1 := fun w1 => refHas_any ⟨#[99]⟩ 118 w1 (by decide)
  have ct : ∀ w1, Calls Tryz.prog 46 #[.string ⟨#[99]⟩, .int .u8 116] w1 fun e w' => e = .returned (.bool false) ∧ w' = w1 := fun w1 => refHas_any ⟨#[99]⟩ 116 w1 (by decide)
  have ch : ∀ w1, Calls Tryz.prog 46 #[.string ⟨#[99]⟩, .int .u8 104] w1 fun e w' => e = .returned (.bool false) ∧ w' = w1 := fun w1 => refHas_any ⟨#[99]⟩ 104 w1 (by decide)
  have cc : ∀ w1, Calls Tryz.prog 46 #[.string ⟨#[99]⟩, .int .u8 99] w1 fun e w' => e = .returned (.bool true) ∧ w' = w1 := fun w1 => refHas_any ⟨#[99]⟩ 99 w1 (by decide)
  have ck : ∀ w1, Calls Tryz.prog 46 #[.string ⟨#[99]⟩, .int .u8 107] w1 fun e w' => e = .returned (.bool false) ∧ w' = w1 := fun w1 => refHas_any ⟨#[99]⟩ 107 w1 (by decide)
  have cq : ∀ w1, Calls Tryz.prog 46 #[.string ⟨#[99]⟩, .int .u8 113] w1 fun e w' => e = .returned (.bool false) ∧ w' = w1 := fun w1 => refHas_any ⟨#[99]⟩ 113 w1 (by decide)
  unfold MsgM.v MsgM.c
  simp only
  obtain ⟨w1, hw1⟩ : ∃ q', (w.alloc (.cells [.int .i64 5, .string dg, .int .i64 vi, .int .i64 tg.who, .string tg.mac, .int .i64 ba.author, .int .i64 ba.number, .slice ba.ta ba.txs.length ba.tc, .int .i64 he.author, .int .i64 he.round, .slice he.ra he.refs.length he.rc, .slice he.pa he.parents.length he.pc, .int .i64 ce.hdr.author, .int .i64 ce.hdr.round, .slice ce.hdr.ra ce.hdr.refs.length ce.hdr.rc, .slice ce.hdr.pa ce.hdr.parents.length ce.hdr.pc, .slice ce.va ce.votes.length ce.vc, .int .i64 bl.view, .int .i64 bl.qc.view, .string bl.qc.block, .slice bl.qc.va bl.qc.votes.length bl.qc.vc, .slice bl.ca bl.certs.length bl.cc, .int .i64 q.view, .string q.block, .slice q.va q.votes.length q.vc].toArray 39)).alloc (.cells [.int .i64 0, .string ⟨#[]⟩, .int .i64 0, .int .i64 0, .string ⟨#[]⟩, .int .i64 0, .int .i64 0, .slice none 0 0, .int .i64 0, .int .i64 0, .slice none 0 0, .slice none 0 0, .int .i64 0, .int .i64 0, .slice none 0 0, .slice none 0 0, .slice none 0 0, .int .i64 0, .int .i64 0, .string ⟨#[]⟩, .slice none 0 0, .slice none 0 0, .int .i64 0, .string ⟨#[]⟩, .slice none 0 0].toArray 39) = q' := ⟨_, rfl⟩
  have hs1 : w.heap.size + 2 ≤ w1.heap.size := by rw [← hw1, alloc_size, alloc_size]; omega
  rw [hw1] at hX hZ hB
  have x0 := hX.cell (i := 0) rfl
  go_enter Tryz.func45, Tryz.ntmps45
  go_wp2_with fail
  refine (cF _).mono ?_
  rintro e w2 ⟨rfl, hb2⟩
  have hX2 := hX.below hb2 hX.lt
  have hZ2 := hZ.below hb2 hZ.lt
  have hB2 := hB.trans (hb2.mono hB.size)
  have hs2 : w.heap.size + 2 ≤ w2.heap.size := Nat.le_trans hs1 hb2.size
  clear hX hZ hB hb2 x0 hs1 hw1 cF
  have x0 := hX2.cell (i := 0) rfl
  have hN := Arr.new w2 39 [.int .i64 0, .string ⟨#[]⟩, .int .i64 0, .int .i64 0, .string ⟨#[]⟩, .int .i64 0, .int .i64 0, .slice none 0 0, .int .i64 0, .int .i64 0, .slice none 0 0, .slice none 0 0, .int .i64 0, .int .i64 0, .slice none 0 0, .slice none 0 0, .slice none 0 0, .int .i64 0, .int .i64 0, .string ⟨#[]⟩, .slice none 0 0, .slice none 0 0, .int .i64 0, .string ⟨#[]⟩, .slice none 0 0]
  have hbn := belowNew w2 (.cells [.int .i64 0, .string ⟨#[]⟩, .int .i64 0, .int .i64 0, .string ⟨#[]⟩, .int .i64 0, .int .i64 0, .slice none 0 0, .int .i64 0, .int .i64 0, .slice none 0 0, .slice none 0 0, .int .i64 0, .int .i64 0, .slice none 0 0, .slice none 0 0, .slice none 0 0, .int .i64 0, .int .i64 0, .string ⟨#[]⟩, .slice none 0 0, .slice none 0 0, .int .i64 0, .string ⟨#[]⟩, .slice none 0 0].toArray 39)
  have h1 : (List.toArray (α := Value) [.int .i64 5, .string ⟨#[]⟩, .int .i64 0, .int .i64 0, .string ⟨#[]⟩, .int .i64 0, .int .i64 0, .slice none 0 0, .int .i64 0, .int .i64 0, .slice none 0 0, .slice none 0 0, .int .i64 0, .int .i64 0, .slice none 0 0, .slice none 0 0, .slice none 0 0, .int .i64 0, .int .i64 0, .string ⟨#[]⟩, .slice none 0 0, .slice none 0 0, .int .i64 0, .string ⟨#[]⟩, .slice none 0 0]).all (·.oneCell') = true := Array.all_eq_true_iff_forall_mem.2 (fun v hv => msgK.one (msg0 5) v (List.mem_toArray.1 hv))
  have kN := kept_row (w2.alloc (.cells [.int .i64 0, .string ⟨#[]⟩, .int .i64 0, .int .i64 0, .string ⟨#[]⟩, .int .i64 0, .int .i64 0, .slice none 0 0, .int .i64 0, .int .i64 0, .slice none 0 0, .slice none 0 0, .int .i64 0, .int .i64 0, .slice none 0 0, .slice none 0 0, .slice none 0 0, .int .i64 0, .int .i64 0, .string ⟨#[]⟩, .slice none 0 0, .slice none 0 0, .int .i64 0, .string ⟨#[]⟩, .slice none 0 0].toArray 39)) w2.heap.size [.int .i64 5, .string ⟨#[]⟩, .int .i64 0, .int .i64 0, .string ⟨#[]⟩, .int .i64 0, .int .i64 0, .slice none 0 0, .int .i64 0, .int .i64 0, .slice none 0 0, .slice none 0 0, .int .i64 0, .int .i64 0, .slice none 0 0, .slice none 0 0, .slice none 0 0, .int .i64 0, .int .i64 0, .string ⟨#[]⟩, .slice none 0 0, .slice none 0 0, .int .i64 0, .string ⟨#[]⟩, .slice none 0 0].toArray
  have hY3 := hN.row [.int .i64 5, .string ⟨#[]⟩, .int .i64 0, .int .i64 0, .string ⟨#[]⟩, .int .i64 0, .int .i64 0, .slice none 0 0, .int .i64 0, .int .i64 0, .slice none 0 0, .slice none 0 0, .int .i64 0, .int .i64 0, .slice none 0 0, .slice none 0 0, .slice none 0 0, .int .i64 0, .int .i64 0, .string ⟨#[]⟩, .slice none 0 0, .slice none 0 0, .int .i64 0, .string ⟨#[]⟩, .slice none 0 0]
  have hX3 := (hX2.below hbn hX2.lt).kept kN (by omega)
  have hZ3 := (hZ2.below hbn hZ2.lt).kept kN (by omega)
  have hB3 := below_setRow (hB2.trans (hbn.mono hB2.size)) (g := w2.heap.size) (by omega) [.int .i64 5, .string ⟨#[]⟩, .int .i64 0, .int .i64 0, .string ⟨#[]⟩, .int .i64 0, .int .i64 0, .slice none 0 0, .int .i64 0, .int .i64 0, .slice none 0 0, .slice none 0 0, .int .i64 0, .int .i64 0, .slice none 0 0, .slice none 0 0, .slice none 0 0, .int .i64 0, .int .i64 0, .string ⟨#[]⟩, .slice none 0 0, .slice none 0 0, .int .i64 0, .string ⟨#[]⟩, .slice none 0 0].toArray
  go_wp2_with (refine wpList_store_row (by rfl) 39 _ _ (by rfl) w2.heap.size [.int .i64 5, .string ⟨#[]⟩, .int .i64 0, .int .i64 0, .string ⟨#[]⟩, .int .i64 0, .int .i64 0, .slice none 0 0, .int .i64 0, .int .i64 0, .slice none 0 0, .slice none 0 0, .int .i64 0, .int .i64 0, .slice none 0 0, .slice none 0 0, .slice none 0 0, .int .i64 0, .int .i64 0, .string ⟨#[]⟩, .slice none 0 0, .slice none 0 0, .int .i64 0, .string ⟨#[]⟩, .slice none 0 0].toArray (by rfl) (by rfl) 39 _ hN infoMsg9 (by rfl) h1 ?_)
  refine (cb _).mono ?_
  rintro e w3 ⟨rfl, hw⟩
  rw [← hw] at hX3 hZ3 hY3 hB3
  clear hw cb
  clear hN hbn h1 kN hX2 hZ2 hB2 x0
  go_wp2_with fail
  refine (cd _).mono ?_
  rintro e w3 ⟨rfl, hw⟩
  subst hw
  clear cd
  go_wp2_with fail
  refine (cv _).mono ?_
  rintro e w3 ⟨rfl, hw⟩
  subst hw
  clear cv
  go_wp2_with fail
  refine (ct _).mono ?_
  rintro e w3 ⟨rfl, hw⟩
  subst hw
  clear ct
  go_wp2_with fail
  refine (ch _).mono ?_
  rintro e w3 ⟨rfl, hw⟩
  subst hw
  clear ch
  go_wp2_with fail
  refine (cc _).mono ?_
  rintro e w3 ⟨rfl, hw⟩
  subst hw
  clear cc
  have x12 := hX3.cell (i := 12) rfl
  have x13 := hX3.cell (i := 13) rfl
  have x14 := hX3.cell (i := 14) rfl
  have x15 := hX3.cell (i := 15) rfl
  have x16 := hX3.cell (i := 16) rfl
  have y12 := hY3.cell (i := 12) rfl
  have y13 := hY3.cell (i := 13) rfl
  have y14 := hY3.cell (i := 14) rfl
  have y15 := hY3.cell (i := 15) rfl
  have y16 := hY3.cell (i := 16) rfl
  have f12 := hY3.frozen 12
  have f13 := hY3.frozen 13
  have f14 := hY3.frozen 14
  have f15 := hY3.frozen 15
  have f16 := hY3.frozen 16
  have hY4 := (((((hY3.set 12 (.int .i64 ce.hdr.author)).set 13 (.int .i64 ce.hdr.round)).set 14 (.slice ce.hdr.ra ce.hdr.refs.length ce.hdr.rc)).set 15 (.slice ce.hdr.pa ce.hdr.parents.length ce.hdr.pc)).set 16 (.slice ce.va ce.votes.length ce.vc))
  have kk := ((((((Kept.refl (fun k => k = w2.heap.size) w3).set (p := ⟨w2.heap.size, 12, none⟩) rfl (.int .i64 ce.hdr.author)).set (p := ⟨w2.heap.size, 13, none⟩) rfl (.int .i64 ce.hdr.round)).set (p := ⟨w2.heap.size, 14, none⟩) rfl (.slice ce.hdr.ra ce.hdr.refs.length ce.hdr.rc)).set (p := ⟨w2.heap.size, 15, none⟩) rfl (.slice ce.hdr.pa ce.hdr.parents.length ce.hdr.pc)).set (p := ⟨w2.heap.size, 16, none⟩) rfl (.slice ce.va ce.votes.length ce.vc))
  have hX4 := hX3.kept kk (by omega)
  have hZ4 := hZ3.kept kk (by omega)
  have hB4 := (((((hB3.setCell (p := ⟨w2.heap.size, 12, none⟩) (by show _ ≤ w2.heap.size; omega) (.int .i64 ce.hdr.author)).setCell (p := ⟨w2.heap.size, 13, none⟩) (by show _ ≤ w2.heap.size; omega) (.int .i64 ce.hdr.round)).setCell (p := ⟨w2.heap.size, 14, none⟩) (by show _ ≤ w2.heap.size; omega) (.slice ce.hdr.ra ce.hdr.refs.length ce.hdr.rc)).setCell (p := ⟨w2.heap.size, 15, none⟩) (by show _ ≤ w2.heap.size; omega) (.slice ce.hdr.pa ce.hdr.parents.length ce.hdr.pc)).setCell (p := ⟨w2.heap.size, 16, none⟩) (by show _ ≤ w2.heap.size; omega) (.slice ce.va ce.votes.length ce.vc))
  replace hY4 : Arr _ w2.heap.size 39 [.int .i64 5, .string ⟨#[]⟩, .int .i64 0, .int .i64 0, .string ⟨#[]⟩, .int .i64 0, .int .i64 0, .slice none 0 0, .int .i64 0, .int .i64 0, .slice none 0 0, .slice none 0 0, .int .i64 ce.hdr.author, .int .i64 ce.hdr.round, .slice ce.hdr.ra ce.hdr.refs.length ce.hdr.rc, .slice ce.hdr.pa ce.hdr.parents.length ce.hdr.pc, .slice ce.va ce.votes.length ce.vc, .int .i64 0, .int .i64 0, .string ⟨#[]⟩, .slice none 0 0, .slice none 0 0, .int .i64 0, .string ⟨#[]⟩, .slice none 0 0] := hY4
  clear kk hX3 hZ3 hY3 hB3
  go_wp2_with fail
  refine (ck _).mono ?_
  rintro e w4 ⟨rfl, hw⟩
  rw [← hw] at hX4 hZ4 hY4 hB4
  clear hw ck
  clear x12 x13 x14 x15 x16 y12 y13 y14 y15 y16 f12 f13 f14 f15 f16
  go_wp2_with fail
  refine (cq _).mono ?_
  rintro e w4 ⟨rfl, hw⟩
  subst hw
  clear cq
  have hF := hZ4.row [.int .i64 5, .string ⟨#[]⟩, .int .i64 0, .int .i64 0, .string ⟨#[]⟩, .int .i64 0, .int .i64 0, .slice none 0 0, .int .i64 0, .int .i64 0, .slice none 0 0, .slice none 0 0, .int .i64 ce.hdr.author, .int .i64 ce.hdr.round, .slice ce.hdr.ra ce.hdr.refs.length ce.hdr.rc, .slice ce.hdr.pa ce.hdr.parents.length ce.hdr.pc, .slice ce.va ce.votes.length ce.vc, .int .i64 0, .int .i64 0, .string ⟨#[]⟩, .slice none 0 0, .slice none 0 0, .int .i64 0, .string ⟨#[]⟩, .slice none 0 0]
  have hBF := below_setRow hB4 (g := w.heap.size + 1) (Nat.le_succ _) [.int .i64 5, .string ⟨#[]⟩, .int .i64 0, .int .i64 0, .string ⟨#[]⟩, .int .i64 0, .int .i64 0, .slice none 0 0, .int .i64 0, .int .i64 0, .slice none 0 0, .slice none 0 0, .int .i64 ce.hdr.author, .int .i64 ce.hdr.round, .slice ce.hdr.ra ce.hdr.refs.length ce.hdr.rc, .slice ce.hdr.pa ce.hdr.parents.length ce.hdr.pc, .slice ce.va ce.votes.length ce.vc, .int .i64 0, .int .i64 0, .string ⟨#[]⟩, .slice none 0 0, .slice none 0 0, .int .i64 0, .string ⟨#[]⟩, .slice none 0 0].toArray
  have h1 : (List.toArray (α := Value) [.int .i64 5, .string ⟨#[]⟩, .int .i64 0, .int .i64 0, .string ⟨#[]⟩, .int .i64 0, .int .i64 0, .slice none 0 0, .int .i64 0, .int .i64 0, .slice none 0 0, .slice none 0 0, .int .i64 ce.hdr.author, .int .i64 ce.hdr.round, .slice ce.hdr.ra ce.hdr.refs.length ce.hdr.rc, .slice ce.hdr.pa ce.hdr.parents.length ce.hdr.pc, .slice ce.va ce.votes.length ce.vc, .int .i64 0, .int .i64 0, .string ⟨#[]⟩, .slice none 0 0, .slice none 0 0, .int .i64 0, .string ⟨#[]⟩, .slice none 0 0]).all (·.oneCell') = true := Array.all_eq_true_iff_forall_mem.2 (fun v hv => msgK.one ⟨5, ⟨#[]⟩, 0, tagZ, bat0, hdr9, ce, blk0, qc0⟩ v (List.mem_toArray.1 hv))
  go_wp2_with (first | refine wpList_load_row (by rfl) 39 _ (by rfl) w2.heap.size (by rfl) 39 _ (0, 0) _ hY4 Tryz.underlying39 (by rfl) infoMsg9 ?_ | refine wpList_store_row (by rfl) 39 _ _ (by rfl) (w.heap.size + 1) [.int .i64 5, .string ⟨#[]⟩, .int .i64 0, .int .i64 0, .string ⟨#[]⟩, .int .i64 0, .int .i64 0, .slice none 0 0, .int .i64 0, .int .i64 0, .slice none 0 0, .slice none 0 0, .int .i64 ce.hdr.author, .int .i64 ce.hdr.round, .slice ce.hdr.ra ce.hdr.refs.length ce.hdr.rc, .slice ce.hdr.pa ce.hdr.parents.length ce.hdr.pc, .slice ce.va ce.votes.length ce.vc, .int .i64 0, .int .i64 0, .string ⟨#[]⟩, .slice none 0 0, .slice none 0 0, .int .i64 0, .string ⟨#[]⟩, .slice none 0 0].toArray (by rfl) (by rfl) 39 _ hZ4 infoMsg9 (by rfl) h1 ?_)
  refine bodyPost_ret (v := MsgM.v ⟨5, ⟨#[]⟩, 0, tagZ, bat0, hdr9, ce, blk0, qc0⟩) ?r1 ?r2 ?r3
  case r1 => exact results_msgO rfl _ _ (w.heap.size + 1) ⟨5, ⟨#[]⟩, 0, tagZ, bat0, hdr9, ce, blk0, qc0⟩ rfl hF
  case r2 => rfl
  exact ⟨by rw [hout.out], hBF⟩

set_option maxRecDepth 100000 in
set_option maxHeartbeats 8000000 in
theorem refBare_6 (dg : ByteArray) (vi : Int) (tg : TagD) (ba : BatM) (he : HdrM) (ce : CertM) (bl : BlkM) (q : QcM) (w : World) :
    Calls Tryz.prog 45 #[MsgM.v ⟨6, dg, vi, tg, ba, he, ce, bl, q⟩] w fun e w' => e = .returned (MsgM.v ⟨6, ⟨#[]⟩, 0, tg, bat0, hdr9, cert0, bl, qc0⟩) ∧ Below w.heap.size w w' := by
  obtain ⟨hX, hZ, hB⟩ := two_new w 39 39 [.int .i64 6, .string dg, .int .i64 vi, .int .i64 tg.who, .string tg.mac, .int .i64 ba.author, .int .i64 ba.number, .slice ba.ta ba.txs.length ba.tc, .int .i64 he.author, .int .i64 he.round, .slice he.ra he.refs.length he.rc, .slice he.pa he.parents.length he.pc, .int .i64 ce.hdr.author, .int .i64 ce.hdr.round, .slice ce.hdr.ra ce.hdr.refs.length ce.hdr.rc, .slice ce.hdr.pa ce.hdr.parents.length ce.hdr.pc, .slice ce.va ce.votes.length ce.vc, .int .i64 bl.view, .int .i64 bl.qc.view, .string bl.qc.block, .slice bl.qc.va bl.qc.votes.length bl.qc.vc, .slice bl.ca bl.certs.length bl.cc, .int .i64 q.view, .string q.block, .slice q.va q.votes.length q.vc] [.int .i64 0, .string ⟨#[]⟩, .int .i64 0, .int .i64 0, .string ⟨#[]⟩, .int .i64 0, .int .i64 0, .slice none 0 0, .int .i64 0, .int .i64 0, .slice none 0 0, .slice none 0 0, .int .i64 0, .int .i64 0, .slice none 0 0, .slice none 0 0, .slice none 0 0, .int .i64 0, .int .i64 0, .string ⟨#[]⟩, .slice none 0 0, .slice none 0 0, .int .i64 0, .string ⟨#[]⟩, .slice none 0 0]
  obtain ⟨out, hout⟩ : ∃ v, Hid (v = MsgM.v ⟨6, ⟨#[]⟩, 0, tg, bat0, hdr9, cert0, bl, qc0⟩) := ⟨_, rfl⟩
  rw [← hout.out]
  have cF : ∀ w1, Calls Tryz.prog 43 #[.int .i64 6] w1 fun e w' => e = .returned (.string ⟨#[107, 116]⟩) ∧ Below w1.heap.size w1 w' := fun w1 => refFields_any 6 w1
  have cb : ∀ w1, Calls Tryz.prog 46 #[.string ⟨#[107, 116]⟩, .int .u8 98] w1 fun e w' => e = .returned (.bool false) ∧ w' = w1 := fun w1 => refHas_any ⟨#[107, 116]⟩ 98 w1 (by decide)
  have cd : ∀ w1, Calls Tryz.prog 46 #[.string ⟨#[107, 116]⟩, .int .u8 100] w1 fun e w' => e = .returned (.bool false) ∧ w' = w1 := fun w1 => refHas_any ⟨#[107, 116]⟩ 100 w1 (by decide)
  have cv : ∀ w1, Calls Tryz.prog 46 #[.string ⟨#[107, 116]⟩, .int .u8 118] w1 fun e w' => e = .returned (.bool false) ∧ w' = w1 := fun w1 => refHas_any ⟨#[107, 116]⟩ 118 w1 (by decide)
  have ct : ∀ w1, Calls Tryz.prog 46 #[.string ⟨#[107, 116]⟩, .int .u8 116] w1 fun e w' => e = .returned (.bool true) ∧ w' = w1 := fun w1 => refHas_any ⟨#[107, 116]⟩ 116 w1 (by decide)
  have ch : ∀ w1, Calls Tryz.prog 46 #[.string ⟨#[107, 116]⟩, .int .u8 104] w1 fun e w' => e = .returned (.bool false) ∧ w' = w1 := fun w1 => refHas_any ⟨#[107, 116]⟩ 104 w1 (by decide)
  have cc : ∀ w1, Calls Tryz.prog 46 #[.string ⟨#[107, 116]⟩, .int .u8 99] w1 fun e w' => e = .returned (.bool false) ∧ w' = w1 := fun w1 => refHas_any ⟨#[107, 116]⟩ 99 w1 (by decide)
  have ck : ∀ w1, Calls Tryz.prog 46 #[.string ⟨#[107, 116]⟩, .int .u8 107] w1 fun e w' => e = .returned (.bool true) ∧ w' = w1 := fun w1 => refHas_any ⟨#[107, 116]⟩ 107 w1 (by decide)
  have cq : ∀ w1, Calls Tryz.prog 46 #[.string ⟨#[107, 116]⟩, .int .u8 113] w1 fun e w' => e = .returned (.bool false) ∧ w' = w1 := fun w1 => refHas_any ⟨#[107, 116]⟩ 113 w1 (by decide)
  unfold MsgM.v MsgM.c
  simp only
  obtain ⟨w1, hw1⟩ : ∃ q', (w.alloc (.cells [.int .i64 6, .string dg, .int .i64 vi, .int .i64 tg.who, .string tg.mac, .int .i64 ba.author, .int .i64 ba.number, .slice ba.ta ba.txs.length ba.tc, .int .i64 he.author, .int .i64 he.round, .slice he.ra he.refs.length he.rc, .slice he.pa he.parents.length he.pc, .int .i64 ce.hdr.author, .int .i64 ce.hdr.round, .slice ce.hdr.ra ce.hdr.refs.length ce.hdr.rc, .slice ce.hdr.pa ce.hdr.parents.length ce.hdr.pc, .slice ce.va ce.votes.length ce.vc, .int .i64 bl.view, .int .i64 bl.qc.view, .string bl.qc.block, .slice bl.qc.va bl.qc.votes.length bl.qc.vc, .slice bl.ca bl.certs.length bl.cc, .int .i64 q.view, .string q.block, .slice q.va q.votes.length q.vc].toArray 39)).alloc (.cells [.int .i64 0, .string ⟨#[]⟩, .int .i64 0, .int .i64 0, .string ⟨#[]⟩, .int .i64 0, .int .i64 0, .slice none 0 0, .int .i64 0, .int .i64 0, .slice none 0 0, .slice none 0 0, .int .i64 0, .int .i64 0, .slice none 0 0, .slice none 0 0, .slice none 0 0, .int .i64 0, .int .i64 0, .string ⟨#[]⟩, .slice none 0 0, .slice none 0 0, .int .i64 0, .string ⟨#[]⟩, .slice none 0 0].toArray 39) = q' := ⟨_, rfl⟩
  have hs1 : w.heap.size + 2 ≤ w1.heap.size := by rw [← hw1, alloc_size, alloc_size]; omega
  rw [hw1] at hX hZ hB
  have x0 := hX.cell (i := 0) rfl
  go_enter Tryz.func45, Tryz.ntmps45
  go_wp2_with fail
  refine (cF _).mono ?_
  rintro e w2 ⟨rfl, hb2⟩
  have hX2 := hX.below hb2 hX.lt
  have hZ2 := hZ.below hb2 hZ.lt
  have hB2 := hB.trans (hb2.mono hB.size)
  have hs2 : w.heap.size + 2 ≤ w2.heap.size := Nat.le_trans hs1 hb2.size
  clear hX hZ hB hb2 x0 hs1 hw1 cF
  have x0 := hX2.cell (i := 0) rfl
  have hN := Arr.new w2 39 [.int .i64 0, .string ⟨#[]⟩, .int .i64 0, .int .i64 0, .string ⟨#[]⟩, .int .i64 0, .int .i64 0, .slice none 0 0, .int .i64 0, .int .i64 0, .slice none 0 0, .slice none 0 0, .int .i64 0, .int .i64 0, .slice none 0 0, .slice none 0 0, .slice none 0 0, .int .i64 0, .int .i64 0, .string ⟨#[]⟩, .slice none 0 0, .slice none 0 0, .int .i64 0, .string ⟨#[]⟩, .slice none 0 0]
  have hbn := belowNew w2 (.cells [.int .i64 0, .string ⟨#[]⟩, .int .i64 0, .int .i64 0, .string ⟨#[]⟩, .int .i64 0, .int .i64 0, .slice none 0 0, .int .i64 0, .int .i64 0, .slice none 0 0, .slice none 0 0, .int .i64 0, .int .i64 0, .slice none 0 0, .slice none 0 0, .slice none 0 0, .int .i64 0, .int .i64 0, .string ⟨#[]⟩, .slice none 0 0, .slice none 0 0, .int .i64 0, .string ⟨#[]⟩, .slice none 0 0].toArray 39)
  have h1 : (List.toArray (α := Value) [.int .i64 6, .string ⟨#[]⟩, .int .i64 0, .int .i64 0, .string ⟨#[]⟩, .int .i64 0, .int .i64 0, .slice none 0 0, .int .i64 0, .int .i64 0, .slice none 0 0, .slice none 0 0, .int .i64 0, .int .i64 0, .slice none 0 0, .slice none 0 0, .slice none 0 0, .int .i64 0, .int .i64 0, .string ⟨#[]⟩, .slice none 0 0, .slice none 0 0, .int .i64 0, .string ⟨#[]⟩, .slice none 0 0]).all (·.oneCell') = true := Array.all_eq_true_iff_forall_mem.2 (fun v hv => msgK.one (msg0 6) v (List.mem_toArray.1 hv))
  have kN := kept_row (w2.alloc (.cells [.int .i64 0, .string ⟨#[]⟩, .int .i64 0, .int .i64 0, .string ⟨#[]⟩, .int .i64 0, .int .i64 0, .slice none 0 0, .int .i64 0, .int .i64 0, .slice none 0 0, .slice none 0 0, .int .i64 0, .int .i64 0, .slice none 0 0, .slice none 0 0, .slice none 0 0, .int .i64 0, .int .i64 0, .string ⟨#[]⟩, .slice none 0 0, .slice none 0 0, .int .i64 0, .string ⟨#[]⟩, .slice none 0 0].toArray 39)) w2.heap.size [.int .i64 6, .string ⟨#[]⟩, .int .i64 0, .int .i64 0, .string ⟨#[]⟩, .int .i64 0, .int .i64 0, .slice none 0 0, .int .i64 0, .int .i64 0, .slice none 0 0, .slice none 0 0, .int .i64 0, .int .i64 0, .slice none 0 0, .slice none 0 0, .slice none 0 0, .int .i64 0, .int .i64 0, .string ⟨#[]⟩, .slice none 0 0, .slice none 0 0, .int .i64 0, .string ⟨#[]⟩, .slice none 0 0].toArray
  have hY3 := hN.row [.int .i64 6, .string ⟨#[]⟩, .int .i64 0, .int .i64 0, .string ⟨#[]⟩, .int .i64 0, .int .i64 0, .slice none 0 0, .int .i64 0, .int .i64 0, .slice none 0 0, .slice none 0 0, .int .i64 0, .int .i64 0, .slice none 0 0, .slice none 0 0, .slice none 0 0, .int .i64 0, .int .i64 0, .string ⟨#[]⟩, .slice none 0 0, .slice none 0 0, .int .i64 0, .string ⟨#[]⟩, .slice none 0 0]
  have hX3 := (hX2.below hbn hX2.lt).kept kN (by omega)
  have hZ3 := (hZ2.below hbn hZ2.lt).kept kN (by omega)
  have hB3 := below_setRow (hB2.trans (hbn.mono hB2.size)) (g := w2.heap.size) (by omega) [.int .i64 6, .string ⟨#[]⟩, .int .i64 0, .int .i64 0, .string ⟨#[]⟩, .int .i64 0, .int .i64 0, .slice none 0 0, .int .i64 0, .int .i64 0, .slice none 0 0, .slice none 0 0, .int .i64 0, .int .i64 0, .slice none 0 0, .slice none 0 0, .slice none 0 0, .int .i64 0, .int .i64 0, .string ⟨#[]⟩, .slice none 0 0, .slice none 0 0, .int .i64 0, .string ⟨#[]⟩, .slice none 0 0].toArray
  go_wp2_with (refine wpList_store_row (by rfl) 39 _ _ (by rfl) w2.heap.size [.int .i64 6, .string ⟨#[]⟩, .int .i64 0, .int .i64 0, .string ⟨#[]⟩, .int .i64 0, .int .i64 0, .slice none 0 0, .int .i64 0, .int .i64 0, .slice none 0 0, .slice none 0 0, .int .i64 0, .int .i64 0, .slice none 0 0, .slice none 0 0, .slice none 0 0, .int .i64 0, .int .i64 0, .string ⟨#[]⟩, .slice none 0 0, .slice none 0 0, .int .i64 0, .string ⟨#[]⟩, .slice none 0 0].toArray (by rfl) (by rfl) 39 _ hN infoMsg9 (by rfl) h1 ?_)
  refine (cb _).mono ?_
  rintro e w3 ⟨rfl, hw⟩
  rw [← hw] at hX3 hZ3 hY3 hB3
  clear hw cb
  clear hN hbn h1 kN hX2 hZ2 hB2 x0
  go_wp2_with fail
  refine (cd _).mono ?_
  rintro e w3 ⟨rfl, hw⟩
  subst hw
  clear cd
  go_wp2_with fail
  refine (cv _).mono ?_
  rintro e w3 ⟨rfl, hw⟩
  subst hw
  clear cv
  go_wp2_with fail
  refine (ct _).mono ?_
  rintro e w3 ⟨rfl, hw⟩
  subst hw
  clear ct
  have x3 := hX3.cell (i := 3) rfl
  have x4 := hX3.cell (i := 4) rfl
  have y3 := hY3.cell (i := 3) rfl
  have y4 := hY3.cell (i := 4) rfl
  have f3 := hY3.frozen 3
  have f4 := hY3.frozen 4
  have hY4 := ((hY3.set 3 (.int .i64 tg.who)).set 4 (.string tg.mac))
  have kk := (((Kept.refl (fun k => k = w2.heap.size) w3).set (p := ⟨w2.heap.size, 3, none⟩) rfl (.int .i64 tg.who)).set (p := ⟨w2.heap.size, 4, none⟩) rfl (.string tg.mac))
  have hX4 := hX3.kept kk (by omega)
  have hZ4 := hZ3.kept kk (by omega)
  have hB4 := ((hB3.setCell (p := ⟨w2.heap.size, 3, none⟩) (by show _ ≤ w2.heap.size; omega) (.int .i64 tg.who)).setCell (p := ⟨w2.heap.size, 4, none⟩) (by show _ ≤ w2.heap.size; omega) (.string tg.mac))
  replace hY4 : Arr _ w2.heap.size 39 [.int .i64 6, .string ⟨#[]⟩, .int .i64 0, .int .i64 tg.who, .string tg.mac, .int .i64 0, .int .i64 0, .slice none 0 0, .int .i64 0, .int .i64 0, .slice none 0 0, .slice none 0 0, .int .i64 0, .int .i64 0, .slice none 0 0, .slice none 0 0, .slice none 0 0, .int .i64 0, .int .i64 0, .string ⟨#[]⟩, .slice none 0 0, .slice none 0 0, .int .i64 0, .string ⟨#[]⟩, .slice none 0 0] := hY4
  clear kk hX3 hZ3 hY3 hB3
  go_wp2_with fail
  refine (ch _).mono ?_
  rintro e w4 ⟨rfl, hw⟩
  rw [← hw] at hX4 hZ4 hY4 hB4
  clear hw ch
  clear x3 x4 y3 y4 f3 f4
  go_wp2_with fail
  refine (cc _).mono ?_
  rintro e w4 ⟨rfl, hw⟩
  subst hw
  clear cc
  go_wp2_with fail
  refine (ck _).mono ?_
  rintro e w4 ⟨rfl, hw⟩
  subst hw
  clear ck
  have x17 := hX4.cell (i := 17) rfl
  have x18 := hX4.cell (i := 18) rfl
  have x19 := hX4.cell (i := 19) rfl
  have x20 := hX4.cell (i := 20) rfl
  have x21 := hX4.cell (i := 21) rfl
  have y17 := hY4.cell (i := 17) rfl
  have y18 := hY4.cell (i := 18) rfl
  have y19 := hY4.cell (i := 19) rfl
  have y20 := hY4.cell (i := 20) rfl
  have y21 := hY4.cell (i := 21) rfl
  have f17 := hY4.frozen 17
  have f18 := hY4.frozen 18
  have f19 := hY4.frozen 19
  have f20 := hY4.frozen 20
  have f21 := hY4.frozen 21
  have hY5 := (((((hY4.set 17 (.int .i64 bl.view)).set 18 (.int .i64 bl.qc.view)).set 19 (.string bl.qc.block)).set 20 (.slice bl.qc.va bl.qc.votes.length bl.qc.vc)).set 21 (.slice bl.ca bl.certs.length bl.cc))
  have kk := ((((((Kept.refl (fun k => k = w2.heap.size) w4).set (p := ⟨w2.heap.size, 17, none⟩) rfl (.int .i64 bl.view)).set (p := ⟨w2.heap.size, 18, none⟩) rfl (.int .i64 bl.qc.view)).set (p := ⟨w2.heap.size, 19, none⟩) rfl (.string bl.qc.block)).set (p := ⟨w2.heap.size, 20, none⟩) rfl (.slice bl.qc.va bl.qc.votes.length bl.qc.vc)).set (p := ⟨w2.heap.size, 21, none⟩) rfl (.slice bl.ca bl.certs.length bl.cc))
  have hX5 := hX4.kept kk (by omega)
  have hZ5 := hZ4.kept kk (by omega)
  have hB5 := (((((hB4.setCell (p := ⟨w2.heap.size, 17, none⟩) (by show _ ≤ w2.heap.size; omega) (.int .i64 bl.view)).setCell (p := ⟨w2.heap.size, 18, none⟩) (by show _ ≤ w2.heap.size; omega) (.int .i64 bl.qc.view)).setCell (p := ⟨w2.heap.size, 19, none⟩) (by show _ ≤ w2.heap.size; omega) (.string bl.qc.block)).setCell (p := ⟨w2.heap.size, 20, none⟩) (by show _ ≤ w2.heap.size; omega) (.slice bl.qc.va bl.qc.votes.length bl.qc.vc)).setCell (p := ⟨w2.heap.size, 21, none⟩) (by show _ ≤ w2.heap.size; omega) (.slice bl.ca bl.certs.length bl.cc))
  replace hY5 : Arr _ w2.heap.size 39 [.int .i64 6, .string ⟨#[]⟩, .int .i64 0, .int .i64 tg.who, .string tg.mac, .int .i64 0, .int .i64 0, .slice none 0 0, .int .i64 0, .int .i64 0, .slice none 0 0, .slice none 0 0, .int .i64 0, .int .i64 0, .slice none 0 0, .slice none 0 0, .slice none 0 0, .int .i64 bl.view, .int .i64 bl.qc.view, .string bl.qc.block, .slice bl.qc.va bl.qc.votes.length bl.qc.vc, .slice bl.ca bl.certs.length bl.cc, .int .i64 0, .string ⟨#[]⟩, .slice none 0 0] := hY5
  clear kk hX4 hZ4 hY4 hB4
  go_wp2_with fail
  refine (cq _).mono ?_
  rintro e w5 ⟨rfl, hw⟩
  rw [← hw] at hX5 hZ5 hY5 hB5
  clear hw cq
  clear x17 x18 x19 x20 x21 y17 y18 y19 y20 y21 f17 f18 f19 f20 f21
  have hF := hZ5.row [.int .i64 6, .string ⟨#[]⟩, .int .i64 0, .int .i64 tg.who, .string tg.mac, .int .i64 0, .int .i64 0, .slice none 0 0, .int .i64 0, .int .i64 0, .slice none 0 0, .slice none 0 0, .int .i64 0, .int .i64 0, .slice none 0 0, .slice none 0 0, .slice none 0 0, .int .i64 bl.view, .int .i64 bl.qc.view, .string bl.qc.block, .slice bl.qc.va bl.qc.votes.length bl.qc.vc, .slice bl.ca bl.certs.length bl.cc, .int .i64 0, .string ⟨#[]⟩, .slice none 0 0]
  have hBF := below_setRow hB5 (g := w.heap.size + 1) (Nat.le_succ _) [.int .i64 6, .string ⟨#[]⟩, .int .i64 0, .int .i64 tg.who, .string tg.mac, .int .i64 0, .int .i64 0, .slice none 0 0, .int .i64 0, .int .i64 0, .slice none 0 0, .slice none 0 0, .int .i64 0, .int .i64 0, .slice none 0 0, .slice none 0 0, .slice none 0 0, .int .i64 bl.view, .int .i64 bl.qc.view, .string bl.qc.block, .slice bl.qc.va bl.qc.votes.length bl.qc.vc, .slice bl.ca bl.certs.length bl.cc, .int .i64 0, .string ⟨#[]⟩, .slice none 0 0].toArray
  have h1 : (List.toArray (α := Value) [.int .i64 6, .string ⟨#[]⟩, .int .i64 0, .int .i64 tg.who, .string tg.mac, .int .i64 0, .int .i64 0, .slice none 0 0, .int .i64 0, .int .i64 0, .slice none 0 0, .slice none 0 0, .int .i64 0, .int .i64 0, .slice none 0 0, .slice none 0 0, .slice none 0 0, .int .i64 bl.view, .int .i64 bl.qc.view, .string bl.qc.block, .slice bl.qc.va bl.qc.votes.length bl.qc.vc, .slice bl.ca bl.certs.length bl.cc, .int .i64 0, .string ⟨#[]⟩, .slice none 0 0]).all (·.oneCell') = true := Array.all_eq_true_iff_forall_mem.2 (fun v hv => msgK.one ⟨6, ⟨#[]⟩, 0, tg, bat0, hdr9, cert0, bl, qc0⟩ v (List.mem_toArray.1 hv))
  go_wp2_with (first | refine wpList_load_row (by rfl) 39 _ (by rfl) w2.heap.size (by rfl) 39 _ (0, 0) _ hY5 Tryz.underlying39 (by rfl) infoMsg9 ?_ | refine wpList_store_row (by rfl) 39 _ _ (by rfl) (w.heap.size + 1) [.int .i64 6, .string ⟨#[]⟩, .int .i64 0, .int .i64 tg.who, .string tg.mac, .int .i64 0, .int .i64 0, .slice none 0 0, .int .i64 0, .int .i64 0, .slice none 0 0, .slice none 0 0, .int .i64 0, .int .i64 0, .slice none 0 0, .slice none 0 0, .slice none 0 0, .int .i64 bl.view, .int .i64 bl.qc.view, .string bl.qc.block, .slice bl.qc.va bl.qc.votes.length bl.qc.vc, .slice bl.ca bl.certs.length bl.cc, .int .i64 0, .string ⟨#[]⟩, .slice none 0 0].toArray (by rfl) (by rfl) 39 _ hZ5 infoMsg9 (by rfl) h1 ?_)
  refine bodyPost_ret (v := MsgM.v ⟨6, ⟨#[]⟩, 0, tg, bat0, hdr9, cert0, bl, qc0⟩) ?r1 ?r2 ?r3
  case r1 => exact results_msgO rfl _ _ (w.heap.size + 1) ⟨6, ⟨#[]⟩, 0, tg, bat0, hdr9, cert0, bl, qc0⟩ rfl hF
  case r2 => rfl
  exact ⟨by rw [hout.out], hBF⟩

set_option maxRecDepth 100000 in
set_option maxHeartbeats 8000000 in
theorem refBare_7 (dg : ByteArray) (vi : Int) (tg : TagD) (ba : BatM) (he : HdrM) (ce : CertM) (bl : BlkM) (q : QcM) (w : World) :
    Calls Tryz.prog 45 #[MsgM.v ⟨7, dg, vi, tg, ba, he, ce, bl, q⟩] w fun e w' => e = .returned (MsgM.v ⟨7, dg, vi, tg, bat0, hdr9, cert0, blk0, qc0⟩) ∧ Below w.heap.size w w' := by
  obtain ⟨hX, hZ, hB⟩ := two_new w 39 39 [.int .i64 7, .string dg, .int .i64 vi, .int .i64 tg.who, .string tg.mac, .int .i64 ba.author, .int .i64 ba.number, .slice ba.ta ba.txs.length ba.tc, .int .i64 he.author, .int .i64 he.round, .slice he.ra he.refs.length he.rc, .slice he.pa he.parents.length he.pc, .int .i64 ce.hdr.author, .int .i64 ce.hdr.round, .slice ce.hdr.ra ce.hdr.refs.length ce.hdr.rc, .slice ce.hdr.pa ce.hdr.parents.length ce.hdr.pc, .slice ce.va ce.votes.length ce.vc, .int .i64 bl.view, .int .i64 bl.qc.view, .string bl.qc.block, .slice bl.qc.va bl.qc.votes.length bl.qc.vc, .slice bl.ca bl.certs.length bl.cc, .int .i64 q.view, .string q.block, .slice q.va q.votes.length q.vc] [.int .i64 0, .string ⟨#[]⟩, .int .i64 0, .int .i64 0, .string ⟨#[]⟩, .int .i64 0, .int .i64 0, .slice none 0 0, .int .i64 0, .int .i64 0, .slice none 0 0, .slice none 0 0, .int .i64 0, .int .i64 0, .slice none 0 0, .slice none 0 0, .slice none 0 0, .int .i64 0, .int .i64 0, .string ⟨#[]⟩, .slice none 0 0, .slice none 0 0, .int .i64 0, .string ⟨#[]⟩, .slice none 0 0]
  obtain ⟨out, hout⟩ : ∃ v, Hid (v = MsgM.v ⟨7, dg, vi, tg, bat0, hdr9, cert0, blk0, qc0⟩) := ⟨_, rfl⟩
  rw [← hout.out]
  have cF : ∀ w1, Calls Tryz.prog 43 #[.int .i64 7] w1 fun e w' => e = .returned (.string ⟨#[118, 100, 116]⟩) ∧ Below w1.heap.size w1 w' := fun w1 => refFields_any 7 w1
  have cb : ∀ w1, Calls Tryz.prog 46 #[.string ⟨#[118, 100, 116]⟩, .int .u8 98] w1 fun e w' => e = .returned (.bool false) ∧ w' = w1 := fun w1 => refHas_any ⟨#[118, 100, 116]⟩ 98 w1 (by decide)
  have cd : ∀ w1, Calls Tryz.prog 46 #[.string ⟨#[118, 100, 116]⟩, .int .u8 100] w1 fun e w' => e = .returned (.bool true) ∧ w' = w1 := fun w1 => refHas_any ⟨#[118, 100, 116]⟩ 100 w1 (by decide)
  have cv : ∀ w1, Calls Tryz.prog 46 #[.string ⟨#[118, 100, 116]⟩, .int .u8 118] w1 fun e w' => e = .returned (.bool true) ∧ w' = w1 := fun w1 => refHas_any ⟨#[118, 100, 116]⟩ 118 w1 (by decide)
  have ct : ∀ w1, Calls Tryz.prog 46 #[.string ⟨#[118, 100, 116]⟩, .int .u8 116] w1 fun e w' => e = .returned (.bool true) ∧ w' = w1 := fun w1 => refHas_any ⟨#[118, 100, 116]⟩ 116 w1 (by decide)
  have ch : ∀ w1, Calls Tryz.prog 46 #[.string ⟨#[118, 100, 116]⟩, .int .u8 104] w1 fun e w' => e = .returned (.bool false) ∧ w' = w1 := fun w1 => refHas_any ⟨#[118, 100, 116]⟩ 104 w1 (by decide)
  have cc : ∀ w1, Calls Tryz.prog 46 #[.string ⟨#[118, 100, 116]⟩, .int .u8 99] w1 fun e w' => e = .returned (.bool false) ∧ w' = w1 := fun w1 => refHas_any ⟨#[118, 100, 116]⟩ 99 w1 (by decide)
  have ck : ∀ w1, Calls Tryz.prog 46 #[.string ⟨#[118, 100, 116]⟩, .int .u8 107] w1 fun e w' => e = .returned (.bool false) ∧ w' = w1 := fun w1 => refHas_any ⟨#[118, 100, 116]⟩ 107 w1 (by decide)
  have cq : ∀ w1, Calls Tryz.prog 46 #[.string ⟨#[118, 100, 116]⟩, .int .u8 113] w1 fun e w' => e = .returned (.bool false) ∧ w' = w1 := fun w1 => refHas_any ⟨#[118, 100, 116]⟩ 113 w1 (by decide)
  unfold MsgM.v MsgM.c
  simp only
  obtain ⟨w1, hw1⟩ : ∃ q', (w.alloc (.cells [.int .i64 7, .string dg, .int .i64 vi, .int .i64 tg.who, .string tg.mac, .int .i64 ba.author, .int .i64 ba.number, .slice ba.ta ba.txs.length ba.tc, .int .i64 he.author, .int .i64 he.round, .slice he.ra he.refs.length he.rc, .slice he.pa he.parents.length he.pc, .int .i64 ce.hdr.author, .int .i64 ce.hdr.round, .slice ce.hdr.ra ce.hdr.refs.length ce.hdr.rc, .slice ce.hdr.pa ce.hdr.parents.length ce.hdr.pc, .slice ce.va ce.votes.length ce.vc, .int .i64 bl.view, .int .i64 bl.qc.view, .string bl.qc.block, .slice bl.qc.va bl.qc.votes.length bl.qc.vc, .slice bl.ca bl.certs.length bl.cc, .int .i64 q.view, .string q.block, .slice q.va q.votes.length q.vc].toArray 39)).alloc (.cells [.int .i64 0, .string ⟨#[]⟩, .int .i64 0, .int .i64 0, .string ⟨#[]⟩, .int .i64 0, .int .i64 0, .slice none 0 0, .int .i64 0, .int .i64 0, .slice none 0 0, .slice none 0 0, .int .i64 0, .int .i64 0, .slice none 0 0, .slice none 0 0, .slice none 0 0, .int .i64 0, .int .i64 0, .string ⟨#[]⟩, .slice none 0 0, .slice none 0 0, .int .i64 0, .string ⟨#[]⟩, .slice none 0 0].toArray 39) = q' := ⟨_, rfl⟩
  have hs1 : w.heap.size + 2 ≤ w1.heap.size := by rw [← hw1, alloc_size, alloc_size]; omega
  rw [hw1] at hX hZ hB
  have x0 := hX.cell (i := 0) rfl
  go_enter Tryz.func45, Tryz.ntmps45
  go_wp2_with fail
  refine (cF _).mono ?_
  rintro e w2 ⟨rfl, hb2⟩
  have hX2 := hX.below hb2 hX.lt
  have hZ2 := hZ.below hb2 hZ.lt
  have hB2 := hB.trans (hb2.mono hB.size)
  have hs2 : w.heap.size + 2 ≤ w2.heap.size := Nat.le_trans hs1 hb2.size
  clear hX hZ hB hb2 x0 hs1 hw1 cF
  have x0 := hX2.cell (i := 0) rfl
  have hN := Arr.new w2 39 [.int .i64 0, .string ⟨#[]⟩, .int .i64 0, .int .i64 0, .string ⟨#[]⟩, .int .i64 0, .int .i64 0, .slice none 0 0, .int .i64 0, .int .i64 0, .slice none 0 0, .slice none 0 0, .int .i64 0, .int .i64 0, .slice none 0 0, .slice none 0 0, .slice none 0 0, .int .i64 0, .int .i64 0, .string ⟨#[]⟩, .slice none 0 0, .slice none 0 0, .int .i64 0, .string ⟨#[]⟩, .slice none 0 0]
  have hbn := belowNew w2 (.cells [.int .i64 0, .string ⟨#[]⟩, .int .i64 0, .int .i64 0, .string ⟨#[]⟩, .int .i64 0, .int .i64 0, .slice none 0 0, .int .i64 0, .int .i64 0, .slice none 0 0, .slice none 0 0, .int .i64 0, .int .i64 0, .slice none 0 0, .slice none 0 0, .slice none 0 0, .int .i64 0, .int .i64 0, .string ⟨#[]⟩, .slice none 0 0, .slice none 0 0, .int .i64 0, .string ⟨#[]⟩, .slice none 0 0].toArray 39)
  have h1 : (List.toArray (α := Value) [.int .i64 7, .string ⟨#[]⟩, .int .i64 0, .int .i64 0, .string ⟨#[]⟩, .int .i64 0, .int .i64 0, .slice none 0 0, .int .i64 0, .int .i64 0, .slice none 0 0, .slice none 0 0, .int .i64 0, .int .i64 0, .slice none 0 0, .slice none 0 0, .slice none 0 0, .int .i64 0, .int .i64 0, .string ⟨#[]⟩, .slice none 0 0, .slice none 0 0, .int .i64 0, .string ⟨#[]⟩, .slice none 0 0]).all (·.oneCell') = true := Array.all_eq_true_iff_forall_mem.2 (fun v hv => msgK.one (msg0 7) v (List.mem_toArray.1 hv))
  have kN := kept_row (w2.alloc (.cells [.int .i64 0, .string ⟨#[]⟩, .int .i64 0, .int .i64 0, .string ⟨#[]⟩, .int .i64 0, .int .i64 0, .slice none 0 0, .int .i64 0, .int .i64 0, .slice none 0 0, .slice none 0 0, .int .i64 0, .int .i64 0, .slice none 0 0, .slice none 0 0, .slice none 0 0, .int .i64 0, .int .i64 0, .string ⟨#[]⟩, .slice none 0 0, .slice none 0 0, .int .i64 0, .string ⟨#[]⟩, .slice none 0 0].toArray 39)) w2.heap.size [.int .i64 7, .string ⟨#[]⟩, .int .i64 0, .int .i64 0, .string ⟨#[]⟩, .int .i64 0, .int .i64 0, .slice none 0 0, .int .i64 0, .int .i64 0, .slice none 0 0, .slice none 0 0, .int .i64 0, .int .i64 0, .slice none 0 0, .slice none 0 0, .slice none 0 0, .int .i64 0, .int .i64 0, .string ⟨#[]⟩, .slice none 0 0, .slice none 0 0, .int .i64 0, .string ⟨#[]⟩, .slice none 0 0].toArray
  have hY3 := hN.row [.int .i64 7, .string ⟨#[]⟩, .int .i64 0, .int .i64 0, .string ⟨#[]⟩, .int .i64 0, .int .i64 0, .slice none 0 0, .int .i64 0, .int .i64 0, .slice none 0 0, .slice none 0 0, .int .i64 0, .int .i64 0, .slice none 0 0, .slice none 0 0, .slice none 0 0, .int .i64 0, .int .i64 0, .string ⟨#[]⟩, .slice none 0 0, .slice none 0 0, .int .i64 0, .string ⟨#[]⟩, .slice none 0 0]
  have hX3 := (hX2.below hbn hX2.lt).kept kN (by omega)
  have hZ3 := (hZ2.below hbn hZ2.lt).kept kN (by omega)
  have hB3 := below_setRow (hB2.trans (hbn.mono hB2.size)) (g := w2.heap.size) (by omega) [.int .i64 7, .string ⟨#[]⟩, .int .i64 0, .int .i64 0, .string ⟨#[]⟩, .int .i64 0, .int .i64 0, .slice none 0 0, .int .i64 0, .int .i64 0, .slice none 0 0, .slice none 0 0, .int .i64 0, .int .i64 0, .slice none 0 0, .slice none 0 0, .slice none 0 0, .int .i64 0, .int .i64 0, .string ⟨#[]⟩, .slice none 0 0, .slice none 0 0, .int .i64 0, .string ⟨#[]⟩, .slice none 0 0].toArray
  go_wp2_with (refine wpList_store_row (by rfl) 39 _ _ (by rfl) w2.heap.size [.int .i64 7, .string ⟨#[]⟩, .int .i64 0, .int .i64 0, .string ⟨#[]⟩, .int .i64 0, .int .i64 0, .slice none 0 0, .int .i64 0, .int .i64 0, .slice none 0 0, .slice none 0 0, .int .i64 0, .int .i64 0, .slice none 0 0, .slice none 0 0, .slice none 0 0, .int .i64 0, .int .i64 0, .string ⟨#[]⟩, .slice none 0 0, .slice none 0 0, .int .i64 0, .string ⟨#[]⟩, .slice none 0 0].toArray (by rfl) (by rfl) 39 _ hN infoMsg9 (by rfl) h1 ?_)
  refine (cb _).mono ?_
  rintro e w3 ⟨rfl, hw⟩
  rw [← hw] at hX3 hZ3 hY3 hB3
  clear hw cb
  clear hN hbn h1 kN hX2 hZ2 hB2 x0
  go_wp2_with fail
  refine (cd _).mono ?_
  rintro e w3 ⟨rfl, hw⟩
  subst hw
  clear cd
  have x1 := hX3.cell (i := 1) rfl
  have y1 := hY3.cell (i := 1) rfl
  have f1 := hY3.frozen 1
  have hY4 := (hY3.set 1 (.string dg))
  have kk := ((Kept.refl (fun k => k = w2.heap.size) w3).set (p := ⟨w2.heap.size, 1, none⟩) rfl (.string dg))
  have hX4 := hX3.kept kk (by omega)
  have hZ4 := hZ3.kept kk (by omega)
  have hB4 := (hB3.setCell (p := ⟨w2.heap.size, 1, none⟩) (by show _ ≤ w2.heap.size; omega) (.string dg))
  replace hY4 : Arr _ w2.heap.size 39 [.int .i64 7, .string dg, .int .i64 0, .int .i64 0, .string ⟨#[]⟩, .int .i64 0, .int .i64 0, .slice none 0 0, .int .i64 0, .int .i64 0, .slice none 0 0, .slice none 0 0, .int .i64 0, .int .i64 0, .slice none 0 0, .slice none 0 0, .slice none 0 0, .int .i64 0, .int .i64 0, .string ⟨#[]⟩, .slice none 0 0, .slice none 0 0, .int .i64 0, .string ⟨#[]⟩, .slice none 0 0] := hY4
  clear kk hX3 hZ3 hY3 hB3
  go_wp2_with fail
  refine (cv _).mono ?_
  rintro e w4 ⟨rfl, hw⟩
  rw [← hw] at hX4 hZ4 hY4 hB4
  clear hw cv
  clear x1 y1 f1
  have x2 := hX4.cell (i := 2) rfl
  have y2 := hY4.cell (i := 2) rfl
  have f2 := hY4.frozen 2
  have hY5 := (hY4.set 2 (.int .i64 vi))
  have kk := ((Kept.refl (fun k => k = w2.heap.size) w4).set (p := ⟨w2.heap.size, 2, none⟩) rfl (.int .i64 vi))
  have hX5 := hX4.kept kk (by omega)
  have hZ5 := hZ4.kept kk (by omega)
  have hB5 := (hB4.setCell (p := ⟨w2.heap.size, 2, none⟩) (by show _ ≤ w2.heap.size; omega) (.int .i64 vi))
  replace hY5 : Arr _ w2.heap.size 39 [.int .i64 7, .string dg, .int .i64 vi, .int .i64 0, .string ⟨#[]⟩, .int .i64 0, .int .i64 0, .slice none 0 0, .int .i64 0, .int .i64 0, .slice none 0 0, .slice none 0 0, .int .i64 0, .int .i64 0, .slice none 0 0, .slice none 0 0, .slice none 0 0, .int .i64 0, .int .i64 0, .string ⟨#[]⟩, .slice none 0 0, .slice none 0 0, .int .i64 0, .string ⟨#[]⟩, .slice none 0 0] := hY5
  clear kk hX4 hZ4 hY4 hB4
  go_wp2_with fail
  refine (ct _).mono ?_
  rintro e w5 ⟨rfl, hw⟩
  rw [← hw] at hX5 hZ5 hY5 hB5
  clear hw ct
  clear x2 y2 f2
  have x3 := hX5.cell (i := 3) rfl
  have x4 := hX5.cell (i := 4) rfl
  have y3 := hY5.cell (i := 3) rfl
  have y4 := hY5.cell (i := 4) rfl
  have f3 := hY5.frozen 3
  have f4 := hY5.frozen 4
  have hY6 := ((hY5.set 3 (.int .i64 tg.who)).set 4 (.string tg.mac))
  have kk := (((Kept.refl (fun k => k = w2.heap.size) w5).set (p := ⟨w2.heap.size, 3, none⟩) rfl (.int .i64 tg.who)).set (p := ⟨w2.heap.size, 4, none⟩) rfl (.string tg.mac))
  have hX6 := hX5.kept kk (by omega)
  have hZ6 := hZ5.kept kk (by omega)
  have hB6 := ((hB5.setCell (p := ⟨w2.heap.size, 3, none⟩) (by show _ ≤ w2.heap.size; omega) (.int .i64 tg.who)).setCell (p := ⟨w2.heap.size, 4, none⟩) (by show _ ≤ w2.heap.size; omega) (.string tg.mac))
  replace hY6 : Arr _ w2.heap.size 39 [.int .i64 7, .string dg, .int .i64 vi, .int .i64 tg.who, .string tg.mac, .int .i64 0, .int .i64 0, .slice none 0 0, .int .i64 0, .int .i64 0, .slice none 0 0, .slice none 0 0, .int .i64 0, .int .i64 0, .slice none 0 0, .slice none 0 0, .slice none 0 0, .int .i64 0, .int .i64 0, .string ⟨#[]⟩, .slice none 0 0, .slice none 0 0, .int .i64 0, .string ⟨#[]⟩, .slice none 0 0] := hY6
  clear kk hX5 hZ5 hY5 hB5
  go_wp2_with fail
  refine (ch _).mono ?_
  rintro e w6 ⟨rfl, hw⟩
  rw [← hw] at hX6 hZ6 hY6 hB6
  clear hw ch
  clear x3 x4 y3 y4 f3 f4
  go_wp2_with fail
  refine (cc _).mono ?_
  rintro e w6 ⟨rfl, hw⟩
  subst hw
  clear cc
  go_wp2_with fail
  refine (ck _).mono ?_
  rintro e w6 ⟨rfl, hw⟩
  subst hw
  clear ck
  go_wp2_with fail
  refine (cq _).mono ?_
  rintro e w6 ⟨rfl, hw⟩
  subst hw
  clear cq
  have hF := hZ6.row [.int .i64 7, .string dg, .int .i64 vi, .int .i64 tg.who, .string tg.mac, .int .i64 0, .int .i64 0, .slice none 0 0, .int .i64 0, .int .i64 0, .slice none 0 0, .slice none 0 0, .int .i64 0, .int .i64 0, .slice none 0 0, .slice none 0 0, .slice none 0 0, .int .i64 0, .int .i64 0, .string ⟨#[]⟩, .slice none 0 0, .slice none 0 0, .int .i64 0, .string ⟨#[]⟩, .slice none 0 0]
  have hBF := below_setRow hB6 (g := w.heap.size + 1) (Nat.le_succ _) [.int .i64 7, .string dg, .int .i64 vi, .int .i64 tg.who, .string tg.mac, .int .i64 0, .int .i64 0, .slice none 0 0, .int .i64 0, .int .i64 0, .slice none 0 0, .slice none 0 0, .int .i64 0, .int .i64 0, .slice none 0 0, .slice none 0 0, .slice none 0 0, .int .i64 0, .int .i64 0, .string ⟨#[]⟩, .slice none 0 0, .slice none 0 0, .int .i64 0, .string ⟨#[]⟩, .slice none 0 0].toArray
  have h1 : (List.toArray (α := Value) [.int .i64 7, .string dg, .int .i64 vi, .int .i64 tg.who, .string tg.mac, .int .i64 0, .int .i64 0, .slice none 0 0, .int .i64 0, .int .i64 0, .slice none 0 0, .slice none 0 0, .int .i64 0, .int .i64 0, .slice none 0 0, .slice none 0 0, .slice none 0 0, .int .i64 0, .int .i64 0, .string ⟨#[]⟩, .slice none 0 0, .slice none 0 0, .int .i64 0, .string ⟨#[]⟩, .slice none 0 0]).all (·.oneCell') = true := Array.all_eq_true_iff_forall_mem.2 (fun v hv => msgK.one ⟨7, dg, vi, tg, bat0, hdr9, cert0, blk0, qc0⟩ v (List.mem_toArray.1 hv))
  go_wp2_with (first | refine wpList_load_row (by rfl) 39 _ (by rfl) w2.heap.size (by rfl) 39 _ (0, 0) _ hY6 Tryz.underlying39 (by rfl) infoMsg9 ?_ | refine wpList_store_row (by rfl) 39 _ _ (by rfl) (w.heap.size + 1) [.int .i64 7, .string dg, .int .i64 vi, .int .i64 tg.who, .string tg.mac, .int .i64 0, .int .i64 0, .slice none 0 0, .int .i64 0, .int .i64 0, .slice none 0 0, .slice none 0 0, .int .i64 0, .int .i64 0, .slice none 0 0, .slice none 0 0, .slice none 0 0, .int .i64 0, .int .i64 0, .string ⟨#[]⟩, .slice none 0 0, .slice none 0 0, .int .i64 0, .string ⟨#[]⟩, .slice none 0 0].toArray (by rfl) (by rfl) 39 _ hZ6 infoMsg9 (by rfl) h1 ?_)
  refine bodyPost_ret (v := MsgM.v ⟨7, dg, vi, tg, bat0, hdr9, cert0, blk0, qc0⟩) ?r1 ?r2 ?r3
  case r1 => exact results_msgO rfl _ _ (w.heap.size + 1) ⟨7, dg, vi, tg, bat0, hdr9, cert0, blk0, qc0⟩ rfl hF
  case r2 => rfl
  exact ⟨by rw [hout.out], hBF⟩

set_option maxRecDepth 100000 in
set_option maxHeartbeats 8000000 in
theorem refBare_8 (dg : ByteArray) (vi : Int) (tg : TagD) (ba : BatM) (he : HdrM) (ce : CertM) (bl : BlkM) (q : QcM) (w : World) :
    Calls Tryz.prog 45 #[MsgM.v ⟨8, dg, vi, tg, ba, he, ce, bl, q⟩] w fun e w' => e = .returned (MsgM.v ⟨8, ⟨#[]⟩, vi, tg, bat0, hdr9, cert0, blk0, q⟩) ∧ Below w.heap.size w w' := by
  obtain ⟨hX, hZ, hB⟩ := two_new w 39 39 [.int .i64 8, .string dg, .int .i64 vi, .int .i64 tg.who, .string tg.mac, .int .i64 ba.author, .int .i64 ba.number, .slice ba.ta ba.txs.length ba.tc, .int .i64 he.author, .int .i64 he.round, .slice he.ra he.refs.length he.rc, .slice he.pa he.parents.length he.pc, .int .i64 ce.hdr.author, .int .i64 ce.hdr.round, .slice ce.hdr.ra ce.hdr.refs.length ce.hdr.rc, .slice ce.hdr.pa ce.hdr.parents.length ce.hdr.pc, .slice ce.va ce.votes.length ce.vc, .int .i64 bl.view, .int .i64 bl.qc.view, .string bl.qc.block, .slice bl.qc.va bl.qc.votes.length bl.qc.vc, .slice bl.ca bl.certs.length bl.cc, .int .i64 q.view, .string q.block, .slice q.va q.votes.length q.vc] [.int .i64 0, .string ⟨#[]⟩, .int .i64 0, .int .i64 0, .string ⟨#[]⟩, .int .i64 0, .int .i64 0, .slice none 0 0, .int .i64 0, .int .i64 0, .slice none 0 0, .slice none 0 0, .int .i64 0, .int .i64 0, .slice none 0 0, .slice none 0 0, .slice none 0 0, .int .i64 0, .int .i64 0, .string ⟨#[]⟩, .slice none 0 0, .slice none 0 0, .int .i64 0, .string ⟨#[]⟩, .slice none 0 0]
  obtain ⟨out, hout⟩ : ∃ v, Hid (v = MsgM.v ⟨8, ⟨#[]⟩, vi, tg, bat0, hdr9, cert0, blk0, q⟩) := ⟨_, rfl⟩
  rw [← hout.out]
  have cF : ∀ w1, Calls Tryz.prog 43 #[.int .i64 8] w1 fun e w' => e = .returned (.string ⟨#[118, 113, 116]⟩) ∧ Below w1.heap.size w1 w' := fun w1 => refFields_any 8 w1
  have cb : ∀ w1, Calls Tryz.prog 46 #[.string ⟨#[118, 113, 116]⟩, .int .u8 98] w1 fun e w' => e = .returned (.bool false) ∧ w' = w1 := fun w1 => refHas_any ⟨#[118, 113, 116]⟩ 98 w1 (by decide)
  have cd : ∀ w1, Calls Tryz.prog 46 #[.string ⟨#[118, 113, 116]⟩, .int .u8 100] w1 fun e w' => e = .returned (.bool false) ∧ w' = w1 := fun w1 => refHas_any ⟨#[118, 113, 116]⟩ 100 w1 (by decide)
  have cv : ∀ w1, Calls Tryz.prog 46 #[.string ⟨#[118, 113, 116]⟩, .int .u8 118] w1 fun e w' => e = .returned (.bool true) ∧ w' = w1 := fun w1 => refHas_any ⟨#[118, 113, 116]⟩ 118 w1 (by decide)
  have ct : ∀ w1, Calls Tryz.prog 46 #[.string ⟨#[118, 113, 116]⟩, .int .u8 116] w1 fun e w' => e = .returned (.bool true) ∧ w' = w1 := fun w1 => refHas_any ⟨#[118, 113, 116]⟩ 116 w1 (by decide)
  have ch : ∀ w1, Calls Tryz.prog 46 #[.string ⟨#[118, 113, 116]⟩, .int .u8 104] w1 fun e w' => e = .returned (.bool false) ∧ w' = w1 := fun w1 => refHas_any ⟨#[118, 113, 116]⟩ 104 w1 (by decide)
  have cc : ∀ w1, Calls Tryz.prog 46 #[.string ⟨#[118, 113, 116]⟩, .int .u8 99] w1 fun e w' => e = .returned (.bool false) ∧ w' = w1 := fun w1 => refHas_any ⟨#[118, 113, 116]⟩ 99 w1 (by decide)
  have ck : ∀ w1, Calls Tryz.prog 46 #[.string ⟨#[118, 113, 116]⟩, .int .u8 107] w1 fun e w' => e = .returned (.bool false) ∧ w' = w1 := fun w1 => refHas_any ⟨#[118, 113, 116]⟩ 107 w1 (by decide)
  have cq : ∀ w1, Calls Tryz.prog 46 #[.string ⟨#[118, 113, 116]⟩, .int .u8 113] w1 fun e w' => e = .returned (.bool true) ∧ w' = w1 := fun w1 => refHas_any ⟨#[118, 113, 116]⟩ 113 w1 (by decide)
  unfold MsgM.v MsgM.c
  simp only
  obtain ⟨w1, hw1⟩ : ∃ q', (w.alloc (.cells [.int .i64 8, .string dg, .int .i64 vi, .int .i64 tg.who, .string tg.mac, .int .i64 ba.author, .int .i64 ba.number, .slice ba.ta ba.txs.length ba.tc, .int .i64 he.author, .int .i64 he.round, .slice he.ra he.refs.length he.rc, .slice he.pa he.parents.length he.pc, .int .i64 ce.hdr.author, .int .i64 ce.hdr.round, .slice ce.hdr.ra ce.hdr.refs.length ce.hdr.rc, .slice ce.hdr.pa ce.hdr.parents.length ce.hdr.pc, .slice ce.va ce.votes.length ce.vc, .int .i64 bl.view, .int .i64 bl.qc.view, .string bl.qc.block, .slice bl.qc.va bl.qc.votes.length bl.qc.vc, .slice bl.ca bl.certs.length bl.cc, .int .i64 q.view, .string q.block, .slice q.va q.votes.length q.vc].toArray 39)).alloc (.cells [.int .i64 0, .string ⟨#[]⟩, .int .i64 0, .int .i64 0, .string ⟨#[]⟩, .int .i64 0, .int .i64 0, .slice none 0 0, .int .i64 0, .int .i64 0, .slice none 0 0, .slice none 0 0, .int .i64 0, .int .i64 0, .slice none 0 0, .slice none 0 0, .slice none 0 0, .int .i64 0, .int .i64 0, .string ⟨#[]⟩, .slice none 0 0, .slice none 0 0, .int .i64 0, .string ⟨#[]⟩, .slice none 0 0].toArray 39) = q' := ⟨_, rfl⟩
  have hs1 : w.heap.size + 2 ≤ w1.heap.size := by rw [← hw1, alloc_size, alloc_size]; omega
  rw [hw1] at hX hZ hB
  have x0 := hX.cell (i := 0) rfl
  go_enter Tryz.func45, Tryz.ntmps45
  go_wp2_with fail
  refine (cF _).mono ?_
  rintro e w2 ⟨rfl, hb2⟩
  have hX2 := hX.below hb2 hX.lt
  have hZ2 := hZ.below hb2 hZ.lt
  have hB2 := hB.trans (hb2.mono hB.size)
  have hs2 : w.heap.size + 2 ≤ w2.heap.size := Nat.le_trans hs1 hb2.size
  clear hX hZ hB hb2 x0 hs1 hw1 cF
  have x0 := hX2.cell (i := 0) rfl
  have hN := Arr.new w2 39 [.int .i64 0, .string ⟨#[]⟩, .int .i64 0, .int .i64 0, .string ⟨#[]⟩, .int .i64 0, .int .i64 0, .slice none 0 0, .int .i64 0, .int .i64 0, .slice none 0 0, .slice none 0 0, .int .i64 0, .int .i64 0, .slice none 0 0, .slice none 0 0, .slice none 0 0, .int .i64 0, .int .i64 0, .string ⟨#[]⟩, .slice none 0 0, .slice none 0 0, .int .i64 0, .string ⟨#[]⟩, .slice none 0 0]
  have hbn := belowNew w2 (.cells [.int .i64 0, .string ⟨#[]⟩, .int .i64 0, .int .i64 0, .string ⟨#[]⟩, .int .i64 0, .int .i64 0, .slice none 0 0, .int .i64 0, .int .i64 0, .slice none 0 0, .slice none 0 0, .int .i64 0, .int .i64 0, .slice none 0 0, .slice none 0 0, .slice none 0 0, .int .i64 0, .int .i64 0, .string ⟨#[]⟩, .slice none 0 0, .slice none 0 0, .int .i64 0, .string ⟨#[]⟩, .slice none 0 0].toArray 39)
  have h1 : (List.toArray (α := Value) [.int .i64 8, .string ⟨#[]⟩, .int .i64 0, .int .i64 0, .string ⟨#[]⟩, .int .i64 0, .int .i64 0, .slice none 0 0, .int .i64 0, .int .i64 0, .slice none 0 0, .slice none 0 0, .int .i64 0, .int .i64 0, .slice none 0 0, .slice none 0 0, .slice none 0 0, .int .i64 0, .int .i64 0, .string ⟨#[]⟩, .slice none 0 0, .slice none 0 0, .int .i64 0, .string ⟨#[]⟩, .slice none 0 0]).all (·.oneCell') = true := Array.all_eq_true_iff_forall_mem.2 (fun v hv => msgK.one (msg0 8) v (List.mem_toArray.1 hv))
  have kN := kept_row (w2.alloc (.cells [.int .i64 0, .string ⟨#[]⟩, .int .i64 0, .int .i64 0, .string ⟨#[]⟩, .int .i64 0, .int .i64 0, .slice none 0 0, .int .i64 0, .int .i64 0, .slice none 0 0, .slice none 0 0, .int .i64 0, .int .i64 0, .slice none 0 0, .slice none 0 0, .slice none 0 0, .int .i64 0, .int .i64 0, .string ⟨#[]⟩, .slice none 0 0, .slice none 0 0, .int .i64 0, .string ⟨#[]⟩, .slice none 0 0].toArray 39)) w2.heap.size [.int .i64 8, .string ⟨#[]⟩, .int .i64 0, .int .i64 0, .string ⟨#[]⟩, .int .i64 0, .int .i64 0, .slice none 0 0, .int .i64 0, .int .i64 0, .slice none 0 0, .slice none 0 0, .int .i64 0, .int .i64 0, .slice none 0 0, .slice none 0 0, .slice none 0 0, .int .i64 0, .int .i64 0, .string ⟨#[]⟩, .slice none 0 0, .slice none 0 0, .int .i64 0, .string ⟨#[]⟩, .slice none 0 0].toArray
  have hY3 := hN.row [.int .i64 8, .string ⟨#[]⟩, .int .i64 0, .int .i64 0, .string ⟨#[]⟩, .int .i64 0, .int .i64 0, .slice none 0 0, .int .i64 0, .int .i64 0, .slice none 0 0, .slice none 0 0, .int .i64 0, .int .i64 0, .slice none 0 0, .slice none 0 0, .slice none 0 0, .int .i64 0, .int .i64 0, .string ⟨#[]⟩, .slice none 0 0, .slice none 0 0, .int .i64 0, .string ⟨#[]⟩, .slice none 0 0]
  have hX3 := (hX2.below hbn hX2.lt).kept kN (by omega)
  have hZ3 := (hZ2.below hbn hZ2.lt).kept kN (by omega)
  have hB3 := below_setRow (hB2.trans (hbn.mono hB2.size)) (g := w2.heap.size) (by omega) [.int .i64 8, .string ⟨#[]⟩, .int .i64 0, .int .i64 0, .string ⟨#[]⟩, .int .i64 0, .int .i64 0, .slice none 0 0, .int .i64 0, .int .i64 0, .slice none 0 0, .slice none 0 0, .int .i64 0, .int .i64 0, .slice none 0 0, .slice none 0 0, .slice none 0 0, .int .i64 0, .int .i64 0, .string ⟨#[]⟩, .slice none 0 0, .slice none 0 0, .int .i64 0, .string ⟨#[]⟩, .slice none 0 0].toArray
  go_wp2_with (refine wpList_store_row (by rfl) 39 _ _ (by rfl) w2.heap.size [.int .i64 8, .string ⟨#[]⟩, .int .i64 0, .int .i64 0, .string ⟨#[]⟩, .int .i64 0, .int .i64 0, .slice none 0 0, .int .i64 0, .int .i64 0, .slice none 0 0, .slice none 0 0, .int .i64 0, .int .i64 0, .slice none 0 0, .slice none 0 0, .slice none 0 0, .int .i64 0, .int .i64 0, .string ⟨#[]⟩, .slice none 0 0, .slice none 0 0, .int .i64 0, .string ⟨#[]⟩, .slice none 0 0].toArray (by rfl) (by rfl) 39 _ hN infoMsg9 (by rfl) h1 ?_)
  refine (cb _).mono ?_
  rintro e w3 ⟨rfl, hw⟩
  rw [← hw] at hX3 hZ3 hY3 hB3
  clear hw cb
  clear hN hbn h1 kN hX2 hZ2 hB2 x0
  go_wp2_with fail
  refine (cd _).mono ?_
  rintro e w3 ⟨rfl, hw⟩
  subst hw
  clear cd
  go_wp2_with fail
  refine (cv _).mono ?_
  rintro e w3 ⟨rfl, hw⟩
  subst hw
  clear cv
  have x2 := hX3.cell (i := 2) rfl
  have y2 := hY3.cell (i := 2) rfl
  have f2 := hY3.frozen 2
  have hY4 := (hY3.set 2 (.int .i64 vi))
  have kk := ((Kept.refl (fun k => k = w2.heap.size) w3).set (p := ⟨w2.heap.size, 2, none⟩) rfl (.int .i64 vi))
  have hX4 := hX3.kept kk (by omega)
  have hZ4 := hZ3.kept kk (by omega)
  have hB4 := (hB3.setCell (p := ⟨w2.heap.size, 2, none⟩) (by show _ ≤ w2.heap.size; omega) (.int .i64 vi))
  replace hY4 : Arr _ w2.heap.size 39 [.int .i64 8, .string ⟨#[]⟩, .int .i64 vi, .int .i64 0, .string ⟨#[]⟩, .int .i64 0, .int .i64 0, .slice none 0 0, .int .i64 0, .int .i64 0, .slice none 0 0, .slice none 0 0, .int .i64 0, .int .i64 0, .slice none 0 0, .slice none 0 0, .slice none 0 0, .int .i64 0, .int .i64 0, .string ⟨#[]⟩, .slice none 0 0, .slice none 0 0, .int .i64 0, .string ⟨#[]⟩, .slice none 0 0] := hY4
  clear kk hX3 hZ3 hY3 hB3
  go_wp2_with fail
  refine (ct _).mono ?_
  rintro e w4 ⟨rfl, hw⟩
  rw [← hw] at hX4 hZ4 hY4 hB4
  clear hw ct
  clear x2 y2 f2
  have x3 := hX4.cell (i := 3) rfl
  have x4 := hX4.cell (i := 4) rfl
  have y3 := hY4.cell (i := 3) rfl
  have y4 := hY4.cell (i := 4) rfl
  have f3 := hY4.frozen 3
  have f4 := hY4.frozen 4
  have hY5 := ((hY4.set 3 (.int .i64 tg.who)).set 4 (.string tg.mac))
  have kk := (((Kept.refl (fun k => k = w2.heap.size) w4).set (p := ⟨w2.heap.size, 3, none⟩) rfl (.int .i64 tg.who)).set (p := ⟨w2.heap.size, 4, none⟩) rfl (.string tg.mac))
  have hX5 := hX4.kept kk (by omega)
  have hZ5 := hZ4.kept kk (by omega)
  have hB5 := ((hB4.setCell (p := ⟨w2.heap.size, 3, none⟩) (by show _ ≤ w2.heap.size; omega) (.int .i64 tg.who)).setCell (p := ⟨w2.heap.size, 4, none⟩) (by show _ ≤ w2.heap.size; omega) (.string tg.mac))
  replace hY5 : Arr _ w2.heap.size 39 [.int .i64 8, .string ⟨#[]⟩, .int .i64 vi, .int .i64 tg.who, .string tg.mac, .int .i64 0, .int .i64 0, .slice none 0 0, .int .i64 0, .int .i64 0, .slice none 0 0, .slice none 0 0, .int .i64 0, .int .i64 0, .slice none 0 0, .slice none 0 0, .slice none 0 0, .int .i64 0, .int .i64 0, .string ⟨#[]⟩, .slice none 0 0, .slice none 0 0, .int .i64 0, .string ⟨#[]⟩, .slice none 0 0] := hY5
  clear kk hX4 hZ4 hY4 hB4
  go_wp2_with fail
  refine (ch _).mono ?_
  rintro e w5 ⟨rfl, hw⟩
  rw [← hw] at hX5 hZ5 hY5 hB5
  clear hw ch
  clear x3 x4 y3 y4 f3 f4
  go_wp2_with fail
  refine (cc _).mono ?_
  rintro e w5 ⟨rfl, hw⟩
  subst hw
  clear cc
  go_wp2_with fail
  refine (ck _).mono ?_
  rintro e w5 ⟨rfl, hw⟩
  subst hw
  clear ck
  go_wp2_with fail
  refine (cq _).mono ?_
  rintro e w5 ⟨rfl, hw⟩
  subst hw
  clear cq
  have x22 := hX5.cell (i := 22) rfl
  have x23 := hX5.cell (i := 23) rfl
  have x24 := hX5.cell (i := 24) rfl
  have y22 := hY5.cell (i := 22) rfl
  have y23 := hY5.cell (i := 23) rfl
  have y24 := hY5.cell (i := 24) rfl
  have f22 := hY5.frozen 22
  have f23 := hY5.frozen 23
  have f24 := hY5.frozen 24
  have hY6 := (((hY5.set 22 (.int .i64 q.view)).set 23 (.string q.block)).set 24 (.slice q.va q.votes.length q.vc))
  have kk := ((((Kept.refl (fun k => k = w2.heap.size) w5).set (p := ⟨w2.heap.size, 22, none⟩) rfl (.int .i64 q.view)).set (p := ⟨w2.heap.size, 23, none⟩) rfl (.string q.block)).set (p := ⟨w2.heap.size, 24, none⟩) rfl (.slice q.va q.votes.length q.vc))
  have hX6 := hX5.kept kk (by omega)
  have hZ6 := hZ5.kept kk (by omega)
  have hB6 := (((hB5.setCell (p := ⟨w2.heap.size, 22, none⟩) (by show _ ≤ w2.heap.size; omega) (.int .i64 q.view)).setCell (p := ⟨w2.heap.size, 23, none⟩) (by show _ ≤ w2.heap.size; omega) (.string q.block)).setCell (p := ⟨w2.heap.size, 24, none⟩) (by show _ ≤ w2.heap.size; omega) (.slice q.va q.votes.length q.vc))
  replace hY6 : Arr _ w2.heap.size 39 [.int .i64 8, .string ⟨#[]⟩, .int .i64 vi, .int .i64 tg.who, .string tg.mac, .int .i64 0, .int .i64 0, .slice none 0 0, .int .i64 0, .int .i64 0, .slice none 0 0, .slice none 0 0, .int .i64 0, .int .i64 0, .slice none 0 0, .slice none 0 0, .slice none 0 0, .int .i64 0, .int .i64 0, .string ⟨#[]⟩, .slice none 0 0, .slice none 0 0, .int .i64 q.view, .string q.block, .slice q.va q.votes.length q.vc] := hY6
  clear kk hX5 hZ5 hY5 hB5
  have hF := hZ6.row [.int .i64 8, .string ⟨#[]⟩, .int .i64 vi, .int .i64 tg.who, .string tg.mac, .int .i64 0, .int .i64 0, .slice none 0 0, .int .i64 0, .int .i64 0, .slice none 0 0, .slice none 0 0, .int .i64 0, .int .i64 0, .slice none 0 0, .slice none 0 0, .slice none 0 0, .int .i64 0, .int .i64 0, .string ⟨#[]⟩, .slice none 0 0, .slice none 0 0, .int .i64 q.view, .string q.block, .slice q.va q.votes.length q.vc]
  have hBF := below_setRow hB6 (g := w.heap.size + 1) (Nat.le_succ _) [.int .i64 8, .string ⟨#[]⟩, .int .i64 vi, .int .i64 tg.who, .string tg.mac, .int .i64 0, .int .i64 0, .slice none 0 0, .int .i64 0, .int .i64 0, .slice none 0 0, .slice none 0 0, .int .i64 0, .int .i64 0, .slice none 0 0, .slice none 0 0, .slice none 0 0, .int .i64 0, .int .i64 0, .string ⟨#[]⟩, .slice none 0 0, .slice none 0 0, .int .i64 q.view, .string q.block, .slice q.va q.votes.length q.vc].toArray
  have h1 : (List.toArray (α := Value) [.int .i64 8, .string ⟨#[]⟩, .int .i64 vi, .int .i64 tg.who, .string tg.mac, .int .i64 0, .int .i64 0, .slice none 0 0, .int .i64 0, .int .i64 0, .slice none 0 0, .slice none 0 0, .int .i64 0, .int .i64 0, .slice none 0 0, .slice none 0 0, .slice none 0 0, .int .i64 0, .int .i64 0, .string ⟨#[]⟩, .slice none 0 0, .slice none 0 0, .int .i64 q.view, .string q.block, .slice q.va q.votes.length q.vc]).all (·.oneCell') = true := Array.all_eq_true_iff_forall_mem.2 (fun v hv => msgK.one ⟨8, ⟨#[]⟩, vi, tg, bat0, hdr9, cert0, blk0, q⟩ v (List.mem_toArray.1 hv))
  go_wp2_with (first | refine wpList_load_row (by rfl) 39 _ (by rfl) w2.heap.size (by rfl) 39 _ (0, 0) _ hY6 Tryz.underlying39 (by rfl) infoMsg9 ?_ | refine wpList_store_row (by rfl) 39 _ _ (by rfl) (w.heap.size + 1) [.int .i64 8, .string ⟨#[]⟩, .int .i64 vi, .int .i64 tg.who, .string tg.mac, .int .i64 0, .int .i64 0, .slice none 0 0, .int .i64 0, .int .i64 0, .slice none 0 0, .slice none 0 0, .int .i64 0, .int .i64 0, .slice none 0 0, .slice none 0 0, .slice none 0 0, .int .i64 0, .int .i64 0, .string ⟨#[]⟩, .slice none 0 0, .slice none 0 0, .int .i64 q.view, .string q.block, .slice q.va q.votes.length q.vc].toArray (by rfl) (by rfl) 39 _ hZ6 infoMsg9 (by rfl) h1 ?_)
  refine bodyPost_ret (v := MsgM.v ⟨8, ⟨#[]⟩, vi, tg, bat0, hdr9, cert0, blk0, q⟩) ?r1 ?r2 ?r3
  case r1 => exact results_msgO rfl _ _ (w.heap.size + 1) ⟨8, ⟨#[]⟩, vi, tg, bat0, hdr9, cert0, blk0, q⟩ rfl hF
  case r2 => rfl
  exact ⟨by rw [hout.out], hBF⟩

set_option maxRecDepth 100000 in
set_option maxHeartbeats 8000000 in
theorem refBare_9 (dg : ByteArray) (vi : Int) (tg : TagD) (ba : BatM) (he : HdrM) (ce : CertM) (bl : BlkM) (q : QcM) (w : World) :
    Calls Tryz.prog 45 #[MsgM.v ⟨9, dg, vi, tg, ba, he, ce, bl, q⟩] w fun e w' => e = .returned (MsgM.v ⟨9, dg, 0, tagZ, bat0, hdr9, cert0, blk0, qc0⟩) ∧ Below w.heap.size w w' := by
  obtain ⟨hX, hZ, hB⟩ := two_new w 39 39 [.int .i64 9, .string dg, .int .i64 vi, .int .i64 tg.who, .string tg.mac, .int .i64 ba.author, .int .i64 ba.number, .slice ba.ta ba.txs.length ba.tc, .int .i64 he.author, .int .i64 he.round, .slice he.ra he.refs.length he.rc, .slice he.pa he.parents.length he.pc, .int .i64 ce.hdr.author, .int .i64 ce.hdr.round, .slice ce.hdr.ra ce.hdr.refs.length ce.hdr.rc, .slice ce.hdr.pa ce.hdr.parents.length ce.hdr.pc, .slice ce.va ce.votes.length ce.vc, .int .i64 bl.view, .int .i64 bl.qc.view, .string bl.qc.block, .slice bl.qc.va bl.qc.votes.length bl.qc.vc, .slice bl.ca bl.certs.length bl.cc, .int .i64 q.view, .string q.block, .slice q.va q.votes.length q.vc] [.int .i64 0, .string ⟨#[]⟩, .int .i64 0, .int .i64 0, .string ⟨#[]⟩, .int .i64 0, .int .i64 0, .slice none 0 0, .int .i64 0, .int .i64 0, .slice none 0 0, .slice none 0 0, .int .i64 0, .int .i64 0, .slice none 0 0, .slice none 0 0, .slice none 0 0, .int .i64 0, .int .i64 0, .string ⟨#[]⟩, .slice none 0 0, .slice none 0 0, .int .i64 0, .string ⟨#[]⟩, .slice none 0 0]
  obtain ⟨out, hout⟩ : ∃ v, Hid (v = MsgM.v ⟨9, dg, 0, tagZ, bat0, hdr9, cert0, blk0, qc0⟩) := ⟨_, rfl⟩
  rw [← hout.out]
  have cF : ∀ w1, Calls Tryz.prog 43 #[.int .i64 9] w1 fun e w' => e = .returned (.string ⟨#[100]⟩) ∧ Below w1.heap.size w1 w' := fun w1 => refFields_any 9 w1
  have cb : ∀ w1, Calls Tryz.prog 46 #[.string ⟨#[100]⟩, .int .u8 98] w1 fun e w' => e = .returned (.bool false) ∧ w' = w1 := fun w1 => refHas_any ⟨#[100]⟩ 98 w1 (by decide)
  have cd : ∀ w1, Calls Tryz.prog 46 #[.string ⟨#[100]⟩, .int .u8 100] w1 fun e w' => e = .returned (.bool true) ∧ w' = w1 := fun w1 => refHas_any ⟨#[100]⟩ 100 w1 (by decide)
  have cv : ∀ w1, Calls Tryz.prog 46 #[.string ⟨#[100]⟩, .int .u8 118] w1 fun e w' => e = .returned (.bool false) ∧ w' = w1 := fun w1 => refHas_any ⟨#[100]⟩ 118 w1 (by decide)
  have ct : ∀ w1, Calls Tryz.prog 46 #[.string ⟨#[100]⟩, .int .u8 116] w1 fun e w' => e = .returned (.bool false) ∧ w' = w1 := fun w1 => refHas_any ⟨#[100]⟩ 116 w1 (by decide)
  have ch : ∀ w1, Calls Tryz.prog 46 #[.string ⟨#[100]⟩, .int .u8 104] w1 fun e w' => e = .returned (.bool false) ∧ w' = w1 := fun w1 => refHas_any ⟨#[100]⟩ 104 w1 (by decide)
  have cc : ∀ w1, Calls Tryz.prog 46 #[.string ⟨#[100]⟩, .int .u8 99] w1 fun e w' => e = .returned (.bool false) ∧ w' = w1 := fun w1 => refHas_any ⟨#[100]⟩ 99 w1 (by decide)
  have ck : ∀ w1, Calls Tryz.prog 46 #[.string ⟨#[100]⟩, .int .u8 107] w1 fun e w' => e = .returned (.bool false) ∧ w' = w1 := fun w1 => refHas_any ⟨#[100]⟩ 107 w1 (by decide)
  have cq : ∀ w1, Calls Tryz.prog 46 #[.string ⟨#[100]⟩, .int .u8 113] w1 fun e w' => e = .returned (.bool false) ∧ w' = w1 := fun w1 => refHas_any ⟨#[100]⟩ 113 w1 (by decide)
  unfold MsgM.v MsgM.c
  simp only
  obtain ⟨w1, hw1⟩ : ∃ q', (w.alloc (.cells [.int .i64 9, .string dg, .int .i64 vi, .int .i64 tg.who, .string tg.mac, .int .i64 ba.author, .int .i64 ba.number, .slice ba.ta ba.txs.length ba.tc, .int .i64 he.author, .int .i64 he.round, .slice he.ra he.refs.length he.rc, .slice he.pa he.parents.length he.pc, .int .i64 ce.hdr.author, .int .i64 ce.hdr.round, .slice ce.hdr.ra ce.hdr.refs.length ce.hdr.rc, .slice ce.hdr.pa ce.hdr.parents.length ce.hdr.pc, .slice ce.va ce.votes.length ce.vc, .int .i64 bl.view, .int .i64 bl.qc.view, .string bl.qc.block, .slice bl.qc.va bl.qc.votes.length bl.qc.vc, .slice bl.ca bl.certs.length bl.cc, .int .i64 q.view, .string q.block, .slice q.va q.votes.length q.vc].toArray 39)).alloc (.cells [.int .i64 0, .string ⟨#[]⟩, .int .i64 0, .int .i64 0, .string ⟨#[]⟩, .int .i64 0, .int .i64 0, .slice none 0 0, .int .i64 0, .int .i64 0, .slice none 0 0, .slice none 0 0, .int .i64 0, .int .i64 0, .slice none 0 0, .slice none 0 0, .slice none 0 0, .int .i64 0, .int .i64 0, .string ⟨#[]⟩, .slice none 0 0, .slice none 0 0, .int .i64 0, .string ⟨#[]⟩, .slice none 0 0].toArray 39) = q' := ⟨_, rfl⟩
  have hs1 : w.heap.size + 2 ≤ w1.heap.size := by rw [← hw1, alloc_size, alloc_size]; omega
  rw [hw1] at hX hZ hB
  have x0 := hX.cell (i := 0) rfl
  go_enter Tryz.func45, Tryz.ntmps45
  go_wp2_with fail
  refine (cF _).mono ?_
  rintro e w2 ⟨rfl, hb2⟩
  have hX2 := hX.below hb2 hX.lt
  have hZ2 := hZ.below hb2 hZ.lt
  have hB2 := hB.trans (hb2.mono hB.size)
  have hs2 : w.heap.size + 2 ≤ w2.heap.size := Nat.le_trans hs1 hb2.size
  clear hX hZ hB hb2 x0 hs1 hw1 cF
  have x0 := hX2.cell (i := 0) rfl
  have hN := Arr.new w2 39 [.int .i64 0, .string ⟨#[]⟩, .int .i64 0, .int .i64 0, .string ⟨#[]⟩, .int .i64 0, .int .i64 0, .slice none 0 0, .int .i64 0, .int .i64 0, .slice none 0 0, .slice none 0 0, .int .i64 0, .int .i64 0, .slice none 0 0, .slice none 0 0, .slice none 0 0, .int .i64 0, .int .i64 0, .string ⟨#[]⟩, .slice none 0 0, .slice none 0 0, .int .i64 0, .string ⟨#[]⟩, .slice none 0 0]
  have hbn := belowNew w2 (.cells [.int .i64 0, .string ⟨#[]⟩, .int .i64 0, .int .i64 0, .string ⟨#[]⟩, .int .i64 0, .int .i64 0, .slice none 0 0, .int .i64 0, .int .i64 0, .slice none 0 0, .slice none 0 0, .int .i64 0, .int .i64 0, .slice none 0 0, .slice none 0 0, .slice none 0 0, .int .i64 0, .int .i64 0, .string ⟨#[]⟩, .slice none 0 0, .slice none 0 0, .int .i64 0, .string ⟨#[]⟩, .slice none 0 0].toArray 39)
  have h1 : (List.toArray (α := Value) [.int .i64 9, .string ⟨#[]⟩, .int .i64 0, .int .i64 0, .string ⟨#[]⟩, .int .i64 0, .int .i64 0, .slice none 0 0, .int .i64 0, .int .i64 0, .slice none 0 0, .slice none 0 0, .int .i64 0, .int .i64 0, .slice none 0 0, .slice none 0 0, .slice none 0 0, .int .i64 0, .int .i64 0, .string ⟨#[]⟩, .slice none 0 0, .slice none 0 0, .int .i64 0, .string ⟨#[]⟩, .slice none 0 0]).all (·.oneCell') = true := Array.all_eq_true_iff_forall_mem.2 (fun v hv => msgK.one (msg0 9) v (List.mem_toArray.1 hv))
  have kN := kept_row (w2.alloc (.cells [.int .i64 0, .string ⟨#[]⟩, .int .i64 0, .int .i64 0, .string ⟨#[]⟩, .int .i64 0, .int .i64 0, .slice none 0 0, .int .i64 0, .int .i64 0, .slice none 0 0, .slice none 0 0, .int .i64 0, .int .i64 0, .slice none 0 0, .slice none 0 0, .slice none 0 0, .int .i64 0, .int .i64 0, .string ⟨#[]⟩, .slice none 0 0, .slice none 0 0, .int .i64 0, .string ⟨#[]⟩, .slice none 0 0].toArray 39)) w2.heap.size [.int .i64 9, .string ⟨#[]⟩, .int .i64 0, .int .i64 0, .string ⟨#[]⟩, .int .i64 0, .int .i64 0, .slice none 0 0, .int .i64 0, .int .i64 0, .slice none 0 0, .slice none 0 0, .int .i64 0, .int .i64 0, .slice none 0 0, .slice none 0 0, .slice none 0 0, .int .i64 0, .int .i64 0, .string ⟨#[]⟩, .slice none 0 0, .slice none 0 0, .int .i64 0, .string ⟨#[]⟩, .slice none 0 0].toArray
  have hY3 := hN.row [.int .i64 9, .string ⟨#[]⟩, .int .i64 0, .int .i64 0, .string ⟨#[]⟩, .int .i64 0, .int .i64 0, .slice none 0 0, .int .i64 0, .int .i64 0, .slice none 0 0, .slice none 0 0, .int .i64 0, .int .i64 0, .slice none 0 0, .slice none 0 0, .slice none 0 0, .int .i64 0, .int .i64 0, .string ⟨#[]⟩, .slice none 0 0, .slice none 0 0, .int .i64 0, .string ⟨#[]⟩, .slice none 0 0]
  have hX3 := (hX2.below hbn hX2.lt).kept kN (by omega)
  have hZ3 := (hZ2.below hbn hZ2.lt).kept kN (by omega)
  have hB3 := below_setRow (hB2.trans (hbn.mono hB2.size)) (g := w2.heap.size) (by omega) [.int .i64 9, .string ⟨#[]⟩, .int .i64 0, .int .i64 0, .string ⟨#[]⟩, .int .i64 0, .int .i64 0, .slice none 0 0, .int .i64 0, .int .i64 0, .slice none 0 0, .slice none 0 0, .int .i64 0, .int .i64 0, .slice none 0 0, .slice none 0 0, .slice none 0 0, .int .i64 0, .int .i64 0, .string ⟨#[]⟩, .slice none 0 0, .slice none 0 0, .int .i64 0, .string ⟨#[]⟩, .slice none 0 0].toArray
  go_wp2_with (refine wpList_store_row (by rfl) 39 _ _ (by rfl) w2.heap.size [.int .i64 9, .string ⟨#[]⟩, .int .i64 0, .int .i64 0, .string ⟨#[]⟩, .int .i64 0, .int .i64 0, .slice none 0 0, .int .i64 0, .int .i64 0, .slice none 0 0, .slice none 0 0, .int .i64 0, .int .i64 0, .slice none 0 0, .slice none 0 0, .slice none 0 0, .int .i64 0, .int .i64 0, .string ⟨#[]⟩, .slice none 0 0, .slice none 0 0, .int .i64 0, .string ⟨#[]⟩, .slice none 0 0].toArray (by rfl) (by rfl) 39 _ hN infoMsg9 (by rfl) h1 ?_)
  refine (cb _).mono ?_
  rintro e w3 ⟨rfl, hw⟩
  rw [← hw] at hX3 hZ3 hY3 hB3
  clear hw cb
  clear hN hbn h1 kN hX2 hZ2 hB2 x0
  go_wp2_with fail
  refine (cd _).mono ?_
  rintro e w3 ⟨rfl, hw⟩
  subst hw
  clear cd
  have x1 := hX3.cell (i := 1) rfl
  have y1 := hY3.cell (i := 1) rfl
  have f1 := hY3.frozen 1
  have hY4 := (hY3.set 1 (.string dg))
  have kk := ((Kept.refl (fun k => k = w2.heap.size) w3).set (p := ⟨w2.heap.size, 1, none⟩) rfl (.string dg))
  have hX4 := hX3.kept kk (by omega)
  have hZ4 := hZ3.kept kk (by omega)
  have hB4 := (hB3.setCell (p := ⟨w2.heap.size, 1, none⟩) (by show _ ≤ w2.heap.size; omega) (.string dg))
  replace hY4 : Arr _ w2.heap.size 39 [.int .i64 9, .string dg, .int .i64 0, .int .i64 0, .string ⟨#[]⟩, .int .i64 0, .int .i64 0, .slice none 0 0, .int .i64 0, .int .i64 0, .slice none 0 0, .slice none 0 0, .int .i64 0, .int .i64 0, .slice none 0 0, .slice none 0 0, .slice none 0 0, .int .i64 0, .int .i64 0, .string ⟨#[]⟩, .slice none 0 0, .slice none 0 0, .int .i64 0, .string ⟨#[]⟩, .slice none 0 0] := hY4
  clear kk hX3 hZ3 hY3 hB3
  go_wp2_with fail
  refine (cv _).mono ?_
  rintro e w4 ⟨rfl, hw⟩
  rw [← hw] at hX4 hZ4 hY4 hB4
  clear hw cv
  clear x1 y1 f1
  go_wp2_with fail
  refine (ct _).mono ?_
  rintro e w4 ⟨rfl, hw⟩
  subst hw
  clear ct
  go_wp2_with fail
  refine (ch _).mono ?_
  rintro e w4 ⟨rfl, hw⟩
  subst hw
  clear ch
  go_wp2_with fail
  refine (cc _).mono ?_
  rintro e w4 ⟨rfl, hw⟩
  subst hw
  clear cc
  go_wp2_with fail
  refine (ck _).mono ?_
  rintro e w4 ⟨rfl, hw⟩
  subst hw
  clear ck
  go_wp2_with fail
  refine (cq _).mono ?_
  rintro e w4 ⟨rfl, hw⟩
  subst hw
  clear cq
  have hF := hZ4.row [.int .i64 9, .string dg, .int .i64 0, .int .i64 0, .string ⟨#[]⟩, .int .i64 0, .int .i64 0, .slice none 0 0, .int .i64 0, .int .i64 0, .slice none 0 0, .slice none 0 0, .int .i64 0, .int .i64 0, .slice none 0 0, .slice none 0 0, .slice none 0 0, .int .i64 0, .int .i64 0, .string ⟨#[]⟩, .slice none 0 0, .slice none 0 0, .int .i64 0, .string ⟨#[]⟩, .slice none 0 0]
  have hBF := below_setRow hB4 (g := w.heap.size + 1) (Nat.le_succ _) [.int .i64 9, .string dg, .int .i64 0, .int .i64 0, .string ⟨#[]⟩, .int .i64 0, .int .i64 0, .slice none 0 0, .int .i64 0, .int .i64 0, .slice none 0 0, .slice none 0 0, .int .i64 0, .int .i64 0, .slice none 0 0, .slice none 0 0, .slice none 0 0, .int .i64 0, .int .i64 0, .string ⟨#[]⟩, .slice none 0 0, .slice none 0 0, .int .i64 0, .string ⟨#[]⟩, .slice none 0 0].toArray
  have h1 : (List.toArray (α := Value) [.int .i64 9, .string dg, .int .i64 0, .int .i64 0, .string ⟨#[]⟩, .int .i64 0, .int .i64 0, .slice none 0 0, .int .i64 0, .int .i64 0, .slice none 0 0, .slice none 0 0, .int .i64 0, .int .i64 0, .slice none 0 0, .slice none 0 0, .slice none 0 0, .int .i64 0, .int .i64 0, .string ⟨#[]⟩, .slice none 0 0, .slice none 0 0, .int .i64 0, .string ⟨#[]⟩, .slice none 0 0]).all (·.oneCell') = true := Array.all_eq_true_iff_forall_mem.2 (fun v hv => msgK.one ⟨9, dg, 0, tagZ, bat0, hdr9, cert0, blk0, qc0⟩ v (List.mem_toArray.1 hv))
  go_wp2_with (first | refine wpList_load_row (by rfl) 39 _ (by rfl) w2.heap.size (by rfl) 39 _ (0, 0) _ hY4 Tryz.underlying39 (by rfl) infoMsg9 ?_ | refine wpList_store_row (by rfl) 39 _ _ (by rfl) (w.heap.size + 1) [.int .i64 9, .string dg, .int .i64 0, .int .i64 0, .string ⟨#[]⟩, .int .i64 0, .int .i64 0, .slice none 0 0, .int .i64 0, .int .i64 0, .slice none 0 0, .slice none 0 0, .int .i64 0, .int .i64 0, .slice none 0 0, .slice none 0 0, .slice none 0 0, .int .i64 0, .int .i64 0, .string ⟨#[]⟩, .slice none 0 0, .slice none 0 0, .int .i64 0, .string ⟨#[]⟩, .slice none 0 0].toArray (by rfl) (by rfl) 39 _ hZ4 infoMsg9 (by rfl) h1 ?_)
  refine bodyPost_ret (v := MsgM.v ⟨9, dg, 0, tagZ, bat0, hdr9, cert0, blk0, qc0⟩) ?r1 ?r2 ?r3
  case r1 => exact results_msgO rfl _ _ (w.heap.size + 1) ⟨9, dg, 0, tagZ, bat0, hdr9, cert0, blk0, qc0⟩ rfl hF
  case r2 => rfl
  exact ⟨by rw [hout.out], hBF⟩

set_option maxRecDepth 100000 in
set_option maxHeartbeats 8000000 in
theorem refBare_10 (dg : ByteArray) (vi : Int) (tg : TagD) (ba : BatM) (he : HdrM) (ce : CertM) (bl : BlkM) (q : QcM) (w : World) :
    Calls Tryz.prog 45 #[MsgM.v ⟨10, dg, vi, tg, ba, he, ce, bl, q⟩] w fun e w' => e = .returned (MsgM.v ⟨10, dg, 0, tagZ, bat0, hdr9, cert0, blk0, qc0⟩) ∧ Below w.heap.size w w' := by
  obtain ⟨hX, hZ, hB⟩ := two_new w 39 39 [.int .i64 10, .string dg, .int .i64 vi, .int .i64 tg.who, .string tg.mac, .int .i64 ba.author, .int .i64 ba.number, .slice ba.ta ba.txs.length ba.tc, .int .i64 he.author, .int .i64 he.round, .slice he.ra he.refs.length he.rc, .slice he.pa he.parents.length he.pc, .int .i64 ce.hdr.author, .int .i64 ce.hdr.round, .slice ce.hdr.ra ce.hdr.refs.length ce.hdr.rc, .slice ce.hdr.pa ce.hdr.parents.length ce.hdr.pc, .slice ce.va ce.votes.length ce.vc, .int .i64 bl.view, .int .i64 bl.qc.view, .string bl.qc.block, .slice bl.qc.va bl.qc.votes.length bl.qc.vc, .slice bl.ca bl.certs.length bl.cc, .int .i64 q.view, .string q.block, .slice q.va q.votes.length q.vc] [.int .i64 0, .string ⟨#[]⟩, .int .i64 0, .int .i64 0, .string ⟨#[]⟩, .int .i64 0, .int .i64 0, .slice none 0 0, .int .i64 0, .int .i64 0, .slice none 0 0, .slice none 0 0, .int .i64 0, .int .i64 0, .slice none 0 0, .slice none 0 0, .slice none 0 0, .int .i64 0, .int .i64 0, .string ⟨#[]⟩, .slice none 0 0, .slice none 0 0, .int .i64 0, .string ⟨#[]⟩, .slice none 0 0]
  obtain ⟨out, hout⟩ : ∃ v, Hid (v = MsgM.v ⟨10, dg, 0, tagZ, bat0, hdr9, cert0, blk0, qc0⟩) := ⟨_, rfl⟩
  rw [← hout.out]
  have cF : ∀ w1, Calls Tryz.prog 43 #[.int .i64 10] w1 fun e w' => e = .returned (.string ⟨#[100]⟩) ∧ Below w1.heap.size w1 w' := fun w1 => refFields_any 10 w1
  have cb : ∀ w1, Calls Tryz.prog 46 #[.string ⟨#[100]⟩, .int .u8 98] w1 fun e w' => e = .returned (.bool false) ∧ w' = w1 := fun w1 => refHas_any ⟨#[100]⟩ 98 w1 (by decide)
  have cd : ∀ w1, Calls Tryz.prog 46 #[.string ⟨#[100]⟩, .int .u8 100] w1 fun e w' => e = .returned (.bool true) ∧ w' = w1 := fun w1 => refHas_any ⟨#[100]⟩ 100 w1 (by decide)
  have cv : ∀ w1, Calls Tryz.prog 46 #[.string ⟨#[100]⟩, .int .u8 118] w1 fun e w' => e = .returned (.bool false) ∧ w' = w1 := fun w1 => refHas_any ⟨#[100]⟩ 118 w1 (by decide)
  have ct : ∀ w1, Calls Tryz.prog 46 #[.string ⟨#[100]⟩, .int .u8 116] w1 fun e w' => e = .returned (.bool false) ∧ w' = w1 := fun w1 => refHas_any ⟨#[100]⟩ 116 w1 (by decide)
  have ch : ∀ w1, Calls Tryz.prog 46 #[.string ⟨#[100]⟩, .int .u8 104] w1 fun e w' => e = .returned (.bool false) ∧ w' = w1 := fun w1 => refHas_any ⟨#[100]⟩ 104 w1 (by decide)
  have cc : ∀ w1, Calls Tryz.prog 46 #[.string ⟨#[100]⟩, .int .u8 99] w1 fun e w' => e = .returned (.bool false) ∧ w' = w1 := fun w1 => refHas_any ⟨#[100]⟩ 99 w1 (by decide)
  have ck : ∀ w1, Calls Tryz.prog 46 #[.string ⟨#[100]⟩, .int .u8 107] w1 fun e w' => e = .returned (.bool false) ∧ w' = w1 := fun w1 => refHas_any ⟨#[100]⟩ 107 w1 (by decide)
  have cq : ∀ w1, Calls Tryz.prog 46 #[.string ⟨#[100]⟩, .int .u8 113] w1 fun e w' => e = .returned (.bool false) ∧ w' = w1 := fun w1 => refHas_any ⟨#[100]⟩ 113 w1 (by decide)
  unfold MsgM.v MsgM.c
  simp only
  obtain ⟨w1, hw1⟩ : ∃ q', (w.alloc (.cells [.int .i64 10, .string dg, .int .i64 vi, .int .i64 tg.who, .string tg.mac, .int .i64 ba.author, .int .i64 ba.number, .slice ba.ta ba.txs.length ba.tc, .int .i64 he.author, .int .i64 he.round, .slice he.ra he.refs.length he.rc, .slice he.pa he.parents.length he.pc, .int .i64 ce.hdr.author, .int .i64 ce.hdr.round, .slice ce.hdr.ra ce.hdr.refs.length ce.hdr.rc, .slice ce.hdr.pa ce.hdr.parents.length ce.hdr.pc, .slice ce.va ce.votes.length ce.vc, .int .i64 bl.view, .int .i64 bl.qc.view, .string bl.qc.block, .slice bl.qc.va bl.qc.votes.length bl.qc.vc, .slice bl.ca bl.certs.length bl.cc, .int .i64 q.view, .string q.block, .slice q.va q.votes.length q.vc].toArray 39)).alloc (.cells [.int .i64 0, .string ⟨#[]⟩, .int .i64 0, .int .i64 0, .string ⟨#[]⟩, .int .i64 0, .int .i64 0, .slice none 0 0, .int .i64 0, .int .i64 0, .slice none 0 0, .slice none 0 0, .int .i64 0, .int .i64 0, .slice none 0 0, .slice none 0 0, .slice none 0 0, .int .i64 0, .int .i64 0, .string ⟨#[]⟩, .slice none 0 0, .slice none 0 0, .int .i64 0, .string ⟨#[]⟩, .slice none 0 0].toArray 39) = q' := ⟨_, rfl⟩
  have hs1 : w.heap.size + 2 ≤ w1.heap.size := by rw [← hw1, alloc_size, alloc_size]; omega
  rw [hw1] at hX hZ hB
  have x0 := hX.cell (i := 0) rfl
  go_enter Tryz.func45, Tryz.ntmps45
  go_wp2_with fail
  refine (cF _).mono ?_
  rintro e w2 ⟨rfl, hb2⟩
  have hX2 := hX.below hb2 hX.lt
  have hZ2 := hZ.below hb2 hZ.lt
  have hB2 := hB.trans (hb2.mono hB.size)
  have hs2 : w.heap.size + 2 ≤ w2.heap.size := Nat.le_trans hs1 hb2.size
  clear hX hZ hB hb2 x0 hs1 hw1 cF
  have x0 := hX2.cell (i := 0) rfl
  have hN := Arr.new w2 39 [.int .i64 0, .string ⟨#[]⟩, .int .i64 0, .int .i64 0, .string ⟨#[]⟩, .int .i64 0, .int .i64 0, .slice none 0 0, .int .i64 0, .int .i64 0, .slice none 0 0, .slice none 0 0, .int .i64 0, .int .i64 0, .slice none 0 0, .slice none 0 0, .slice none 0 0, .int .i64 0, .int .i64 0, .string ⟨#[]⟩, .slice none 0 0, .slice none 0 0, .int .i64 0, .string ⟨#[]⟩, .slice none 0 0]
  have hbn := belowNew w2 (.cells [.int .i64 0, .string ⟨#[]⟩, .int .i64 0, .int .i64 0, .string ⟨#[]⟩, .int .i64 0, .int .i64 0, .slice none 0 0, .int .i64 0, .int .i64 0, .slice none 0 0, .slice none 0 0, .int .i64 0, .int .i64 0, .slice none 0 0, .slice none 0 0, .slice none 0 0, .int .i64 0, .int .i64 0, .string ⟨#[]⟩, .slice none 0 0, .slice none 0 0, .int .i64 0, .string ⟨#[]⟩, .slice none 0 0].toArray 39)
  have h1 : (List.toArray (α := Value) [.int .i64 10, .string ⟨#[]⟩, .int .i64 0, .int .i64 0, .string ⟨#[]⟩, .int .i64 0, .int .i64 0, .slice none 0 0, .int .i64 0, .int .i64 0, .slice none 0 0, .slice none 0 0, .int .i64 0, .int .i64 0, .slice none 0 0, .slice none 0 0, .slice none 0 0, .int .i64 0, .int .i64 0, .string ⟨#[]⟩, .slice none 0 0, .slice none 0 0, .int .i64 0, .string ⟨#[]⟩, .slice none 0 0]).all (·.oneCell') = true := Array.all_eq_true_iff_forall_mem.2 (fun v hv => msgK.one (msg0 10) v (List.mem_toArray.1 hv))
  have kN := kept_row (w2.alloc (.cells [.int .i64 0, .string ⟨#[]⟩, .int .i64 0, .int .i64 0, .string ⟨#[]⟩, .int .i64 0, .int .i64 0, .slice none 0 0, .int .i64 0, .int .i64 0, .slice none 0 0, .slice none 0 0, .int .i64 0, .int .i64 0, .slice none 0 0, .slice none 0 0, .slice none 0 0, .int .i64 0, .int .i64 0, .string ⟨#[]⟩, .slice none 0 0, .slice none 0 0, .int .i64 0, .string ⟨#[]⟩, .slice none 0 0].toArray 39)) w2.heap.size [.int .i64 10, .string ⟨#[]⟩, .int .i64 0, .int .i64 0, .string ⟨#[]⟩, .int .i64 0, .int .i64 0, .slice none 0 0, .int .i64 0, .int .i64 0, .slice none 0 0, .slice none 0 0, .int .i64 0, .int .i64 0, .slice none 0 0, .slice none 0 0, .slice none 0 0, .int .i64 0, .int .i64 0, .string ⟨#[]⟩, .slice none 0 0, .slice none 0 0, .int .i64 0, .string ⟨#[]⟩, .slice none 0 0].toArray
  have hY3 := hN.row [.int .i64 10, .string ⟨#[]⟩, .int .i64 0, .int .i64 0, .string ⟨#[]⟩, .int .i64 0, .int .i64 0, .slice none 0 0, .int .i64 0, .int .i64 0, .slice none 0 0, .slice none 0 0, .int .i64 0, .int .i64 0, .slice none 0 0, .slice none 0 0, .slice none 0 0, .int .i64 0, .int .i64 0, .string ⟨#[]⟩, .slice none 0 0, .slice none 0 0, .int .i64 0, .string ⟨#[]⟩, .slice none 0 0]
  have hX3 := (hX2.below hbn hX2.lt).kept kN (by omega)
  have hZ3 := (hZ2.below hbn hZ2.lt).kept kN (by omega)
  have hB3 := below_setRow (hB2.trans (hbn.mono hB2.size)) (g := w2.heap.size) (by omega) [.int .i64 10, .string ⟨#[]⟩, .int .i64 0, .int .i64 0, .string ⟨#[]⟩, .int .i64 0, .int .i64 0, .slice none 0 0, .int .i64 0, .int .i64 0, .slice none 0 0, .slice none 0 0, .int .i64 0, .int .i64 0, .slice none 0 0, .slice none 0 0, .slice none 0 0, .int .i64 0, .int .i64 0, .string ⟨#[]⟩, .slice none 0 0, .slice none 0 0, .int .i64 0, .string ⟨#[]⟩, .slice none 0 0].toArray
  go_wp2_with (refine wpList_store_row (by rfl) 39 _ _ (by rfl) w2.heap.size [.int .i64 10, .string ⟨#[]⟩, .int .i64 0, .int .i64 0, .string ⟨#[]⟩, .int .i64 0, .int .i64 0, .slice none 0 0, .int .i64 0, .int .i64 0, .slice none 0 0, .slice none 0 0, .int .i64 0, .int .i64 0, .slice none 0 0, .slice none 0 0, .slice none 0 0, .int .i64 0, .int .i64 0, .string ⟨#[]⟩, .slice none 0 0, .slice none 0 0, .int .i64 0, .string ⟨#[]⟩, .slice none 0 0].toArray (by rfl) (by rfl) 39 _ hN infoMsg9 (by rfl) h1 ?_)
  refine (cb _).mono ?_
  rintro e w3 ⟨rfl, hw⟩
  rw [← hw] at hX3 hZ3 hY3 hB3
  clear hw cb
  clear hN hbn h1 kN hX2 hZ2 hB2 x0
  go_wp2_with fail
  refine (cd _).mono ?_
  rintro e w3 ⟨rfl, hw⟩
  subst hw
  clear cd
  have x1 := hX3.cell (i := 1) rfl
  have y1 := hY3.cell (i := 1) rfl
  have f1 := hY3.frozen 1
  have hY4 := (hY3.set 1 (.string dg))
  have kk := ((Kept.refl (fun k => k = w2.heap.size) w3).set (p := ⟨w2.heap.size, 1, none⟩) rfl (.string dg))
  have hX4 := hX3.kept kk (by omega)
  have hZ4 := hZ3.kept kk (by omega)
  have hB4 := (hB3.setCell (p := ⟨w2.heap.size, 1, none⟩) (by show _ ≤ w2.heap.size; omega) (.string dg))
  replace hY4 : Arr _ w2.heap.size 39 [.int .i64 10, .string dg, .int .i64 0, .int .i64 0, .string ⟨#[]⟩, .int .i64 0, .int .i64 0, .slice none 0 0, .int .i64 0, .int .i64 0, .slice none 0 0, .slice none 0 0, .int .i64 0, .int .i64 0, .slice none 0 0, .slice none 0 0, .slice none 0 0, .int .i64 0, .int .i64 0, .string ⟨#[]⟩, .slice none 0 0, .slice none 0 0, .int .i64 0, .string ⟨#[]⟩, .slice none 0 0] := hY4
  clear kk hX3 hZ3 hY3 hB3
  go_wp2_with fail
  refine (cv _).mono ?_
  rintro e w4 ⟨rfl, hw⟩
  rw [← hw] at hX4 hZ4 hY4 hB4
  clear hw cv
  clear x1 y1 f1
  go_wp2_with fail
  refine (ct _).mono ?_
  rintro e w4 ⟨rfl, hw⟩
  subst hw
  clear ct
  go_wp2_with fail
  refine (ch _).mono ?_
  rintro e w4 ⟨rfl, hw⟩
  subst hw
  clear ch
  go_wp2_with fail
  refine (cc _).mono ?_
  rintro e w4 ⟨rfl, hw⟩
  subst hw
  clear cc
  go_wp2_with fail
  refine (ck _).mono ?_
  rintro e w4 ⟨rfl, hw⟩
  subst hw
  clear ck
  go_wp2_with fail
  refine (cq _).mono ?_
  rintro e w4 ⟨rfl, hw⟩
  subst hw
  clear cq
  have hF := hZ4.row [.int .i64 10, .string dg, .int .i64 0, .int .i64 0, .string ⟨#[]⟩, .int .i64 0, .int .i64 0, .slice none 0 0, .int .i64 0, .int .i64 0, .slice none 0 0, .slice none 0 0, .int .i64 0, .int .i64 0, .slice none 0 0, .slice none 0 0, .slice none 0 0, .int .i64 0, .int .i64 0, .string ⟨#[]⟩, .slice none 0 0, .slice none 0 0, .int .i64 0, .string ⟨#[]⟩, .slice none 0 0]
  have hBF := below_setRow hB4 (g := w.heap.size + 1) (Nat.le_succ _) [.int .i64 10, .string dg, .int .i64 0, .int .i64 0, .string ⟨#[]⟩, .int .i64 0, .int .i64 0, .slice none 0 0, .int .i64 0, .int .i64 0, .slice none 0 0, .slice none 0 0, .int .i64 0, .int .i64 0, .slice none 0 0, .slice none 0 0, .slice none 0 0, .int .i64 0, .int .i64 0, .string ⟨#[]⟩, .slice none 0 0, .slice none 0 0, .int .i64 0, .string ⟨#[]⟩, .slice none 0 0].toArray
  have h1 : (List.toArray (α := Value) [.int .i64 10, .string dg, .int .i64 0, .int .i64 0, .string ⟨#[]⟩, .int .i64 0, .int .i64 0, .slice none 0 0, .int .i64 0, .int .i64 0, .slice none 0 0, .slice none 0 0, .int .i64 0, .int .i64 0, .slice none 0 0, .slice none 0 0, .slice none 0 0, .int .i64 0, .int .i64 0, .string ⟨#[]⟩, .slice none 0 0, .slice none 0 0, .int .i64 0, .string ⟨#[]⟩, .slice none 0 0]).all (·.oneCell') = true := Array.all_eq_true_iff_forall_mem.2 (fun v hv => msgK.one ⟨10, dg, 0, tagZ, bat0, hdr9, cert0, blk0, qc0⟩ v (List.mem_toArray.1 hv))
  go_wp2_with (first | refine wpList_load_row (by rfl) 39 _ (by rfl) w2.heap.size (by rfl) 39 _ (0, 0) _ hY4 Tryz.underlying39 (by rfl) infoMsg9 ?_ | refine wpList_store_row (by rfl) 39 _ _ (by rfl) (w.heap.size + 1) [.int .i64 10, .string dg, .int .i64 0, .int .i64 0, .string ⟨#[]⟩, .int .i64 0, .int .i64 0, .slice none 0 0, .int .i64 0, .int .i64 0, .slice none 0 0, .slice none 0 0, .int .i64 0, .int .i64 0, .slice none 0 0, .slice none 0 0, .slice none 0 0, .int .i64 0, .int .i64 0, .string ⟨#[]⟩, .slice none 0 0, .slice none 0 0, .int .i64 0, .string ⟨#[]⟩, .slice none 0 0].toArray (by rfl) (by rfl) 39 _ hZ4 infoMsg9 (by rfl) h1 ?_)
  refine bodyPost_ret (v := MsgM.v ⟨10, dg, 0, tagZ, bat0, hdr9, cert0, blk0, qc0⟩) ?r1 ?r2 ?r3
  case r1 => exact results_msgO rfl _ _ (w.heap.size + 1) ⟨10, dg, 0, tagZ, bat0, hdr9, cert0, blk0, qc0⟩ rfl hF
  case r2 => rfl
  exact ⟨by rw [hout.out], hBF⟩

set_option maxRecDepth 100000 in
set_option maxHeartbeats 8000000 in
theorem refBare_11 (dg : ByteArray) (vi : Int) (tg : TagD) (ba : BatM) (he : HdrM) (ce : CertM) (bl : BlkM) (q : QcM) (w : World) :
    Calls Tryz.prog 45 #[MsgM.v ⟨11, dg, vi, tg, ba, he, ce, bl, q⟩] w fun e w' => e = .returned (MsgM.v ⟨11, dg, 0, tagZ, bat0, hdr9, cert0, blk0, qc0⟩) ∧ Below w.heap.size w w' := by
  obtain ⟨hX, hZ, hB⟩ := two_new w 39 39 [.int .i64 11, .string dg, .int .i64 vi, .int .i64 tg.who, .string tg.mac, .int .i64 ba.author, .int .i64 ba.number, .slice ba.ta ba.txs.length ba.tc, .int .i64 he.author, .int .i64 he.round, .slice he.ra he.refs.length he.rc, .slice he.pa he.parents.length he.pc, .int .i64 ce.hdr.author, .int .i64 ce.hdr.round, .slice ce.hdr.ra ce.hdr.refs.length ce.hdr.rc, .slice ce.hdr.pa ce.hdr.parents.length ce.hdr.pc, .slice ce.va ce.votes.length ce.vc, .int .i64 bl.view, .int .i64 bl.qc.view, .string bl.qc.block, .slice bl.qc.va bl.qc.votes.length bl.qc.vc, .slice bl.ca bl.certs.length bl.cc, .int .i64 q.view, .string q.block, .slice q.va q.votes.length q.vc] [.int .i64 0, .string ⟨#[]⟩, .int .i64 0, .int .i64 0, .string ⟨#[]⟩, .int .i64 0, .int .i64 0, .slice none 0 0, .int .i64 0, .int .i64 0, .slice none 0 0, .slice none 0 0, .int .i64 0, .int .i64 0, .slice none 0 0, .slice none 0 0, .slice none 0 0, .int .i64 0, .int .i64 0, .string ⟨#[]⟩, .slice none 0 0, .slice none 0 0, .int .i64 0, .string ⟨#[]⟩, .slice none 0 0]
  obtain ⟨out, hout⟩ : ∃ v, Hid (v = MsgM.v ⟨11, dg, 0, tagZ, bat0, hdr9, cert0, blk0, qc0⟩) := ⟨_, rfl⟩
  rw [← hout.out]
  have cF : ∀ w1, Calls Tryz.prog 43 #[.int .i64 11] w1 fun e w' => e = .returned (.string ⟨#[100]⟩) ∧ Below w1.heap.size w1 w' := fun w1 => refFields_any 11 w1
  have cb : ∀ w1, Calls Tryz.prog 46 #[.string ⟨#[100]⟩, .int .u8 98] w1 fun e w' => e = .returned (.bool false) ∧ w' = w1 := fun w1 => refHas_any ⟨#[100]⟩ 98 w1 (by decide)
  have cd : ∀ w1, Calls Tryz.prog 46 #[.string ⟨#[100]⟩, .int .u8 100] w1 fun e w' => e = .returned (.bool true) ∧ w' = w1 := fun w1 => refHas_any ⟨#[100]⟩ 100 w1 (by decide)
  have cv : ∀ w1, Calls Tryz.prog 46 #[.string ⟨#[100]⟩, .int .u8 118] w1 fun e w' => e = .returned (.bool false) ∧ w' = w1 := fun w1 => refHas_any ⟨#[100]⟩ 118 w1 (by decide)
  have ct : ∀ w1, Calls Tryz.prog 46 #[.string ⟨#[100]⟩, .int .u8 116] w1 fun e w' => e = .returned (.bool false) ∧ w' = w1 := fun w1 => refHas_any ⟨#[100]⟩ 116 w1 (by decide)
  have ch : ∀ w1, Calls Tryz.prog 46 #[.string ⟨#[100]⟩, .int .u8 104] w1 fun e w' => e = .returned (.bool false) ∧ w' = w1 := fun w1 => refHas_any ⟨#[100]⟩ 104 w1 (by decide)
  have cc : ∀ w1, Calls Tryz.prog 46 #[.string ⟨#[100]⟩, .int .u8 99] w1 fun e w' => e = .returned (.bool false) ∧ w' = w1 := fun w1 => refHas_any ⟨#[100]⟩ 99 w1 (by decide)
  have ck : ∀ w1, Calls Tryz.prog 46 #[.string ⟨#[100]⟩, .int .u8 107] w1 fun e w' => e = .returned (.bool false) ∧ w' = w1 := fun w1 => refHas_any ⟨#[100]⟩ 107 w1 (by decide)
  have cq : ∀ w1, Calls Tryz.prog 46 #[.string ⟨#[100]⟩, .int .u8 113] w1 fun e w' => e = .returned (.bool false) ∧ w' = w1 := fun w1 => refHas_any ⟨#[100]⟩ 113 w1 (by decide)
  unfold MsgM.v MsgM.c
  simp only
  obtain ⟨w1, hw1⟩ : ∃ q', (w.alloc (.cells [.int .i64 11, .string dg, .int .i64 vi, .int .i64 tg.who, .string tg.mac, .int .i64 ba.author, .int .i64 ba.number, .slice ba.ta ba.txs.length ba.tc, .int .i64 he.author, .int .i64 he.round, .slice he.ra he.refs.length he.rc, .slice he.pa he.parents.length he.pc, .int .i64 ce.hdr.author, .int .i64 ce.hdr.round, .slice ce.hdr.ra ce.hdr.refs.length ce.hdr.rc, .slice ce.hdr.pa ce.hdr.parents.length ce.hdr.pc, .slice ce.va ce.votes.length ce.vc, .int .i64 bl.view, .int .i64 bl.qc.view, .string bl.qc.block, .slice bl.qc.va bl.qc.votes.length bl.qc.vc, .slice bl.ca bl.certs.length bl.cc, .int .i64 q.view, .string q.block, .slice q.va q.votes.length q.vc].toArray 39)).alloc (.cells [.int .i64 0, .string ⟨#[]⟩, .int .i64 0, .int .i64 0, .string ⟨#[]⟩, .int .i64 0, .int .i64 0, .slice none 0 0, .int .i64 0, .int .i64 0, .slice none 0 0, .slice none 0 0, .int .i64 0, .int .i64 0, .slice none 0 0, .slice none 0 0, .slice none 0 0, .int .i64 0, .int .i64 0, .string ⟨#[]⟩, .slice none 0 0, .slice none 0 0, .int .i64 0, .string ⟨#[]⟩, .slice none 0 0].toArray 39) = q' := ⟨_, rfl⟩
  have hs1 : w.heap.size + 2 ≤ w1.heap.size := by rw [← hw1, alloc_size, alloc_size]; omega
  rw [hw1] at hX hZ hB
  have x0 := hX.cell (i := 0) rfl
  go_enter Tryz.func45, Tryz.ntmps45
  go_wp2_with fail
  refine (cF _).mono ?_
  rintro e w2 ⟨rfl, hb2⟩
  have hX2 := hX.below hb2 hX.lt
  have hZ2 := hZ.below hb2 hZ.lt
  have hB2 := hB.trans (hb2.mono hB.size)
  have hs2 : w.heap.size + 2 ≤ w2.heap.size := Nat.le_trans hs1 hb2.size
  clear hX hZ hB hb2 x0 hs1 hw1 cF
  have x0 := hX2.cell (i := 0) rfl
  have hN := Arr.new w2 39 [.int .i64 0, .string ⟨#[]⟩, .int .i64 0, .int .i64 0, .string ⟨#[]⟩, .int .i64 0, .int .i64 0, .slice none 0 0, .int .i64 0, .int .i64 0, .slice none 0 0, .slice none 0 0, .int .i64 0, .int .i64 0, .slice none 0 0, .slice none 0 0, .slice none 0 0, .int .i64 0, .int .i64 0, .string ⟨#[]⟩, .slice none 0 0, .slice none 0 0, .int .i64 0, .string ⟨#[]⟩, .slice none 0 0]
  have hbn := belowNew w2 (.cells [.int .i64 0, .string ⟨#[]⟩, .int .i64 0, .int .i64 0, .string ⟨#[]⟩, .int .i64 0, .int .i64 0, .slice none 0 0, .int .i64 0, .int .i64 0, .slice none 0 0, .slice none 0 0, .int .i64 0, .int .i64 0, .slice none 0 0, .slice none 0 0, .slice none 0 0, .int .i64 0, .int .i64 0, .string ⟨#[]⟩, .slice none 0 0, .slice none 0 0, .int .i64 0, .string ⟨#[]⟩, .slice none 0 0].toArray 39)
  have h1 : (List.toArray (α := Value) [.int .i64 11, .string ⟨#[]⟩, .int .i64 0, .int .i64 0, .string ⟨#[]⟩, .int .i64 0, .int .i64 0, .slice none 0 0, .int .i64 0, .int .i64 0, .slice none 0 0, .slice none 0 0, .int .i64 0, .int .i64 0, .slice none 0 0, .slice none 0 0, .slice none 0 0, .int .i64 0, .int .i64 0, .string ⟨#[]⟩, .slice none 0 0, .slice none 0 0, .int .i64 0, .string ⟨#[]⟩, .slice none 0 0]).all (·.oneCell') = true := Array.all_eq_true_iff_forall_mem.2 (fun v hv => msgK.one (msg0 11) v (List.mem_toArray.1 hv))
  have kN := kept_row (w2.alloc (.cells [.int .i64 0, .string ⟨#[]⟩, .int .i64 0, .int .i64 0, .string ⟨#[]⟩, .int .i64 0, .int .i64 0, .slice none 0 0, .int .i64 0, .int .i64 0, .slice none 0 0, .slice none 0 0, .int .i64 0, .int .i64 0, .slice none 0 0, .slice none 0 0, .slice none 0 0, .int .i64 0, .int .i64 0, .string ⟨#[]⟩, .slice none 0 0, .slice none 0 0, .int .i64 0, .string ⟨#[]⟩, .slice none 0 0].toArray 39)) w2.heap.size [.int .i64 11, .string ⟨#[]⟩, .int .i64 0, .int .i64 0, .string ⟨#[]⟩, .int .i64 0, .int .i64 0, .slice none 0 0, .int .i64 0, .int .i64 0, .slice none 0 0, .slice none 0 0, .int .i64 0, .int .i64 0, .slice none 0 0, .slice none 0 0, .slice none 0 0, .int .i64 0, .int .i64 0, .string ⟨#[]⟩, .slice none 0 0, .slice none 0 0, .int .i64 0, .string ⟨#[]⟩, .slice none 0 0].toArray
  have hY3 := hN.row [.int .i64 11, .string ⟨#[]⟩, .int .i64 0, .int .i64 0, .string ⟨#[]⟩, .int .i64 0, .int .i64 0, .slice none 0 0, .int .i64 0, .int .i64 0, .slice none 0 0, .slice none 0 0, .int .i64 0, .int .i64 0, .slice none 0 0, .slice none 0 0, .slice none 0 0, .int .i64 0, .int .i64 0, .string ⟨#[]⟩, .slice none 0 0, .slice none 0 0, .int .i64 0, .string ⟨#[]⟩, .slice none 0 0]
  have hX3 := (hX2.below hbn hX2.lt).kept kN (by omega)
  have hZ3 := (hZ2.below hbn hZ2.lt).kept kN (by omega)
  have hB3 := below_setRow (hB2.trans (hbn.mono hB2.size)) (g := w2.heap.size) (by omega) [.int .i64 11, .string ⟨#[]⟩, .int .i64 0, .int .i64 0, .string ⟨#[]⟩, .int .i64 0, .int .i64 0, .slice none 0 0, .int .i64 0, .int .i64 0, .slice none 0 0, .slice none 0 0, .int .i64 0, .int .i64 0, .slice none 0 0, .slice none 0 0, .slice none 0 0, .int .i64 0, .int .i64 0, .string ⟨#[]⟩, .slice none 0 0, .slice none 0 0, .int .i64 0, .string ⟨#[]⟩, .slice none 0 0].toArray
  go_wp2_with (refine wpList_store_row (by rfl) 39 _ _ (by rfl) w2.heap.size [.int .i64 11, .string ⟨#[]⟩, .int .i64 0, .int .i64 0, .string ⟨#[]⟩, .int .i64 0, .int .i64 0, .slice none 0 0, .int .i64 0, .int .i64 0, .slice none 0 0, .slice none 0 0, .int .i64 0, .int .i64 0, .slice none 0 0, .slice none 0 0, .slice none 0 0, .int .i64 0, .int .i64 0, .string ⟨#[]⟩, .slice none 0 0, .slice none 0 0, .int .i64 0, .string ⟨#[]⟩, .slice none 0 0].toArray (by rfl) (by rfl) 39 _ hN infoMsg9 (by rfl) h1 ?_)
  refine (cb _).mono ?_
  rintro e w3 ⟨rfl, hw⟩
  rw [← hw] at hX3 hZ3 hY3 hB3
  clear hw cb
  clear hN hbn h1 kN hX2 hZ2 hB2 x0
  go_wp2_with fail
  refine (cd _).mono ?_
  rintro e w3 ⟨rfl, hw⟩
  subst hw
  clear cd
  have x1 := hX3.cell (i := 1) rfl
  have y1 := hY3.cell (i := 1) rfl
  have f1 := hY3.frozen 1
  have hY4 := (hY3.set 1 (.string dg))
  have kk := ((Kept.refl (fun k => k = w2.heap.size) w3).set (p := ⟨w2.heap.size, 1, none⟩) rfl (.string dg))
  have hX4 := hX3.kept kk (by omega)
  have hZ4 := hZ3.kept kk (by omega)
  have hB4 := (hB3.setCell (p := ⟨w2.heap.size, 1, none⟩) (by show _ ≤ w2.heap.size; omega) (.string dg))
  replace hY4 : Arr _ w2.heap.size 39 [.int .i64 11, .string dg, .int .i64 0, .int .i64 0, .string ⟨#[]⟩, .int .i64 0, .int .i64 0, .slice none 0 0, .int .i64 0, .int .i64 0, .slice none 0 0, .slice none 0 0, .int .i64 0, .int .i64 0, .slice none 0 0, .slice none 0 0, .slice none 0 0, .int .i64 0, .int .i64 0, .string ⟨#[]⟩, .slice none 0 0, .slice none 0 0, .int .i64 0, .string ⟨#[]⟩, .slice none 0 0] := hY4
  clear kk hX3 hZ3 hY3 hB3
  go_wp2_with fail
  refine (cv _).mono ?_
  rintro e w4 ⟨rfl, hw⟩
  rw [← hw] at hX4 hZ4 hY4 hB4
  clear hw cv
  clear x1 y1 f1
  go_wp2_with fail
  refine (ct _).mono ?_
  rintro e w4 ⟨rfl, hw⟩
  subst hw
  clear ct
  go_wp2_with fail
  refine (ch _).mono ?_
  rintro e w4 ⟨rfl, hw⟩
  subst hw
  clear ch
  go_wp2_with fail
  refine (cc _).mono ?_
  rintro e w4 ⟨rfl, hw⟩
  subst hw
  clear cc
  go_wp2_with fail
  refine (ck _).mono ?_
  rintro e w4 ⟨rfl, hw⟩
  subst hw
  clear ck
  go_wp2_with fail
  refine (cq _).mono ?_
  rintro e w4 ⟨rfl, hw⟩
  subst hw
  clear cq
  have hF := hZ4.row [.int .i64 11, .string dg, .int .i64 0, .int .i64 0, .string ⟨#[]⟩, .int .i64 0, .int .i64 0, .slice none 0 0, .int .i64 0, .int .i64 0, .slice none 0 0, .slice none 0 0, .int .i64 0, .int .i64 0, .slice none 0 0, .slice none 0 0, .slice none 0 0, .int .i64 0, .int .i64 0, .string ⟨#[]⟩, .slice none 0 0, .slice none 0 0, .int .i64 0, .string ⟨#[]⟩, .slice none 0 0]
  have hBF := below_setRow hB4 (g := w.heap.size + 1) (Nat.le_succ _) [.int .i64 11, .string dg, .int .i64 0, .int .i64 0, .string ⟨#[]⟩, .int .i64 0, .int .i64 0, .slice none 0 0, .int .i64 0, .int .i64 0, .slice none 0 0, .slice none 0 0, .int .i64 0, .int .i64 0, .slice none 0 0, .slice none 0 0, .slice none 0 0, .int .i64 0, .int .i64 0, .string ⟨#[]⟩, .slice none 0 0, .slice none 0 0, .int .i64 0, .string ⟨#[]⟩, .slice none 0 0].toArray
  have h1 : (List.toArray (α := Value) [.int .i64 11, .string dg, .int .i64 0, .int .i64 0, .string ⟨#[]⟩, .int .i64 0, .int .i64 0, .slice none 0 0, .int .i64 0, .int .i64 0, .slice none 0 0, .slice none 0 0, .int .i64 0, .int .i64 0, .slice none 0 0, .slice none 0 0, .slice none 0 0, .int .i64 0, .int .i64 0, .string ⟨#[]⟩, .slice none 0 0, .slice none 0 0, .int .i64 0, .string ⟨#[]⟩, .slice none 0 0]).all (·.oneCell') = true := Array.all_eq_true_iff_forall_mem.2 (fun v hv => msgK.one ⟨11, dg, 0, tagZ, bat0, hdr9, cert0, blk0, qc0⟩ v (List.mem_toArray.1 hv))
  go_wp2_with (first | refine wpList_load_row (by rfl) 39 _ (by rfl) w2.heap.size (by rfl) 39 _ (0, 0) _ hY4 Tryz.underlying39 (by rfl) infoMsg9 ?_ | refine wpList_store_row (by rfl) 39 _ _ (by rfl) (w.heap.size + 1) [.int .i64 11, .string dg, .int .i64 0, .int .i64 0, .string ⟨#[]⟩, .int .i64 0, .int .i64 0, .slice none 0 0, .int .i64 0, .int .i64 0, .slice none 0 0, .slice none 0 0, .int .i64 0, .int .i64 0, .slice none 0 0, .slice none 0 0, .slice none 0 0, .int .i64 0, .int .i64 0, .string ⟨#[]⟩, .slice none 0 0, .slice none 0 0, .int .i64 0, .string ⟨#[]⟩, .slice none 0 0].toArray (by rfl) (by rfl) 39 _ hZ4 infoMsg9 (by rfl) h1 ?_)
  refine bodyPost_ret (v := MsgM.v ⟨11, dg, 0, tagZ, bat0, hdr9, cert0, blk0, qc0⟩) ?r1 ?r2 ?r3
  case r1 => exact results_msgO rfl _ _ (w.heap.size + 1) ⟨11, dg, 0, tagZ, bat0, hdr9, cert0, blk0, qc0⟩ rfl hF
  case r2 => rfl
  exact ⟨by rw [hout.out], hBF⟩

theorem refBare_any (x : MsgM) (w : World) (hk : fieldsK x.kind ≠ []) :
    Calls Tryz.prog 45 #[x.v] w fun e w' => e = .returned (bareM x).v ∧ Below w.heap.size w w' := by
  obtain ⟨k, dg, vi, tg, ba, he, ce, bl, q⟩ := x
  have h := kind_cases hk
  simp only at h
  clear hk
  rcases h with rfl | rfl | rfl | rfl | rfl | rfl | rfl | rfl | rfl | rfl | rfl
  · exact refBare_1 dg vi tg ba he ce bl q w
  · exact refBare_2 dg vi tg ba he ce bl q w
  · exact refBare_3 dg vi tg ba he ce bl q w
  · exact refBare_4 dg vi tg ba he ce bl q w
  · exact refBare_5 dg vi tg ba he ce bl q w
  · exact refBare_6 dg vi tg ba he ce bl q w
  · exact refBare_7 dg vi tg ba he ce bl q w
  · exact refBare_8 dg vi tg ba he ce bl q w
  · exact refBare_9 dg vi tg ba he ce bl q w
  · exact refBare_10 dg vi tg ba he ce bl q w
  · exact refBare_11 dg vi tg ba he ce bl q w
end Go.Proofs.YtaoiejgbbmjpkaaGreatDoor
