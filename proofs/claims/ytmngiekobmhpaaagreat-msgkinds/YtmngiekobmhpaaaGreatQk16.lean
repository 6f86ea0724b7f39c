/- Texts as one: MsgOwn. -/
import Derived.Test.YtmngiekobmhpaaaGreatQk14
import Derived.Test.YtmngiekobmhpaaaGreatQk15
/- What tusklaw09.Own does: a message that shares nothing; nothing old in memory is turned. -/
namespace Go.Proofs.YtmngiekobmhpaaaGreat
open Go.RowKit
set_option linter.unusedVariables false

theorem kept_row (w : World) (g : Nat) (c : Array Value) : Kept (fun k => k = g) w (w.setRow g c) := by
  exact ⟨rfl, rfl, rfl, by rw [setRow_size]; exact Nat.le_refl _, fun k _ hk => setRow_other w g k c hk⟩

theorem results_msgO {fn : Func} {p : Tmp} (h : fn.results = #[.cell p 39]) (tmps : Array Value) (w : World) (g : Nat) (x : MsgM)
    (hp : tmps.getD p undef = .pointer (some ⟨g, 0, none⟩)) (hg : Arr w g 39 x.c) :
    (results fn tmps).run Tryz.prog w = .ok x.v w :=
  results_cell_row h tmps w g 39 x.c.toArray (0, 0) _ hp hg Tryz.underlying39 rfl infoMsg9

/-- A message that shares nothing is handed back. -/
def GotOwnM (W : World) (x : MsgM) (e : Ending) (w : World) : Prop :=
  ∃ y : MsgM, e = .returned y.v ∧ y.d = x.d ∧ y.At w ∧ (∀ b, y.foot b → W.heap.size ≤ b) ∧ Below W.heap.size W w

/-- A message's lists are no longer than memory holds. -/
structure MsgM.Lens (x : MsgM) : Prop where
  txs : x.bat.txs.length ≤ 100
  tx : ∀ t ∈ x.bat.txs, TxLens t.d
  hdr : x.hdr.Lens
  cert : x.cert.hdr.Lens
  votes : x.cert.votes.length * 24 ≤ 140737488351232
  bvotes : x.blk.qc.votes.length * 24 ≤ 140737488351232
  certs : x.blk.certs.length * 16 ≤ 140737488351232
  qvotes : x.qc.votes.length * 24 ≤ 140737488351232

/-- A message that lies off two blocks. -/
structure Two (W : Nat) (x : MsgM) (w : World) : Prop where
  at_ : x.At w
  off : ∀ b, x.foot b → b ≠ W ∧ b ≠ W + 1

theorem Two.below {W : Nat} {x : MsgM} {w w' : World} (h : Two W x w) (hb : Below w.heap.size w w') : Two W x w' := ⟨h.at_.below hb, h.off⟩

theorem Two.kept {W : Nat} {x : MsgM} {w w' : World} {S : Nat → Prop} (h : Two W x w) (hk : Kept S w w') (hS : ∀ k, S k → k = W ∨ k = W + 1) : Two W x w' :=
  ⟨Kind.kept msgK h.at_ hk (fun b hb e => by have h1 := h.off b hb; have h2 := hS b e; omega), h.off⟩

theorem Two.bat {W n : Nat} {x : MsgM} {w : World} (h : Two W x w) {y : BatM} (hy : y.At w) (hf : ∀ b, rowFoot txK y.ta y.txs b → n ≤ b) (hn : W + 2 ≤ n) : Two W { x with bat := y } w :=
  ⟨⟨hy, h.at_.hdr, h.at_.cert, h.at_.blk, h.at_.qc⟩, fun b hb => by
    rcases hb with hb | hb
    · have := hf b hb
      omega
    · exact h.off b (Or.inr hb)⟩

theorem Two.hdr {W n : Nat} {x : MsgM} {w : World} (h : Two W x w) {y : HdrM} (hy : y.At w) (hf : ∀ b, y.foot b → n ≤ b) (hn : W + 2 ≤ n) : Two W { x with hdr := y } w :=
  ⟨⟨h.at_.bat, hy, h.at_.cert, h.at_.blk, h.at_.qc⟩, fun b hb => by
    rcases hb with hb | hb | hb
    · exact h.off b (Or.inl hb)
    · have := hf b hb
      omega
    · exact h.off b (Or.inr (Or.inr hb))⟩

theorem Two.cert {W n : Nat} {x : MsgM} {w : World} (h : Two W x w) {y : CertM} (hy : y.At w) (hf : ∀ b, y.foot b → n ≤ b) (hn : W + 2 ≤ n) : Two W { x with cert := y } w :=
  ⟨⟨h.at_.bat, h.at_.hdr, hy, h.at_.blk, h.at_.qc⟩, fun b hb => by
    rcases hb with hb | hb | hb | hb
    · exact h.off b (Or.inl hb)
    · exact h.off b (Or.inr (Or.inl hb))
    · have := hf b hb
      omega
    · exact h.off b (Or.inr (Or.inr (Or.inr hb)))⟩

theorem Two.blk {W n : Nat} {x : MsgM} {w : World} (h : Two W x w) {y : BlkM} (hy : y.At w) (hf : ∀ b, y.foot b → n ≤ b) (hn : W + 2 ≤ n) : Two W { x with blk := y } w :=
  ⟨⟨h.at_.bat, h.at_.hdr, h.at_.cert, hy, h.at_.qc⟩, fun b hb => by
    rcases hb with hb | hb | hb | hb | hb
    · exact h.off b (Or.inl hb)
    · exact h.off b (Or.inr (Or.inl hb))
    · exact h.off b (Or.inr (Or.inr (Or.inl hb)))
    · have := hf b hb
      omega
    · exact h.off b (Or.inr (Or.inr (Or.inr (Or.inr hb))))⟩

theorem Two.qc {W n : Nat} {x : MsgM} {w : World} (h : Two W x w) {y : QcM} (hy : y.At w) (hf : ∀ b, y.foot b → n ≤ b) (hn : W + 2 ≤ n) : Two W { x with qc := y } w :=
  ⟨⟨h.at_.bat, h.at_.hdr, h.at_.cert, h.at_.blk, hy⟩, fun b hb => by
    rcases hb with hb | hb | hb | hb | hb
    · exact h.off b (Or.inl hb)
    · exact h.off b (Or.inr (Or.inl hb))
    · exact h.off b (Or.inr (Or.inr (Or.inl hb)))
    · exact h.off b (Or.inr (Or.inr (Or.inr (Or.inl hb))))
    · have := hf b hb
      omega⟩

set_option maxRecDepth 100000 in
set_option maxHeartbeats 8000000 in
theorem own9_any (x : MsgM) (w : World) (hA : x.At w) (hL : x.Lens) :
    Calls Tryz.prog 12 #[x.v] w fun e w' => GotOwnM w x e w' := by
  obtain ⟨ki, dg, vi, tg, ba, he, ce, bl, q⟩ := x
  obtain ⟨hX1, hZ1, hB1⟩ := two_new w 39 39 [.int .i64 ki, .string dg, .int .i64 vi, .int .i64 tg.who, .string tg.mac, .int .i64 ba.author, .int .i64 ba.number, .slice ba.ta ba.txs.length ba.tc, .int .i64 he.author, .int .i64 he.round, .slice he.ra he.refs.length he.rc, .slice he.pa he.parents.length he.pc, .int .i64 ce.hdr.author, .int .i64 ce.hdr.round, .slice ce.hdr.ra ce.hdr.refs.length ce.hdr.rc, .slice ce.hdr.pa ce.hdr.parents.length ce.hdr.pc, .slice ce.va ce.votes.length ce.vc, .int .i64 bl.view, .int .i64 bl.qc.view, .string bl.qc.block, .slice bl.qc.va bl.qc.votes.length bl.qc.vc, .slice bl.ca bl.certs.length bl.cc, .int .i64 q.view, .string q.block, .slice q.va q.votes.length q.vc] [.int .i64 0, .string ⟨#[]⟩, .int .i64 0, .int .i64 0, .string ⟨#[]⟩, .int .i64 0, .int .i64 0, .slice none 0 0, .int .i64 0, .int .i64 0, .slice none 0 0, .slice none 0 0, .int .i64 0, .int .i64 0, .slice none 0 0, .slice none 0 0, .slice none 0 0, .int .i64 0, .int .i64 0, .string ⟨#[]⟩, .slice none 0 0, .slice none 0 0, .int .i64 0, .string ⟨#[]⟩, .slice none 0 0]
  have hl : ∀ b, MsgM.foot ⟨ki, dg, vi, tg, ba, he, ce, bl, q⟩ b → b ≠ w.heap.size ∧ b ≠ w.heap.size + 1 := fun b hb => by have : b < w.heap.size := Kind.lt msgK hA hb; omega
  have hT1 : Two w.heap.size ⟨ki, dg, vi, tg, ba, he, ce, bl, q⟩ _ := ⟨hA.below hB1, hl⟩
  have c1 := fun w1 (h1 : BatM.At w1 ba) => own05n_any ba.author ba.number ba.ta ba.txs ba.tc w1 h1.txs.txs hL.tx hL.txs
  have c2 := fun w1 h1 => own6_any he w1 h1 hL.hdr
  have c3 := fun w1 h1 => own7_any ce w1 h1 hL.cert hL.votes
  have c4 := fun w1 h1 => ownBlk_any bl w1 h1 hL.bvotes hL.certs
  have c5 := fun w1 h1 => ownQc_any q w1 h1 hL.qvotes
  unfold batV at c1
  unfold HdrM.v at c2
  unfold CertM.v at c3
  unfold BlkM.v at c4
  unfold QcM.v at c5
  obtain ⟨w1, hw1⟩ : ∃ q', (w.alloc (.cells [.int .i64 ki, .string dg, .int .i64 vi, .int .i64 tg.who, .string tg.mac, .int .i64 ba.author, .int .i64 ba.number, .slice ba.ta ba.txs.length ba.tc, .int .i64 he.author, .int .i64 he.round, .slice he.ra he.refs.length he.rc, .slice he.pa he.parents.length he.pc, .int .i64 ce.hdr.author, .int .i64 ce.hdr.round, .slice ce.hdr.ra ce.hdr.refs.length ce.hdr.rc, .slice ce.hdr.pa ce.hdr.parents.length ce.hdr.pc, .slice ce.va ce.votes.length ce.vc, .int .i64 bl.view, .int .i64 bl.qc.view, .string bl.qc.block, .slice bl.qc.va bl.qc.votes.length bl.qc.vc, .slice bl.ca bl.certs.length bl.cc, .int .i64 q.view, .string q.block, .slice q.va q.votes.length q.vc].toArray 39)).alloc (.cells [.int .i64 0, .string ⟨#[]⟩, .int .i64 0, .int .i64 0, .string ⟨#[]⟩, .int .i64 0, .int .i64 0, .slice none 0 0, .int .i64 0, .int .i64 0, .slice none 0 0, .slice none 0 0, .int .i64 0, .int .i64 0, .slice none 0 0, .slice none 0 0, .slice none 0 0, .int .i64 0, .int .i64 0, .string ⟨#[]⟩, .slice none 0 0, .slice none 0 0, .int .i64 0, .string ⟨#[]⟩, .slice none 0 0].toArray 39) = q' := ⟨_, rfl⟩
  have hs1 : w.heap.size + 2 ≤ w1.heap.size := by rw [← hw1, alloc_size, alloc_size]; omega
  rw [hw1] at hX1 hZ1 hB1 hT1
  clear hA hL hl
  unfold MsgM.v MsgM.c
  simp only
  have x5 := hX1.cell (i := 5) rfl
  have x6 := hX1.cell (i := 6) rfl
  have x7 := hX1.cell (i := 7) rfl
  go_enter Tryz.func12, Tryz.ntmps12
  go_wp2_with fail
  refine (c1 _ hT1.at_.bat).mono ?_
  rintro e w1b ⟨ybat, rfl, hd1, hy1, hf1, hb1⟩
  unfold BatM.v
  have hX1b := hX1.below hb1 hX1.lt
  have hZ1b := hZ1.below hb1 hZ1.lt
  have hB1b := hB1.trans (hb1.mono hB1.size)
  have hT1b : Two w.heap.size ⟨ki, dg, vi, tg, ybat, he, ce, bl, q⟩ w1b := (hT1.below hb1).bat hy1 hf1 hs1
  have hg1 : ∀ b, rowFoot txK ybat.ta ybat.txs b → w.heap.size ≤ b := fun b hb => by have := hf1 b hb; omega
  have hs1b : w.heap.size + 2 ≤ w1b.heap.size := Nat.le_trans hs1 hb1.size
  clear c1 hX1 hZ1 hB1 hT1 hy1 hf1 hb1 hs1 x5 x6 x7 hw1
  have x5 := hX1b.cell (i := 5) rfl
  have x6 := hX1b.cell (i := 6) rfl
  have x7 := hX1b.cell (i := 7) rfl
  have f5 := hX1b.frozen 5
  have f6 := hX1b.frozen 6
  have f7 := hX1b.frozen 7
  have hX2 := (((hX1b.set 5 (.int .i64 ybat.author)).set 6 (.int .i64 ybat.number)).set 7 (.slice ybat.ta ybat.txs.length ybat.tc))
  have kk := ((((Kept.refl (fun k => k = w.heap.size) w1b).set (p := ⟨w.heap.size, 5, none⟩) rfl (.int .i64 ybat.author)).set (p := ⟨w.heap.size, 6, none⟩) rfl (.int .i64 ybat.number)).set (p := ⟨w.heap.size, 7, none⟩) rfl (.slice ybat.ta ybat.txs.length ybat.tc))
  have hZ2 := hZ1b.kept kk (by omega)
  have hT2 := hT1b.kept kk (fun j e => Or.inl e)
  have hB2 := (((hB1b.setCell (p := ⟨w.heap.size, 5, none⟩) (Nat.le_refl _) (.int .i64 ybat.author)).setCell (p := ⟨w.heap.size, 6, none⟩) (Nat.le_refl _) (.int .i64 ybat.number)).setCell (p := ⟨w.heap.size, 7, none⟩) (Nat.le_refl _) (.slice ybat.ta ybat.txs.length ybat.tc))
  have hs2 : w.heap.size + 2 ≤ _ := Nat.le_trans hs1b kk.size
  obtain ⟨w2, hw2⟩ : ∃ q', (((w1b.setCell ⟨w.heap.size, 5, none⟩ (.int .i64 ybat.author)).setCell ⟨w.heap.size, 6, none⟩ (.int .i64 ybat.number)).setCell ⟨w.heap.size, 7, none⟩ (.slice ybat.ta ybat.txs.length ybat.tc)) = q' := ⟨_, rfl⟩
  rw [hw2] at hX2 hZ2 hT2 hB2 hs2
  replace hX2 : Arr w2 w.heap.size 39 [.int .i64 ki, .string dg, .int .i64 vi, .int .i64 tg.who, .string tg.mac, .int .i64 ybat.author, .int .i64 ybat.number, .slice ybat.ta ybat.txs.length ybat.tc, .int .i64 he.author, .int .i64 he.round, .slice he.ra he.refs.length he.rc, .slice he.pa he.parents.length he.pc, .int .i64 ce.hdr.author, .int .i64 ce.hdr.round, .slice ce.hdr.ra ce.hdr.refs.length ce.hdr.rc, .slice ce.hdr.pa ce.hdr.parents.length ce.hdr.pc, .slice ce.va ce.votes.length ce.vc, .int .i64 bl.view, .int .i64 bl.qc.view, .string bl.qc.block, .slice bl.qc.va bl.qc.votes.length bl.qc.vc, .slice bl.ca bl.certs.length bl.cc, .int .i64 q.view, .string q.block, .slice q.va q.votes.length q.vc] := hX2
  clear hX1b hZ1b hB1b hT1b hs1b kk
  have u8 := hX2.cell (i := 8) rfl
  have u9 := hX2.cell (i := 9) rfl
  have u10 := hX2.cell (i := 10) rfl
  have u11 := hX2.cell (i := 11) rfl
  go_wp2_with fail
  clear x5 x6 x7 f5 f6 f7 u8 u9 u10 u11
  have x8 := hX2.cell (i := 8) rfl
  have x9 := hX2.cell (i := 9) rfl
  have x10 := hX2.cell (i := 10) rfl
  have x11 := hX2.cell (i := 11) rfl
  refine (c2 _ hT2.at_.hdr).mono ?_
  rintro e w2b ⟨yhdr, rfl, hd2, hy2, hf2, hb2⟩
  unfold HdrM.v
  have hX2b := hX2.below hb2 hX2.lt
  have hZ2b := hZ2.below hb2 hZ2.lt
  have hB2b := hB2.trans (hb2.mono hB2.size)
  have hT2b : Two w.heap.size ⟨ki, dg, vi, tg, ybat, yhdr, ce, bl, q⟩ w2b := (hT2.below hb2).hdr hy2 hf2 hs2
  have hg2 : ∀ b, yhdr.foot b → w.heap.size ≤ b := fun b hb => by have := hf2 b hb; omega
  have hs2b : w.heap.size + 2 ≤ w2b.heap.size := Nat.le_trans hs2 hb2.size
  clear c2 hX2 hZ2 hB2 hT2 hy2 hf2 hb2 hs2 x8 x9 x10 x11 hw2
  have x8 := hX2b.cell (i := 8) rfl
  have x9 := hX2b.cell (i := 9) rfl
  have x10 := hX2b.cell (i := 10) rfl
  have x11 := hX2b.cell (i := 11) rfl
  have f8 := hX2b.frozen 8
  have f9 := hX2b.frozen 9
  have f10 := hX2b.frozen 10
  have f11 := hX2b.frozen 11
  have hX3 := ((((hX2b.set 8 (.int .i64 yhdr.author)).set 9 (.int .i64 yhdr.round)).set 10 (.slice yhdr.ra yhdr.refs.length yhdr.rc)).set 11 (.slice yhdr.pa yhdr.parents.length yhdr.pc))
  have kk := (((((Kept.refl (fun k => k = w.heap.size) w2b).set (p := ⟨w.heap.size, 8, none⟩) rfl (.int .i64 yhdr.author)).set (p := ⟨w.heap.size, 9, none⟩) rfl (.int .i64 yhdr.round)).set (p := ⟨w.heap.size, 10, none⟩) rfl (.slice yhdr.ra yhdr.refs.length yhdr.rc)).set (p := ⟨w.heap.size, 11, none⟩) rfl (.slice yhdr.pa yhdr.parents.length yhdr.pc))
  have hZ3 := hZ2b.kept kk (by omega)
  have hT3 := hT2b.kept kk (fun j e => Or.inl e)
  have hB3 := ((((hB2b.setCell (p := ⟨w.heap.size, 8, none⟩) (Nat.le_refl _) (.int .i64 yhdr.author)).setCell (p := ⟨w.heap.size, 9, none⟩) (Nat.le_refl _) (.int .i64 yhdr.round)).setCell (p := ⟨w.heap.size, 10, none⟩) (Nat.le_refl _) (.slice yhdr.ra yhdr.refs.length yhdr.rc)).setCell (p := ⟨w.heap.size, 11, none⟩) (Nat.le_refl _) (.slice yhdr.pa yhdr.parents.length yhdr.pc))
  have hs3 : w.heap.size + 2 ≤ _ := Nat.le_trans hs2b kk.size
  obtain ⟨w3, hw3⟩ : ∃ q', ((((w2b.setCell ⟨w.heap.size, 8, none⟩ (.int .i64 yhdr.author)).setCell ⟨w.heap.size, 9, none⟩ (.int .i64 yhdr.round)).setCell ⟨w.heap.size, 10, none⟩ (.slice yhdr.ra yhdr.refs.length yhdr.rc)).setCell ⟨w.heap.size, 11, none⟩ (.slice yhdr.pa yhdr.parents.length yhdr.pc)) = q' := ⟨_, rfl⟩
  rw [hw3] at hX3 hZ3 hT3 hB3 hs3
  replace hX3 : Arr w3 w.heap.size 39 [.int .i64 ki, .string dg, .int .i64 vi, .int .i64 tg.who, .string tg.mac, .int .i64 ybat.author, .int .i64 ybat.number, .slice ybat.ta ybat.txs.length ybat.tc, .int .i64 yhdr.author, .int .i64 yhdr.round, .slice yhdr.ra yhdr.refs.length yhdr.rc, .slice yhdr.pa yhdr.parents.length yhdr.pc, .int .i64 ce.hdr.author, .int .i64 ce.hdr.round, .slice ce.hdr.ra ce.hdr.refs.length ce.hdr.rc, .slice ce.hdr.pa ce.hdr.parents.length ce.hdr.pc, .slice ce.va ce.votes.length ce.vc, .int .i64 bl.view, .int .i64 bl.qc.view, .string bl.qc.block, .slice bl.qc.va bl.qc.votes.length bl.qc.vc, .slice bl.ca bl.certs.length bl.cc, .int .i64 q.view, .string q.block, .slice q.va q.votes.length q.vc] := hX3
  clear hX2b hZ2b hB2b hT2b hs2b kk
  have u12 := hX3.cell (i := 12) rfl
  have u13 := hX3.cell (i := 13) rfl
  have u14 := hX3.cell (i := 14) rfl
  have u15 := hX3.cell (i := 15) rfl
  have u16 := hX3.cell (i := 16) rfl
  go_wp2_with fail
  clear x8 x9 x10 x11 f8 f9 f10 f11 u12 u13 u14 u15 u16
  have x12 := hX3.cell (i := 12) rfl
  have x13 := hX3.cell (i := 13) rfl
  have x14 := hX3.cell (i := 14) rfl
  have x15 := hX3.cell (i := 15) rfl
  have x16 := hX3.cell (i := 16) rfl
  refine (c3 _ hT3.at_.cert).mono ?_
  rintro e w3b ⟨ycert, rfl, hd3, hy3, hf3, hb3⟩
  unfold CertM.v
  have hX3b := hX3.below hb3 hX3.lt
  have hZ3b := hZ3.below hb3 hZ3.lt
  have hB3b := hB3.trans (hb3.mono hB3.size)
  have hT3b : Two w.heap.size ⟨ki, dg, vi, tg, ybat, yhdr, ycert, bl, q⟩ w3b := (hT3.below hb3).cert hy3 hf3 hs3
  have hg3 : ∀ b, ycert.foot b → w.heap.size ≤ b := fun b hb => by have := hf3 b hb; omega
  have hs3b : w.heap.size + 2 ≤ w3b.heap.size := Nat.le_trans hs3 hb3.size
  clear c3 hX3 hZ3 hB3 hT3 hy3 hf3 hb3 hs3 x12 x13 x14 x15 x16 hw3
  have x12 := hX3b.cell (i := 12) rfl
  have x13 := hX3b.cell (i := 13) rfl
  have x14 := hX3b.cell (i := 14) rfl
  have x15 := hX3b.cell (i := 15) rfl
  have x16 := hX3b.cell (i := 16) rfl
  have f12 := hX3b.frozen 12
  have f13 := hX3b.frozen 13
  have f14 := hX3b.frozen 14
  have f15 := hX3b.frozen 15
  have f16 := hX3b.frozen 16
  have hX4 := (((((hX3b.set 12 (.int .i64 ycert.hdr.author)).set 13 (.int .i64 ycert.hdr.round)).set 14 (.slice ycert.hdr.ra ycert.hdr.refs.length ycert.hdr.rc)).set 15 (.slice ycert.hdr.pa ycert.hdr.parents.length ycert.hdr.pc)).set 16 (.slice ycert.va ycert.votes.length ycert.vc))
  have kk := ((((((Kept.refl (fun k => k = w.heap.size) w3b).set (p := ⟨w.heap.size, 12, none⟩) rfl (.int .i64 ycert.hdr.author)).set (p := ⟨w.heap.size, 13, none⟩) rfl (.int .i64 ycert.hdr.round)).set (p := ⟨w.heap.size, 14, none⟩) rfl (.slice ycert.hdr.ra ycert.hdr.refs.length ycert.hdr.rc)).set (p := ⟨w.heap.size, 15, none⟩) rfl (.slice ycert.hdr.pa ycert.hdr.parents.length ycert.hdr.pc)).set (p := ⟨w.heap.size, 16, none⟩) rfl (.slice ycert.va ycert.votes.length ycert.vc))
  have hZ4 := hZ3b.kept kk (by omega)
  have hT4 := hT3b.kept kk (fun j e => Or.inl e)
  have hB4 := (((((hB3b.setCell (p := ⟨w.heap.size, 12, none⟩) (Nat.le_refl _) (.int .i64 ycert.hdr.author)).setCell (p := ⟨w.heap.size, 13, none⟩) (Nat.le_refl _) (.int .i64 ycert.hdr.round)).setCell (p := ⟨w.heap.size, 14, none⟩) (Nat.le_refl _) (.slice ycert.hdr.ra ycert.hdr.refs.length ycert.hdr.rc)).setCell (p := ⟨w.heap.size, 15, none⟩) (Nat.le_refl _) (.slice ycert.hdr.pa ycert.hdr.parents.length ycert.hdr.pc)).setCell (p := ⟨w.heap.size, 16, none⟩) (Nat.le_refl _) (.slice ycert.va ycert.votes.length ycert.vc))
  have hs4 : w.heap.size + 2 ≤ _ := Nat.le_trans hs3b kk.size
  obtain ⟨w4, hw4⟩ : ∃ q', (((((w3b.setCell ⟨w.heap.size, 12, none⟩ (.int .i64 ycert.hdr.author)).setCell ⟨w.heap.size, 13, none⟩ (.int .i64 ycert.hdr.round)).setCell ⟨w.heap.size, 14, none⟩ (.slice ycert.hdr.ra ycert.hdr.refs.length ycert.hdr.rc)).setCell ⟨w.heap.size, 15, none⟩ (.slice ycert.hdr.pa ycert.hdr.parents.length ycert.hdr.pc)).setCell ⟨w.heap.size, 16, none⟩ (.slice ycert.va ycert.votes.length ycert.vc)) = q' := ⟨_, rfl⟩
  rw [hw4] at hX4 hZ4 hT4 hB4 hs4
  replace hX4 : Arr w4 w.heap.size 39 [.int .i64 ki, .string dg, .int .i64 vi, .int .i64 tg.who, .string tg.mac, .int .i64 ybat.author, .int .i64 ybat.number, .slice ybat.ta ybat.txs.length ybat.tc, .int .i64 yhdr.author, .int .i64 yhdr.round, .slice yhdr.ra yhdr.refs.length yhdr.rc, .slice yhdr.pa yhdr.parents.length yhdr.pc, .int .i64 ycert.hdr.author, .int .i64 ycert.hdr.round, .slice ycert.hdr.ra ycert.hdr.refs.length ycert.hdr.rc, .slice ycert.hdr.pa ycert.hdr.parents.length ycert.hdr.pc, .slice ycert.va ycert.votes.length ycert.vc, .int .i64 bl.view, .int .i64 bl.qc.view, .string bl.qc.block, .slice bl.qc.va bl.qc.votes.length bl.qc.vc, .slice bl.ca bl.certs.length bl.cc, .int .i64 q.view, .string q.block, .slice q.va q.votes.length q.vc] := hX4
  clear hX3b hZ3b hB3b hT3b hs3b kk
  have u17 := hX4.cell (i := 17) rfl
  have u18 := hX4.cell (i := 18) rfl
  have u19 := hX4.cell (i := 19) rfl
  have u20 := hX4.cell (i := 20) rfl
  have u21 := hX4.cell (i := 21) rfl
  go_wp2_with fail
  clear x12 x13 x14 x15 x16 f12 f13 f14 f15 f16 u17 u18 u19 u20 u21
  have x17 := hX4.cell (i := 17) rfl
  have x18 := hX4.cell (i := 18) rfl
  have x19 := hX4.cell (i := 19) rfl
  have x20 := hX4.cell (i := 20) rfl
  have x21 := hX4.cell (i := 21) rfl
  refine (c4 _ hT4.at_.blk).mono ?_
  rintro e w4b ⟨yblk, rfl, hd4, hy4, hf4, hb4⟩
  unfold BlkM.v
  have hX4b := hX4.below hb4 hX4.lt
  have hZ4b := hZ4.below hb4 hZ4.lt
  have hB4b := hB4.trans (hb4.mono hB4.size)
  have hT4b : Two w.heap.size ⟨ki, dg, vi, tg, ybat, yhdr, ycert, yblk, q⟩ w4b := (hT4.below hb4).blk hy4 hf4 hs4
  have hg4 : ∀ b, yblk.foot b → w.heap.size ≤ b := fun b hb => by have := hf4 b hb; omega
  have hs4b : w.heap.size + 2 ≤ w4b.heap.size := Nat.le_trans hs4 hb4.size
  clear c4 hX4 hZ4 hB4 hT4 hy4 hf4 hb4 hs4 x17 x18 x19 x20 x21 hw4
  have x17 := hX4b.cell (i := 17) rfl
  have x18 := hX4b.cell (i := 18) rfl
  have x19 := hX4b.cell (i := 19) rfl
  have x20 := hX4b.cell (i := 20) rfl
  have x21 := hX4b.cell (i := 21) rfl
  have f17 := hX4b.frozen 17
  have f18 := hX4b.frozen 18
  have f19 := hX4b.frozen 19
  have f20 := hX4b.frozen 20
  have f21 := hX4b.frozen 21
  have hX5 := (((((hX4b.set 17 (.int .i64 yblk.view)).set 18 (.int .i64 yblk.qc.view)).set 19 (.string yblk.qc.block)).set 20 (.slice yblk.qc.va yblk.qc.votes.length yblk.qc.vc)).set 21 (.slice yblk.ca yblk.certs.length yblk.cc))
  have kk := ((((((Kept.refl (fun k => k = w.heap.size) w4b).set (p := ⟨w.heap.size, 17, none⟩) rfl (.int .i64 yblk.view)).set (p := ⟨w.heap.size, 18, none⟩) rfl (.int .i64 yblk.qc.view)).set (p := ⟨w.heap.size, 19, none⟩) rfl (.string yblk.qc.block)).set (p := ⟨w.heap.size, 20, none⟩) rfl (.slice yblk.qc.va yblk.qc.votes.length yblk.qc.vc)).set (p := ⟨w.heap.size, 21, none⟩) rfl (.slice yblk.ca yblk.certs.length yblk.cc))
  have hZ5 := hZ4b.kept kk (by omega)
  have hT5 := hT4b.kept kk (fun j e => Or.inl e)
  have hB5 := (((((hB4b.setCell (p := ⟨w.heap.size, 17, none⟩) (Nat.le_refl _) (.int .i64 yblk.view)).setCell (p := ⟨w.heap.size, 18, none⟩) (Nat.le_refl _) (.int .i64 yblk.qc.view)).setCell (p := ⟨w.heap.size, 19, none⟩) (Nat.le_refl _) (.string yblk.qc.block)).setCell (p := ⟨w.heap.size, 20, none⟩) (Nat.le_refl _) (.slice yblk.qc.va yblk.qc.votes.length yblk.qc.vc)).setCell (p := ⟨w.heap.size, 21, none⟩) (Nat.le_refl _) (.slice yblk.ca yblk.certs.length yblk.cc))
  have hs5 : w.heap.size + 2 ≤ _ := Nat.le_trans hs4b kk.size
  obtain ⟨w5, hw5⟩ : ∃ q', (((((w4b.setCell ⟨w.heap.size, 17, none⟩ (.int .i64 yblk.view)).setCell ⟨w.heap.size, 18, none⟩ (.int .i64 yblk.qc.view)).setCell ⟨w.heap.size, 19, none⟩ (.string yblk.qc.block)).setCell ⟨w.heap.size, 20, none⟩ (.slice yblk.qc.va yblk.qc.votes.length yblk.qc.vc)).setCell ⟨w.heap.size, 21, none⟩ (.slice yblk.ca yblk.certs.length yblk.cc)) = q' := ⟨_, rfl⟩
  rw [hw5] at hX5 hZ5 hT5 hB5 hs5
  replace hX5 : Arr w5 w.heap.size 39 [.int .i64 ki, .string dg, .int .i64 vi, .int .i64 tg.who, .string tg.mac, .int .i64 ybat.author, .int .i64 ybat.number, .slice ybat.ta ybat.txs.length ybat.tc, .int .i64 yhdr.author, .int .i64 yhdr.round, .slice yhdr.ra yhdr.refs.length yhdr.rc, .slice yhdr.pa yhdr.parents.length yhdr.pc, .int .i64 ycert.hdr.author, .int .i64 ycert.hdr.round, .slice ycert.hdr.ra ycert.hdr.refs.length ycert.hdr.rc, .slice ycert.hdr.pa ycert.hdr.parents.length ycert.hdr.pc, .slice ycert.va ycert.votes.length ycert.vc, .int .i64 yblk.view, .int .i64 yblk.qc.view, .string yblk.qc.block, .slice yblk.qc.va yblk.qc.votes.length yblk.qc.vc, .slice yblk.ca yblk.certs.length yblk.cc, .int .i64 q.view, .string q.block, .slice q.va q.votes.length q.vc] := hX5
  clear hX4b hZ4b hB4b hT4b hs4b kk
  have u22 := hX5.cell (i := 22) rfl
  have u23 := hX5.cell (i := 23) rfl
  have u24 := hX5.cell (i := 24) rfl
  go_wp2_with fail
  clear x17 x18 x19 x20 x21 f17 f18 f19 f20 f21 u22 u23 u24
  have x22 := hX5.cell (i := 22) rfl
  have x23 := hX5.cell (i := 23) rfl
  have x24 := hX5.cell (i := 24) rfl
  refine (c5 _ hT5.at_.qc).mono ?_
  rintro e w5b ⟨yqc, rfl, hd5, hy5, hf5, hb5⟩
  unfold QcM.v
  have hX5b := hX5.below hb5 hX5.lt
  have hZ5b := hZ5.below hb5 hZ5.lt
  have hB5b := hB5.trans (hb5.mono hB5.size)
  have hT5b : Two w.heap.size ⟨ki, dg, vi, tg, ybat, yhdr, ycert, yblk, yqc⟩ w5b := (hT5.below hb5).qc hy5 hf5 hs5
  have hg5 : ∀ b, yqc.foot b → w.heap.size ≤ b := fun b hb => by have := hf5 b hb; omega
  have hs5b : w.heap.size + 2 ≤ w5b.heap.size := Nat.le_trans hs5 hb5.size
  clear c5 hX5 hZ5 hB5 hT5 hy5 hf5 hb5 hs5 x22 x23 x24 hw5
  have x22 := hX5b.cell (i := 22) rfl
  have x23 := hX5b.cell (i := 23) rfl
  have x24 := hX5b.cell (i := 24) rfl
  have f22 := hX5b.frozen 22
  have f23 := hX5b.frozen 23
  have f24 := hX5b.frozen 24
  have hX6 := (((hX5b.set 22 (.int .i64 yqc.view)).set 23 (.string yqc.block)).set 24 (.slice yqc.va yqc.votes.length yqc.vc))
  have kk := ((((Kept.refl (fun k => k = w.heap.size) w5b).set (p := ⟨w.heap.size, 22, none⟩) rfl (.int .i64 yqc.view)).set (p := ⟨w.heap.size, 23, none⟩) rfl (.string yqc.block)).set (p := ⟨w.heap.size, 24, none⟩) rfl (.slice yqc.va yqc.votes.length yqc.vc))
  have hZ6 := hZ5b.kept kk (by omega)
  have hT6 := hT5b.kept kk (fun j e => Or.inl e)
  have hB6 := (((hB5b.setCell (p := ⟨w.heap.size, 22, none⟩) (Nat.le_refl _) (.int .i64 yqc.view)).setCell (p := ⟨w.heap.size, 23, none⟩) (Nat.le_refl _) (.string yqc.block)).setCell (p := ⟨w.heap.size, 24, none⟩) (Nat.le_refl _) (.slice yqc.va yqc.votes.length yqc.vc))
  have hs6 : w.heap.size + 2 ≤ _ := Nat.le_trans hs5b kk.size
  obtain ⟨w6, hw6⟩ : ∃ q', (((w5b.setCell ⟨w.heap.size, 22, none⟩ (.int .i64 yqc.view)).setCell ⟨w.heap.size, 23, none⟩ (.string yqc.block)).setCell ⟨w.heap.size, 24, none⟩ (.slice yqc.va yqc.votes.length yqc.vc)) = q' := ⟨_, rfl⟩
  rw [hw6] at hX6 hZ6 hT6 hB6 hs6
  replace hX6 : Arr w6 w.heap.size 39 [.int .i64 ki, .string dg, .int .i64 vi, .int .i64 tg.who, .string tg.mac, .int .i64 ybat.author, .int .i64 ybat.number, .slice ybat.ta ybat.txs.length ybat.tc, .int .i64 yhdr.author, .int .i64 yhdr.round, .slice yhdr.ra yhdr.refs.length yhdr.rc, .slice yhdr.pa yhdr.parents.length yhdr.pc, .int .i64 ycert.hdr.author, .int .i64 ycert.hdr.round, .slice ycert.hdr.ra ycert.hdr.refs.length ycert.hdr.rc, .slice ycert.hdr.pa ycert.hdr.parents.length ycert.hdr.pc, .slice ycert.va ycert.votes.length ycert.vc, .int .i64 yblk.view, .int .i64 yblk.qc.view, .string yblk.qc.block, .slice yblk.qc.va yblk.qc.votes.length yblk.qc.vc, .slice yblk.ca yblk.certs.length yblk.cc, .int .i64 yqc.view, .string yqc.block, .slice yqc.va yqc.votes.length yqc.vc] := hX6
  clear hX5b hZ5b hB5b hT5b hs5b kk
  have hZF := hZ6.row [.int .i64 ki, .string dg, .int .i64 vi, .int .i64 tg.who, .string tg.mac, .int .i64 ybat.author, .int .i64 ybat.number, .slice ybat.ta ybat.txs.length ybat.tc, .int .i64 yhdr.author, .int .i64 yhdr.round, .slice yhdr.ra yhdr.refs.length yhdr.rc, .slice yhdr.pa yhdr.parents.length yhdr.pc, .int .i64 ycert.hdr.author, .int .i64 ycert.hdr.round, .slice ycert.hdr.ra ycert.hdr.refs.length ycert.hdr.rc, .slice ycert.hdr.pa ycert.hdr.parents.length ycert.hdr.pc, .slice ycert.va ycert.votes.length ycert.vc, .int .i64 yblk.view, .int .i64 yblk.qc.view, .string yblk.qc.block, .slice yblk.qc.va yblk.qc.votes.length yblk.qc.vc, .slice yblk.ca yblk.certs.length yblk.cc, .int .i64 yqc.view, .string yqc.block, .slice yqc.va yqc.votes.length yqc.vc]
  have kF := kept_row w6 (w.heap.size + 1) [.int .i64 ki, .string dg, .int .i64 vi, .int .i64 tg.who, .string tg.mac, .int .i64 ybat.author, .int .i64 ybat.number, .slice ybat.ta ybat.txs.length ybat.tc, .int .i64 yhdr.author, .int .i64 yhdr.round, .slice yhdr.ra yhdr.refs.length yhdr.rc, .slice yhdr.pa yhdr.parents.length yhdr.pc, .int .i64 ycert.hdr.author, .int .i64 ycert.hdr.round, .slice ycert.hdr.ra ycert.hdr.refs.length ycert.hdr.rc, .slice ycert.hdr.pa ycert.hdr.parents.length ycert.hdr.pc, .slice ycert.va ycert.votes.length ycert.vc, .int .i64 yblk.view, .int .i64 yblk.qc.view, .string yblk.qc.block, .slice yblk.qc.va yblk.qc.votes.length yblk.qc.vc, .slice yblk.ca yblk.certs.length yblk.cc, .int .i64 yqc.view, .string yqc.block, .slice yqc.va yqc.votes.length yqc.vc].toArray
  have hTF := hT6.kept kF (fun j e => Or.inr e)
  have hBF := below_setRow hB6 (g := w.heap.size + 1) (Nat.le_succ _) [.int .i64 ki, .string dg, .int .i64 vi, .int .i64 tg.who, .string tg.mac, .int .i64 ybat.author, .int .i64 ybat.number, .slice ybat.ta ybat.txs.length ybat.tc, .int .i64 yhdr.author, .int .i64 yhdr.round, .slice yhdr.ra yhdr.refs.length yhdr.rc, .slice yhdr.pa yhdr.parents.length yhdr.pc, .int .i64 ycert.hdr.author, .int .i64 ycert.hdr.round, .slice ycert.hdr.ra ycert.hdr.refs.length ycert.hdr.rc, .slice ycert.hdr.pa ycert.hdr.parents.length ycert.hdr.pc, .slice ycert.va ycert.votes.length ycert.vc, .int .i64 yblk.view, .int .i64 yblk.qc.view, .string yblk.qc.block, .slice yblk.qc.va yblk.qc.votes.length yblk.qc.vc, .slice yblk.ca yblk.certs.length yblk.cc, .int .i64 yqc.view, .string yqc.block, .slice yqc.va yqc.votes.length yqc.vc].toArray
  have fin : ∀ e, e = .returned (MsgM.v ⟨ki, dg, vi, tg, ybat, yhdr, ycert, yblk, yqc⟩) → GotOwnM w ⟨ki, dg, vi, tg, ba, he, ce, bl, q⟩ e _ := fun e he => ⟨⟨ki, dg, vi, tg, ybat, yhdr, ycert, yblk, yqc⟩, he, (by show (⟨ki, dg, vi, tg, ybat.d, yhdr.d, ycert.d, yblk.d, yqc.d⟩ : MsgD) = _; rw [hd1, hd2, hd3, hd4, hd5]; rfl), hTF.at_, (fun b hb => by
    rcases hb with hb | hb | hb | hb | hb
    · exact hg1 b hb
    · exact hg2 b hb
    · exact hg3 b hb
    · exact hg4 b hb
    · exact hg5 b hb), hBF⟩
  clear hT6 hB6 kF hTF hBF
  have h1 : (List.toArray (α := Value) [.int .i64 ki, .string dg, .int .i64 vi, .int .i64 tg.who, .string tg.mac, .int .i64 ybat.author, .int .i64 ybat.number, .slice ybat.ta ybat.txs.length ybat.tc, .int .i64 yhdr.author, .int .i64 yhdr.round, .slice yhdr.ra yhdr.refs.length yhdr.rc, .slice yhdr.pa yhdr.parents.length yhdr.pc, .int .i64 ycert.hdr.author, .int .i64 ycert.hdr.round, .slice ycert.hdr.ra ycert.hdr.refs.length ycert.hdr.rc, .slice ycert.hdr.pa ycert.hdr.parents.length ycert.hdr.pc, .slice ycert.va ycert.votes.length ycert.vc, .int .i64 yblk.view, .int .i64 yblk.qc.view, .string yblk.qc.block, .slice yblk.qc.va yblk.qc.votes.length yblk.qc.vc, .slice yblk.ca yblk.certs.length yblk.cc, .int .i64 yqc.view, .string yqc.block, .slice yqc.va yqc.votes.length yqc.vc]).all (·.oneCell') = true := Array.all_eq_true_iff_forall_mem.2 (fun v hv => msgK.one ⟨ki, dg, vi, tg, ybat, yhdr, ycert, yblk, yqc⟩ v (List.mem_toArray.1 hv))
  go_wp2_with (first | refine wpList_load_row (by rfl) 39 _ (by rfl) w.heap.size (by rfl) 39 _ (0, 0) _ hX6 Tryz.underlying39 (by rfl) infoMsg9 ?_ | refine wpList_store_row (by rfl) 39 _ _ (by rfl) (w.heap.size + 1) [.int .i64 ki, .string dg, .int .i64 vi, .int .i64 tg.who, .string tg.mac, .int .i64 ybat.author, .int .i64 ybat.number, .slice ybat.ta ybat.txs.length ybat.tc, .int .i64 yhdr.author, .int .i64 yhdr.round, .slice yhdr.ra yhdr.refs.length yhdr.rc, .slice yhdr.pa yhdr.parents.length yhdr.pc, .int .i64 ycert.hdr.author, .int .i64 ycert.hdr.round, .slice ycert.hdr.ra ycert.hdr.refs.length ycert.hdr.rc, .slice ycert.hdr.pa ycert.hdr.parents.length ycert.hdr.pc, .slice ycert.va ycert.votes.length ycert.vc, .int .i64 yblk.view, .int .i64 yblk.qc.view, .string yblk.qc.block, .slice yblk.qc.va yblk.qc.votes.length yblk.qc.vc, .slice yblk.ca yblk.certs.length yblk.cc, .int .i64 yqc.view, .string yqc.block, .slice yqc.va yqc.votes.length yqc.vc].toArray (by rfl) (by rfl) 39 _ hZ6 infoMsg9 (by rfl) h1 ?_)
  refine bodyPost_ret (v := MsgM.v ⟨ki, dg, vi, tg, ybat, yhdr, ycert, yblk, yqc⟩) ?r1 ?r2 ?r3
  case r1 => exact results_msgO rfl _ _ (w.heap.size + 1) ⟨ki, dg, vi, tg, ybat, yhdr, ycert, yblk, yqc⟩ rfl hZF
  case r2 => rfl
  exact fin _ rfl
end Go.Proofs.YtmngiekobmhpaaaGreat
