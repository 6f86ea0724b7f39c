/- Texts as one: Upto, HdrBulk, CertOpen, BlkOpen, MsgOpen, MsgNum, MsgCountsWalk, RegionHand. -/
import Derived.Test.YtaoiejgbbmjpkaaGreatDoorWk04
import Derived.JoinedCond
import Derived.Test.YtaoiejgbbmjpkaaGreatDoorWk21
import Derived.Test.YtaoiejgbbmjpkaaGreatDoorWk09
import Derived.Test.YtaoiejgbbmjpkaaGreatDoorWk12
import Derived.Test.YtaoiejgbbmjpkaaGreatDoorWk07
import Derived.Test.YtaoiejgbbmjpkaaGreatDoorWk10
import Derived.Test.YtaoiejgbbmjpkaaGreatDoorWk15
import Derived.Test.YtaoiejgbbmjpkaaGreatDoorWk14
import Derived.Test.YtaoiejgbbmjpkaaGreatDoorWk13
import Derived.Deep.RegionHeld
/- What the bound of the second form gives: the sizes of strings, and of slices of strings with all that they hold. -/
namespace Go.Proofs.YtaoiejgbbmjpkaaGreatDoor
open Go.ChangeShapes Go.WideShapes Go.ChangeAt Go.RowKit

/-- How many values and letters a row of strings holds. -/
def strsBulk (ss : List ByteArray) : Nat := (ss.map (fun s => s.size + 1)).sum
end Go.Proofs.YtaoiejgbbmjpkaaGreatDoor

/- What the bound of the second form gives of a header that came in. -/
namespace Go.Proofs.YtaoiejgbbmjpkaaGreatDoor
open Go.ChangeShapes Go.WideShapes Go.ChangeAt Go.RowKit
set_option linter.unusedVariables false

/-- What a Ref holds. -/
def refBulk (r : RefM) : Nat := r.digest.size + 1 + tagsBulk r.acks

def refsBulk (l : List RefM) : Nat := (l.map refBulk).sum
end Go.Proofs.YtaoiejgbbmjpkaaGreatDoor

/- How a certificate that came in is opened; its bulk. -/
namespace Go.Proofs.YtaoiejgbbmjpkaaGreatDoor
open Go.ChangeShapes Go.WideShapes Go.ChangeAt Go.RowKit Go.Joins Go.Deep
set_option linter.unusedVariables false

theorem list5x {α : Type} {l : List α} (h : l.length = 5) : ∃ c0 c1 c2 c3 c4, l = [c0, c1, c2, c3, c4] := by
  match l, h with
  | [c0, c1, c2, c3, c4], _ => exact ⟨c0, c1, c2, c3, c4, rfl⟩

theorem cellsCert7 : Tryz.prog.cellsOf 33 = 5 := by kernel_rfl

/-- How a certificate reads. -/
def CertQ {H : Type} (d : DataW H) (x : CertM) : Prop := ∃ y0 y1, d = .agg [y0, y1] ∧ HdrQ y0 x.hdr ∧ RowD TagQ y1 x.votes

set_option maxRecDepth 100000 in
theorem open_cert_cells {H : Type} {enc : TypeId × Value → H} {W : World} {fuel : Nat} {cs : List Value} {y : DataW H × List MemPlace}
    (hf : DataW.trod enc Tryz.prog W 0 (fun _ => true) true fuel 33 cs = some y) : ∃ x : CertM, cs = certK.c x ∧ certK.At W x ∧ CertQ y.1 x := by
  obtain ⟨xs, n, _, hx, hcl, hl, hg⟩ := DataW.trod_struct Tryz.underlying33 hf
  obtain ⟨c0, c1, c2, c3, c4, rfl⟩ := list5x (hcl.trans cellsCert7)
  obtain ⟨y0, y1, rfl⟩ := list2x hl
  have g0 := hg 0 _ rfl
  have g1 := hg 1 _ rfl
  simp [cellsHdr6, cellsTags6] at g0 g1
  obtain ⟨h, e0, hat, hq⟩ := open_hdr_cells g0
  obtain ⟨va, vlen, vc, e1⟩ := slice_form Tryz.underlying31 g1
  have e0' : [c0, c1, c2, c3] = [.int .i64 h.author, .int .i64 h.round, .slice h.ra h.refs.length h.rc, .slice h.pa h.parents.length h.pc] := e0
  simp at e0' e1
  obtain ⟨rfl, rfl, rfl, rfl⟩ := e0'
  subst e1
  obtain ⟨l, rfl, l1, l2, l3, l4⟩ := open_tagsK g1
  refine ⟨⟨h, va, l, vc⟩, rfl, ⟨hat, l1, l2⟩, y0.1, y1.1, ?_, hq, l4⟩
  have := congrArg Prod.fst hx
  simpa using this
end Go.Proofs.YtaoiejgbbmjpkaaGreatDoor

/- How a block that came in is opened; its sizes; its bulk. -/
namespace Go.Proofs.YtaoiejgbbmjpkaaGreatDoor
open Go.ChangeShapes Go.WideShapes Go.ChangeAt Go.RowKit Go.Joins Go.Deep
set_option linter.unusedVariables false

theorem list3x {α : Type} {l : List α} (h : l.length = 3) : ∃ c0 c1 c2, l = [c0, c1, c2] := by
  match l, h with
  | [c0, c1, c2], _ => exact ⟨c0, c1, c2, rfl⟩

theorem list5y {α : Type} {l : List α} (h : l.length = 5) : ∃ c0 c1 c2 c3 c4, l = [c0, c1, c2, c3, c4] := by
  match l, h with
  | [c0, c1, c2, c3, c4], _ => exact ⟨c0, c1, c2, c3, c4, rfl⟩

theorem cellsQc8 : Tryz.prog.cellsOf 35 = 3 := by kernel_rfl
theorem cellsBlk8 : Tryz.prog.cellsOf 37 = 5 := by kernel_rfl

/-- How a Qc reads. -/
def QcQ {H : Type} (d : DataW H) (x : QcM) : Prop := ∃ y0 y1 y2, d = .agg [y0, y1, y2] ∧ StrQ y1 x.block ∧ RowD TagQ y2 x.votes

/-- How a block reads. -/
def BlkQ {H : Type} (d : DataW H) (x : BlkM) : Prop := ∃ y0 y1 y2, d = .agg [y0, y1, y2] ∧ QcQ y1 x.qc ∧ RowD StrQ y2 x.certs

/-- A row's length is within its capacity. -/
theorem row_cap {H : Type} {enc : TypeId × Value → H} {W : World} {T E : TypeId} (hT : Tryz.prog.underlying T = some (.slice E))
    {fuel : Nat} {a : Option Addr} {len cap : Nat} {y : DataW H × List MemPlace} (hf : DataW.trod enc Tryz.prog W 0 (fun _ => true) true fuel T [.slice a len cap] = some y) : len ≤ cap := by
  rcases open_slice hT hf with ⟨hcs, hx⟩ | ⟨x, l, c, m, n, D, Pl, hcs, _, hl, hm, hmm, hx, hc⟩
  · simp at hcs
    omega
  · simp at hcs
    omega

set_option maxRecDepth 100000 in
theorem open_qc_cells {H : Type} {enc : TypeId × Value → H} {W : World} {fuel : Nat} {cs : List Value} {y : DataW H × List MemPlace}
    (hf : DataW.trod enc Tryz.prog W 0 (fun _ => true) true fuel 35 cs = some y) : ∃ x : QcM, cs = qcK.c x ∧ qcK.At W x ∧ QcQ y.1 x := by
  obtain ⟨xs, n, _, hx, hcl, hl, hg⟩ := DataW.trod_struct Tryz.underlying35 hf
  obtain ⟨c0, c1, c2, rfl⟩ := list3x (hcl.trans cellsQc8)
  obtain ⟨y0, y1, y2, rfl⟩ := list3x hl
  have g0 := hg 0 _ rfl
  have g1 := hg 1 _ rfl
  have g2 := hg 2 _ rfl
  simp [cellsInt6, cellsStr6, cellsTags6] at g0 g1 g2
  obtain ⟨a0, e0, _, _⟩ := DataW.trod_int Tryz.underlying3 g0
  obtain ⟨a1, e1, hy1, s1⟩ := DataW.trod_string Tryz.underlying9 g1
  obtain ⟨va, vlen, vc, e2⟩ := slice_form Tryz.underlying31 g2
  simp at e0 e1 e2
  subst e0 e1 e2
  obtain ⟨l, rfl, l1, l2, l3, l4⟩ := open_tagsK g2
  refine ⟨⟨a0, a1, va, l, vc⟩, rfl, ⟨l1, l2⟩, y0.1, y1.1, y2.1, ?_, ⟨by rw [hy1], s1⟩, l4⟩
  have := congrArg Prod.fst hx
  simpa using this

set_option maxRecDepth 100000 in
theorem open_blk_cells {H : Type} {enc : TypeId × Value → H} {W : World} {fuel : Nat} {cs : List Value} {y : DataW H × List MemPlace}
    (hf : DataW.trod enc Tryz.prog W 0 (fun _ => true) true fuel 37 cs = some y) : ∃ x : BlkM, cs = blkK.c x ∧ blkK.At W x ∧ BlkQ y.1 x ∧ x.certs.length ≤ x.cc := by
  obtain ⟨xs, n, _, hx, hcl, hl, hg⟩ := DataW.trod_struct Tryz.underlying37 hf
  obtain ⟨c0, c1, c2, c3, c4, rfl⟩ := list5y (hcl.trans cellsBlk8)
  obtain ⟨y0, y1, y2, rfl⟩ := list3x hl
  have g0 := hg 0 _ rfl
  have g1 := hg 1 _ rfl
  have g2 := hg 2 _ rfl
  simp [cellsInt6, cellsQc8, cellsStrs6] at g0 g1 g2
  obtain ⟨a0, e0, _, _⟩ := DataW.trod_int Tryz.underlying3 g0
  obtain ⟨q, e1, hat, hq⟩ := open_qc_cells g1
  obtain ⟨ca, clen, cc, e2⟩ := slice_form Tryz.underlying28 g2
  have e1' : [c1, c2, c3] = [.int .i64 q.view, .string q.block, .slice q.va q.votes.length q.vc] := e1
  simp at e0 e1' e2
  obtain ⟨rfl, rfl, rfl⟩ := e1'
  subst e0 e2
  have hcap := row_cap Tryz.underlying28 g2
  obtain ⟨l, rfl, l1, l2, l3, l4⟩ := open_row strK StrQ Tryz.underlying28 cellsStr6 open_str_cells g2
  refine ⟨⟨a0, q, ca, l, cc⟩, rfl, ⟨hat, l1, l2⟩, ⟨y0.1, y1.1, y2.1, ?_, hq, l4⟩, hcap⟩
  have := congrArg Prod.fst hx
  simpa using this

/-- A block's lists, in sizes that a machine holds. -/
structure BlkM.Lens (x : BlkM) : Prop where
  votes : x.qc.votes.length * 24 ≤ 140737488351232
  certs : x.certs.length * 16 ≤ 140737488351232
  blk : x.qc.block.size ≤ 140737488351232

set_option maxRecDepth 100000 in
theorem qc_fit {H : Type} {d : DataW H} {x : QcM} (h : QcQ d x) (hw : ∀ n ∈ d.weights Tryz.prog 35, n ≤ reachBytes) : x.votes.length * 24 ≤ 140737488351232 ∧ x.block.size ≤ 140737488351232 := by
  obtain ⟨y0, y1, y2, rfl, h1, h2⟩ := h
  have f2 := (h2.fit Tryz.underlying31 (fun n hn => hw n (by
    rw [DataW.weights, Tryz.underlying35]
    exact DataW.weights_mem_each (ts := [3, 9, 31]) (j := 2) rfl rfl n hn))).1
  have f1 := h1.fit (t := 9) (fun n hn => hw n (by
    rw [DataW.weights, Tryz.underlying35]
    exact DataW.weights_mem_each (ts := [3, 9, 31]) (j := 1) rfl rfl n hn))
  rw [bytesTag6] at f2
  exact ⟨by simpa [reachBytes] using f2, f1⟩

set_option maxRecDepth 100000 in
theorem blk_fit {H : Type} {d : DataW H} {x : BlkM} (h : BlkQ d x) (hw : ∀ n ∈ d.weights Tryz.prog 37, n ≤ reachBytes) : x.Lens := by
  obtain ⟨y0, y1, y2, rfl, h1, h2⟩ := h
  obtain ⟨f1, f2⟩ := qc_fit h1 (fun n hn => hw n (by
    rw [DataW.weights, Tryz.underlying37]
    exact DataW.weights_mem_each (ts := [3, 35, 28]) (j := 1) rfl rfl n hn))
  have g1 := (h2.fit Tryz.underlying28 (fun n hn => hw n (by
    rw [DataW.weights, Tryz.underlying37]
    exact DataW.weights_mem_each (ts := [3, 35, 28]) (j := 2) rfl rfl n hn))).1
  rw [bytesStr6] at g1
  exact ⟨f1, by simpa [reachBytes] using g1, f2⟩
end Go.Proofs.YtaoiejgbbmjpkaaGreatDoor

/- How a message that came in is opened; its sizes. -/
namespace Go.Proofs.YtaoiejgbbmjpkaaGreatDoor
open Go.ChangeShapes Go.WideShapes Go.ChangeAt Go.RowKit Go.Joins Go.Deep
set_option linter.unusedVariables false

theorem list9m {α : Type} {l : List α} (h : l.length = 9) : ∃ y0 y1 y2 y3 y4 y5 y6 y7 y8, l = [y0, y1, y2, y3, y4, y5, y6, y7, y8] := by
  match l, h with
  | [y0, y1, y2, y3, y4, y5, y6, y7, y8], _ => exact ⟨y0, y1, y2, y3, y4, y5, y6, y7, y8, rfl⟩

theorem list25 {α : Type} {l : List α} (h : l.length = 25) : ∃ c0 c1 c2 c3 c4 c5 c6 c7 c8 c9 c10 c11 c12 c13 c14 c15 c16 c17 c18 c19 c20 c21 c22 c23 c24, l = [c0, c1, c2, c3, c4, c5, c6, c7, c8, c9, c10, c11, c12, c13, c14, c15, c16, c17, c18, c19, c20, c21, c22, c23, c24] := by
  match l, h with
  | [c0, c1, c2, c3, c4, c5, c6, c7, c8, c9, c10, c11, c12, c13, c14, c15, c16, c17, c18, c19, c20, c21, c22, c23, c24], _ => exact ⟨c0, c1, c2, c3, c4, c5, c6, c7, c8, c9, c10, c11, c12, c13, c14, c15, c16, c17, c18, c19, c20, c21, c22, c23, c24, rfl⟩

theorem cellsMsg9 : Tryz.prog.cellsOf 39 = 25 := by kernel_rfl

/-- How a message reads. -/
def MsgQ {H : Type} (d : DataW H) (x : MsgM) : Prop := ∃ y0 y1 y2 y3 y4 y5 y6 y7 y8, d = .agg [y0, y1, y2, y3, y4, y5, y6, y7, y8] ∧ BatDatum y4 x.bat.txs ∧ HdrQ y5 x.hdr ∧ CertQ y6 x.cert ∧ BlkQ y7 x.blk ∧ QcQ y8 x.qc

set_option maxRecDepth 100000 in
theorem open_bat_cells {H : Type} {enc : TypeId × Value → H} {W : World} {fuel : Nat} {cs : List Value} {y : DataW H × List MemPlace}
    (hf : DataW.trod enc Tryz.prog W 0 (fun _ => true) true fuel 26 cs = some y) : ∃ x : BatM, cs = batK.c x ∧ batK.At W x ∧ BatDatum y.1 x.txs ∧ (∀ t ∈ x.txs, TxSizes t.d) ∧ x.txs.length ≤ maxLen := by
  obtain ⟨xs, n, _, hx, hcl, hl, hg⟩ := DataW.trod_struct Tryz.underlying26 hf
  obtain ⟨c0, c1, c2, rfl⟩ := list3 (hcl.trans cellsBat)
  obtain ⟨y0, y1, y2, rfl⟩ := list3 hl
  have g0 := hg 0 _ rfl
  have g1 := hg 1 _ rfl
  have g2 := hg 2 _ rfl
  have kS : Tryz.prog.cellsOf 24 = 1 := by kernel_rfl
  simp [cellsInt6, kS] at g0 g1 g2
  obtain ⟨a0, e0, _, _⟩ := DataW.trod_int Tryz.underlying3 g0
  obtain ⟨a1, e1, _, _⟩ := DataW.trod_int Tryz.underlying3 g1
  obtain ⟨ao, len, cap, e2⟩ := slice_form Tryz.underlying24 g2
  simp at e0 e1 e2
  subst e0 e1 e2
  obtain ⟨l, rfl, l1, l2, l3, l4, l5⟩ := open_txs g2
  refine ⟨⟨a0, a1, ao, l, cap⟩, rfl, ⟨l1.rows, l3⟩, ⟨y0.1, y1.1, y2.1, ?_, l5⟩, l2, l4⟩
  have := congrArg Prod.fst hx
  simpa using this

set_option maxRecDepth 100000 in
set_option maxHeartbeats 2000000 in
theorem open_msg_cells {H : Type} {enc : TypeId × Value → H} {W : World} {fuel : Nat} {cs : List Value} {y : DataW H × List MemPlace}
    (hf : DataW.trod enc Tryz.prog W 0 (fun _ => true) true fuel 39 cs = some y) : ∃ x : MsgM, cs = msgK.c x ∧ msgK.At W x ∧ MsgQ y.1 x ∧ (∀ t ∈ x.bat.txs, TxSizes t.d) ∧ x.bat.txs.length ≤ maxLen ∧ (Lit.int .i64 x.kind).wf = true := by
  obtain ⟨xs, n, _, hx, hcl, hl, hg⟩ := DataW.trod_struct Tryz.underlying39 hf
  obtain ⟨c0, c1, c2, c3, c4, c5, c6, c7, c8, c9, c10, c11, c12, c13, c14, c15, c16, c17, c18, c19, c20, c21, c22, c23, c24, rfl⟩ := list25 (hcl.trans cellsMsg9)
  obtain ⟨y0, y1, y2, y3, y4, y5, y6, y7, y8, rfl⟩ := list9m hl
  have g0 := hg 0 _ rfl
  have g1 := hg 1 _ rfl
  have g2 := hg 2 _ rfl
  have g3 := hg 3 _ rfl
  have g4 := hg 4 _ rfl
  have g5 := hg 5 _ rfl
  have g6 := hg 6 _ rfl
  have g7 := hg 7 _ rfl
  have g8 := hg 8 _ rfl
  simp [cellsInt6, cellsStr6, cellsTag6, cellsBat, cellsHdr6, cellsCert7, cellsBlk8, cellsQc8] at g0 g1 g2 g3 g4 g5 g6 g7 g8
  obtain ⟨a0, e0, _, w0⟩ := DataW.trod_int Tryz.underlying3 g0
  obtain ⟨a1, e1, _, _⟩ := DataW.trod_string Tryz.underlying9 g1
  obtain ⟨a2, e2, _, _⟩ := DataW.trod_int Tryz.underlying3 g2
  obtain ⟨t, e3, _, _⟩ := open_tag_cells g3
  obtain ⟨b, e4, at4, q4, z4, l4⟩ := open_bat_cells g4
  obtain ⟨h, e5, at5, q5⟩ := open_hdr_cells g5
  obtain ⟨c, e6, at6, q6⟩ := open_cert_cells g6
  obtain ⟨k, e7, at7, q7, _⟩ := open_blk_cells g7
  obtain ⟨q, e8, at8, q8⟩ := open_qc_cells g8
  have e3' : [c3, c4] = [.int .i64 t.who, .string t.mac] := e3
  have e4' : [c5, c6, c7] = [.int .i64 b.author, .int .i64 b.number, .slice b.ta b.txs.length b.tc] := e4
  have e5' : [c8, c9, c10, c11] = [.int .i64 h.author, .int .i64 h.round, .slice h.ra h.refs.length h.rc, .slice h.pa h.parents.length h.pc] := e5
  have e6' : [c12, c13, c14, c15, c16] = [.int .i64 c.hdr.author, .int .i64 c.hdr.round, .slice c.hdr.ra c.hdr.refs.length c.hdr.rc, .slice c.hdr.pa c.hdr.parents.length c.hdr.pc, .slice c.va c.votes.length c.vc] := e6
  have e7' : [c17, c18, c19, c20, c21] = [.int .i64 k.view, .int .i64 k.qc.view, .string k.qc.block, .slice k.qc.va k.qc.votes.length k.qc.vc, .slice k.ca k.certs.length k.cc] := e7
  have e8' : [c22, c23, c24] = [.int .i64 q.view, .string q.block, .slice q.va q.votes.length q.vc] := e8
  simp at e0 e1 e2 e3' e4' e5' e6' e7' e8'
  obtain ⟨rfl, rfl⟩ := e3'
  obtain ⟨rfl, rfl, rfl⟩ := e4'
  obtain ⟨rfl, rfl, rfl, rfl⟩ := e5'
  obtain ⟨rfl, rfl, rfl, rfl, rfl⟩ := e6'
  obtain ⟨rfl, rfl, rfl, rfl, rfl⟩ := e7'
  obtain ⟨rfl, rfl, rfl⟩ := e8'
  subst e0 e1 e2
  refine ⟨⟨a0, a1, a2, t, b, h, c, k, q⟩, rfl, ⟨at4, at5, at6, at7, at8⟩, ⟨y0.1, y1.1, y2.1, y3.1, y4.1, y5.1, y6.1, y7.1, y8.1, ?_, q4, q5, q6, q7, q8⟩, z4, l4, w0⟩
  have := congrArg Prod.fst hx
  simpa using this

set_option maxRecDepth 100000 in
theorem open_msg {H : Type} {enc : TypeId × Value → H} {W : World} {r : Reach} {b0 : Nat} {v : Value} {d : DataW H} {p : List MemPlace} (hv : Value.okWide Tryz.prog W r b0 39 v)
    (h : DataW.Trod enc Tryz.prog W 0 (fun _ => true) true 39 v d p) : ∃ x : MsgM, v = x.v ∧ x.At W ∧ MsgQ d x ∧ (∀ t ∈ x.bat.txs, TxSizes t.d) ∧ x.bat.txs.length ≤ maxLen ∧ (Lit.int .i64 x.kind).wf = true := by
  obtain ⟨cs, rfl, hsz⟩ := okWide_struct Tryz.underlying39 hv
  obtain ⟨fuel, hf⟩ := h
  have hc : (Value.agg cs).cells.toList = cs.toList := by simp [Value.cells]
  obtain ⟨x, e, hx, hq⟩ := open_msg_cells hf
  refine ⟨x, ?_, hx, hq⟩
  have e' : cs.toList = x.c := by rw [← hc]; exact e
  have : cs = x.c.toArray := by rw [← e']
  rw [this]
  rfl

/-- A message that came in: in sizes that a machine holds. -/
structure MsgM.In (x : MsgM) : Prop where
  txs : x.bat.txs.length * 136 ≤ 140737488351232
  txz : ∀ t ∈ x.bat.txs, TxSizes t.d
  txl : ∀ t ∈ x.bat.txs, TxLens t.d
  hdr : x.hdr.Lens
  cert : x.cert.hdr.Lens
  votes : x.cert.votes.length * 24 ≤ 140737488351232
  bvotes : x.blk.qc.votes.length * 24 ≤ 140737488351232
  certs : x.blk.certs.length * 16 ≤ 140737488351232
  qvotes : x.qc.votes.length * 24 ≤ 140737488351232

set_option maxRecDepth 100000 in
theorem cert_fit9 {H : Type} {d : DataW H} {x : CertM} (h : CertQ d x) (hw : ∀ n ∈ d.weights Tryz.prog 33, n ≤ reachBytes) : x.hdr.Lens ∧ x.votes.length * 24 ≤ 140737488351232 := by
  obtain ⟨y0, y1, rfl, h1, h2⟩ := h
  have f1 := hdr_fit h1 (fun n hn => hw n (by
    rw [DataW.weights, Tryz.underlying33]
    exact DataW.weights_mem_each (ts := [30, 31]) (j := 0) rfl rfl n hn))
  have f2 := (h2.fit Tryz.underlying31 (fun n hn => hw n (by
    rw [DataW.weights, Tryz.underlying33]
    exact DataW.weights_mem_each (ts := [30, 31]) (j := 1) rfl rfl n hn))).1
  rw [bytesTag6] at f2
  exact ⟨f1, by simpa [reachBytes] using f2⟩

set_option maxRecDepth 100000 in
theorem bat_len9 {H : Type} {d : DataW H} {l : List TxM} (h : ∀ n ∈ d.weights Tryz.prog 26, n ≤ reachBytes) (hs : BatDatum d l) : l.length * 136 ≤ 140737488351232 := by
  obtain ⟨y0, y1, y2, rfl, hq⟩ := hs
  have hw : ∀ n ∈ y2.weights Tryz.prog 24, n ≤ reachBytes := fun n hn => h n (by
    rw [DataW.weights, Tryz.underlying26]
    exact DataW.weights_mem_each (ts := [3, 3, 24]) (j := 2) rfl rfl n hn)
  rcases hq with ⟨rfl, rfl⟩ | ⟨ds, rest, rfl, hl, _⟩
  · simp
  · have hb : Tryz.prog.bytesOf 86 = 136 := by kernel_rfl
    have := hw ((ds.length + rest.length) * Tryz.prog.bytesOf 86) (by simp [DataW.weights, Tryz.underlying24])
    rw [hb] at this
    unfold reachBytes at this
    rw [← hl]
    omega

set_option maxRecDepth 100000 in
theorem msg_fit {H : Type} {d : DataW H} {x : MsgM} (h : MsgQ d x) (hz : ∀ t ∈ x.bat.txs, TxSizes t.d) (hl : x.bat.txs.length ≤ maxLen) (hw : ∀ n ∈ d.weights Tryz.prog 39, n ≤ reachBytes) : x.In := by
  obtain ⟨y0, y1, y2, y3, y4, y5, y6, y7, y8, rfl, q4, q5, q6, q7, q8⟩ := h
  have f4 := bat_fit (fun n hn => hw n (by
    rw [DataW.weights, Tryz.underlying39]
    exact DataW.weights_mem_each (ts := [3, 9, 3, 23, 26, 30, 33, 37, 35]) (j := 4) rfl rfl n hn)) q4
  have l4 := bat_len9 (fun n hn => hw n (by
    rw [DataW.weights, Tryz.underlying39]
    exact DataW.weights_mem_each (ts := [3, 9, 3, 23, 26, 30, 33, 37, 35]) (j := 4) rfl rfl n hn)) q4
  have f5 := hdr_fit q5 (fun n hn => hw n (by
    rw [DataW.weights, Tryz.underlying39]
    exact DataW.weights_mem_each (ts := [3, 9, 3, 23, 26, 30, 33, 37, 35]) (j := 5) rfl rfl n hn))
  have f6 := cert_fit9 q6 (fun n hn => hw n (by
    rw [DataW.weights, Tryz.underlying39]
    exact DataW.weights_mem_each (ts := [3, 9, 3, 23, 26, 30, 33, 37, 35]) (j := 6) rfl rfl n hn))
  have f7 := blk_fit q7 (fun n hn => hw n (by
    rw [DataW.weights, Tryz.underlying39]
    exact DataW.weights_mem_each (ts := [3, 9, 3, 23, 26, 30, 33, 37, 35]) (j := 7) rfl rfl n hn))
  have f8 := qc_fit q8 (fun n hn => hw n (by
    rw [DataW.weights, Tryz.underlying39]
    exact DataW.weights_mem_each (ts := [3, 9, 3, 23, 26, 30, 33, 37, 35]) (j := 8) rfl rfl n hn))
  exact ⟨l4, hz, f4, f5, f6.1, f6.2, f7.votes, f7.certs, f8.1⟩

theorem msg_sized {H : Type} {ts : List TypeId} {ds : List (DataW H)} (h : (DataW.weightsEach Tryz.prog ts ds).all (· ≤ reachBytes) = true) {j : Nat} {d : DataW H} {x : MsgM} (ht : ts[j]? = some 39) (hd : ds[j]? = some d) (hs : MsgQ d x) (hz : ∀ t ∈ x.bat.txs, TxSizes t.d) (hl : x.bat.txs.length ≤ maxLen) : x.In := msg_fit hs hz hl (weights_of h ht hd)

theorem MsgM.In.num {x : MsgM} (h : x.In) : x.Num := by
  have h1 := h.txs
  have h2 := h.hdr.n
  have h3 := h.hdr.p
  have h4 := h.cert.n
  have h5 := h.cert.p
  have h6 := h.votes
  have h7 := h.bvotes
  have h8 := h.certs
  have h9 := h.qvotes
  exact ⟨by omega, fun t ht => by have := h.txl t ht; unfold TxLens at this; omega, by omega, by omega, fun r hr => by have := h.hdr.acks r hr; omega, by omega, by omega, fun r hr => by have := h.cert.acks r hr; omega, by omega, by omega, by omega, by omega⟩

theorem MsgM.In.max {x : MsgM} (h : x.In) : x.Max := by
  have h1 := h.txs
  have h2 := h.hdr.n
  have h3 := h.hdr.p
  have h4 := h.cert.n
  have h5 := h.cert.p
  have h8 := h.certs
  refine ⟨?_, ?_, ?_, ?_, ?_, ?_⟩ <;> (unfold maxLen; omega)

theorem MsgM.In.lens {x : MsgM} (h : x.In) (ht : x.bat.txs.length ≤ 50) : x.Lens := ⟨by omega, h.txl, h.hdr, h.cert, h.votes, h.bvotes, h.certs, h.qvotes⟩
end Go.Proofs.YtaoiejgbbmjpkaaGreatDoor

/- Two messages that say the same are alike in sizes. -/
namespace Go.Proofs.YtaoiejgbbmjpkaaGreatDoor
open Go.RowKit
set_option linter.unusedVariables false

theorem num_same {x y : MsgM} (h : y.d = x.d) (hx : x.Num) : y.Num := by
  have e1 : dl y.bat.txs = dl x.bat.txs := congrArg (fun m : MsgD => m.batch.txs) h
  have e2 : rd y.hdr.refs = rd x.hdr.refs := congrArg (fun m : MsgD => m.header.refs) h
  have e3 : y.hdr.parents = x.hdr.parents := congrArg (fun m : MsgD => m.header.parents) h
  have e4 : rd y.cert.hdr.refs = rd x.cert.hdr.refs := congrArg (fun m : MsgD => m.cert.header.refs) h
  have e5 : y.cert.hdr.parents = x.cert.hdr.parents := congrArg (fun m : MsgD => m.cert.header.parents) h
  have e6 : y.cert.votes = x.cert.votes := congrArg (fun m : MsgD => m.cert.votes) h
  have e7 : y.blk.qc.votes = x.blk.qc.votes := congrArg (fun m : MsgD => m.block.qc.votes) h
  have e8 : y.blk.certs = x.blk.certs := congrArg (fun m : MsgD => m.block.certs) h
  have e9 : y.qc.votes = x.qc.votes := congrArg (fun m : MsgD => m.qc.votes) h
  have acks : ∀ {l m : List RefM}, rd l = rd m → (∀ r ∈ m, r.acks.length ≤ 4611686018427387903) → ∀ r ∈ l, r.acks.length ≤ 4611686018427387903 := by
    intro l m e hm r hr
    have h1 : r.d ∈ rd m := by rw [← e]; exact List.mem_map.2 ⟨r, hr, rfl⟩
    obtain ⟨r', hr', e'⟩ := List.mem_map.1 h1
    have h2 : r'.acks = r.acks := congrArg RefD.acks e'
    rw [← h2]
    exact hm r' hr'
  refine ⟨by rw [← dl_length, e1, dl_length]; exact hx.txs, fun t ht => ?_, by rw [← rd_length, e2, rd_length]; exact hx.refs, by rw [e3]; exact hx.ps, acks e2 hx.acks, by rw [← rd_length, e4, rd_length]; exact hx.crefs, by rw [e5]; exact hx.cps, acks e4 hx.cacks,
    by rw [e6]; exact hx.votes, by rw [e7]; exact hx.bvotes, by rw [e8]; exact hx.certs, by rw [e9]; exact hx.qvotes⟩
  have h1 : t.d ∈ dl x.bat.txs := by rw [← e1]; exact List.mem_map.2 ⟨t, ht, rfl⟩
  obtain ⟨t', ht', e'⟩ := List.mem_map.1 h1
  rw [← e']
  exact hx.keys t' ht'
end Go.Proofs.YtaoiejgbbmjpkaaGreatDoor

/- tusklaw09.MsgCounts answers true; nothing old in memory is turned. (Laid by gen_msgcounts.py.) -/
namespace Go.Proofs.YtaoiejgbbmjpkaaGreatDoor
open Go.RowKit Go.Sort
set_option linter.unusedVariables false
end Go.Proofs.YtaoiejgbbmjpkaaGreatDoor

/- A region that draws its order, walked by hand under a condition that holds behind every operation: the slot under a letter. -/
namespace Go.Proofs.YtaoiejgbbmjpkaaGreatDoor
open Go

section
variable {P : Program} {ops : Array Oper} {Q : Exit → Act → World → Prop} {md : Region.Mode} {S : World → Prop}

theorem wpAnyH_takeD {i : Nat} {oi : Oper} {v : Value} {fuel : Nat} {listed : Array Bool} {a : Act} {w : World} (d : Option Nat) (hi : ops[i]? = some oi) (hd : oi.dst = d)
    (hs : Region.noSelect ops = true) (hf : Region.free md ops listed i = true) (hr : (Region.ready md ops listed).contains i = true)
    (hQ : ∀ c a w, Q (.panic c) (a.put d v) w → Q (.panic c) a w) (hy : YieldsIf P ops S oi v a) (hS : S w)
    (h : wpAnyH P md ops Q S fuel (listed.setIfInBounds i true) (a.put d v) w) : wpAnyH P md ops Q S (fuel + 1) listed a w := by
  subst hd
  exact wpAnyH_take hi hs hf hr hQ hy hS h
end
end Go.Proofs.YtaoiejgbbmjpkaaGreatDoor
