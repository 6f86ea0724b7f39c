/- Texts as one: BlkOpen, MsgOpen, MsgNum, RefInt, RefGetInt, MsgKindsWalk. -/
import Derived.Test.YtmngiekobmhpaaaGreatQk11
import Derived.Test.YtmngiekobmhpaaaGreatQk12
import Derived.Test.YtmngiekobmhpaaaGreatQk20
import Derived.Test.YtmngiekobmhpaaaGreatQk09
import Derived.Test.YtmngiekobmhpaaaGreatQk16
import Derived.Test.YtmngiekobmhpaaaGreatQk14
import Derived.Test.YtmngiekobmhpaaaGreatQk02
import Derived.Test.YtmngiekobmhpaaaGreatQk01
import Derived.Deep.RegionWith
import Derived.Test.YtmngiekobmhpaaaGreatQk13
import Derived.Test.YtmngiekobmhpaaaGreatQk19
/- How a block that came in is opened; its sizes; its bulk. -/
namespace Go.Proofs.YtmngiekobmhpaaaGreat
open Go.ChangeShapes Go.WideShapes Go.ChangeAt Go.RowKit Go.Joins Go.Deep
set_option linter.unusedVariables false

theorem list3x {α : Type} {l : List α} (h : l.length = 3) : ∃ c0 c1 c2, l = [c0, c1, c2] := by
  match l, h with
  | [c0, c1, c2], _ => exact ⟨c0, c1, c2, rfl⟩

theorem list5y {α : Type} {l : List α} (h : l.length = 5) : ∃ c0 c1 c2 c3 c4, l = [c0, c1, c2, c3, c4] := by
  match l, h with
  | [c0, c1, c2, c3, c4], _ => exact ⟨c0, c1, c2, c3, c4, rfl⟩

theorem cellsQc8 : Tryz.prog.cellsOf 35 = 3 := by kernel_rfl
theorem cellsBlk8 : Tryz.prog.cellsOf 37 = 5 := by kernel_rfl

/-- How a Qc reads. -/
def QcQ {H : Type} (d : DataW H) (x : QcM) : Prop := ∃ y0 y1 y2, d = .agg [y0, y1, y2] ∧ StrQ y1 x.block ∧ RowD TagQ y2 x.votes

/-- How a block reads. -/
def BlkQ {H : Type} (d : DataW H) (x : BlkM) : Prop := ∃ y0 y1 y2, d = .agg [y0, y1, y2] ∧ QcQ y1 x.qc ∧ RowD StrQ y2 x.certs

/-- A row's length is within its capacity. -/
theorem row_cap {H : Type} {enc : TypeId × Value → H} {W : World} {T E : TypeId} (hT : Tryz.prog.underlying T = some (.slice E))
    {fuel : Nat} {a : Option Addr} {len cap : Nat} {y : DataW H × List MemPlace} (hf : DataW.trod enc Tryz.prog W 0 (fun _ => true) true fuel T [.slice a len cap] = some y) : len ≤ cap := by
  rcases open_slice hT hf with ⟨hcs, hx⟩ | ⟨x, l, c, m, n, D, Pl, hcs, _, hl, hm, hmm, hx, hc⟩
  · simp at hcs
    omega
  · simp at hcs
    omega

set_option maxRecDepth 100000 in
theorem open_qc_cells {H : Type} {enc : TypeId × Value → H} {W : World} {fuel : Nat} {cs : List Value} {y : DataW H × List MemPlace}
    (hf : DataW.trod enc Tryz.prog W 0 (fun _ => true) true fuel 35 cs = some y) : ∃ x : QcM, cs = qcK.c x ∧ qcK.At W x ∧ QcQ y.1 x := by
  obtain ⟨xs, n, _, hx, hcl, hl, hg⟩ := DataW.trod_struct Tryz.underlying35 hf
  obtain ⟨c0, c1, c2, rfl⟩ := list3x (hcl.trans cellsQc8)
  obtain ⟨y0, y1, y2, rfl⟩ := list3x hl
  have g0 := hg 0 _ rfl
  have g1 := hg 1 _ rfl
  have g2 := hg 2 _ rfl
  simp [cellsInt6, cellsStr6, cellsTags6] at g0 g1 g2
  obtain ⟨a0, e0, _, _⟩ := DataW.trod_int Tryz.underlying3 g0
  obtain ⟨a1, e1, hy1, s1⟩ := DataW.trod_string Tryz.underlying9 g1
  obtain ⟨va, vlen, vc, e2⟩ := slice_form Tryz.underlying31 g2
  simp at e0 e1 e2
  subst e0 e1 e2
  obtain ⟨l, rfl, l1, l2, l3, l4⟩ := open_tagsK g2
  refine ⟨⟨a0, a1, va, l, vc⟩, rfl, ⟨l1, l2⟩, y0.1, y1.1, y2.1, ?_, ⟨by rw [hy1], s1⟩, l4⟩
  have := congrArg Prod.fst hx
  simpa using this

set_option maxRecDepth 100000 in
theorem open_blk_cells {H : Type} {enc : TypeId × Value → H} {W : World} {fuel : Nat} {cs : List Value} {y : DataW H × List MemPlace}
    (hf : DataW.trod enc Tryz.prog W 0 (fun _ => true) true fuel 37 cs = some y) : ∃ x : BlkM, cs = blkK.c x ∧ blkK.At W x ∧ BlkQ y.1 x ∧ x.certs.length ≤ x.cc := by
  obtain ⟨xs, n, _, hx, hcl, hl, hg⟩ := DataW.trod_struct Tryz.underlying37 hf
  obtain ⟨c0, c1, c2, c3, c4, rfl⟩ := list5y (hcl.trans cellsBlk8)
  obtain ⟨y0, y1, y2, rfl⟩ := list3x hl
  have g0 := hg 0 _ rfl
  have g1 := hg 1 _ rfl
  have g2 := hg 2 _ rfl
  simp [cellsInt6, cellsQc8, cellsStrs6] at g0 g1 g2
  obtain ⟨a0, e0, _, _⟩ := DataW.trod_int Tryz.underlying3 g0
  obtain ⟨q, e1, hat, hq⟩ := open_qc_cells g1
  obtain ⟨ca, clen, cc, e2⟩ := slice_form Tryz.underlying28 g2
  have e1' : [c1, c2, c3] = [.int .i64 q.view, .string q.block, .slice q.va q.votes.length q.vc] := e1
  simp at e0 e1' e2
  obtain ⟨rfl, rfl, rfl⟩ := e1'
  subst e0 e2
  have hcap := row_cap Tryz.underlying28 g2
  obtain ⟨l, rfl, l1, l2, l3, l4⟩ := open_row strK StrQ Tryz.underlying28 cellsStr6 open_str_cells g2
  refine ⟨⟨a0, q, ca, l, cc⟩, rfl, ⟨hat, l1, l2⟩, ⟨y0.1, y1.1, y2.1, ?_, hq, l4⟩, hcap⟩
  have := congrArg Prod.fst hx
  simpa using this

set_option maxRecDepth 100000 in
theorem open_blk {H : Type} {enc : TypeId × Value → H} {W : World} {r : Reach} {b0 : Nat} {v : Value} {d : DataW H} {p : List MemPlace} (hv : Value.okWide Tryz.prog W r b0 37 v)
    (h : DataW.Trod enc Tryz.prog W 0 (fun _ => true) true 37 v d p) : ∃ x : BlkM, v = x.v ∧ x.At W ∧ BlkQ d x ∧ x.certs.length ≤ x.cc := by
  obtain ⟨cs, rfl, hsz⟩ := okWide_struct Tryz.underlying37 hv
  obtain ⟨fuel, hf⟩ := h
  have hc : (Value.agg cs).cells.toList = cs.toList := by simp [Value.cells]
  obtain ⟨x, e, hx, hq⟩ := open_blk_cells hf
  refine ⟨x, ?_, hx, hq⟩
  have e' : cs.toList = x.c := by rw [← hc]; exact e
  have : cs = x.c.toArray := by rw [← e']
  rw [this]
  rfl

/-- A block's lists, in sizes that a machine holds. -/
structure BlkM.Lens (x : BlkM) : Prop where
  votes : x.qc.votes.length * 24 ≤ 140737488351232
  certs : x.certs.length * 16 ≤ 140737488351232
  blk : x.qc.block.size ≤ 140737488351232

set_option maxRecDepth 100000 in
theorem qc_fit {H : Type} {d : DataW H} {x : QcM} (h : QcQ d x) (hw : ∀ n ∈ d.weights Tryz.prog 35, n ≤ reachBytes) : x.votes.length * 24 ≤ 140737488351232 ∧ x.block.size ≤ 140737488351232 := by
  obtain ⟨y0, y1, y2, rfl, h1, h2⟩ := h
  have f2 := (h2.fit Tryz.underlying31 (fun n hn => hw n (by
    rw [DataW.weights, Tryz.underlying35]
    exact DataW.weights_mem_each (ts := [3, 9, 31]) (j := 2) rfl rfl n hn))).1
  have f1 := h1.fit (t := 9) (fun n hn => hw n (by
    rw [DataW.weights, Tryz.underlying35]
    exact DataW.weights_mem_each (ts := [3, 9, 31]) (j := 1) rfl rfl n hn))
  rw [bytesTag6] at f2
  exact ⟨by simpa [reachBytes] using f2, f1⟩

set_option maxRecDepth 100000 in
theorem blk_fit {H : Type} {d : DataW H} {x : BlkM} (h : BlkQ d x) (hw : ∀ n ∈ d.weights Tryz.prog 37, n ≤ reachBytes) : x.Lens := by
  obtain ⟨y0, y1, y2, rfl, h1, h2⟩ := h
  obtain ⟨f1, f2⟩ := qc_fit h1 (fun n hn => hw n (by
    rw [DataW.weights, Tryz.underlying37]
    exact DataW.weights_mem_each (ts := [3, 35, 28]) (j := 1) rfl rfl n hn))
  have g1 := (h2.fit Tryz.underlying28 (fun n hn => hw n (by
    rw [DataW.weights, Tryz.underlying37]
    exact DataW.weights_mem_each (ts := [3, 35, 28]) (j := 2) rfl rfl n hn))).1
  rw [bytesStr6] at g1
  exact ⟨f1, by simpa [reachBytes] using g1, f2⟩

/-- A block that came in: in sizes that a machine holds. -/
theorem blk_sized {H : Type} {ts : List TypeId} {ds : List (DataW H)} (h : (DataW.weightsEach Tryz.prog ts ds).all (· ≤ reachBytes) = true) {j : Nat} {d : DataW H} {x : BlkM} (ht : ts[j]? = some 37) (hd : ds[j]? = some d) (hs : BlkQ d x) : x.Lens := blk_fit hs (weights_of h ht hd)

/-- What the bound of the second form gives of a block. -/
theorem blk_bulk {H : Type} {d : DataW H} {x : BlkM} (h : BlkQ d x) (hk : Rows.uptoBulk d ≤ 1048576) : x.Lens ∧ x.Enc ∧ (encK x.d).length ≤ 1073741824 := by
  obtain ⟨y0, y1, y2, rfl, ⟨q0, q1, q2, rfl, h1, h2⟩, h3⟩ := h
  have p1 := h1.bulk
  have p2 := h2.bulk tagQ_bulk
  have p3 := h3.bulk StrQ.bulk
  simp only [Rows.uptoBulk, Rows.uptoBulkAll] at hk
  have b2 : tagsBulk x.qc.votes ≤ 1048576 := by unfold tagsBulk; omega
  have b3 : strsBulk x.certs ≤ 1048576 := by unfold strsBulk; omega
  have l2 := tagsBulk_len x.qc.votes
  have l3 := strsBulk_length x.certs
  have m2 := tagsB_len_le x.qc.votes
  have m3 := lst_bulk x.certs
  have g0 := goInt_length x.view
  have g1 := goInt_length x.qc.view
  have t1 := txt_len_le x.qc.block.data.toList
  have t2 : x.qc.block.data.toList.length = x.qc.block.size := by simp
  have t3 := txt_len_le (encQ x.qc.d)
  have eq : (encQ x.qc.d).length = (goInt x.qc.view).length + (txt x.qc.block.data.toList).length + (tagsB x.qc.votes).length := by
    show (goInt x.qc.view ++ txt x.qc.block.data.toList ++ tagsB x.qc.votes).length = _
    simp only [List.length_append]
  have ek : (encK x.d).length = (goInt x.view).length + (txt (encQ x.qc.d)).length + (lst (bl x.certs)).length := by
    show (goInt x.view ++ txt (encQ x.qc.d) ++ lst (bl x.certs)).length = _
    simp only [List.length_append]
  exact ⟨⟨by omega, by omega, by omega⟩, ⟨⟨by omega, by omega, fun t ht => by have := tagsBulk_mem ht; omega, by omega⟩, by omega, by omega⟩, by omega⟩
end Go.Proofs.YtmngiekobmhpaaaGreat

/- How a message that came in is opened; its sizes. -/
namespace Go.Proofs.YtmngiekobmhpaaaGreat
open Go.ChangeShapes Go.WideShapes Go.ChangeAt Go.RowKit Go.Joins Go.Deep
set_option linter.unusedVariables false

theorem list9m {α : Type} {l : List α} (h : l.length = 9) : ∃ y0 y1 y2 y3 y4 y5 y6 y7 y8, l = [y0, y1, y2, y3, y4, y5, y6, y7, y8] := by
  match l, h with
  | [y0, y1, y2, y3, y4, y5, y6, y7, y8], _ => exact ⟨y0, y1, y2, y3, y4, y5, y6, y7, y8, rfl⟩

theorem list25 {α : Type} {l : List α} (h : l.length = 25) : ∃ c0 c1 c2 c3 c4 c5 c6 c7 c8 c9 c10 c11 c12 c13 c14 c15 c16 c17 c18 c19 c20 c21 c22 c23 c24, l = [c0, c1, c2, c3, c4, c5, c6, c7, c8, c9, c10, c11, c12, c13, c14, c15, c16, c17, c18, c19, c20, c21, c22, c23, c24] := by
  match l, h with
  | [c0, c1, c2, c3, c4, c5, c6, c7, c8, c9, c10, c11, c12, c13, c14, c15, c16, c17, c18, c19, c20, c21, c22, c23, c24], _ => exact ⟨c0, c1, c2, c3, c4, c5, c6, c7, c8, c9, c10, c11, c12, c13, c14, c15, c16, c17, c18, c19, c20, c21, c22, c23, c24, rfl⟩

theorem cellsMsg9 : Tryz.prog.cellsOf 39 = 25 := by kernel_rfl

/-- How a message reads. -/
def MsgQ {H : Type} (d : DataW H) (x : MsgM) : Prop := ∃ y0 y1 y2 y3 y4 y5 y6 y7 y8, d = .agg [y0, y1, y2, y3, y4, y5, y6, y7, y8] ∧ BatDatum y4 x.bat.txs ∧ HdrQ y5 x.hdr ∧ CertQ y6 x.cert ∧ BlkQ y7 x.blk ∧ QcQ y8 x.qc

set_option maxRecDepth 100000 in
theorem open_bat_cells {H : Type} {enc : TypeId × Value → H} {W : World} {fuel : Nat} {cs : List Value} {y : DataW H × List MemPlace}
    (hf : DataW.trod enc Tryz.prog W 0 (fun _ => true) true fuel 26 cs = some y) : ∃ x : BatM, cs = batK.c x ∧ batK.At W x ∧ BatDatum y.1 x.txs ∧ (∀ t ∈ x.txs, TxSizes t.d) ∧ x.txs.length ≤ maxLen := by
  obtain ⟨xs, n, _, hx, hcl, hl, hg⟩ := DataW.trod_struct Tryz.underlying26 hf
  obtain ⟨c0, c1, c2, rfl⟩ := list3 (hcl.trans cellsBat)
  obtain ⟨y0, y1, y2, rfl⟩ := list3 hl
  have g0 := hg 0 _ rfl
  have g1 := hg 1 _ rfl
  have g2 := hg 2 _ rfl
  have kS : Tryz.prog.cellsOf 24 = 1 := by kernel_rfl
  simp [cellsInt6, kS] at g0 g1 g2
  obtain ⟨a0, e0, _, _⟩ := DataW.trod_int Tryz.underlying3 g0
  obtain ⟨a1, e1, _, _⟩ := DataW.trod_int Tryz.underlying3 g1
  obtain ⟨ao, len, cap, e2⟩ := slice_form Tryz.underlying24 g2
  simp at e0 e1 e2
  subst e0 e1 e2
  obtain ⟨l, rfl, l1, l2, l3, l4, l5⟩ := open_txs g2
  refine ⟨⟨a0, a1, ao, l, cap⟩, rfl, ⟨l1.rows, l3⟩, ⟨y0.1, y1.1, y2.1, ?_, l5⟩, l2, l4⟩
  have := congrArg Prod.fst hx
  simpa using this

set_option maxRecDepth 100000 in
set_option maxHeartbeats 2000000 in
theorem open_msg_cells {H : Type} {enc : TypeId × Value → H} {W : World} {fuel : Nat} {cs : List Value} {y : DataW H × List MemPlace}
    (hf : DataW.trod enc Tryz.prog W 0 (fun _ => true) true fuel 39 cs = some y) : ∃ x : MsgM, cs = msgK.c x ∧ msgK.At W x ∧ MsgQ y.1 x ∧ (∀ t ∈ x.bat.txs, TxSizes t.d) ∧ x.bat.txs.length ≤ maxLen ∧ (Lit.int .i64 x.kind).wf = true := by
  obtain ⟨xs, n, _, hx, hcl, hl, hg⟩ := DataW.trod_struct Tryz.underlying39 hf
  obtain ⟨c0, c1, c2, c3, c4, c5, c6, c7, c8, c9, c10, c11, c12, c13, c14, c15, c16, c17, c18, c19, c20, c21, c22, c23, c24, rfl⟩ := list25 (hcl.trans cellsMsg9)
  obtain ⟨y0, y1, y2, y3, y4, y5, y6, y7, y8, rfl⟩ := list9m hl
  have g0 := hg 0 _ rfl
  have g1 := hg 1 _ rfl
  have g2 := hg 2 _ rfl
  have g3 := hg 3 _ rfl
  have g4 := hg 4 _ rfl
  have g5 := hg 5 _ rfl
  have g6 := hg 6 _ rfl
  have g7 := hg 7 _ rfl
  have g8 := hg 8 _ rfl
  simp [cellsInt6, cellsStr6, cellsTag6, cellsBat, cellsHdr6, cellsCert7, cellsBlk8, cellsQc8] at g0 g1 g2 g3 g4 g5 g6 g7 g8
  obtain ⟨a0, e0, _, w0⟩ := DataW.trod_int Tryz.underlying3 g0
  obtain ⟨a1, e1, _, _⟩ := DataW.trod_string Tryz.underlying9 g1
  obtain ⟨a2, e2, _, _⟩ := DataW.trod_int Tryz.underlying3 g2
  obtain ⟨t, e3, _, _⟩ := open_tag_cells g3
  obtain ⟨b, e4, at4, q4, z4, l4⟩ := open_bat_cells g4
  obtain ⟨h, e5, at5, q5⟩ := open_hdr_cells g5
  obtain ⟨c, e6, at6, q6⟩ := open_cert_cells g6
  obtain ⟨k, e7, at7, q7, _⟩ := open_blk_cells g7
  obtain ⟨q, e8, at8, q8⟩ := open_qc_cells g8
  have e3' : [c3, c4] = [.int .i64 t.who, .string t.mac] := e3
  have e4' : [c5, c6, c7] = [.int .i64 b.author, .int .i64 b.number, .slice b.ta b.txs.length b.tc] := e4
  have e5' : [c8, c9, c10, c11] = [.int .i64 h.author, .int .i64 h.round, .slice h.ra h.refs.length h.rc, .slice h.pa h.parents.length h.pc] := e5
  have e6' : [c12, c13, c14, c15, c16] = [.int .i64 c.hdr.author, .int .i64 c.hdr.round, .slice c.hdr.ra c.hdr.refs.length c.hdr.rc, .slice c.hdr.pa c.hdr.parents.length c.hdr.pc, .slice c.va c.votes.length c.vc] := e6
  have e7' : [c17, c18, c19, c20, c21] = [.int .i64 k.view, .int .i64 k.qc.view, .string k.qc.block, .slice k.qc.va k.qc.votes.length k.qc.vc, .slice k.ca k.certs.length k.cc] := e7
  have e8' : [c22, c23, c24] = [.int .i64 q.view, .string q.block, .slice q.va q.votes.length q.vc] := e8
  simp at e0 e1 e2 e3' e4' e5' e6' e7' e8'
  obtain ⟨rfl, rfl⟩ := e3'
  obtain ⟨rfl, rfl, rfl⟩ := e4'
  obtain ⟨rfl, rfl, rfl, rfl⟩ := e5'
  obtain ⟨rfl, rfl, rfl, rfl, rfl⟩ := e6'
  obtain ⟨rfl, rfl, rfl, rfl, rfl⟩ := e7'
  obtain ⟨rfl, rfl, rfl⟩ := e8'
  subst e0 e1 e2
  refine ⟨⟨a0, a1, a2, t, b, h, c, k, q⟩, rfl, ⟨at4, at5, at6, at7, at8⟩, ⟨y0.1, y1.1, y2.1, y3.1, y4.1, y5.1, y6.1, y7.1, y8.1, ?_, q4, q5, q6, q7, q8⟩, z4, l4, w0⟩
  have := congrArg Prod.fst hx
  simpa using this

set_option maxRecDepth 100000 in
theorem open_msg {H : Type} {enc : TypeId × Value → H} {W : World} {r : Reach} {b0 : Nat} {v : Value} {d : DataW H} {p : List MemPlace} (hv : Value.okWide Tryz.prog W r b0 39 v)
    (h : DataW.Trod enc Tryz.prog W 0 (fun _ => true) true 39 v d p) : ∃ x : MsgM, v = x.v ∧ x.At W ∧ MsgQ d x ∧ (∀ t ∈ x.bat.txs, TxSizes t.d) ∧ x.bat.txs.length ≤ maxLen ∧ (Lit.int .i64 x.kind).wf = true := by
  obtain ⟨cs, rfl, hsz⟩ := okWide_struct Tryz.underlying39 hv
  obtain ⟨fuel, hf⟩ := h
  have hc : (Value.agg cs).cells.toList = cs.toList := by simp [Value.cells]
  obtain ⟨x, e, hx, hq⟩ := open_msg_cells hf
  refine ⟨x, ?_, hx, hq⟩
  have e' : cs.toList = x.c := by rw [← hc]; exact e
  have : cs = x.c.toArray := by rw [← e']
  rw [this]
  rfl

/-- A message that came in: in sizes that a machine holds. -/
structure MsgM.In (x : MsgM) : Prop where
  txs : x.bat.txs.length * 136 ≤ 140737488351232
  txz : ∀ t ∈ x.bat.txs, TxSizes t.d
  txl : ∀ t ∈ x.bat.txs, TxLens t.d
  hdr : x.hdr.Lens
  cert : x.cert.hdr.Lens
  votes : x.cert.votes.length * 24 ≤ 140737488351232
  bvotes : x.blk.qc.votes.length * 24 ≤ 140737488351232
  certs : x.blk.certs.length * 16 ≤ 140737488351232
  qvotes : x.qc.votes.length * 24 ≤ 140737488351232

set_option maxRecDepth 100000 in
theorem cert_fit9 {H : Type} {d : DataW H} {x : CertM} (h : CertQ d x) (hw : ∀ n ∈ d.weights Tryz.prog 33, n ≤ reachBytes) : x.hdr.Lens ∧ x.votes.length * 24 ≤ 140737488351232 := by
  obtain ⟨y0, y1, rfl, h1, h2⟩ := h
  have f1 := hdr_fit h1 (fun n hn => hw n (by
    rw [DataW.weights, Tryz.underlying33]
    exact DataW.weights_mem_each (ts := [30, 31]) (j := 0) rfl rfl n hn))
  have f2 := (h2.fit Tryz.underlying31 (fun n hn => hw n (by
    rw [DataW.weights, Tryz.underlying33]
    exact DataW.weights_mem_each (ts := [30, 31]) (j := 1) rfl rfl n hn))).1
  rw [bytesTag6] at f2
  exact ⟨f1, by simpa [reachBytes] using f2⟩

set_option maxRecDepth 100000 in
theorem bat_len9 {H : Type} {d : DataW H} {l : List TxM} (h : ∀ n ∈ d.weights Tryz.prog 26, n ≤ reachBytes) (hs : BatDatum d l) : l.length * 136 ≤ 140737488351232 := by
  obtain ⟨y0, y1, y2, rfl, hq⟩ := hs
  have hw : ∀ n ∈ y2.weights Tryz.prog 24, n ≤ reachBytes := fun n hn => h n (by
    rw [DataW.weights, Tryz.underlying26]
    exact DataW.weights_mem_each (ts := [3, 3, 24]) (j := 2) rfl rfl n hn)
  rcases hq with ⟨rfl, rfl⟩ | ⟨ds, rest, rfl, hl, _⟩
  · simp
  · have hb : Tryz.prog.bytesOf 123 = 136 := by kernel_rfl
    have := hw ((ds.length + rest.length) * Tryz.prog.bytesOf 123) (by simp [DataW.weights, Tryz.underlying24])
    rw [hb] at this
    unfold reachBytes at this
    rw [← hl]
    omega

set_option maxRecDepth 100000 in
theorem msg_fit {H : Type} {d : DataW H} {x : MsgM} (h : MsgQ d x) (hz : ∀ t ∈ x.bat.txs, TxSizes t.d) (hl : x.bat.txs.length ≤ maxLen) (hw : ∀ n ∈ d.weights Tryz.prog 39, n ≤ reachBytes) : x.In := by
  obtain ⟨y0, y1, y2, y3, y4, y5, y6, y7, y8, rfl, q4, q5, q6, q7, q8⟩ := h
  have f4 := bat_fit (fun n hn => hw n (by
    rw [DataW.weights, Tryz.underlying39]
    exact DataW.weights_mem_each (ts := [3, 9, 3, 23, 26, 30, 33, 37, 35]) (j := 4) rfl rfl n hn)) q4
  have l4 := bat_len9 (fun n hn => hw n (by
    rw [DataW.weights, Tryz.underlying39]
    exact DataW.weights_mem_each (ts := [3, 9, 3, 23, 26, 30, 33, 37, 35]) (j := 4) rfl rfl n hn)) q4
  have f5 := hdr_fit q5 (fun n hn => hw n (by
    rw [DataW.weights, Tryz.underlying39]
    exact DataW.weights_mem_each (ts := [3, 9, 3, 23, 26, 30, 33, 37, 35]) (j := 5) rfl rfl n hn))
  have f6 := cert_fit9 q6 (fun n hn => hw n (by
    rw [DataW.weights, Tryz.underlying39]
    exact DataW.weights_mem_each (ts := [3, 9, 3, 23, 26, 30, 33, 37, 35]) (j := 6) rfl rfl n hn))
  have f7 := blk_fit q7 (fun n hn => hw n (by
    rw [DataW.weights, Tryz.underlying39]
    exact DataW.weights_mem_each (ts := [3, 9, 3, 23, 26, 30, 33, 37, 35]) (j := 7) rfl rfl n hn))
  have f8 := qc_fit q8 (fun n hn => hw n (by
    rw [DataW.weights, Tryz.underlying39]
    exact DataW.weights_mem_each (ts := [3, 9, 3, 23, 26, 30, 33, 37, 35]) (j := 8) rfl rfl n hn))
  exact ⟨l4, hz, f4, f5, f6.1, f6.2, f7.votes, f7.certs, f8.1⟩

theorem msg_sized {H : Type} {ts : List TypeId} {ds : List (DataW H)} (h : (DataW.weightsEach Tryz.prog ts ds).all (· ≤ reachBytes) = true) {j : Nat} {d : DataW H} {x : MsgM} (ht : ts[j]? = some 39) (hd : ds[j]? = some d) (hs : MsgQ d x) (hz : ∀ t ∈ x.bat.txs, TxSizes t.d) (hl : x.bat.txs.length ≤ maxLen) : x.In := msg_fit hs hz hl (weights_of h ht hd)

theorem MsgM.In.num {x : MsgM} (h : x.In) : x.Num := by
  have h1 := h.txs
  have h2 := h.hdr.n
  have h3 := h.hdr.p
  have h4 := h.cert.n
  have h5 := h.cert.p
  have h6 := h.votes
  have h7 := h.bvotes
  have h8 := h.certs
  have h9 := h.qvotes
  exact ⟨by omega, fun t ht => by have := h.txl t ht; unfold TxLens at this; omega, by omega, by omega, fun r hr => by have := h.hdr.acks r hr; omega, by omega, by omega, fun r hr => by have := h.cert.acks r hr; omega, by omega, by omega, by omega, by omega⟩

theorem MsgM.In.max {x : MsgM} (h : x.In) : x.Max := by
  have h1 := h.txs
  have h2 := h.hdr.n
  have h3 := h.hdr.p
  have h4 := h.cert.n
  have h5 := h.cert.p
  have h8 := h.certs
  refine ⟨?_, ?_, ?_, ?_, ?_, ?_⟩ <;> (unfold maxLen; omega)

theorem MsgM.In.lens {x : MsgM} (h : x.In) (ht : x.bat.txs.length ≤ 50) : x.Lens := ⟨by omega, h.txl, h.hdr, h.cert, h.votes, h.bvotes, h.certs, h.qvotes⟩
end Go.Proofs.YtmngiekobmhpaaaGreat

/- Two messages that say the same are alike in sizes. -/
namespace Go.Proofs.YtmngiekobmhpaaaGreat
open Go.RowKit
set_option linter.unusedVariables false

theorem num_same {x y : MsgM} (h : y.d = x.d) (hx : x.Num) : y.Num := by
  have e1 : dl y.bat.txs = dl x.bat.txs := congrArg (fun m : MsgD => m.batch.txs) h
  have e2 : rd y.hdr.refs = rd x.hdr.refs := congrArg (fun m : MsgD => m.header.refs) h
  have e3 : y.hdr.parents = x.hdr.parents := congrArg (fun m : MsgD => m.header.parents) h
  have e4 : rd y.cert.hdr.refs = rd x.cert.hdr.refs := congrArg (fun m : MsgD => m.cert.header.refs) h
  have e5 : y.cert.hdr.parents = x.cert.hdr.parents := congrArg (fun m : MsgD => m.cert.header.parents) h
  have e6 : y.cert.votes = x.cert.votes := congrArg (fun m : MsgD => m.cert.votes) h
  have e7 : y.blk.qc.votes = x.blk.qc.votes := congrArg (fun m : MsgD => m.block.qc.votes) h
  have e8 : y.blk.certs = x.blk.certs := congrArg (fun m : MsgD => m.block.certs) h
  have e9 : y.qc.votes = x.qc.votes := congrArg (fun m : MsgD => m.qc.votes) h
  have acks : ∀ {l m : List RefM}, rd l = rd m → (∀ r ∈ m, r.acks.length ≤ 4611686018427387903) → ∀ r ∈ l, r.acks.length ≤ 4611686018427387903 := by
    intro l m e hm r hr
    have h1 : r.d ∈ rd m := by rw [← e]; exact List.mem_map.2 ⟨r, hr, rfl⟩
    obtain ⟨r', hr', e'⟩ := List.mem_map.1 h1
    have h2 : r'.acks = r.acks := congrArg RefD.acks e'
    rw [← h2]
    exact hm r' hr'
  refine ⟨by rw [← dl_length, e1, dl_length]; exact hx.txs, fun t ht => ?_, by rw [← rd_length, e2, rd_length]; exact hx.refs, by rw [e3]; exact hx.ps, acks e2 hx.acks, by rw [← rd_length, e4, rd_length]; exact hx.crefs, by rw [e5]; exact hx.cps, acks e4 hx.cacks,
    by rw [e6]; exact hx.votes, by rw [e7]; exact hx.bvotes, by rw [e8]; exact hx.certs, by rw [e9]; exact hx.qvotes⟩
  have h1 : t.d ∈ dl x.bat.txs := by rw [← e1]; exact List.mem_map.2 ⟨t, ht, rfl⟩
  obtain ⟨t', ht', e'⟩ := List.mem_map.1 h1
  rw [← e']
  exact hx.keys t' ht'

theorem sizes_same {x y : MsgM} (h : y.d = x.d) (hx : ∀ t ∈ x.bat.txs, TxSizes t.d) : ∀ t ∈ y.bat.txs, TxSizes t.d := by
  have e1 : dl y.bat.txs = dl x.bat.txs := congrArg (fun m : MsgD => m.batch.txs) h
  intro t ht
  have h1 : t.d ∈ dl x.bat.txs := by rw [← e1]; exact List.mem_map.2 ⟨t, ht, rfl⟩
  obtain ⟨t', ht', e'⟩ := List.mem_map.1 h1
  rw [← e']
  exact hx t' ht'
end Go.Proofs.YtmngiekobmhpaaaGreat

/- What tuskref01.Int does: the same bytes of a number; nothing old in memory is turned. -/
namespace Go.Proofs.YtmngiekobmhpaaaGreat
open Go.RowKit

theorem bcell {W w1 : World} (hb : Below W.heap.size W w1) : ∀ b o, b < W.heap.size → w1.cell? ⟨b, o, none⟩ = W.cell? ⟨b, o, none⟩ :=
  fun b o h => hb.cell (p := ⟨b, o, none⟩) h

theorem conv_byte {w : World} {b : Nat} {x : Nat} (hx : x < 256) (h : w.cell? ⟨b, 0, none⟩ = some (.int .u8 (x : Int))) :
    (convert 71 9 (.slice (some ⟨b, 0, none⟩) 1 1)).run Tryz.prog w = .ok (.string ⟨#[UInt8.ofNat x]⟩) w := by
  have := run_convert_bytes_back w 71 9 5 ⟨b, 0, none⟩ 1 [UInt8.ofNat x] Tryz.underlying71 Tryz.underlying5 Tryz.underlying9 (fun j hj => by
    have : j = 0 := by simp at hj; omega
    subst this
    have e : (UInt8.ofNat x).toNat = x := by simp; omega
    simp only [List.getElem_cons_zero, e]
    simpa [Addr.add] using h)
  exact this
end Go.Proofs.YtmngiekobmhpaaaGreat

/- What tuskref01.GetInt does: it answers as the number at the front of bytes is defined; memory stands. -/
namespace Go.Proofs.YtmngiekobmhpaaaGreat
open Go.RowKit

def val : List UInt8 → Nat
  | [] => 0
  | c :: r => c.toNat % 128 + 128 * val r

theorem val_drop_le : ∀ (l : List UInt8) (j : Nat), val (l.drop j) ≤ val l
  | [], j => by simp
  | c :: r, 0 => by simp
  | c :: r, j + 1 => by
    have := val_drop_le r j
    simp only [List.drop_succ_cons, val]
    omega

theorem giGo_val : ∀ (k : Nat) (l : List UInt8) (acc i : Nat) (hk : k < l.length), (∀ j (hj : j < l.length), j < k → 128 ≤ l[j].toNat) → l[k].toNat < 128 → i + k ≤ 8 →
    giGo l acc i = if 4611686018427387903 < acc + val (l.take (k + 1)) * 128 ^ i then (0, 0, 2) else if l[k].toNat = 0 ∧ 1 < i + k + 1 then (0, 0, 3) else (acc + val (l.take (k + 1)) * 128 ^ i, i + k + 1, 0)
  | 0, c :: r, acc, i, hk, _, h2, _ => by
    simp only [List.getElem_cons_zero] at h2
    rw [giGo, if_neg (by omega)]
    simp [val]
  | k + 1, c :: r, acc, i, hk, h1, h2, h3 => by
    have hc : 128 ≤ c.toNat := h1 0 (by simp) (by omega)
    simp only [List.length_cons] at hk
    rw [giGo, if_pos hc, if_neg (by omega)]
    rw [giGo_val k r _ (i + 1) (by omega) (fun j hj hjk => h1 (j + 1) (by simp; omega) (by omega)) (by simpa using h2) (by omega)]
    have e : acc + c.toNat % 128 * 128 ^ i + val (r.take (k + 1)) * 128 ^ (i + 1) = acc + val ((c :: r).take (k + 1 + 1)) * 128 ^ i := by
      rw [List.take_succ_cons, val, Nat.pow_succ, Nat.add_mul, Nat.mul_comm (128 ^ i) 128, ← Nat.mul_assoc, Nat.mul_comm (val _) 128]
      omega
    rw [e]
    simp only [List.getElem_cons_succ]
    have e2 : i + 1 + k + 1 = i + (k + 1) + 1 := by omega
    rw [e2]
  | 0, [], _, _, hk, _, _, _ => by simp at hk
  | k + 1, [], _, _, hk, _, _, _ => by simp at hk

theorem giGo_high : ∀ (l : List UInt8) (acc i : Nat), (∀ c ∈ l, 128 ≤ c.toNat) → i + l.length ≤ 8 → giGo l acc i = (0, 0, 1)
  | [], _, _, _, _ => by simp [giGo]
  | c :: r, acc, i, h, h2 => by
    simp only [List.length_cons] at h2
    rw [giGo, if_pos (h c (by simp)), if_neg (by omega)]
    exact giGo_high r _ _ (fun x hx => h x (by simp [hx])) (by omega)

theorem giGo_nine : ∀ (k : Nat) (l : List UInt8) (acc i : Nat), i + k = 9 → 0 < k → k ≤ l.length → (∀ j (hj : j < l.length), j < k → 128 ≤ l[j].toNat) → giGo l acc i = (0, 0, 2)
  | 0, _, _, _, _, h, _, _ => by omega
  | k + 1, [], _, _, _, _, h, _ => by simp at h
  | k + 1, c :: r, acc, i, h1, _, h3, h4 => by
    have hc : 128 ≤ c.toNat := h4 0 (by simp) (by omega)
    rw [giGo, if_pos hc]
    by_cases h : i + 1 = 9
    · rw [if_pos h]
    · rw [if_neg h]
      exact giGo_nine k r _ _ (by omega) (by omega) (by simp at h3; omega) (fun j hj hjk => h4 (j + 1) (by simp; omega) (by omega))

theorem val_step (s : ByteArray) (k j : Nat) (hk : k < s.size) (hj : j ≤ k) : val ((s.data.toList.take (k + 1)).drop j) = s[j].toNat % 128 + 128 * val ((s.data.toList.take (k + 1)).drop (j + 1)) := by
  have h1 : j < (s.data.toList.take (k + 1)).length := by simp; omega
  rw [List.drop_eq_getElem_cons h1, val]
  simp
  rfl

theorem getElem_list (s : ByteArray) (j : Nat) (h : j < s.data.toList.length) : s.data.toList[j] = s[j]'(by simpa using h) := by
  simp
  rfl

set_option maxRecDepth 100000 in
set_option maxHeartbeats 1000000 in
theorem refGetInt_any (s : ByteArray) (w : World) (hs : s.size ≤ maxLen) :
    Calls Tryz.prog 13 #[.string s] w fun e w' => e = .returned (giVal (getInt s.data.toList)) ∧ w' = w := by
  unfold maxLen at hs
  go_enter Tryz.func13, Tryz.ntmps13
  go_wp2
  go_loop [5] (fun v => ∃ k : Nat, k ≤ 9 ∧ k ≤ s.size ∧ v = .int .i64 k ∧ Hid (∀ j (hj : j < s.size), j < k → 128 ≤ s[j].toNat)) (fun v => 9 - (intOf v).toNat)
  case atStart => exact ⟨0, by omega, by omega, rfl, fun j _ hj => absurd hj (by omega)⟩
  case round =>
    obtain ⟨k, hk9, hks, rfl, hhi⟩ := hrel
    by_cases h9 : k = 9
    · subst h9
      have H : Hid (getInt s.data.toList = (0, 0, 2)) := giGo_nine 9 s.data.toList 0 0 rfl (by omega) (by simpa using hks) (fun j hj hjk => by rw [getElem_list]; exact hhi.out j (by simpa using hj) hjk)
      clear hhi
      by_cases hlt : 9 < s.size
      · go_wp2
        go_ret3
        exact ⟨giEnd H.out, rfl⟩
      · go_wp2
        go_ret3
        exact ⟨giEnd H.out, rfl⟩
    · have h9b : ((k : Int) == 9) = false := beq_eq_false_iff_ne.2 (by omega)
      by_cases hlt : k < s.size
      · have hkb : ((k : Int) == s.size) = false := beq_eq_false_iff_ne.2 (by omega)
        obtain ⟨c, hc⟩ : ∃ c, s[k].toNat = c := ⟨_, rfl⟩
        have hc256 : c < 256 := by rw [← hc]; exact UInt8.toNat_lt _
        by_cases hge : 128 ≤ c
        · have hhi' : Hid (∀ j (hj : j < s.size), j < k + 1 → 128 ≤ s[j].toNat) := by
            intro j hj hjk
            by_cases e : j = k
            · subst e; omega
            · exact hhi.out j hj (by omega)
          clear hhi
          go_wp2
          go_round
          case rel => exact ⟨k + 1, by omega, by omega, by go_num, hhi'⟩
          case measure => simp [intOf]; omega
        · have H : Hid (getInt s.data.toList = if 4611686018427387903 < val (s.data.toList.take (k + 1)) then (0, 0, 2) else if c = 0 ∧ 0 < k then (0, 0, 3) else (val (s.data.toList.take (k + 1)), k + 1, 0)) := by
            have hkl : k < s.data.toList.length := by simpa using hlt
            have h := giGo_val k s.data.toList 0 0 hkl (fun j hj hjk => by rw [getElem_list]; exact hhi.out j (by simpa using hj) hjk) (by rw [getElem_list]; omega) (by omega)
            rw [getElem_list _ _ hkl, hc] at h
            show _ = _
            rw [getInt, h]
            simp
          clear hhi
          go_wp2
          go_loop [6, 7] (fun v6 v7 => ∃ (j n : Nat), j ≤ k + 1 ∧ n ≤ 4611686018427387903 ∧ n < 128 ^ (k + 1 - j) ∧ v6 = .int .i64 n ∧ v7 = .int .i64 ((j : Int) - 1) ∧ Hid (n = val ((s.data.toList.take (k + 1)).drop j))) (fun _ v7 => ((intOf v7) + 1).toNat)
          case atStart => exact ⟨k + 1, 0, by omega, by omega, by simp, rfl, by simp, by show _ = _; rw [List.drop_of_length_le (by simp; omega)]; rfl⟩
          case round =>
            obtain ⟨j, n, hj, hn, hnp, rfl, rfl, hv⟩ := hrel
            by_cases hj0 : j = 0
            · subst hj0
              go_wp2
              · have h1 : 0 < k := by assumption
                have h2 : ((c : Int) == 0) = true := by assumption
                rw [beq_iff_eq] at h2
                go_ret3
                refine ⟨giEnd (a := 0) (b := 0) (c := 3) ?_, rfl⟩
                rw [H.out, if_neg (by have := hv.out; rw [List.drop_zero] at this; omega), if_pos (by omega)]
              · have h1 : 0 < k := by assumption
                have h2 : ((c : Int) == 0) = false := by assumption
                rw [beq_eq_false_iff_ne] at h2
                go_ret3
                refine ⟨giEnd (a := n) (b := k + 1) (c := 0) ?_, rfl⟩
                have hv0 := hv.out
                rw [List.drop_zero] at hv0
                rw [H.out, if_neg (by omega), if_neg (by omega), ← hv0]
              · have h1 : ¬ 0 < k := by assumption
                go_ret3
                refine ⟨giEnd (a := n) (b := k + 1) (c := 0) ?_, rfl⟩
                have hv0 := hv.out
                rw [List.drop_zero] at hv0
                rw [H.out, if_neg (by omega), if_neg (by omega), ← hv0]
            · obtain ⟨i, rfl⟩ : ∃ i, j = i + 1 := ⟨j - 1, by omega⟩
              have hi1 : ((i + 1 : Nat) : Int) - 1 = (i : Int) := by omega
              rw [hi1]
              have hilt : i < s.size := by omega
              obtain ⟨d, hd⟩ : ∃ d, s[i].toNat = d := ⟨_, rfl⟩
              have hd256 : d < 256 := by rw [← hd]; exact UInt8.toNat_lt _
              have hst := val_step s k i hlt (by omega)
              rw [hd, ← hv.out] at hst
              have hn8 : n < 72057594037927936 := by
                have h1 : 128 ^ (k + 1 - (i + 1)) ≤ 128 ^ 8 := Nat.pow_le_pow_right (by omega) (by omega)
                omega
              have hnp' : 128 * n + d % 128 < 128 ^ (k + 1 - i) := by
                have e : k + 1 - i = (k + 1 - (i + 1)) + 1 := by omega
                rw [e, Nat.pow_succ]
                omega
              have Hst : Hid (128 * n + d % 128 = val ((s.data.toList.take (k + 1)).drop i)) := by
                show _ = _
                rw [hst]; omega
              clear hst hv hi1
              go_wp2
              · have h1 : (4611686018427387903 : Int) < 128 * (n : Int) + (d : Int) % 128 := by assumption
                go_ret3
                refine ⟨giEnd (a := 0) (b := 0) (c := 2) ?_, rfl⟩
                have hv0 := Hst.out
                have hle := val_drop_le (s.data.toList.take (k + 1)) i
                rw [H.out, if_pos (by omega)]
              · have h1 : 128 * (n : Int) + (d : Int) % 128 ≤ 4611686018427387903 := by assumption
                go_round
                case rel => exact ⟨i, 128 * n + d % 128, by omega, by omega, hnp', by go_num, rfl, Hst⟩
                case measure => simp [intOf]
      · have hkb : ((k : Int) == s.size) = true := beq_iff_eq.2 (by omega)
        have H : Hid (getInt s.data.toList = (0, 0, 1)) := giGo_high s.data.toList 0 0 (fun c hc => by
          obtain ⟨j, hj, rfl⟩ := List.getElem_of_mem hc
          rw [getElem_list]
          exact hhi.out j (by simpa using hj) (by simp at hj; omega)) (by simp; omega)
        clear hhi
        go_wp2
        go_ret3
        exact ⟨giEnd H.out, rfl⟩
end Go.Proofs.YtmngiekobmhpaaaGreat

/- tusklaw09.MsgKinds answers true; nothing old in memory is turned. -/
namespace Go.Proofs.YtmngiekobmhpaaaGreat
open Go.RowKit Go.Sort
set_option linter.unusedVariables false

theorem kind_enc {m : MsgD} (h : chkM m = 0) : ∃ n : Nat, (n : Int) = m.kind ∧ getInt (encM m) = (n, (enc n).length, 0) := by
  have hk := kind_cases (chkM_parts h).1
  obtain ⟨n, hn⟩ := Int.eq_ofNat_of_zero_le (show 0 ≤ m.kind by omega)
  refine ⟨n, hn.symm, ?_⟩
  unfold encM
  rw [hn, goInt_nat n (by omega)]
  exact getInt_enc n _ (by omega)

set_option maxRecDepth 100000 in
set_option maxHeartbeats 8000000 in
theorem msgKinds_walk (x : MsgM) (kd : Int) (w : World) (hA : x.At w) (hI : x.In) (hwf : (Lit.int .i64 kd).wf = true) :
    Calls Tryz.prog 5 #[x.v, .int .i64 kd] w fun e w' => e = .returned (.bool true) ∧ Below w.heap.size w w' := by
  have hn := hI.num
  have hmx := hI.max
  have hS := hI.txz
  have HLn : Hid (x.bat.txs.length ≤ 50 → x.Lens) := hI.lens
  clear hI hwf
  have cW := works9_any
  have cG := fun w1 h1 => great9_any x w1 h1 hmx
  have cO := fun w1 h1 hl => own9_any x w1 h1 hl
  have hNy := fun (y : MsgM) (h : y.d = x.d) => num_same h hn
  have hSy := fun (y : MsgM) (h : y.d = x.d) => sizes_same h hS
  obtain ⟨xd, hxd⟩ : ∃ d, Hid (d = x.d) := ⟨_, rfl⟩
  obtain ⟨k, dg, vi, tg, ba, he, ce, bl, q⟩ := x
  have hKd : Hid (xd.kind = k) := by show _ = _; rw [hxd.out]; rfl
  have hX := Arr.new w 39 [.int .i64 k, .string dg, .int .i64 vi, .int .i64 tg.who, .string tg.mac, .int .i64 ba.author, .int .i64 ba.number, .slice ba.ta ba.txs.length ba.tc, .int .i64 he.author, .int .i64 he.round, .slice he.ra he.refs.length he.rc, .slice he.pa he.parents.length he.pc, .int .i64 ce.hdr.author, .int .i64 ce.hdr.round, .slice ce.hdr.ra ce.hdr.refs.length ce.hdr.rc, .slice ce.hdr.pa ce.hdr.parents.length ce.hdr.pc, .slice ce.va ce.votes.length ce.vc, .int .i64 bl.view, .int .i64 bl.qc.view, .string bl.qc.block, .slice bl.qc.va bl.qc.votes.length bl.qc.vc, .slice bl.ca bl.certs.length bl.cc, .int .i64 q.view, .string q.block, .slice q.va q.votes.length q.vc]
  have hB := belowNew w (.cells [.int .i64 k, .string dg, .int .i64 vi, .int .i64 tg.who, .string tg.mac, .int .i64 ba.author, .int .i64 ba.number, .slice ba.ta ba.txs.length ba.tc, .int .i64 he.author, .int .i64 he.round, .slice he.ra he.refs.length he.rc, .slice he.pa he.parents.length he.pc, .int .i64 ce.hdr.author, .int .i64 ce.hdr.round, .slice ce.hdr.ra ce.hdr.refs.length ce.hdr.rc, .slice ce.hdr.pa ce.hdr.parents.length ce.hdr.pc, .slice ce.va ce.votes.length ce.vc, .int .i64 bl.view, .int .i64 bl.qc.view, .string bl.qc.block, .slice bl.qc.va bl.qc.votes.length bl.qc.vc, .slice bl.ca bl.certs.length bl.cc, .int .i64 q.view, .string q.block, .slice q.va q.votes.length q.vc].toArray 39)
  unfold MsgM.v MsgM.c at cG cO ⊢
  simp only at cG cO ⊢
  obtain ⟨w1, hw1⟩ : ∃ q', w.alloc (.cells [.int .i64 k, .string dg, .int .i64 vi, .int .i64 tg.who, .string tg.mac, .int .i64 ba.author, .int .i64 ba.number, .slice ba.ta ba.txs.length ba.tc, .int .i64 he.author, .int .i64 he.round, .slice he.ra he.refs.length he.rc, .slice he.pa he.parents.length he.pc, .int .i64 ce.hdr.author, .int .i64 ce.hdr.round, .slice ce.hdr.ra ce.hdr.refs.length ce.hdr.rc, .slice ce.hdr.pa ce.hdr.parents.length ce.hdr.pc, .slice ce.va ce.votes.length ce.vc, .int .i64 bl.view, .int .i64 bl.qc.view, .string bl.qc.block, .slice bl.qc.va bl.qc.votes.length bl.qc.vc, .slice bl.ca bl.certs.length bl.cc, .int .i64 q.view, .string q.block, .slice q.va q.votes.length q.vc].toArray 39) = q' := ⟨_, rfl⟩
  rw [hw1] at hX hB
  go_enter Tryz.func5, Tryz.ntmps5
  go_wp2_with fail
  refine (cW _).mono ?_
  rintro e w2 ⟨rfl, hb⟩
  have hX2 := hX.below hb hX.lt
  have hB2 := hB.trans (hb.mono hB.size)
  clear hX hB hb cW hw1
  go_wp2_with (refine wpList_load_row (by rfl) 39 _ (by rfl) w.heap.size (by rfl) 39 _ (0, 0) _ hX2 Tryz.underlying39 (by rfl) infoMsg9 ?_)
  refine (cG _ (hA.below hB2)).mono ?_
  rintro e w3 ⟨⟨g, rfl, hg⟩, hb⟩
  have hX3 := hX2.below hb hX2.lt
  have hB3 := hB2.trans (hb.mono hB2.size)
  clear hX2 hB2 hb cG
  cases g
  case true =>
    clear hg
    go_wp2
    go_ret
    exact ⟨rfl, hB3⟩
  have hL := HLn.out (hg rfl).1
  clear hg HLn
  go_wp2_with (refine wpList_load_row (by rfl) 39 _ (by rfl) w.heap.size (by rfl) 39 _ (0, 0) _ hX3 Tryz.underlying39 (by rfl) infoMsg9 ?_)
  refine (cO _ (hA.below hB3) hL).mono ?_
  rintro e w4 ⟨y, rfl, hyd, hy, hyf, hb⟩
  have hX4 := hX3.below hb hX3.lt
  have hB4 := hB3.trans (hb.mono hB3.size)
  clear hX3 hB3 hb
  have cE := msgEncode_any y w4 hy (hNy y hyd)
  rw [hyd, ← hxd.out] at cE
  obtain ⟨er, her⟩ : ∃ n : Nat, n = chkM xd := ⟨_, rfl⟩
  have HE : Hid (encMB xd = if er = 0 then ⟨(encM xd).toArray⟩ else ⟨#[]⟩) := by
    show _ = _
    rw [her]
    rfl
  have HK : Hid (er = 0 → ∃ n : Nat, (n : Int) = k ∧ getInt (encM xd) = (n, (enc n).length, 0) ∧ (encM xd).length ≤ 3300009) := fun h => by
    have h0 : chkM xd = 0 := by rw [← her]; exact h
    obtain ⟨n, h1, h2⟩ := kind_enc h0
    exact ⟨n, by rw [h1, hKd.out], h2, encM_len h0⟩
  rw [← her] at cE
  obtain ⟨ob, hob⟩ : ∃ o, o = encMB xd := ⟨_, rfl⟩
  rw [← hob] at cE HE
  clear hob her hyf
  have hyv := y.v
  generalize y.v = vy at cE ⊢
  clear hyv hy hyd y
  go_wp2_with fail
  refine cE.mono ?_
  rintro e w5 ⟨rfl, hb⟩
  have hX5 := hX4.below hb hX4.lt
  have hB5 := hB4.trans (hb.mono hB4.size)
  clear hX4 hB4 hb cE
  by_cases hz : er = 0
  case neg =>
    have ho : ob = ⟨#[]⟩ := by rw [HE.out, if_neg hz]
    have hz' : ((er : Int) != 0) = true := by rw [bne_iff_ne]; omega
    subst ho
    clear HE HK hz cO hNy hSy
    go_wp2
    go_ret
    exact ⟨rfl, hB5⟩
  subst hz
  obtain ⟨n, hnk, hgi, hlen⟩ := HK.out rfl
  have cGI : ∀ w1, Calls Tryz.prog 13 #[.string ob] w1 fun e w' => e = .returned (.tuple #[.int .i64 k, .int .i64 ((enc n).length : Int), .int .i64 0]) ∧ w' = w1 := fun w1 => by
    have ho : ob = ⟨(encM xd).toArray⟩ := by rw [HE.out, if_pos rfl]
    have := refGetInt_any ob w1 (by rw [ho, size_mk]; unfold maxLen; omega)
    rw [show ob.data.toList = encM xd by rw [ho], hgi] at this
    rw [← hnk]
    exact this
  generalize ((enc n).length : Int) = nl at cGI
  clear HE HK hgi hlen hnk
  go_wp2_with fail
  refine (cGI _).mono ?_
  rintro e w6 ⟨rfl, hw6⟩
  rw [← hw6] at hX5 hB5
  clear hw6 cGI
  go_wp2_with (refine wpList_load_row (by rfl) 39 _ (by rfl) w.heap.size (by rfl) 39 _ (0, 0) _ hX5 Tryz.underlying39 (by rfl) infoMsg9 ?_)
  refine (cO _ (hA.below hB5) hL).mono ?_
  rintro e w7 ⟨z, rfl, hzd, hz, hzf, hb⟩
  have hX7 := hX5.below hb hX5.lt
  have hB7 := hB5.trans (hb.mono hB5.size)
  have hnz := hNy z hzd
  have hsz := hSy z hzd
  clear hX5 hB5 hb cO hL hNy hSy hn hmx hS hxd hKd hzd hzf
  obtain ⟨zk, zdg, zvi, ztg, zba, zhe, zce, zbl, zq⟩ := z
  have hnu : MsgM.Num ⟨kd, zdg, zvi, ztg, zba, zhe, zce, zbl, zq⟩ := ⟨hnz.txs, hnz.keys, hnz.refs, hnz.ps, hnz.acks, hnz.crefs, hnz.cps, hnz.cacks, hnz.votes, hnz.bvotes, hnz.certs, hnz.qvotes⟩
  have hsu : ∀ t ∈ (MsgM.bat ⟨kd, zdg, zvi, ztg, zba, zhe, zce, zbl, zq⟩).txs, TxSizes t.d := hsz
  have hu : MsgM.At w7 ⟨kd, zdg, zvi, ztg, zba, zhe, zce, zbl, zq⟩ := ⟨hz.bat, hz.hdr, hz.cert, hz.blk, hz.qc⟩
  have cC := fun w1 h1 => msgCheck_any ⟨kd, zdg, zvi, ztg, zba, zhe, zce, zbl, zq⟩ w1 h1 hnu
  have cRC := fun w1 h1 => refMsgCheck_any ⟨kd, zdg, zvi, ztg, zba, zhe, zce, zbl, zq⟩ w1 h1 hnu hsu
  obtain ⟨eu, heu⟩ : ∃ n : Nat, n = chkM (MsgM.d ⟨kd, zdg, zvi, ztg, zba, zhe, zce, zbl, zq⟩) := ⟨_, rfl⟩
  have HU : Hid (¬ (1 ≤ kd ∧ kd ≤ 11) → eu = 5) := fun h => by
    rw [heu]
    unfold chkM
    rw [if_pos]
    exact fieldsK_none (k := kd) (by omega)
  rw [← heu] at cC cRC
  unfold MsgM.v MsgM.c at cC cRC ⊢
  simp only at cC cRC ⊢
  clear heu hnz hsz hnu hsu hz
  have hN0 := Arr.new w7 39 [.int .i64 0, .string ⟨#[]⟩, .int .i64 0, .int .i64 0, .string ⟨#[]⟩, .int .i64 0, .int .i64 0, .slice none 0 0, .int .i64 0, .int .i64 0, .slice none 0 0, .slice none 0 0, .int .i64 0, .int .i64 0, .slice none 0 0, .slice none 0 0, .slice none 0 0, .int .i64 0, .int .i64 0, .string ⟨#[]⟩, .slice none 0 0, .slice none 0 0, .int .i64 0, .string ⟨#[]⟩, .slice none 0 0]
  have hbn := belowNew w7 (.cells [.int .i64 0, .string ⟨#[]⟩, .int .i64 0, .int .i64 0, .string ⟨#[]⟩, .int .i64 0, .int .i64 0, .slice none 0 0, .int .i64 0, .int .i64 0, .slice none 0 0, .slice none 0 0, .int .i64 0, .int .i64 0, .slice none 0 0, .slice none 0 0, .slice none 0 0, .int .i64 0, .int .i64 0, .string ⟨#[]⟩, .slice none 0 0, .slice none 0 0, .int .i64 0, .string ⟨#[]⟩, .slice none 0 0].toArray 39)
  have h1 : (List.toArray (α := Value) [.int .i64 zk, .string zdg, .int .i64 zvi, .int .i64 ztg.who, .string ztg.mac, .int .i64 zba.author, .int .i64 zba.number, .slice zba.ta zba.txs.length zba.tc, .int .i64 zhe.author, .int .i64 zhe.round, .slice zhe.ra zhe.refs.length zhe.rc, .slice zhe.pa zhe.parents.length zhe.pc, .int .i64 zce.hdr.author, .int .i64 zce.hdr.round, .slice zce.hdr.ra zce.hdr.refs.length zce.hdr.rc, .slice zce.hdr.pa zce.hdr.parents.length zce.hdr.pc, .slice zce.va zce.votes.length zce.vc, .int .i64 zbl.view, .int .i64 zbl.qc.view, .string zbl.qc.block, .slice zbl.qc.va zbl.qc.votes.length zbl.qc.vc, .slice zbl.ca zbl.certs.length zbl.cc, .int .i64 zq.view, .string zq.block, .slice zq.va zq.votes.length zq.vc]).all (·.oneCell') = true := Array.all_eq_true_iff_forall_mem.2 (fun v hv => msgK.one ⟨zk, zdg, zvi, ztg, zba, zhe, zce, zbl, zq⟩ v (List.mem_toArray.1 hv))
  have kN := kept_row (w7.alloc (.cells [.int .i64 0, .string ⟨#[]⟩, .int .i64 0, .int .i64 0, .string ⟨#[]⟩, .int .i64 0, .int .i64 0, .slice none 0 0, .int .i64 0, .int .i64 0, .slice none 0 0, .slice none 0 0, .int .i64 0, .int .i64 0, .slice none 0 0, .slice none 0 0, .slice none 0 0, .int .i64 0, .int .i64 0, .string ⟨#[]⟩, .slice none 0 0, .slice none 0 0, .int .i64 0, .string ⟨#[]⟩, .slice none 0 0].toArray 39)) w7.heap.size [.int .i64 zk, .string zdg, .int .i64 zvi, .int .i64 ztg.who, .string ztg.mac, .int .i64 zba.author, .int .i64 zba.number, .slice zba.ta zba.txs.length zba.tc, .int .i64 zhe.author, .int .i64 zhe.round, .slice zhe.ra zhe.refs.length zhe.rc, .slice zhe.pa zhe.parents.length zhe.pc, .int .i64 zce.hdr.author, .int .i64 zce.hdr.round, .slice zce.hdr.ra zce.hdr.refs.length zce.hdr.rc, .slice zce.hdr.pa zce.hdr.parents.length zce.hdr.pc, .slice zce.va zce.votes.length zce.vc, .int .i64 zbl.view, .int .i64 zbl.qc.view, .string zbl.qc.block, .slice zbl.qc.va zbl.qc.votes.length zbl.qc.vc, .slice zbl.ca zbl.certs.length zbl.cc, .int .i64 zq.view, .string zq.block, .slice zq.va zq.votes.length zq.vc].toArray
  have hY0 := hN0.row [.int .i64 zk, .string zdg, .int .i64 zvi, .int .i64 ztg.who, .string ztg.mac, .int .i64 zba.author, .int .i64 zba.number, .slice zba.ta zba.txs.length zba.tc, .int .i64 zhe.author, .int .i64 zhe.round, .slice zhe.ra zhe.refs.length zhe.rc, .slice zhe.pa zhe.parents.length zhe.pc, .int .i64 zce.hdr.author, .int .i64 zce.hdr.round, .slice zce.hdr.ra zce.hdr.refs.length zce.hdr.rc, .slice zce.hdr.pa zce.hdr.parents.length zce.hdr.pc, .slice zce.va zce.votes.length zce.vc, .int .i64 zbl.view, .int .i64 zbl.qc.view, .string zbl.qc.block, .slice zbl.qc.va zbl.qc.votes.length zbl.qc.vc, .slice zbl.ca zbl.certs.length zbl.cc, .int .i64 zq.view, .string zq.block, .slice zq.va zq.votes.length zq.vc]
  have hX8 := (hX7.below hbn hX7.lt).kept kN (by have := hX7.lt; omega)
  have hbS := below_setRow hbn (g := w7.heap.size) (Nat.le_refl _) [.int .i64 zk, .string zdg, .int .i64 zvi, .int .i64 ztg.who, .string ztg.mac, .int .i64 zba.author, .int .i64 zba.number, .slice zba.ta zba.txs.length zba.tc, .int .i64 zhe.author, .int .i64 zhe.round, .slice zhe.ra zhe.refs.length zhe.rc, .slice zhe.pa zhe.parents.length zhe.pc, .int .i64 zce.hdr.author, .int .i64 zce.hdr.round, .slice zce.hdr.ra zce.hdr.refs.length zce.hdr.rc, .slice zce.hdr.pa zce.hdr.parents.length zce.hdr.pc, .slice zce.va zce.votes.length zce.vc, .int .i64 zbl.view, .int .i64 zbl.qc.view, .string zbl.qc.block, .slice zbl.qc.va zbl.qc.votes.length zbl.qc.vc, .slice zbl.ca zbl.certs.length zbl.cc, .int .i64 zq.view, .string zq.block, .slice zq.va zq.votes.length zq.vc].toArray
  have y0 := hY0.cell (i := 0) rfl
  have f0 := hY0.frozen 0
  have hY1 := hY0.set 0 (.int .i64 kd)
  have hb1 := hbS.setCell (p := ⟨w7.heap.size, 0, none⟩) (Nat.le_refl _) (.int .i64 kd)
  have hX9 := hX8.kept ((Kept.refl (fun j => j = w7.heap.size) _).set (p := ⟨w7.heap.size, 0, none⟩) rfl (.int .i64 kd)) (by have := hX7.lt; omega)
  replace hY1 : Arr _ w7.heap.size 39 [.int .i64 kd, .string zdg, .int .i64 zvi, .int .i64 ztg.who, .string ztg.mac, .int .i64 zba.author, .int .i64 zba.number, .slice zba.ta zba.txs.length zba.tc, .int .i64 zhe.author, .int .i64 zhe.round, .slice zhe.ra zhe.refs.length zhe.rc, .slice zhe.pa zhe.parents.length zhe.pc, .int .i64 zce.hdr.author, .int .i64 zce.hdr.round, .slice zce.hdr.ra zce.hdr.refs.length zce.hdr.rc, .slice zce.hdr.pa zce.hdr.parents.length zce.hdr.pc, .slice zce.va zce.votes.length zce.vc, .int .i64 zbl.view, .int .i64 zbl.qc.view, .string zbl.qc.block, .slice zbl.qc.va zbl.qc.votes.length zbl.qc.vc, .slice zbl.ca zbl.certs.length zbl.cc, .int .i64 zq.view, .string zq.block, .slice zq.va zq.votes.length zq.vc] := hY1
  have hu9 := hu.below hb1
  have hB9 := hB7.trans (hb1.mono hB7.size)
  clear hbn kN hbS hX7 hB7 hX8 hu hb1
  go_wp2_with (first | refine wpList_load_row (by rfl) 39 _ (by rfl) w7.heap.size (by rfl) 39 _ (0, 0) _ hY1 Tryz.underlying39 (by rfl) infoMsg9 ?_ | refine wpList_store_row (by rfl) 39 _ _ (by rfl) w7.heap.size [.int .i64 zk, .string zdg, .int .i64 zvi, .int .i64 ztg.who, .string ztg.mac, .int .i64 zba.author, .int .i64 zba.number, .slice zba.ta zba.txs.length zba.tc, .int .i64 zhe.author, .int .i64 zhe.round, .slice zhe.ra zhe.refs.length zhe.rc, .slice zhe.pa zhe.parents.length zhe.pc, .int .i64 zce.hdr.author, .int .i64 zce.hdr.round, .slice zce.hdr.ra zce.hdr.refs.length zce.hdr.rc, .slice zce.hdr.pa zce.hdr.parents.length zce.hdr.pc, .slice zce.va zce.votes.length zce.vc, .int .i64 zbl.view, .int .i64 zbl.qc.view, .string zbl.qc.block, .slice zbl.qc.va zbl.qc.votes.length zbl.qc.vc, .slice zbl.ca zbl.certs.length zbl.cc, .int .i64 zq.view, .string zq.block, .slice zq.va zq.votes.length zq.vc].toArray (by rfl) (by rfl) 39 _ hN0 infoMsg9 (by rfl) h1 ?_)
  refine (cC _ hu9).mono ?_
  rintro e w10 ⟨rfl, hb⟩
  have hX10 := hX9.below hb hX9.lt
  have hY10 := hY1.below hb hY1.lt
  have hB10 := hB9.trans (hb.mono hB9.size)
  have hu10 := hu9.below hb
  clear hX9 hY1 hB9 hb hu9 cC hN0 h1 hY0 y0 f0
  have x0 := hX10.cell (i := 0) rfl
  by_cases hk1 : 1 ≤ kd
  · by_cases hk2 : kd ≤ 11
    · clear HU
      go_wp2_with (refine wpList_load_rowG (by rfl) 39 _ (by rfl) w7.heap.size (by rfl) 39 _ (0, 0) _ hY10 Tryz.underlying39 (by rfl) infoMsg9 ?_)
      refine (cRC _ hu10).mono ?_
      rintro e w11 ⟨rfl, hb⟩
      have hB11 := hB10.trans (hb.mono hB10.size)
      clear hX10 hY10 hB10 hb hu10 cRC x0
      go_wp2
      go_ret
      exact ⟨rfl, hB11⟩
    · have h5 : eu = 5 := HU.out (by omega)
      subst h5
      clear HU
      go_wp2_with (refine wpList_load_rowG (by rfl) 39 _ (by rfl) w7.heap.size (by rfl) 39 _ (0, 0) _ hY10 Tryz.underlying39 (by rfl) infoMsg9 ?_)
      refine (cRC _ hu10).mono ?_
      rintro e w11 ⟨rfl, hb⟩
      have hB11 := hB10.trans (hb.mono hB10.size)
      clear hX10 hY10 hB10 hb hu10 cRC x0
      go_wp2
      go_ret
      exact ⟨rfl, hB11⟩
  · have h5 : eu = 5 := HU.out (by omega)
    subst h5
    clear HU
    go_wp2_with (refine wpList_load_rowG (by rfl) 39 _ (by rfl) w7.heap.size (by rfl) 39 _ (0, 0) _ hY10 Tryz.underlying39 (by rfl) infoMsg9 ?_)
    refine (cRC _ hu10).mono ?_
    rintro e w11 ⟨rfl, hb⟩
    have hB11 := hB10.trans (hb.mono hB10.size)
    clear hX10 hY10 hB10 hb hu10 cRC x0
    go_wp2
    go_ret
    exact ⟨rfl, hB11⟩
end Go.Proofs.YtmngiekobmhpaaaGreat
