/- MsgChecks: for every input the statement answers true, and each argument reads afterwards as it read before. No condition. -/
import Derived.Test.YtmngiekobmhpaaaPk11
import Derived.Test.YtmngiekobmhpaaaPk12
import Derived.Test.YtmngiekobmhpaaaPk22
import Derived.Test.YtmngiekobmhpaaaPk09
import Derived.Test.YtmngiekobmhpaaaPk16
import Derived.Test.YtmngiekobmhpaaaPk14
import Derived.Test.YtmngiekobmhpaaaPk21
import Derived.Test.YtmngiekobmhpaaaPk02
/- How a block that came in is opened; its sizes; its bulk. -/
namespace Go.Proofs.Ytmngiekobmhpaaa
open Go.ChangeShapes Go.WideShapes Go.ChangeAt Go.RowKit Go.Joins Go.Deep
set_option linter.unusedVariables false

theorem list3x {α : Type} {l : List α} (h : l.length = 3) : ∃ c0 c1 c2, l = [c0, c1, c2] := by
  match l, h with
  | [c0, c1, c2], _ => exact ⟨c0, c1, c2, rfl⟩

theorem list5y {α : Type} {l : List α} (h : l.length = 5) : ∃ c0 c1 c2 c3 c4, l = [c0, c1, c2, c3, c4] := by
  match l, h with
  | [c0, c1, c2, c3, c4], _ => exact ⟨c0, c1, c2, c3, c4, rfl⟩

theorem cellsQc8 : Try.prog.cellsOf 35 = 3 := by kernel_rfl
theorem cellsBlk8 : Try.prog.cellsOf 37 = 5 := by kernel_rfl

/-- How a Qc reads. -/
def QcQ {H : Type} (d : DataW H) (x : QcM) : Prop := ∃ y0 y1 y2, d = .agg [y0, y1, y2] ∧ StrQ y1 x.block ∧ RowD TagQ y2 x.votes

/-- How a block reads. -/
def BlkQ {H : Type} (d : DataW H) (x : BlkM) : Prop := ∃ y0 y1 y2, d = .agg [y0, y1, y2] ∧ QcQ y1 x.qc ∧ RowD StrQ y2 x.certs

/-- A row's length is within its capacity. -/
theorem row_cap {H : Type} {enc : TypeId × Value → H} {W : World} {T E : TypeId} (hT : Try.prog.underlying T = some (.slice E))
    {fuel : Nat} {a : Option Addr} {len cap : Nat} {y : DataW H × List MemPlace} (hf : DataW.trod enc Try.prog W 0 (fun _ => true) true fuel T [.slice a len cap] = some y) : len ≤ cap := by
  rcases open_slice hT hf with ⟨hcs, hx⟩ | ⟨x, l, c, m, n, D, Pl, hcs, _, hl, hm, hmm, hx, hc⟩
  · simp at hcs
    omega
  · simp at hcs
    omega

set_option maxRecDepth 100000 in
theorem open_qc_cells {H : Type} {enc : TypeId × Value → H} {W : World} {fuel : Nat} {cs : List Value} {y : DataW H × List MemPlace}
    (hf : DataW.trod enc Try.prog W 0 (fun _ => true) true fuel 35 cs = some y) : ∃ x : QcM, cs = qcK.c x ∧ qcK.At W x ∧ QcQ y.1 x := by
  obtain ⟨xs, n, _, hx, hcl, hl, hg⟩ := DataW.trod_struct Try.underlying35 hf
  obtain ⟨c0, c1, c2, rfl⟩ := list3x (hcl.trans cellsQc8)
  obtain ⟨y0, y1, y2, rfl⟩ := list3x hl
  have g0 := hg 0 _ rfl
  have g1 := hg 1 _ rfl
  have g2 := hg 2 _ rfl
  simp [cellsInt6, cellsStr6, cellsTags6] at g0 g1 g2
  obtain ⟨a0, e0, _, _⟩ := DataW.trod_int Try.underlying3 g0
  obtain ⟨a1, e1, hy1, s1⟩ := DataW.trod_string Try.underlying9 g1
  obtain ⟨va, vlen, vc, e2⟩ := slice_form Try.underlying31 g2
  simp at e0 e1 e2
  subst e0 e1 e2
  obtain ⟨l, rfl, l1, l2, l3, l4⟩ := open_tagsK g2
  refine ⟨⟨a0, a1, va, l, vc⟩, rfl, ⟨l1, l2⟩, y0.1, y1.1, y2.1, ?_, ⟨by rw [hy1], s1⟩, l4⟩
  have := congrArg Prod.fst hx
  simpa using this

set_option maxRecDepth 100000 in
theorem open_blk_cells {H : Type} {enc : TypeId × Value → H} {W : World} {fuel : Nat} {cs : List Value} {y : DataW H × List MemPlace}
    (hf : DataW.trod enc Try.prog W 0 (fun _ => true) true fuel 37 cs = some y) : ∃ x : BlkM, cs = blkK.c x ∧ blkK.At W x ∧ BlkQ y.1 x ∧ x.certs.length ≤ x.cc := by
  obtain ⟨xs, n, _, hx, hcl, hl, hg⟩ := DataW.trod_struct Try.underlying37 hf
  obtain ⟨c0, c1, c2, c3, c4, rfl⟩ := list5y (hcl.trans cellsBlk8)
  obtain ⟨y0, y1, y2, rfl⟩ := list3x hl
  have g0 := hg 0 _ rfl
  have g1 := hg 1 _ rfl
  have g2 := hg 2 _ rfl
  simp [cellsInt6, cellsQc8, cellsStrs6] at g0 g1 g2
  obtain ⟨a0, e0, _, _⟩ := DataW.trod_int Try.underlying3 g0
  obtain ⟨q, e1, hat, hq⟩ := open_qc_cells g1
  obtain ⟨ca, clen, cc, e2⟩ := slice_form Try.underlying28 g2
  have e1' : [c1, c2, c3] = [.int .i64 q.view, .string q.block, .slice q.va q.votes.length q.vc] := e1
  simp at e0 e1' e2
  obtain ⟨rfl, rfl, rfl⟩ := e1'
  subst e0 e2
  have hcap := row_cap Try.underlying28 g2
  obtain ⟨l, rfl, l1, l2, l3, l4⟩ := open_row strK StrQ Try.underlying28 cellsStr6 open_str_cells g2
  refine ⟨⟨a0, q, ca, l, cc⟩, rfl, ⟨hat, l1, l2⟩, ⟨y0.1, y1.1, y2.1, ?_, hq, l4⟩, hcap⟩
  have := congrArg Prod.fst hx
  simpa using this

set_option maxRecDepth 100000 in
theorem open_blk {H : Type} {enc : TypeId × Value → H} {W : World} {r : Reach} {b0 : Nat} {v : Value} {d : DataW H} {p : List MemPlace} (hv : Value.okWide Try.prog W r b0 37 v)
    (h : DataW.Trod enc Try.prog W 0 (fun _ => true) true 37 v d p) : ∃ x : BlkM, v = x.v ∧ x.At W ∧ BlkQ d x ∧ x.certs.length ≤ x.cc := by
  obtain ⟨cs, rfl, hsz⟩ := okWide_struct Try.underlying37 hv
  obtain ⟨fuel, hf⟩ := h
  have hc : (Value.agg cs).cells.toList = cs.toList := by simp [Value.cells]
  obtain ⟨x, e, hx, hq⟩ := open_blk_cells hf
  refine ⟨x, ?_, hx, hq⟩
  have e' : cs.toList = x.c := by rw [← hc]; exact e
  have : cs = x.c.toArray := by rw [← e']
  rw [this]
  rfl

/-- A block's lists, in sizes that a machine holds. -/
structure BlkM.Lens (x : BlkM) : Prop where
  votes : x.qc.votes.length * 24 ≤ 140737488351232
  certs : x.certs.length * 16 ≤ 140737488351232
  blk : x.qc.block.size ≤ 140737488351232

set_option maxRecDepth 100000 in
theorem qc_fit {H : Type} {d : DataW H} {x : QcM} (h : QcQ d x) (hw : ∀ n ∈ d.weights Try.prog 35, n ≤ reachBytes) : x.votes.length * 24 ≤ 140737488351232 ∧ x.block.size ≤ 140737488351232 := by
  obtain ⟨y0, y1, y2, rfl, h1, h2⟩ := h
  have f2 := (h2.fit Try.underlying31 (fun n hn => hw n (by
    rw [DataW.weights, Try.underlying35]
    exact DataW.weights_mem_each (ts := [3, 9, 31]) (j := 2) rfl rfl n hn))).1
  have f1 := h1.fit (t := 9) (fun n hn => hw n (by
    rw [DataW.weights, Try.underlying35]
    exact DataW.weights_mem_each (ts := [3, 9, 31]) (j := 1) rfl rfl n hn))
  rw [bytesTag6] at f2
  exact ⟨by simpa [reachBytes] using f2, f1⟩

set_option maxRecDepth 100000 in
theorem blk_fit {H : Type} {d : DataW H} {x : BlkM} (h : BlkQ d x) (hw : ∀ n ∈ d.weights Try.prog 37, n ≤ reachBytes) : x.Lens := by
  obtain ⟨y0, y1, y2, rfl, h1, h2⟩ := h
  obtain ⟨f1, f2⟩ := qc_fit h1 (fun n hn => hw n (by
    rw [DataW.weights, Try.underlying37]
    exact DataW.weights_mem_each (ts := [3, 35, 28]) (j := 1) rfl rfl n hn))
  have g1 := (h2.fit Try.underlying28 (fun n hn => hw n (by
    rw [DataW.weights, Try.underlying37]
    exact DataW.weights_mem_each (ts := [3, 35, 28]) (j := 2) rfl rfl n hn))).1
  rw [bytesStr6] at g1
  exact ⟨f1, by simpa [reachBytes] using g1, f2⟩

/-- A block that came in: in sizes that a machine holds. -/
theorem blk_sized {H : Type} {ts : List TypeId} {ds : List (DataW H)} (h : (DataW.weightsEach Try.prog ts ds).all (· ≤ reachBytes) = true) {j : Nat} {d : DataW H} {x : BlkM} (ht : ts[j]? = some 37) (hd : ds[j]? = some d) (hs : BlkQ d x) : x.Lens := blk_fit hs (weights_of h ht hd)

/-- What the bound of the second form gives of a block. -/
theorem blk_bulk {H : Type} {d : DataW H} {x : BlkM} (h : BlkQ d x) (hk : Rows.uptoBulk d ≤ 1048576) : x.Lens ∧ x.Enc ∧ (encK x.d).length ≤ 1073741824 := by
  obtain ⟨y0, y1, y2, rfl, ⟨q0, q1, q2, rfl, h1, h2⟩, h3⟩ := h
  have p1 := h1.bulk
  have p2 := h2.bulk tagQ_bulk
  have p3 := h3.bulk StrQ.bulk
  simp only [Rows.uptoBulk, Rows.uptoBulkAll] at hk
  have b2 : tagsBulk x.qc.votes ≤ 1048576 := by unfold tagsBulk; omega
  have b3 : strsBulk x.certs ≤ 1048576 := by unfold strsBulk; omega
  have l2 := tagsBulk_len x.qc.votes
  have l3 := strsBulk_length x.certs
  have m2 := tagsB_len_le x.qc.votes
  have m3 := lst_bulk x.certs
  have g0 := goInt_length x.view
  have g1 := goInt_length x.qc.view
  have t1 := txt_len_le x.qc.block.data.toList
  have t2 : x.qc.block.data.toList.length = x.qc.block.size := by simp
  have t3 := txt_len_le (encQ x.qc.d)
  have eq : (encQ x.qc.d).length = (goInt x.qc.view).length + (txt x.qc.block.data.toList).length + (tagsB x.qc.votes).length := by
    show (goInt x.qc.view ++ txt x.qc.block.data.toList ++ tagsB x.qc.votes).length = _
    simp only [List.length_append]
  have ek : (encK x.d).length = (goInt x.view).length + (txt (encQ x.qc.d)).length + (lst (bl x.certs)).length := by
    show (goInt x.view ++ txt (encQ x.qc.d) ++ lst (bl x.certs)).length = _
    simp only [List.length_append]
  exact ⟨⟨by omega, by omega, by omega⟩, ⟨⟨by omega, by omega, fun t ht => by have := tagsBulk_mem ht; omega, by omega⟩, by omega, by omega⟩, by omega⟩
end Go.Proofs.Ytmngiekobmhpaaa

/- How a message that came in is opened; its sizes. -/
namespace Go.Proofs.Ytmngiekobmhpaaa
open Go.ChangeShapes Go.WideShapes Go.ChangeAt Go.RowKit Go.Joins Go.Deep
set_option linter.unusedVariables false

theorem list9m {α : Type} {l : List α} (h : l.length = 9) : ∃ y0 y1 y2 y3 y4 y5 y6 y7 y8, l = [y0, y1, y2, y3, y4, y5, y6, y7, y8] := by
  match l, h with
  | [y0, y1, y2, y3, y4, y5, y6, y7, y8], _ => exact ⟨y0, y1, y2, y3, y4, y5, y6, y7, y8, rfl⟩

theorem list25 {α : Type} {l : List α} (h : l.length = 25) : ∃ c0 c1 c2 c3 c4 c5 c6 c7 c8 c9 c10 c11 c12 c13 c14 c15 c16 c17 c18 c19 c20 c21 c22 c23 c24, l = [c0, c1, c2, c3, c4, c5, c6, c7, c8, c9, c10, c11, c12, c13, c14, c15, c16, c17, c18, c19, c20, c21, c22, c23, c24] := by
  match l, h with
  | [c0, c1, c2, c3, c4, c5, c6, c7, c8, c9, c10, c11, c12, c13, c14, c15, c16, c17, c18, c19, c20, c21, c22, c23, c24], _ => exact ⟨c0, c1, c2, c3, c4, c5, c6, c7, c8, c9, c10, c11, c12, c13, c14, c15, c16, c17, c18, c19, c20, c21, c22, c23, c24, rfl⟩

theorem cellsMsg9 : Try.prog.cellsOf 39 = 25 := by kernel_rfl

/-- How a message reads. -/
def MsgQ {H : Type} (d : DataW H) (x : MsgM) : Prop := ∃ y0 y1 y2 y3 y4 y5 y6 y7 y8, d = .agg [y0, y1, y2, y3, y4, y5, y6, y7, y8] ∧ BatDatum y4 x.bat.txs ∧ HdrQ y5 x.hdr ∧ CertQ y6 x.cert ∧ BlkQ y7 x.blk ∧ QcQ y8 x.qc

set_option maxRecDepth 100000 in
theorem open_bat_cells {H : Type} {enc : TypeId × Value → H} {W : World} {fuel : Nat} {cs : List Value} {y : DataW H × List MemPlace}
    (hf : DataW.trod enc Try.prog W 0 (fun _ => true) true fuel 26 cs = some y) : ∃ x : BatM, cs = batK.c x ∧ batK.At W x ∧ BatDatum y.1 x.txs ∧ (∀ t ∈ x.txs, TxSizes t.d) ∧ x.txs.length ≤ maxLen := by
  obtain ⟨xs, n, _, hx, hcl, hl, hg⟩ := DataW.trod_struct Try.underlying26 hf
  obtain ⟨c0, c1, c2, rfl⟩ := list3 (hcl.trans cellsBat)
  obtain ⟨y0, y1, y2, rfl⟩ := list3 hl
  have g0 := hg 0 _ rfl
  have g1 := hg 1 _ rfl
  have g2 := hg 2 _ rfl
  have kS : Try.prog.cellsOf 24 = 1 := by kernel_rfl
  simp [cellsInt6, kS] at g0 g1 g2
  obtain ⟨a0, e0, _, _⟩ := DataW.trod_int Try.underlying3 g0
  obtain ⟨a1, e1, _, _⟩ := DataW.trod_int Try.underlying3 g1
  obtain ⟨ao, len, cap, e2⟩ := slice_form Try.underlying24 g2
  simp at e0 e1 e2
  subst e0 e1 e2
  obtain ⟨l, rfl, l1, l2, l3, l4, l5⟩ := open_txs g2
  refine ⟨⟨a0, a1, ao, l, cap⟩, rfl, ⟨l1.rows, l3⟩, ⟨y0.1, y1.1, y2.1, ?_, l5⟩, l2, l4⟩
  have := congrArg Prod.fst hx
  simpa using this

set_option maxRecDepth 100000 in
set_option maxHeartbeats 2000000 in
theorem open_msg_cells {H : Type} {enc : TypeId × Value → H} {W : World} {fuel : Nat} {cs : List Value} {y : DataW H × List MemPlace}
    (hf : DataW.trod enc Try.prog W 0 (fun _ => true) true fuel 39 cs = some y) : ∃ x : MsgM, cs = msgK.c x ∧ msgK.At W x ∧ MsgQ y.1 x ∧ (∀ t ∈ x.bat.txs, TxSizes t.d) ∧ x.bat.txs.length ≤ maxLen ∧ (Lit.int .i64 x.kind).wf = true := by
  obtain ⟨xs, n, _, hx, hcl, hl, hg⟩ := DataW.trod_struct Try.underlying39 hf
  obtain ⟨c0, c1, c2, c3, c4, c5, c6, c7, c8, c9, c10, c11, c12, c13, c14, c15, c16, c17, c18, c19, c20, c21, c22, c23, c24, rfl⟩ := list25 (hcl.trans cellsMsg9)
  obtain ⟨y0, y1, y2, y3, y4, y5, y6, y7, y8, rfl⟩ := list9m hl
  have g0 := hg 0 _ rfl
  have g1 := hg 1 _ rfl
  have g2 := hg 2 _ rfl
  have g3 := hg 3 _ rfl
  have g4 := hg 4 _ rfl
  have g5 := hg 5 _ rfl
  have g6 := hg 6 _ rfl
  have g7 := hg 7 _ rfl
  have g8 := hg 8 _ rfl
  simp [cellsInt6, cellsStr6, cellsTag6, cellsBat, cellsHdr6, cellsCert7, cellsBlk8, cellsQc8] at g0 g1 g2 g3 g4 g5 g6 g7 g8
  obtain ⟨a0, e0, _, w0⟩ := DataW.trod_int Try.underlying3 g0
  obtain ⟨a1, e1, _, _⟩ := DataW.trod_string Try.underlying9 g1
  obtain ⟨a2, e2, _, _⟩ := DataW.trod_int Try.underlying3 g2
  obtain ⟨t, e3, _, _⟩ := open_tag_cells g3
  obtain ⟨b, e4, at4, q4, z4, l4⟩ := open_bat_cells g4
  obtain ⟨h, e5, at5, q5⟩ := open_hdr_cells g5
  obtain ⟨c, e6, at6, q6⟩ := open_cert_cells g6
  obtain ⟨k, e7, at7, q7, _⟩ := open_blk_cells g7
  obtain ⟨q, e8, at8, q8⟩ := open_qc_cells g8
  have e3' : [c3, c4] = [.int .i64 t.who, .string t.mac] := e3
  have e4' : [c5, c6, c7] = [.int .i64 b.author, .int .i64 b.number, .slice b.ta b.txs.length b.tc] := e4
  have e5' : [c8, c9, c10, c11] = [.int .i64 h.author, .int .i64 h.round, .slice h.ra h.refs.length h.rc, .slice h.pa h.parents.length h.pc] := e5
  have e6' : [c12, c13, c14, c15, c16] = [.int .i64 c.hdr.author, .int .i64 c.hdr.round, .slice c.hdr.ra c.hdr.refs.length c.hdr.rc, .slice c.hdr.pa c.hdr.parents.length c.hdr.pc, .slice c.va c.votes.length c.vc] := e6
  have e7' : [c17, c18, c19, c20, c21] = [.int .i64 k.view, .int .i64 k.qc.view, .string k.qc.block, .slice k.qc.va k.qc.votes.length k.qc.vc, .slice k.ca k.certs.length k.cc] := e7
  have e8' : [c22, c23, c24] = [.int .i64 q.view, .string q.block, .slice q.va q.votes.length q.vc] := e8
  simp at e0 e1 e2 e3' e4' e5' e6' e7' e8'
  obtain ⟨rfl, rfl⟩ := e3'
  obtain ⟨rfl, rfl, rfl⟩ := e4'
  obtain ⟨rfl, rfl, rfl, rfl⟩ := e5'
  obtain ⟨rfl, rfl, rfl, rfl, rfl⟩ := e6'
  obtain ⟨rfl, rfl, rfl, rfl, rfl⟩ := e7'
  obtain ⟨rfl, rfl, rfl⟩ := e8'
  subst e0 e1 e2
  refine ⟨⟨a0, a1, a2, t, b, h, c, k, q⟩, rfl, ⟨at4, at5, at6, at7, at8⟩, ⟨y0.1, y1.1, y2.1, y3.1, y4.1, y5.1, y6.1, y7.1, y8.1, ?_, q4, q5, q6, q7, q8⟩, z4, l4, w0⟩
  have := congrArg Prod.fst hx
  simpa using this

set_option maxRecDepth 100000 in
theorem open_msg {H : Type} {enc : TypeId × Value → H} {W : World} {r : Reach} {b0 : Nat} {v : Value} {d : DataW H} {p : List MemPlace} (hv : Value.okWide Try.prog W r b0 39 v)
    (h : DataW.Trod enc Try.prog W 0 (fun _ => true) true 39 v d p) : ∃ x : MsgM, v = x.v ∧ x.At W ∧ MsgQ d x ∧ (∀ t ∈ x.bat.txs, TxSizes t.d) ∧ x.bat.txs.length ≤ maxLen ∧ (Lit.int .i64 x.kind).wf = true := by
  obtain ⟨cs, rfl, hsz⟩ := okWide_struct Try.underlying39 hv
  obtain ⟨fuel, hf⟩ := h
  have hc : (Value.agg cs).cells.toList = cs.toList := by simp [Value.cells]
  obtain ⟨x, e, hx, hq⟩ := open_msg_cells hf
  refine ⟨x, ?_, hx, hq⟩
  have e' : cs.toList = x.c := by rw [← hc]; exact e
  have : cs = x.c.toArray := by rw [← e']
  rw [this]
  rfl

/-- A message that came in: in sizes that a machine holds. -/
structure MsgM.In (x : MsgM) : Prop where
  txs : x.bat.txs.length * 136 ≤ 140737488351232
  txz : ∀ t ∈ x.bat.txs, TxSizes t.d
  txl : ∀ t ∈ x.bat.txs, TxLens t.d
  hdr : x.hdr.Lens
  cert : x.cert.hdr.Lens
  votes : x.cert.votes.length * 24 ≤ 140737488351232
  bvotes : x.blk.qc.votes.length * 24 ≤ 140737488351232
  certs : x.blk.certs.length * 16 ≤ 140737488351232
  qvotes : x.qc.votes.length * 24 ≤ 140737488351232

set_option maxRecDepth 100000 in
theorem cert_fit9 {H : Type} {d : DataW H} {x : CertM} (h : CertQ d x) (hw : ∀ n ∈ d.weights Try.prog 33, n ≤ reachBytes) : x.hdr.Lens ∧ x.votes.length * 24 ≤ 140737488351232 := by
  obtain ⟨y0, y1, rfl, h1, h2⟩ := h
  have f1 := hdr_fit h1 (fun n hn => hw n (by
    rw [DataW.weights, Try.underlying33]
    exact DataW.weights_mem_each (ts := [30, 31]) (j := 0) rfl rfl n hn))
  have f2 := (h2.fit Try.underlying31 (fun n hn => hw n (by
    rw [DataW.weights, Try.underlying33]
    exact DataW.weights_mem_each (ts := [30, 31]) (j := 1) rfl rfl n hn))).1
  rw [bytesTag6] at f2
  exact ⟨f1, by simpa [reachBytes] using f2⟩

set_option maxRecDepth 100000 in
theorem bat_len9 {H : Type} {d : DataW H} {l : List TxM} (h : ∀ n ∈ d.weights Try.prog 26, n ≤ reachBytes) (hs : BatDatum d l) : l.length * 136 ≤ 140737488351232 := by
  obtain ⟨y0, y1, y2, rfl, hq⟩ := hs
  have hw : ∀ n ∈ y2.weights Try.prog 24, n ≤ reachBytes := fun n hn => h n (by
    rw [DataW.weights, Try.underlying26]
    exact DataW.weights_mem_each (ts := [3, 3, 24]) (j := 2) rfl rfl n hn)
  rcases hq with ⟨rfl, rfl⟩ | ⟨ds, rest, rfl, hl, _⟩
  · simp
  · have hb : Try.prog.bytesOf 96 = 136 := by kernel_rfl
    have := hw ((ds.length + rest.length) * Try.prog.bytesOf 96) (by simp [DataW.weights, Try.underlying24])
    rw [hb] at this
    unfold reachBytes at this
    rw [← hl]
    omega

set_option maxRecDepth 100000 in
theorem msg_fit {H : Type} {d : DataW H} {x : MsgM} (h : MsgQ d x) (hz : ∀ t ∈ x.bat.txs, TxSizes t.d) (hl : x.bat.txs.length ≤ maxLen) (hw : ∀ n ∈ d.weights Try.prog 39, n ≤ reachBytes) : x.In := by
  obtain ⟨y0, y1, y2, y3, y4, y5, y6, y7, y8, rfl, q4, q5, q6, q7, q8⟩ := h
  have f4 := bat_fit (fun n hn => hw n (by
    rw [DataW.weights, Try.underlying39]
    exact DataW.weights_mem_each (ts := [3, 9, 3, 23, 26, 30, 33, 37, 35]) (j := 4) rfl rfl n hn)) q4
  have l4 := bat_len9 (fun n hn => hw n (by
    rw [DataW.weights, Try.underlying39]
    exact DataW.weights_mem_each (ts := [3, 9, 3, 23, 26, 30, 33, 37, 35]) (j := 4) rfl rfl n hn)) q4
  have f5 := hdr_fit q5 (fun n hn => hw n (by
    rw [DataW.weights, Try.underlying39]
    exact DataW.weights_mem_each (ts := [3, 9, 3, 23, 26, 30, 33, 37, 35]) (j := 5) rfl rfl n hn))
  have f6 := cert_fit9 q6 (fun n hn => hw n (by
    rw [DataW.weights, Try.underlying39]
    exact DataW.weights_mem_each (ts := [3, 9, 3, 23, 26, 30, 33, 37, 35]) (j := 6) rfl rfl n hn))
  have f7 := blk_fit q7 (fun n hn => hw n (by
    rw [DataW.weights, Try.underlying39]
    exact DataW.weights_mem_each (ts := [3, 9, 3, 23, 26, 30, 33, 37, 35]) (j := 7) rfl rfl n hn))
  have f8 := qc_fit q8 (fun n hn => hw n (by
    rw [DataW.weights, Try.underlying39]
    exact DataW.weights_mem_each (ts := [3, 9, 3, 23, 26, 30, 33, 37, 35]) (j := 8) rfl rfl n hn))
  exact ⟨l4, hz, f4, f5, f6.1, f6.2, f7.votes, f7.certs, f8.1⟩

theorem msg_sized {H : Type} {ts : List TypeId} {ds : List (DataW H)} (h : (DataW.weightsEach Try.prog ts ds).all (· ≤ reachBytes) = true) {j : Nat} {d : DataW H} {x : MsgM} (ht : ts[j]? = some 39) (hd : ds[j]? = some d) (hs : MsgQ d x) (hz : ∀ t ∈ x.bat.txs, TxSizes t.d) (hl : x.bat.txs.length ≤ maxLen) : x.In := msg_fit hs hz hl (weights_of h ht hd)

theorem MsgM.In.num {x : MsgM} (h : x.In) : x.Num := by
  have h1 := h.txs
  have h2 := h.hdr.n
  have h3 := h.hdr.p
  have h4 := h.cert.n
  have h5 := h.cert.p
  have h6 := h.votes
  have h7 := h.bvotes
  have h8 := h.certs
  have h9 := h.qvotes
  exact ⟨by omega, fun t ht => by have := h.txl t ht; unfold TxLens at this; omega, by omega, by omega, fun r hr => by have := h.hdr.acks r hr; omega, by omega, by omega, fun r hr => by have := h.cert.acks r hr; omega, by omega, by omega, by omega, by omega⟩

theorem MsgM.In.max {x : MsgM} (h : x.In) : x.Max := by
  have h1 := h.txs
  have h2 := h.hdr.n
  have h3 := h.hdr.p
  have h4 := h.cert.n
  have h5 := h.cert.p
  have h8 := h.certs
  refine ⟨?_, ?_, ?_, ?_, ?_, ?_⟩ <;> (unfold maxLen; omega)

theorem MsgM.In.lens {x : MsgM} (h : x.In) (ht : x.bat.txs.length ≤ 50) : x.Lens := ⟨by omega, h.txl, h.hdr, h.cert, h.votes, h.bvotes, h.certs, h.qvotes⟩
end Go.Proofs.Ytmngiekobmhpaaa

/- tusklaw09.MsgChecks answers true; nothing old in memory is turned. -/
namespace Go.Proofs.Ytmngiekobmhpaaa
open Go.RowKit Go.Sort
set_option linter.unusedVariables false

theorem num_same {x y : MsgM} (h : y.d = x.d) (hx : x.Num) : y.Num := by
  have e1 : dl y.bat.txs = dl x.bat.txs := congrArg (fun m : MsgD => m.batch.txs) h
  have e2 : rd y.hdr.refs = rd x.hdr.refs := congrArg (fun m : MsgD => m.header.refs) h
  have e3 : y.hdr.parents = x.hdr.parents := congrArg (fun m : MsgD => m.header.parents) h
  have e4 : rd y.cert.hdr.refs = rd x.cert.hdr.refs := congrArg (fun m : MsgD => m.cert.header.refs) h
  have e5 : y.cert.hdr.parents = x.cert.hdr.parents := congrArg (fun m : MsgD => m.cert.header.parents) h
  have e6 : y.cert.votes = x.cert.votes := congrArg (fun m : MsgD => m.cert.votes) h
  have e7 : y.blk.qc.votes = x.blk.qc.votes := congrArg (fun m : MsgD => m.block.qc.votes) h
  have e8 : y.blk.certs = x.blk.certs := congrArg (fun m : MsgD => m.block.certs) h
  have e9 : y.qc.votes = x.qc.votes := congrArg (fun m : MsgD => m.qc.votes) h
  have acks : ∀ {l m : List RefM}, rd l = rd m → (∀ r ∈ m, r.acks.length ≤ 4611686018427387903) → ∀ r ∈ l, r.acks.length ≤ 4611686018427387903 := by
    intro l m e hm r hr
    have h1 : r.d ∈ rd m := by rw [← e]; exact List.mem_map.2 ⟨r, hr, rfl⟩
    obtain ⟨r', hr', e'⟩ := List.mem_map.1 h1
    have h2 : r'.acks = r.acks := congrArg RefD.acks e'
    rw [← h2]
    exact hm r' hr'
  refine ⟨by rw [← dl_length, e1, dl_length]; exact hx.txs, fun t ht => ?_, by rw [← rd_length, e2, rd_length]; exact hx.refs, by rw [e3]; exact hx.ps, acks e2 hx.acks, by rw [← rd_length, e4, rd_length]; exact hx.crefs, by rw [e5]; exact hx.cps, acks e4 hx.cacks,
    by rw [e6]; exact hx.votes, by rw [e7]; exact hx.bvotes, by rw [e8]; exact hx.certs, by rw [e9]; exact hx.qvotes⟩
  have h1 : t.d ∈ dl x.bat.txs := by rw [← e1]; exact List.mem_map.2 ⟨t, ht, rfl⟩
  obtain ⟨t', ht', e'⟩ := List.mem_map.1 h1
  rw [← e']
  exact hx.keys t' ht'

set_option maxRecDepth 100000 in
set_option maxHeartbeats 8000000 in
theorem msgChecks_walk (x : MsgM) (w : World) (hA : x.At w) (hI : x.In) :
    Calls Try.prog 3 #[x.v] w fun e w' => e = .returned (.bool true) ∧ Below w.heap.size w w' := by
  have hn := hI.num
  have hmx := hI.max
  have hS := hI.txz
  have HLn : Hid (x.bat.txs.length ≤ 50 → x.Lens) := hI.lens
  clear hI
  have cG := fun w1 h1 => great9_any x w1 h1 hmx
  have cO := fun w1 h1 hl => own9_any x w1 h1 hl
  have cRE := fun w1 h1 => refMsgEncode_any x w1 h1 hn hS
  have cRC := fun w1 h1 => refMsgCheck_any x w1 h1 hn hS
  have cS := fun (y : MsgM) w1 h1 h2 hd hny => sameM_any y x w1 h1 h2 hd hny
  have hNy := fun (y : MsgM) (h : y.d = x.d) => num_same h hn
  obtain ⟨xd, hxd⟩ : ∃ d, Hid (d = x.d) := ⟨_, rfl⟩
  rw [← hxd.out] at cRE cRC
  obtain ⟨k, dg, vi, tg, ba, he, ce, bl, q⟩ := x
  have hX := Arr.new w 39 [.int .i64 k, .string dg, .int .i64 vi, .int .i64 tg.who, .string tg.mac, .int .i64 ba.author, .int .i64 ba.number, .slice ba.ta ba.txs.length ba.tc, .int .i64 he.author, .int .i64 he.round, .slice he.ra he.refs.length he.rc, .slice he.pa he.parents.length he.pc, .int .i64 ce.hdr.author, .int .i64 ce.hdr.round, .slice ce.hdr.ra ce.hdr.refs.length ce.hdr.rc, .slice ce.hdr.pa ce.hdr.parents.length ce.hdr.pc, .slice ce.va ce.votes.length ce.vc, .int .i64 bl.view, .int .i64 bl.qc.view, .string bl.qc.block, .slice bl.qc.va bl.qc.votes.length bl.qc.vc, .slice bl.ca bl.certs.length bl.cc, .int .i64 q.view, .string q.block, .slice q.va q.votes.length q.vc]
  have hB := belowNew w (.cells [.int .i64 k, .string dg, .int .i64 vi, .int .i64 tg.who, .string tg.mac, .int .i64 ba.author, .int .i64 ba.number, .slice ba.ta ba.txs.length ba.tc, .int .i64 he.author, .int .i64 he.round, .slice he.ra he.refs.length he.rc, .slice he.pa he.parents.length he.pc, .int .i64 ce.hdr.author, .int .i64 ce.hdr.round, .slice ce.hdr.ra ce.hdr.refs.length ce.hdr.rc, .slice ce.hdr.pa ce.hdr.parents.length ce.hdr.pc, .slice ce.va ce.votes.length ce.vc, .int .i64 bl.view, .int .i64 bl.qc.view, .string bl.qc.block, .slice bl.qc.va bl.qc.votes.length bl.qc.vc, .slice bl.ca bl.certs.length bl.cc, .int .i64 q.view, .string q.block, .slice q.va q.votes.length q.vc].toArray 39)
  unfold MsgM.v MsgM.c at cG cO cRE cRC ⊢
  simp only at cG cO cRE cRC ⊢
  obtain ⟨w1, hw1⟩ : ∃ q', w.alloc (.cells [.int .i64 k, .string dg, .int .i64 vi, .int .i64 tg.who, .string tg.mac, .int .i64 ba.author, .int .i64 ba.number, .slice ba.ta ba.txs.length ba.tc, .int .i64 he.author, .int .i64 he.round, .slice he.ra he.refs.length he.rc, .slice he.pa he.parents.length he.pc, .int .i64 ce.hdr.author, .int .i64 ce.hdr.round, .slice ce.hdr.ra ce.hdr.refs.length ce.hdr.rc, .slice ce.hdr.pa ce.hdr.parents.length ce.hdr.pc, .slice ce.va ce.votes.length ce.vc, .int .i64 bl.view, .int .i64 bl.qc.view, .string bl.qc.block, .slice bl.qc.va bl.qc.votes.length bl.qc.vc, .slice bl.ca bl.certs.length bl.cc, .int .i64 q.view, .string q.block, .slice q.va q.votes.length q.vc].toArray 39) = q' := ⟨_, rfl⟩
  rw [hw1] at hX hB
  have hA1 := hA.below hB
  go_enter Try.func3, Try.ntmps3
  go_wp2_with (refine wpList_load_row (by rfl) 39 _ (by rfl) w.heap.size (by rfl) 39 _ (0, 0) _ hX Try.underlying39 (by rfl) infoMsg9 ?_)
  refine (cG _ hA1).mono ?_
  rintro e w2 ⟨⟨g, rfl, hg⟩, hb2⟩
  have hX2 := hX.below hb2 hX.lt
  have hB2 := hB.trans (hb2.mono hB.size)
  clear hX hB hb2 cG hw1 hA1
  cases g
  case true =>
    clear hg
    go_wp2
    go_ret
    exact ⟨rfl, hB2⟩
  have hL := HLn.out (hg rfl).1
  clear hg HLn
  have hA2 := hA.below hB2
  go_wp2_with (refine wpList_load_row (by rfl) 39 _ (by rfl) w.heap.size (by rfl) 39 _ (0, 0) _ hX2 Try.underlying39 (by rfl) infoMsg9 ?_)
  refine (cO _ hA2 hL).mono ?_
  rintro e w3 ⟨y, rfl, hyd, hy, hyf, hb3⟩
  have hny := hNy y hyd
  have cS1 := fun w1 h1 h2 => cS y w1 h1 h2 hyd hny
  have cE := fun w1 h1 => msgEncode_any y w1 h1 hny
  have cC := fun w1 h1 => msgCheck_any y w1 h1 hny
  rw [hyd, ← hxd.out] at cE cC
  clear hL hyf cO cS hNy
  obtain ⟨yk, ydg, yvi, ytg, yba, yhe, yce, ybl, yq⟩ := y
  unfold MsgM.v MsgM.c at cS1 cE cC ⊢
  simp only at cS1 cE cC ⊢
  have hX3 := hX2.below hb3 hX2.lt
  have hB3 := hB2.trans (hb3.mono hB2.size)
  clear hX2 hB2 hb3 hA2
  have hN0 := Arr.new w3 39 [.int .i64 0, .string ⟨#[]⟩, .int .i64 0, .int .i64 0, .string ⟨#[]⟩, .int .i64 0, .int .i64 0, .slice none 0 0, .int .i64 0, .int .i64 0, .slice none 0 0, .slice none 0 0, .int .i64 0, .int .i64 0, .slice none 0 0, .slice none 0 0, .slice none 0 0, .int .i64 0, .int .i64 0, .string ⟨#[]⟩, .slice none 0 0, .slice none 0 0, .int .i64 0, .string ⟨#[]⟩, .slice none 0 0]
  have hbn := belowNew w3 (.cells [.int .i64 0, .string ⟨#[]⟩, .int .i64 0, .int .i64 0, .string ⟨#[]⟩, .int .i64 0, .int .i64 0, .slice none 0 0, .int .i64 0, .int .i64 0, .slice none 0 0, .slice none 0 0, .int .i64 0, .int .i64 0, .slice none 0 0, .slice none 0 0, .slice none 0 0, .int .i64 0, .int .i64 0, .string ⟨#[]⟩, .slice none 0 0, .slice none 0 0, .int .i64 0, .string ⟨#[]⟩, .slice none 0 0].toArray 39)
  have h1 : (List.toArray (α := Value) [.int .i64 yk, .string ydg, .int .i64 yvi, .int .i64 ytg.who, .string ytg.mac, .int .i64 yba.author, .int .i64 yba.number, .slice yba.ta yba.txs.length yba.tc, .int .i64 yhe.author, .int .i64 yhe.round, .slice yhe.ra yhe.refs.length yhe.rc, .slice yhe.pa yhe.parents.length yhe.pc, .int .i64 yce.hdr.author, .int .i64 yce.hdr.round, .slice yce.hdr.ra yce.hdr.refs.length yce.hdr.rc, .slice yce.hdr.pa yce.hdr.parents.length yce.hdr.pc, .slice yce.va yce.votes.length yce.vc, .int .i64 ybl.view, .int .i64 ybl.qc.view, .string ybl.qc.block, .slice ybl.qc.va ybl.qc.votes.length ybl.qc.vc, .slice ybl.ca ybl.certs.length ybl.cc, .int .i64 yq.view, .string yq.block, .slice yq.va yq.votes.length yq.vc]).all (·.oneCell') = true := Array.all_eq_true_iff_forall_mem.2 (fun v hv => msgK.one ⟨yk, ydg, yvi, ytg, yba, yhe, yce, ybl, yq⟩ v (List.mem_toArray.1 hv))
  have kN := kept_row (w3.alloc (.cells [.int .i64 0, .string ⟨#[]⟩, .int .i64 0, .int .i64 0, .string ⟨#[]⟩, .int .i64 0, .int .i64 0, .slice none 0 0, .int .i64 0, .int .i64 0, .slice none 0 0, .slice none 0 0, .int .i64 0, .int .i64 0, .slice none 0 0, .slice none 0 0, .slice none 0 0, .int .i64 0, .int .i64 0, .string ⟨#[]⟩, .slice none 0 0, .slice none 0 0, .int .i64 0, .string ⟨#[]⟩, .slice none 0 0].toArray 39)) w3.heap.size [.int .i64 yk, .string ydg, .int .i64 yvi, .int .i64 ytg.who, .string ytg.mac, .int .i64 yba.author, .int .i64 yba.number, .slice yba.ta yba.txs.length yba.tc, .int .i64 yhe.author, .int .i64 yhe.round, .slice yhe.ra yhe.refs.length yhe.rc, .slice yhe.pa yhe.parents.length yhe.pc, .int .i64 yce.hdr.author, .int .i64 yce.hdr.round, .slice yce.hdr.ra yce.hdr.refs.length yce.hdr.rc, .slice yce.hdr.pa yce.hdr.parents.length yce.hdr.pc, .slice yce.va yce.votes.length yce.vc, .int .i64 ybl.view, .int .i64 ybl.qc.view, .string ybl.qc.block, .slice ybl.qc.va ybl.qc.votes.length ybl.qc.vc, .slice ybl.ca ybl.certs.length ybl.cc, .int .i64 yq.view, .string yq.block, .slice yq.va yq.votes.length yq.vc].toArray
  have hY4 := hN0.row [.int .i64 yk, .string ydg, .int .i64 yvi, .int .i64 ytg.who, .string ytg.mac, .int .i64 yba.author, .int .i64 yba.number, .slice yba.ta yba.txs.length yba.tc, .int .i64 yhe.author, .int .i64 yhe.round, .slice yhe.ra yhe.refs.length yhe.rc, .slice yhe.pa yhe.parents.length yhe.pc, .int .i64 yce.hdr.author, .int .i64 yce.hdr.round, .slice yce.hdr.ra yce.hdr.refs.length yce.hdr.rc, .slice yce.hdr.pa yce.hdr.parents.length yce.hdr.pc, .slice yce.va yce.votes.length yce.vc, .int .i64 ybl.view, .int .i64 ybl.qc.view, .string ybl.qc.block, .slice ybl.qc.va ybl.qc.votes.length ybl.qc.vc, .slice ybl.ca ybl.certs.length ybl.cc, .int .i64 yq.view, .string yq.block, .slice yq.va yq.votes.length yq.vc]
  have hX4 := (hX3.below hbn hX3.lt).kept kN (by have := hX3.lt; omega)
  have hbS := below_setRow hbn (g := w3.heap.size) (Nat.le_refl _) [.int .i64 yk, .string ydg, .int .i64 yvi, .int .i64 ytg.who, .string ytg.mac, .int .i64 yba.author, .int .i64 yba.number, .slice yba.ta yba.txs.length yba.tc, .int .i64 yhe.author, .int .i64 yhe.round, .slice yhe.ra yhe.refs.length yhe.rc, .slice yhe.pa yhe.parents.length yhe.pc, .int .i64 yce.hdr.author, .int .i64 yce.hdr.round, .slice yce.hdr.ra yce.hdr.refs.length yce.hdr.rc, .slice yce.hdr.pa yce.hdr.parents.length yce.hdr.pc, .slice yce.va yce.votes.length yce.vc, .int .i64 ybl.view, .int .i64 ybl.qc.view, .string ybl.qc.block, .slice ybl.qc.va ybl.qc.votes.length ybl.qc.vc, .slice ybl.ca ybl.certs.length ybl.cc, .int .i64 yq.view, .string yq.block, .slice yq.va yq.votes.length yq.vc].toArray
  have hy4 : MsgM.At _ ⟨yk, ydg, yvi, ytg, yba, yhe, yce, ybl, yq⟩ := hy.below hbS
  have hB4 := hB3.trans (hbS.mono hB3.size)
  clear hbn kN hbS hX3 hB3 hy
  have hx4 : MsgM.At _ ⟨k, dg, vi, tg, ba, he, ce, bl, q⟩ := hA.below hB4
  go_wp2_with (first | refine wpList_load_row (by rfl) 39 _ (by rfl) w3.heap.size (by rfl) 39 _ (0, 0) _ hY4 Try.underlying39 (by rfl) infoMsg9 ?_ | refine wpList_store_row (by rfl) 39 _ _ (by rfl) w3.heap.size [.int .i64 yk, .string ydg, .int .i64 yvi, .int .i64 ytg.who, .string ytg.mac, .int .i64 yba.author, .int .i64 yba.number, .slice yba.ta yba.txs.length yba.tc, .int .i64 yhe.author, .int .i64 yhe.round, .slice yhe.ra yhe.refs.length yhe.rc, .slice yhe.pa yhe.parents.length yhe.pc, .int .i64 yce.hdr.author, .int .i64 yce.hdr.round, .slice yce.hdr.ra yce.hdr.refs.length yce.hdr.rc, .slice yce.hdr.pa yce.hdr.parents.length yce.hdr.pc, .slice yce.va yce.votes.length yce.vc, .int .i64 ybl.view, .int .i64 ybl.qc.view, .string ybl.qc.block, .slice ybl.qc.va ybl.qc.votes.length ybl.qc.vc, .slice ybl.ca ybl.certs.length ybl.cc, .int .i64 yq.view, .string yq.block, .slice yq.va yq.votes.length yq.vc].toArray (by rfl) (by rfl) 39 _ hN0 infoMsg9 (by rfl) h1 ?_)
  refine (cE _ hy4).mono ?_
  rintro e w6 ⟨rfl, hb6⟩
  have hX6 := hX4.below hb6 hX4.lt
  have hY6 := hY4.below hb6 hY4.lt
  have hy6 := hy4.below hb6
  have hB6 := hB4.trans (hb6.mono hB4.size)
  obtain ⟨yb, hyb⟩ : ∃ n, w3.heap.size = n := ⟨_, rfl⟩
  rw [hyb] at hY6 ⊢
  clear hX4 hY4 hy4 hB4 hb6 cE hx4 hN0 h1 hyb
  have hx6 := hA.below hB6
  go_wp2_with (refine wpList_load_row (by rfl) 39 _ (by rfl) w.heap.size (by rfl) 39 _ (0, 0) _ hX6 Try.underlying39 (by rfl) infoMsg9 ?_)
  refine (cRE _ hx6).mono ?_
  rintro e w7 ⟨rfl, hb7⟩
  have hX7 := hX6.below hb7 hX6.lt
  have hY7 := hY6.below hb7 hY6.lt
  have hy7 := hy6.below hb7
  have hB7 := hB6.trans (hb7.mono hB6.size)
  clear hX6 hY6 hy6 hB6 hb7 cRE hx6
  have hx7 := hA.below hB7
  have bl' := fun d os => below_regrown w7 d os
  have hLX : ∀ w', (∃ p : Regrown, w' = grow (redrawn w7 p.d) p.os) → w'.heap[w.heap.size]? = some (.cells [.int .i64 k, .string dg, .int .i64 vi, .int .i64 tg.who, .string tg.mac, .int .i64 ba.author, .int .i64 ba.number, .slice ba.ta ba.txs.length ba.tc, .int .i64 he.author, .int .i64 he.round, .slice he.ra he.refs.length he.rc, .slice he.pa he.parents.length he.pc, .int .i64 ce.hdr.author, .int .i64 ce.hdr.round, .slice ce.hdr.ra ce.hdr.refs.length ce.hdr.rc, .slice ce.hdr.pa ce.hdr.parents.length ce.hdr.pc, .slice ce.va ce.votes.length ce.vc, .int .i64 bl.view, .int .i64 bl.qc.view, .string bl.qc.block, .slice bl.qc.va bl.qc.votes.length bl.qc.vc, .slice bl.ca bl.certs.length bl.cc, .int .i64 q.view, .string q.block, .slice q.va q.votes.length q.vc].toArray 39 (0, 0)) := by
    rintro w' ⟨p, rfl⟩
    exact hX7.below (bl' p.d p.os) hX7.lt
  have hLY : ∀ w', (∃ p : Regrown, w' = grow (redrawn w7 p.d) p.os) → w'.heap[yb]? = some (.cells [.int .i64 yk, .string ydg, .int .i64 yvi, .int .i64 ytg.who, .string ytg.mac, .int .i64 yba.author, .int .i64 yba.number, .slice yba.ta yba.txs.length yba.tc, .int .i64 yhe.author, .int .i64 yhe.round, .slice yhe.ra yhe.refs.length yhe.rc, .slice yhe.pa yhe.parents.length yhe.pc, .int .i64 yce.hdr.author, .int .i64 yce.hdr.round, .slice yce.hdr.ra yce.hdr.refs.length yce.hdr.rc, .slice yce.hdr.pa yce.hdr.parents.length yce.hdr.pc, .slice yce.va yce.votes.length yce.vc, .int .i64 ybl.view, .int .i64 ybl.qc.view, .string ybl.qc.block, .slice ybl.qc.va ybl.qc.votes.length ybl.qc.vc, .slice ybl.ca ybl.certs.length ybl.cc, .int .i64 yq.view, .string yq.block, .slice yq.va yq.votes.length yq.vc].toArray 39 (0, 0)) := by
    rintro w' ⟨p, rfl⟩
    exact hY7.below (bl' p.d p.os) hY7.lt
  obtain ⟨er, her⟩ : ∃ n : Nat, n = chkM xd := ⟨_, rfl⟩
  rw [← her] at cC cRC ⊢
  have k1 : ∀ d os, Calls Try.prog 9 #[.agg [.int .i64 yk, .string ydg, .int .i64 yvi, .int .i64 ytg.who, .string ytg.mac, .int .i64 yba.author, .int .i64 yba.number, .slice yba.ta yba.txs.length yba.tc, .int .i64 yhe.author, .int .i64 yhe.round, .slice yhe.ra yhe.refs.length yhe.rc, .slice yhe.pa yhe.parents.length yhe.pc, .int .i64 yce.hdr.author, .int .i64 yce.hdr.round, .slice yce.hdr.ra yce.hdr.refs.length yce.hdr.rc, .slice yce.hdr.pa yce.hdr.parents.length yce.hdr.pc, .slice yce.va yce.votes.length yce.vc, .int .i64 ybl.view, .int .i64 ybl.qc.view, .string ybl.qc.block, .slice ybl.qc.va ybl.qc.votes.length ybl.qc.vc, .slice ybl.ca ybl.certs.length ybl.cc, .int .i64 yq.view, .string yq.block, .slice yq.va yq.votes.length yq.vc].toArray] (grow (redrawn w7 d) os) fun e w'' => e = .returned (.int .i64 (er : Int)) ∧ ∃ p : Regrown, w'' = grow (redrawn w7 p.d) p.os := fun d os => Calls.regrown_of (cC _ (hy7.below (bl' d os)))
  have k2 : ∀ d os, Calls Try.prog 10 #[.agg [.int .i64 k, .string dg, .int .i64 vi, .int .i64 tg.who, .string tg.mac, .int .i64 ba.author, .int .i64 ba.number, .slice ba.ta ba.txs.length ba.tc, .int .i64 he.author, .int .i64 he.round, .slice he.ra he.refs.length he.rc, .slice he.pa he.parents.length he.pc, .int .i64 ce.hdr.author, .int .i64 ce.hdr.round, .slice ce.hdr.ra ce.hdr.refs.length ce.hdr.rc, .slice ce.hdr.pa ce.hdr.parents.length ce.hdr.pc, .slice ce.va ce.votes.length ce.vc, .int .i64 bl.view, .int .i64 bl.qc.view, .string bl.qc.block, .slice bl.qc.va bl.qc.votes.length bl.qc.vc, .slice bl.ca bl.certs.length bl.cc, .int .i64 q.view, .string q.block, .slice q.va q.votes.length q.vc].toArray] (grow (redrawn w7 d) os) fun e w'' => e = .returned (.int .i64 (er : Int)) ∧ ∃ p : Regrown, w'' = grow (redrawn w7 p.d) p.os := fun d os => Calls.regrown_of (cRC _ (hx7.below (bl' d os)))
  have k3 : ∀ d os, Calls Try.prog 11 #[.agg [.int .i64 yk, .string ydg, .int .i64 yvi, .int .i64 ytg.who, .string ytg.mac, .int .i64 yba.author, .int .i64 yba.number, .slice yba.ta yba.txs.length yba.tc, .int .i64 yhe.author, .int .i64 yhe.round, .slice yhe.ra yhe.refs.length yhe.rc, .slice yhe.pa yhe.parents.length yhe.pc, .int .i64 yce.hdr.author, .int .i64 yce.hdr.round, .slice yce.hdr.ra yce.hdr.refs.length yce.hdr.rc, .slice yce.hdr.pa yce.hdr.parents.length yce.hdr.pc, .slice yce.va yce.votes.length yce.vc, .int .i64 ybl.view, .int .i64 ybl.qc.view, .string ybl.qc.block, .slice ybl.qc.va ybl.qc.votes.length ybl.qc.vc, .slice ybl.ca ybl.certs.length ybl.cc, .int .i64 yq.view, .string yq.block, .slice yq.va yq.votes.length yq.vc].toArray, .agg [.int .i64 k, .string dg, .int .i64 vi, .int .i64 tg.who, .string tg.mac, .int .i64 ba.author, .int .i64 ba.number, .slice ba.ta ba.txs.length ba.tc, .int .i64 he.author, .int .i64 he.round, .slice he.ra he.refs.length he.rc, .slice he.pa he.parents.length he.pc, .int .i64 ce.hdr.author, .int .i64 ce.hdr.round, .slice ce.hdr.ra ce.hdr.refs.length ce.hdr.rc, .slice ce.hdr.pa ce.hdr.parents.length ce.hdr.pc, .slice ce.va ce.votes.length ce.vc, .int .i64 bl.view, .int .i64 bl.qc.view, .string bl.qc.block, .slice bl.qc.va bl.qc.votes.length bl.qc.vc, .slice bl.ca bl.certs.length bl.cc, .int .i64 q.view, .string q.block, .slice q.va q.votes.length q.vc].toArray] (grow (redrawn w7 d) os) fun e w'' => e = .returned (.bool true) ∧ ∃ p : Regrown, w'' = grow (redrawn w7 p.d) p.os := fun d os => Calls.regrown_of (cS1 _ (hy7.below (bl' d os)) (hx7.below (bl' d os)))
  have HBF : Hid (∀ d os, Below w.heap.size w (grow (redrawn w7 d) os)) := fun d os => hB7.trans ((bl' d os).mono hB7.size)
  generalize encMB xd = ob
  clear bl' hX7 hY7 hy7 hx7 hB7 cC cRC cS1 her hxd hA hn hS hmx hyd hny
  go_wp2_with fail
  refine wp_region_quiet_below (by kernel_rfl) (by kernel_rfl) ?_
  go_big_quiet_want
  refine quiet_load_row 39 _ (by rfl) yb (by rfl) 39 _ (0, 0) _ hLY Try.underlying39 (by rfl) infoMsg9 ?_
  simp only [Act.put, List.setIfInBounds_toArray, List.set_cons_succ, List.set_cons_zero]
  go_big_quiet_on
  go_big_quiet_step (exact k1 _ _)
  go_big_quiet_want
  refine quiet_load_row 39 _ (by rfl) w.heap.size (by rfl) 39 _ (0, 0) _ hLX Try.underlying39 (by rfl) infoMsg9 ?_
  simp only [Act.put, List.setIfInBounds_toArray, List.set_cons_succ, List.set_cons_zero]
  go_big_quiet_on
  go_big_quiet_step (exact k2 _ _)
  iterate 12 (go_big_quiet_step (fail))
  go_big_quiet_want
  refine quiet_load_row 39 _ (by rfl) yb (by rfl) 39 _ (0, 0) _ hLY Try.underlying39 (by rfl) infoMsg9 ?_
  simp only [Act.put, List.setIfInBounds_toArray, List.set_cons_succ, List.set_cons_zero]
  go_big_quiet_on
  go_big_quiet_want
  refine quiet_load_row 39 _ (by rfl) w.heap.size (by rfl) 39 _ (0, 0) _ hLX Try.underlying39 (by rfl) infoMsg9 ?_
  simp only [Act.put, List.setIfInBounds_toArray, List.set_cons_succ, List.set_cons_zero]
  go_big_quiet_on
  go_big_quiet_step (exact k3 _ _)
  iterate 2 (go_big_quiet_step (fail))
  refine wpQuiet_nil ?_
  rintro w' ⟨p, rfl⟩
  have hBF := HBF.out p.d p.os
  generalize grow (redrawn w7 p.d) p.os = w8 at hBF ⊢
  clear k1 k2 k3 HBF hLX hLY p
  go_wp2
  go_ret
  exact ⟨rfl, hBF⟩
end Go.Proofs.Ytmngiekobmhpaaa

/- MsgChecks: for every input the statement answers true, and each argument reads afterwards as it read before. No condition. -/
namespace Go.Proofs.Ytmngiekobmhpaaa
open Go.ChangeShapes Go.WideShapes Go.ChangeAt Go.RowKit
open Go.ChangeMaps (open_string shut_string)
set_option linter.unusedVariables false

set_option maxRecDepth 100000 in
theorem msgChecks_lifted (os : Os) (started : os.Started) (H : Type) (enc : TypeId × Value → H) :
    ReturnsInHanded {} Try.checked os 3 .any (Rows.msgChecksSpec.pre6 enc Try.prog Try.f3 Rows.msgChecksRow.domain false) (Rows.msgChecksSpec.post enc Try.prog Try.f3 false true false false) := by
  refine returnsInHanded_of_change_sized (C := Try.checked) ownKnob_none started (by kernel_rfl) Try.func3
    (ChangeSpec.witness6 (enc := enc) (C := Try.checked) false ⟨#[], #[.agg #[.int .i64 0, .string ByteArray.empty, .int .i64 0, .int .i64 0, .string ByteArray.empty, .int .i64 0, .int .i64 0, .slice none 0 0, .int .i64 0, .int .i64 0, .slice none 0 0, .slice none 0 0, .int .i64 0, .int .i64 0, .slice none 0 0, .slice none 0 0, .slice none 0 0, .int .i64 0, .int .i64 0, .string ByteArray.empty, .slice none 0 0, .slice none 0 0, .int .i64 0, .string ByteArray.empty, .slice none 0 0]], []⟩ 8 (by kernel_rfl) (by kernel_rfl) (by kernel_rfl) (by kernel_rfl)) ?_
  intro W base args ds gs before hval0 hW hcnd hsz0 _
  have hval : ∀ (j : Nat) t v, Try.f3.params[j]? = some t → args[j]? = some v → Value.okWide Try.prog W .any base t v := hval0
  have hsz : (DataW.weightsEach Try.prog (Try.f3.params.toList ++ Rows.msgChecksSpec.plain.varTypes Try.prog) (ds ++ gs)).all (· ≤ reachBytes) = true := hsz0
  have hW' := hW
  obtain ⟨p, q, hA0, hV, rfl, hfz, hnd⟩ := hW
  have hA : DataW.TrodAll enc Try.prog W 0 (fun _ => true) true Try.f3.params.toList args.toList ds p := hA0
  rw [Try.params3] at hA hval hsz
  obtain ⟨v0, vs0, d0, ds0, p0, q0, hargs, rfl, rfl, h0, r0⟩ := trodAll_cons hA
  obtain ⟨rfl, rfl, rfl⟩ := trodAll_nil r0
  obtain rfl : args = #[v0] := by cases args; simp_all
  obtain ⟨rfl, rfl⟩ := trodVars_none hV
  have k0 := h0
  have lt0 : ∀ x ∈ p0, x.block < W.heap.size := by obtain ⟨m, hm⟩ := k0; exact DataW.trod_lt m _ _ _ hm
  obtain ⟨x0, rfl, at0, sd0, zs0, ln0, wf0⟩ := open_msg (hval 0 39 v0 rfl rfl) h0
  have in0 := msg_sized hsz (j := 0) rfl rfl sd0 zs0 ln0
  clear hA0 hval0 hsz0
  refine (msgChecks_walk x0 W at0 in0).mono fun e W' ⟨he, bel⟩ => ?_
  subst he
  exact ⟨_, rfl, _, _, _, [], _, [], hW', trodAll_mk1 (shut_bool Try.underlying4 _), (trodAll_cons_mk (Below.trod laidOut_true (by kernel_rfl) (of_decide_eq_true (by kernel_rfl)) k0 bel lt0) trodAll_mk0), rfl, bel.frame _, fun h => by cases h⟩

theorem msgChecks_holds : Rows.MsgChecksSaid :=
  OpenClaim.holds_of_wide 3 Try.f3 rfl rfl rfl rfl rfl rfl rfl ⟨rfl, rfl, rfl, rfl, rfl⟩ rfl rfl rfl rfl rfl (by kernel_rfl) Try.func3 (by kernel_rfl)
    (of_decide_eq_true (by kernel_rfl)) (by unfold Func.isWrapper; rw [if_neg (of_decide_eq_false (by kernel_rfl))]; exact ⟨rfl, rfl⟩)
    (fun os started H enc _ => msgChecks_lifted os started H enc)
end Go.Proofs.Ytmngiekobmhpaaa
