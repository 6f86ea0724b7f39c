/- MsgCounts: for every input the statement answers true, and each argument reads afterwards as it read before. Condition: the two tables of package mix read as the program's text lays them; no other. -/
import Derived.Test.YtaoiejgbbmjpkaaGreatDoorCk19
import Derived.Test.YtaoiejgbbmjpkaaGreatDoorCk14
import Derived.Test.YtaoiejgbbmjpkaaGreatDoorCk09
import Derived.Test.YtaoiejgbbmjpkaaGreatDoorCk12
import Derived.Test.YtaoiejgbbmjpkaaGreatDoorCk16
import Derived.Test.YtaoiejgbbmjpkaaGreatDoorCk17
import Derived.Test.YtaoiejgbbmjpkaaGreatDoorCk05
import Derived.Test.YtaoiejgbbmjpkaaGreatDoorCk15
import Derived.Test.YtaoiejgbbmjpkaaGreatDoorCk10
import Derived.Test.YtaoiejgbbmjpkaaGreatDoorCards
import Derived.Test.YtaoiejgbbmjpkaaGreatDoorTie
import Derived.SevenTiedAt
/- How a certificate that came in is opened; its bulk. -/
namespace Go.Proofs.YtaoiejgbbmjpkaaGreatDoor
open Go.ChangeShapes Go.WideShapes Go.ChangeAt Go.RowKit Go.Joins Go.Deep
set_option linter.unusedVariables false

theorem list5x {α : Type} {l : List α} (h : l.length = 5) : ∃ c0 c1 c2 c3 c4, l = [c0, c1, c2, c3, c4] := by
  match l, h with
  | [c0, c1, c2, c3, c4], _ => exact ⟨c0, c1, c2, c3, c4, rfl⟩

theorem cellsCert7 : Tryz.prog.cellsOf 33 = 5 := by kernel_rfl

/-- How a certificate reads. -/
def CertQ {H : Type} (d : DataW H) (x : CertM) : Prop := ∃ y0 y1, d = .agg [y0, y1] ∧ HdrQ y0 x.hdr ∧ RowD TagQ y1 x.votes

set_option maxRecDepth 100000 in
theorem open_cert_cells {H : Type} {enc : TypeId × Value → H} {W : World} {fuel : Nat} {cs : List Value} {y : DataW H × List MemPlace}
    (hf : DataW.trod enc Tryz.prog W 0 (fun _ => true) true fuel 33 cs = some y) : ∃ x : CertM, cs = certK.c x ∧ certK.At W x ∧ CertQ y.1 x := by
  obtain ⟨xs, n, _, hx, hcl, hl, hg⟩ := DataW.trod_struct Tryz.underlying33 hf
  obtain ⟨c0, c1, c2, c3, c4, rfl⟩ := list5x (hcl.trans cellsCert7)
  obtain ⟨y0, y1, rfl⟩ := list2x hl
  have g0 := hg 0 _ rfl
  have g1 := hg 1 _ rfl
  simp [cellsHdr6, cellsTags6] at g0 g1
  obtain ⟨h, e0, hat, hq⟩ := open_hdr_cells g0
  obtain ⟨va, vlen, vc, e1⟩ := slice_form Tryz.underlying31 g1
  have e0' : [c0, c1, c2, c3] = [.int .i64 h.author, .int .i64 h.round, .slice h.ra h.refs.length h.rc, .slice h.pa h.parents.length h.pc] := e0
  simp at e0' e1
  obtain ⟨rfl, rfl, rfl, rfl⟩ := e0'
  subst e1
  obtain ⟨l, rfl, l1, l2, l3, l4⟩ := open_tagsK g1
  refine ⟨⟨h, va, l, vc⟩, rfl, ⟨hat, l1, l2⟩, y0.1, y1.1, ?_, hq, l4⟩
  have := congrArg Prod.fst hx
  simpa using this

set_option maxRecDepth 100000 in
theorem open_cert {H : Type} {enc : TypeId × Value → H} {W : World} {r : Reach} {b0 : Nat} {v : Value} {d : DataW H} {p : List MemPlace} (hv : Value.okWide Tryz.prog W r b0 33 v)
    (h : DataW.Trod enc Tryz.prog W 0 (fun _ => true) true 33 v d p) : ∃ x : CertM, v = x.v ∧ x.At W ∧ CertQ d x := by
  obtain ⟨cs, rfl, hsz⟩ := okWide_struct Tryz.underlying33 hv
  obtain ⟨fuel, hf⟩ := h
  have hc : (Value.agg cs).cells.toList = cs.toList := by simp [Value.cells]
  obtain ⟨x, e, hx, hq⟩ := open_cert_cells hf
  refine ⟨x, ?_, hx, hq⟩
  have e' : cs.toList = x.c := by rw [← hc]; exact e
  have : cs = x.c.toArray := by rw [← e']
  rw [this]
  rfl

/-- What the bound of the second form gives of a certificate. -/
theorem cert_bulk {H : Type} {d : DataW H} {x : CertM} (h : CertQ d x) (hk : Rows.uptoBulk d ≤ 1048576) : x.hdr.Lens ∧ x.Fit ∧ (encH x.hdr.d).length ≤ 1073741824 ∧ x.votes.length * 24 ≤ 140737488351232 := by
  obtain ⟨y0, y1, rfl, h0, h1⟩ := h
  have q1 := h1.bulk tagQ_bulk
  simp only [Rows.uptoBulk, Rows.uptoBulkAll] at hk
  have b1 : tagsBulk x.votes ≤ 1048576 := by unfold tagsBulk; omega
  obtain ⟨a, b, c⟩ := hdr_bulk h0 (by omega)
  have l1 := tagsBulk_len x.votes
  have l2 := tagsB_len_le x.votes
  exact ⟨a, ⟨b, by omega, fun t ht => by have := tagsBulk_mem ht; omega, by omega⟩, c, by omega⟩
end Go.Proofs.YtaoiejgbbmjpkaaGreatDoor

/- How a block that came in is opened; its sizes; its bulk. -/
namespace Go.Proofs.YtaoiejgbbmjpkaaGreatDoor
open Go.ChangeShapes Go.WideShapes Go.ChangeAt Go.RowKit Go.Joins Go.Deep
set_option linter.unusedVariables false

theorem list3x {α : Type} {l : List α} (h : l.length = 3) : ∃ c0 c1 c2, l = [c0, c1, c2] := by
  match l, h with
  | [c0, c1, c2], _ => exact ⟨c0, c1, c2, rfl⟩

theorem list5y {α : Type} {l : List α} (h : l.length = 5) : ∃ c0 c1 c2 c3 c4, l = [c0, c1, c2, c3, c4] := by
  match l, h with
  | [c0, c1, c2, c3, c4], _ => exact ⟨c0, c1, c2, c3, c4, rfl⟩

theorem cellsQc8 : Tryz.prog.cellsOf 35 = 3 := by kernel_rfl
theorem cellsBlk8 : Tryz.prog.cellsOf 37 = 5 := by kernel_rfl

/-- How a Qc reads. -/
def QcQ {H : Type} (d : DataW H) (x : QcM) : Prop := ∃ y0 y1 y2, d = .agg [y0, y1, y2] ∧ StrQ y1 x.block ∧ RowD TagQ y2 x.votes

/-- How a block reads. -/
def BlkQ {H : Type} (d : DataW H) (x : BlkM) : Prop := ∃ y0 y1 y2, d = .agg [y0, y1, y2] ∧ QcQ y1 x.qc ∧ RowD StrQ y2 x.certs

/-- A row's length is within its capacity. -/
theorem row_cap {H : Type} {enc : TypeId × Value → H} {W : World} {T E : TypeId} (hT : Tryz.prog.underlying T = some (.slice E))
    {fuel : Nat} {a : Option Addr} {len cap : Nat} {y : DataW H × List MemPlace} (hf : DataW.trod enc Tryz.prog W 0 (fun _ => true) true fuel T [.slice a len cap] = some y) : len ≤ cap := by
  rcases open_slice hT hf with ⟨hcs, hx⟩ | ⟨x, l, c, m, n, D, Pl, hcs, _, hl, hm, hmm, hx, hc⟩
  · simp at hcs
    omega
  · simp at hcs
    omega

set_option maxRecDepth 100000 in
theorem open_qc_cells {H : Type} {enc : TypeId × Value → H} {W : World} {fuel : Nat} {cs : List Value} {y : DataW H × List MemPlace}
    (hf : DataW.trod enc Tryz.prog W 0 (fun _ => true) true fuel 35 cs = some y) : ∃ x : QcM, cs = qcK.c x ∧ qcK.At W x ∧ QcQ y.1 x := by
  obtain ⟨xs, n, _, hx, hcl, hl, hg⟩ := DataW.trod_struct Tryz.underlying35 hf
  obtain ⟨c0, c1, c2, rfl⟩ := list3x (hcl.trans cellsQc8)
  obtain ⟨y0, y1, y2, rfl⟩ := list3x hl
  have g0 := hg 0 _ rfl
  have g1 := hg 1 _ rfl
  have g2 := hg 2 _ rfl
  simp [cellsInt6, cellsStr6, cellsTags6] at g0 g1 g2
  obtain ⟨a0, e0, _, _⟩ := DataW.trod_int Tryz.underlying3 g0
  obtain ⟨a1, e1, hy1, s1⟩ := DataW.trod_string Tryz.underlying9 g1
  obtain ⟨va, vlen, vc, e2⟩ := slice_form Tryz.underlying31 g2
  simp at e0 e1 e2
  subst e0 e1 e2
  obtain ⟨l, rfl, l1, l2, l3, l4⟩ := open_tagsK g2
  refine ⟨⟨a0, a1, va, l, vc⟩, rfl, ⟨l1, l2⟩, y0.1, y1.1, y2.1, ?_, ⟨by rw [hy1], s1⟩, l4⟩
  have := congrArg Prod.fst hx
  simpa using this

set_option maxRecDepth 100000 in
theorem open_blk_cells {H : Type} {enc : TypeId × Value → H} {W : World} {fuel : Nat} {cs : List Value} {y : DataW H × List MemPlace}
    (hf : DataW.trod enc Tryz.prog W 0 (fun _ => true) true fuel 37 cs = some y) : ∃ x : BlkM, cs = blkK.c x ∧ blkK.At W x ∧ BlkQ y.1 x ∧ x.certs.length ≤ x.cc := by
  obtain ⟨xs, n, _, hx, hcl, hl, hg⟩ := DataW.trod_struct Tryz.underlying37 hf
  obtain ⟨c0, c1, c2, c3, c4, rfl⟩ := list5y (hcl.trans cellsBlk8)
  obtain ⟨y0, y1, y2, rfl⟩ := list3x hl
  have g0 := hg 0 _ rfl
  have g1 := hg 1 _ rfl
  have g2 := hg 2 _ rfl
  simp [cellsInt6, cellsQc8, cellsStrs6] at g0 g1 g2
  obtain ⟨a0, e0, _, _⟩ := DataW.trod_int Tryz.underlying3 g0
  obtain ⟨q, e1, hat, hq⟩ := open_qc_cells g1
  obtain ⟨ca, clen, cc, e2⟩ := slice_form Tryz.underlying28 g2
  have e1' : [c1, c2, c3] = [.int .i64 q.view, .string q.block, .slice q.va q.votes.length q.vc] := e1
  simp at e0 e1' e2
  obtain ⟨rfl, rfl, rfl⟩ := e1'
  subst e0 e2
  have hcap := row_cap Tryz.underlying28 g2
  obtain ⟨l, rfl, l1, l2, l3, l4⟩ := open_row strK StrQ Tryz.underlying28 cellsStr6 open_str_cells g2
  refine ⟨⟨a0, q, ca, l, cc⟩, rfl, ⟨hat, l1, l2⟩, ⟨y0.1, y1.1, y2.1, ?_, hq, l4⟩, hcap⟩
  have := congrArg Prod.fst hx
  simpa using this

set_option maxRecDepth 100000 in
theorem open_blk {H : Type} {enc : TypeId × Value → H} {W : World} {r : Reach} {b0 : Nat} {v : Value} {d : DataW H} {p : List MemPlace} (hv : Value.okWide Tryz.prog W r b0 37 v)
    (h : DataW.Trod enc Tryz.prog W 0 (fun _ => true) true 37 v d p) : ∃ x : BlkM, v = x.v ∧ x.At W ∧ BlkQ d x ∧ x.certs.length ≤ x.cc := by
  obtain ⟨cs, rfl, hsz⟩ := okWide_struct Tryz.underlying37 hv
  obtain ⟨fuel, hf⟩ := h
  have hc : (Value.agg cs).cells.toList = cs.toList := by simp [Value.cells]
  obtain ⟨x, e, hx, hq⟩ := open_blk_cells hf
  refine ⟨x, ?_, hx, hq⟩
  have e' : cs.toList = x.c := by rw [← hc]; exact e
  have : cs = x.c.toArray := by rw [← e']
  rw [this]
  rfl

/-- A block's lists, in sizes that a machine holds. -/
structure BlkM.Lens (x : BlkM) : Prop where
  votes : x.qc.votes.length * 24 ≤ 140737488351232
  certs : x.certs.length * 16 ≤ 140737488351232
  blk : x.qc.block.size ≤ 140737488351232

set_option maxRecDepth 100000 in
theorem qc_fit {H : Type} {d : DataW H} {x : QcM} (h : QcQ d x) (hw : ∀ n ∈ d.weights Tryz.prog 35, n ≤ reachBytes) : x.votes.length * 24 ≤ 140737488351232 ∧ x.block.size ≤ 140737488351232 := by
  obtain ⟨y0, y1, y2, rfl, h1, h2⟩ := h
  have f2 := (h2.fit Tryz.underlying31 (fun n hn => hw n (by
    rw [DataW.weights, Tryz.underlying35]
    exact DataW.weights_mem_each (ts := [3, 9, 31]) (j := 2) rfl rfl n hn))).1
  have f1 := h1.fit (t := 9) (fun n hn => hw n (by
    rw [DataW.weights, Tryz.underlying35]
    exact DataW.weights_mem_each (ts := [3, 9, 31]) (j := 1) rfl rfl n hn))
  rw [bytesTag6] at f2
  exact ⟨by simpa [reachBytes] using f2, f1⟩

set_option maxRecDepth 100000 in
theorem blk_fit {H : Type} {d : DataW H} {x : BlkM} (h : BlkQ d x) (hw : ∀ n ∈ d.weights Tryz.prog 37, n ≤ reachBytes) : x.Lens := by
  obtain ⟨y0, y1, y2, rfl, h1, h2⟩ := h
  obtain ⟨f1, f2⟩ := qc_fit h1 (fun n hn => hw n (by
    rw [DataW.weights, Tryz.underlying37]
    exact DataW.weights_mem_each (ts := [3, 35, 28]) (j := 1) rfl rfl n hn))
  have g1 := (h2.fit Tryz.underlying28 (fun n hn => hw n (by
    rw [DataW.weights, Tryz.underlying37]
    exact DataW.weights_mem_each (ts := [3, 35, 28]) (j := 2) rfl rfl n hn))).1
  rw [bytesStr6] at g1
  exact ⟨f1, by simpa [reachBytes] using g1, f2⟩

/-- A block that came in: in sizes that a machine holds. -/
theorem blk_sized {H : Type} {ts : List TypeId} {ds : List (DataW H)} (h : (DataW.weightsEach Tryz.prog ts ds).all (· ≤ reachBytes) = true) {j : Nat} {d : DataW H} {x : BlkM} (ht : ts[j]? = some 37) (hd : ds[j]? = some d) (hs : BlkQ d x) : x.Lens := blk_fit hs (weights_of h ht hd)

/-- What the bound of the second form gives of a block. -/
theorem blk_bulk {H : Type} {d : DataW H} {x : BlkM} (h : BlkQ d x) (hk : Rows.uptoBulk d ≤ 1048576) : x.Lens ∧ x.Enc ∧ (encK x.d).length ≤ 1073741824 := by
  obtain ⟨y0, y1, y2, rfl, ⟨q0, q1, q2, rfl, h1, h2⟩, h3⟩ := h
  have p1 := h1.bulk
  have p2 := h2.bulk tagQ_bulk
  have p3 := h3.bulk StrQ.bulk
  simp only [Rows.uptoBulk, Rows.uptoBulkAll] at hk
  have b2 : tagsBulk x.qc.votes ≤ 1048576 := by unfold tagsBulk; omega
  have b3 : strsBulk x.certs ≤ 1048576 := by unfold strsBulk; omega
  have l2 := tagsBulk_len x.qc.votes
  have l3 := strsBulk_length x.certs
  have m2 := tagsB_len_le x.qc.votes
  have m3 := lst_bulk x.certs
  have g0 := goInt_length x.view
  have g1 := goInt_length x.qc.view
  have t1 := txt_len_le x.qc.block.data.toList
  have t2 : x.qc.block.data.toList.length = x.qc.block.size := by simp
  have t3 := txt_len_le (encQ x.qc.d)
  have eq : (encQ x.qc.d).length = (goInt x.qc.view).length + (txt x.qc.block.data.toList).length + (tagsB x.qc.votes).length := by
    show (goInt x.qc.view ++ txt x.qc.block.data.toList ++ tagsB x.qc.votes).length = _
    simp only [List.length_append]
  have ek : (encK x.d).length = (goInt x.view).length + (txt (encQ x.qc.d)).length + (lst (bl x.certs)).length := by
    show (goInt x.view ++ txt (encQ x.qc.d) ++ lst (bl x.certs)).length = _
    simp only [List.length_append]
  exact ⟨⟨by omega, by omega, by omega⟩, ⟨⟨by omega, by omega, fun t ht => by have := tagsBulk_mem ht; omega, by omega⟩, by omega, by omega⟩, by omega⟩
end Go.Proofs.YtaoiejgbbmjpkaaGreatDoor

/- How a message that came in is opened; its sizes. -/
namespace Go.Proofs.YtaoiejgbbmjpkaaGreatDoor
open Go.ChangeShapes Go.WideShapes Go.ChangeAt Go.RowKit Go.Joins Go.Deep
set_option linter.unusedVariables false

theorem list9m {α : Type} {l : List α} (h : l.length = 9) : ∃ y0 y1 y2 y3 y4 y5 y6 y7 y8, l = [y0, y1, y2, y3, y4, y5, y6, y7, y8] := by
  match l, h with
  | [y0, y1, y2, y3, y4, y5, y6, y7, y8], _ => exact ⟨y0, y1, y2, y3, y4, y5, y6, y7, y8, rfl⟩

theorem list25 {α : Type} {l : List α} (h : l.length = 25) : ∃ c0 c1 c2 c3 c4 c5 c6 c7 c8 c9 c10 c11 c12 c13 c14 c15 c16 c17 c18 c19 c20 c21 c22 c23 c24, l = [c0, c1, c2, c3, c4, c5, c6, c7, c8, c9, c10, c11, c12, c13, c14, c15, c16, c17, c18, c19, c20, c21, c22, c23, c24] := by
  match l, h with
  | [c0, c1, c2, c3, c4, c5, c6, c7, c8, c9, c10, c11, c12, c13, c14, c15, c16, c17, c18, c19, c20, c21, c22, c23, c24], _ => exact ⟨c0, c1, c2, c3, c4, c5, c6, c7, c8, c9, c10, c11, c12, c13, c14, c15, c16, c17, c18, c19, c20, c21, c22, c23, c24, rfl⟩

theorem cellsMsg9 : Tryz.prog.cellsOf 39 = 25 := by kernel_rfl

/-- How a message reads. -/
def MsgQ {H : Type} (d : DataW H) (x : MsgM) : Prop := ∃ y0 y1 y2 y3 y4 y5 y6 y7 y8, d = .agg [y0, y1, y2, y3, y4, y5, y6, y7, y8] ∧ BatDatum y4 x.bat.txs ∧ HdrQ y5 x.hdr ∧ CertQ y6 x.cert ∧ BlkQ y7 x.blk ∧ QcQ y8 x.qc

set_option maxRecDepth 100000 in
theorem open_bat_cells {H : Type} {enc : TypeId × Value → H} {W : World} {fuel : Nat} {cs : List Value} {y : DataW H × List MemPlace}
    (hf : DataW.trod enc Tryz.prog W 0 (fun _ => true) true fuel 26 cs = some y) : ∃ x : BatM, cs = batK.c x ∧ batK.At W x ∧ BatDatum y.1 x.txs ∧ (∀ t ∈ x.txs, TxSizes t.d) ∧ x.txs.length ≤ maxLen := by
  obtain ⟨xs, n, _, hx, hcl, hl, hg⟩ := DataW.trod_struct Tryz.underlying26 hf
  obtain ⟨c0, c1, c2, rfl⟩ := list3 (hcl.trans cellsBat)
  obtain ⟨y0, y1, y2, rfl⟩ := list3 hl
  have g0 := hg 0 _ rfl
  have g1 := hg 1 _ rfl
  have g2 := hg 2 _ rfl
  have kS : Tryz.prog.cellsOf 24 = 1 := by kernel_rfl
  simp [cellsInt6, kS] at g0 g1 g2
  obtain ⟨a0, e0, _, _⟩ := DataW.trod_int Tryz.underlying3 g0
  obtain ⟨a1, e1, _, _⟩ := DataW.trod_int Tryz.underlying3 g1
  obtain ⟨ao, len, cap, e2⟩ := slice_form Tryz.underlying24 g2
  simp at e0 e1 e2
  subst e0 e1 e2
  obtain ⟨l, rfl, l1, l2, l3, l4, l5⟩ := open_txs g2
  refine ⟨⟨a0, a1, ao, l, cap⟩, rfl, ⟨l1.rows, l3⟩, ⟨y0.1, y1.1, y2.1, ?_, l5⟩, l2, l4⟩
  have := congrArg Prod.fst hx
  simpa using this

set_option maxRecDepth 100000 in
set_option maxHeartbeats 2000000 in
theorem open_msg_cells {H : Type} {enc : TypeId × Value → H} {W : World} {fuel : Nat} {cs : List Value} {y : DataW H × List MemPlace}
    (hf : DataW.trod enc Tryz.prog W 0 (fun _ => true) true fuel 39 cs = some y) : ∃ x : MsgM, cs = msgK.c x ∧ msgK.At W x ∧ MsgQ y.1 x ∧ (∀ t ∈ x.bat.txs, TxSizes t.d) ∧ x.bat.txs.length ≤ maxLen ∧ (Lit.int .i64 x.kind).wf = true := by
  obtain ⟨xs, n, _, hx, hcl, hl, hg⟩ := DataW.trod_struct Tryz.underlying39 hf
  obtain ⟨c0, c1, c2, c3, c4, c5, c6, c7, c8, c9, c10, c11, c12, c13, c14, c15, c16, c17, c18, c19, c20, c21, c22, c23, c24, rfl⟩ := list25 (hcl.trans cellsMsg9)
  obtain ⟨y0, y1, y2, y3, y4, y5, y6, y7, y8, rfl⟩ := list9m hl
  have g0 := hg 0 _ rfl
  have g1 := hg 1 _ rfl
  have g2 := hg 2 _ rfl
  have g3 := hg 3 _ rfl
  have g4 := hg 4 _ rfl
  have g5 := hg 5 _ rfl
  have g6 := hg 6 _ rfl
  have g7 := hg 7 _ rfl
  have g8 := hg 8 _ rfl
  simp [cellsInt6, cellsStr6, cellsTag6, cellsBat, cellsHdr6, cellsCert7, cellsBlk8, cellsQc8] at g0 g1 g2 g3 g4 g5 g6 g7 g8
  obtain ⟨a0, e0, _, w0⟩ := DataW.trod_int Tryz.underlying3 g0
  obtain ⟨a1, e1, _, _⟩ := DataW.trod_string Tryz.underlying9 g1
  obtain ⟨a2, e2, _, _⟩ := DataW.trod_int Tryz.underlying3 g2
  obtain ⟨t, e3, _, _⟩ := open_tag_cells g3
  obtain ⟨b, e4, at4, q4, z4, l4⟩ := open_bat_cells g4
  obtain ⟨h, e5, at5, q5⟩ := open_hdr_cells g5
  obtain ⟨c, e6, at6, q6⟩ := open_cert_cells g6
  obtain ⟨k, e7, at7, q7, _⟩ := open_blk_cells g7
  obtain ⟨q, e8, at8, q8⟩ := open_qc_cells g8
  have e3' : [c3, c4] = [.int .i64 t.who, .string t.mac] := e3
  have e4' : [c5, c6, c7] = [.int .i64 b.author, .int .i64 b.number, .slice b.ta b.txs.length b.tc] := e4
  have e5' : [c8, c9, c10, c11] = [.int .i64 h.author, .int .i64 h.round, .slice h.ra h.refs.length h.rc, .slice h.pa h.parents.length h.pc] := e5
  have e6' : [c12, c13, c14, c15, c16] = [.int .i64 c.hdr.author, .int .i64 c.hdr.round, .slice c.hdr.ra c.hdr.refs.length c.hdr.rc, .slice c.hdr.pa c.hdr.parents.length c.hdr.pc, .slice c.va c.votes.length c.vc] := e6
  have e7' : [c17, c18, c19, c20, c21] = [.int .i64 k.view, .int .i64 k.qc.view, .string k.qc.block, .slice k.qc.va k.qc.votes.length k.qc.vc, .slice k.ca k.certs.length k.cc] := e7
  have e8' : [c22, c23, c24] = [.int .i64 q.view, .string q.block, .slice q.va q.votes.length q.vc] := e8
  simp at e0 e1 e2 e3' e4' e5' e6' e7' e8'
  obtain ⟨rfl, rfl⟩ := e3'
  obtain ⟨rfl, rfl, rfl⟩ := e4'
  obtain ⟨rfl, rfl, rfl, rfl⟩ := e5'
  obtain ⟨rfl, rfl, rfl, rfl, rfl⟩ := e6'
  obtain ⟨rfl, rfl, rfl, rfl, rfl⟩ := e7'
  obtain ⟨rfl, rfl, rfl⟩ := e8'
  subst e0 e1 e2
  refine ⟨⟨a0, a1, a2, t, b, h, c, k, q⟩, rfl, ⟨at4, at5, at6, at7, at8⟩, ⟨y0.1, y1.1, y2.1, y3.1, y4.1, y5.1, y6.1, y7.1, y8.1, ?_, q4, q5, q6, q7, q8⟩, z4, l4, w0⟩
  have := congrArg Prod.fst hx
  simpa using this

set_option maxRecDepth 100000 in
theorem open_msg {H : Type} {enc : TypeId × Value → H} {W : World} {r : Reach} {b0 : Nat} {v : Value} {d : DataW H} {p : List MemPlace} (hv : Value.okWide Tryz.prog W r b0 39 v)
    (h : DataW.Trod enc Tryz.prog W 0 (fun _ => true) true 39 v d p) : ∃ x : MsgM, v = x.v ∧ x.At W ∧ MsgQ d x ∧ (∀ t ∈ x.bat.txs, TxSizes t.d) ∧ x.bat.txs.length ≤ maxLen ∧ (Lit.int .i64 x.kind).wf = true := by
  obtain ⟨cs, rfl, hsz⟩ := okWide_struct Tryz.underlying39 hv
  obtain ⟨fuel, hf⟩ := h
  have hc : (Value.agg cs).cells.toList = cs.toList := by simp [Value.cells]
  obtain ⟨x, e, hx, hq⟩ := open_msg_cells hf
  refine ⟨x, ?_, hx, hq⟩
  have e' : cs.toList = x.c := by rw [← hc]; exact e
  have : cs = x.c.toArray := by rw [← e']
  rw [this]
  rfl

/-- A message that came in: in sizes that a machine holds. -/
structure MsgM.In (x : MsgM) : Prop where
  txs : x.bat.txs.length * 136 ≤ 140737488351232
  txz : ∀ t ∈ x.bat.txs, TxSizes t.d
  txl : ∀ t ∈ x.bat.txs, TxLens t.d
  hdr : x.hdr.Lens
  cert : x.cert.hdr.Lens
  votes : x.cert.votes.length * 24 ≤ 140737488351232
  bvotes : x.blk.qc.votes.length * 24 ≤ 140737488351232
  certs : x.blk.certs.length * 16 ≤ 140737488351232
  qvotes : x.qc.votes.length * 24 ≤ 140737488351232

set_option maxRecDepth 100000 in
theorem cert_fit9 {H : Type} {d : DataW H} {x : CertM} (h : CertQ d x) (hw : ∀ n ∈ d.weights Tryz.prog 33, n ≤ reachBytes) : x.hdr.Lens ∧ x.votes.length * 24 ≤ 140737488351232 := by
  obtain ⟨y0, y1, rfl, h1, h2⟩ := h
  have f1 := hdr_fit h1 (fun n hn => hw n (by
    rw [DataW.weights, Tryz.underlying33]
    exact DataW.weights_mem_each (ts := [30, 31]) (j := 0) rfl rfl n hn))
  have f2 := (h2.fit Tryz.underlying31 (fun n hn => hw n (by
    rw [DataW.weights, Tryz.underlying33]
    exact DataW.weights_mem_each (ts := [30, 31]) (j := 1) rfl rfl n hn))).1
  rw [bytesTag6] at f2
  exact ⟨f1, by simpa [reachBytes] using f2⟩

set_option maxRecDepth 100000 in
theorem bat_len9 {H : Type} {d : DataW H} {l : List TxM} (h : ∀ n ∈ d.weights Tryz.prog 26, n ≤ reachBytes) (hs : BatDatum d l) : l.length * 136 ≤ 140737488351232 := by
  obtain ⟨y0, y1, y2, rfl, hq⟩ := hs
  have hw : ∀ n ∈ y2.weights Tryz.prog 24, n ≤ reachBytes := fun n hn => h n (by
    rw [DataW.weights, Tryz.underlying26]
    exact DataW.weights_mem_each (ts := [3, 3, 24]) (j := 2) rfl rfl n hn)
  rcases hq with ⟨rfl, rfl⟩ | ⟨ds, rest, rfl, hl, _⟩
  · simp
  · have hb : Tryz.prog.bytesOf 86 = 136 := by kernel_rfl
    have := hw ((ds.length + rest.length) * Tryz.prog.bytesOf 86) (by simp [DataW.weights, Tryz.underlying24])
    rw [hb] at this
    unfold reachBytes at this
    rw [← hl]
    omega

set_option maxRecDepth 100000 in
theorem msg_fit {H : Type} {d : DataW H} {x : MsgM} (h : MsgQ d x) (hz : ∀ t ∈ x.bat.txs, TxSizes t.d) (hl : x.bat.txs.length ≤ maxLen) (hw : ∀ n ∈ d.weights Tryz.prog 39, n ≤ reachBytes) : x.In := by
  obtain ⟨y0, y1, y2, y3, y4, y5, y6, y7, y8, rfl, q4, q5, q6, q7, q8⟩ := h
  have f4 := bat_fit (fun n hn => hw n (by
    rw [DataW.weights, Tryz.underlying39]
    exact DataW.weights_mem_each (ts := [3, 9, 3, 23, 26, 30, 33, 37, 35]) (j := 4) rfl rfl n hn)) q4
  have l4 := bat_len9 (fun n hn => hw n (by
    rw [DataW.weights, Tryz.underlying39]
    exact DataW.weights_mem_each (ts := [3, 9, 3, 23, 26, 30, 33, 37, 35]) (j := 4) rfl rfl n hn)) q4
  have f5 := hdr_fit q5 (fun n hn => hw n (by
    rw [DataW.weights, Tryz.underlying39]
    exact DataW.weights_mem_each (ts := [3, 9, 3, 23, 26, 30, 33, 37, 35]) (j := 5) rfl rfl n hn))
  have f6 := cert_fit9 q6 (fun n hn => hw n (by
    rw [DataW.weights, Tryz.underlying39]
    exact DataW.weights_mem_each (ts := [3, 9, 3, 23, 26, 30, 33, 37, 35]) (j := 6) rfl rfl n hn))
  have f7 := blk_fit q7 (fun n hn => hw n (by
    rw [DataW.weights, Tryz.underlying39]
    exact DataW.weights_mem_each (ts := [3, 9, 3, 23, 26, 30, 33, 37, 35]) (j := 7) rfl rfl n hn))
  have f8 := qc_fit q8 (fun n hn => hw n (by
    rw [DataW.weights, Tryz.underlying39]
    exact DataW.weights_mem_each (ts := [3, 9, 3, 23, 26, 30, 33, 37, 35]) (j := 8) rfl rfl n hn))
  exact ⟨l4, hz, f4, f5, f6.1, f6.2, f7.votes, f7.certs, f8.1⟩

theorem msg_sized {H : Type} {ts : List TypeId} {ds : List (DataW H)} (h : (DataW.weightsEach Tryz.prog ts ds).all (· ≤ reachBytes) = true) {j : Nat} {d : DataW H} {x : MsgM} (ht : ts[j]? = some 39) (hd : ds[j]? = some d) (hs : MsgQ d x) (hz : ∀ t ∈ x.bat.txs, TxSizes t.d) (hl : x.bat.txs.length ≤ maxLen) : x.In := msg_fit hs hz hl (weights_of h ht hd)

theorem MsgM.In.num {x : MsgM} (h : x.In) : x.Num := by
  have h1 := h.txs
  have h2 := h.hdr.n
  have h3 := h.hdr.p
  have h4 := h.cert.n
  have h5 := h.cert.p
  have h6 := h.votes
  have h7 := h.bvotes
  have h8 := h.certs
  have h9 := h.qvotes
  exact ⟨by omega, fun t ht => by have := h.txl t ht; unfold TxLens at this; omega, by omega, by omega, fun r hr => by have := h.hdr.acks r hr; omega, by omega, by omega, fun r hr => by have := h.cert.acks r hr; omega, by omega, by omega, by omega, by omega⟩

theorem MsgM.In.max {x : MsgM} (h : x.In) : x.Max := by
  have h1 := h.txs
  have h2 := h.hdr.n
  have h3 := h.hdr.p
  have h4 := h.cert.n
  have h5 := h.cert.p
  have h8 := h.certs
  refine ⟨?_, ?_, ?_, ?_, ?_, ?_⟩ <;> (unfold maxLen; omega)

theorem MsgM.In.lens {x : MsgM} (h : x.In) (ht : x.bat.txs.length ≤ 50) : x.Lens := ⟨by omega, h.txl, h.hdr, h.cert, h.votes, h.bvotes, h.certs, h.qvotes⟩
end Go.Proofs.YtaoiejgbbmjpkaaGreatDoor

/- Two messages that say the same are alike in sizes. -/
namespace Go.Proofs.YtaoiejgbbmjpkaaGreatDoor
open Go.RowKit
set_option linter.unusedVariables false

theorem num_same {x y : MsgM} (h : y.d = x.d) (hx : x.Num) : y.Num := by
  have e1 : dl y.bat.txs = dl x.bat.txs := congrArg (fun m : MsgD => m.batch.txs) h
  have e2 : rd y.hdr.refs = rd x.hdr.refs := congrArg (fun m : MsgD => m.header.refs) h
  have e3 : y.hdr.parents = x.hdr.parents := congrArg (fun m : MsgD => m.header.parents) h
  have e4 : rd y.cert.hdr.refs = rd x.cert.hdr.refs := congrArg (fun m : MsgD => m.cert.header.refs) h
  have e5 : y.cert.hdr.parents = x.cert.hdr.parents := congrArg (fun m : MsgD => m.cert.header.parents) h
  have e6 : y.cert.votes = x.cert.votes := congrArg (fun m : MsgD => m.cert.votes) h
  have e7 : y.blk.qc.votes = x.blk.qc.votes := congrArg (fun m : MsgD => m.block.qc.votes) h
  have e8 : y.blk.certs = x.blk.certs := congrArg (fun m : MsgD => m.block.certs) h
  have e9 : y.qc.votes = x.qc.votes := congrArg (fun m : MsgD => m.qc.votes) h
  have acks : ∀ {l m : List RefM}, rd l = rd m → (∀ r ∈ m, r.acks.length ≤ 4611686018427387903) → ∀ r ∈ l, r.acks.length ≤ 4611686018427387903 := by
    intro l m e hm r hr
    have h1 : r.d ∈ rd m := by rw [← e]; exact List.mem_map.2 ⟨r, hr, rfl⟩
    obtain ⟨r', hr', e'⟩ := List.mem_map.1 h1
    have h2 : r'.acks = r.acks := congrArg RefD.acks e'
    rw [← h2]
    exact hm r' hr'
  refine ⟨by rw [← dl_length, e1, dl_length]; exact hx.txs, fun t ht => ?_, by rw [← rd_length, e2, rd_length]; exact hx.refs, by rw [e3]; exact hx.ps, acks e2 hx.acks, by rw [← rd_length, e4, rd_length]; exact hx.crefs, by rw [e5]; exact hx.cps, acks e4 hx.cacks,
    by rw [e6]; exact hx.votes, by rw [e7]; exact hx.bvotes, by rw [e8]; exact hx.certs, by rw [e9]; exact hx.qvotes⟩
  have h1 : t.d ∈ dl x.bat.txs := by rw [← e1]; exact List.mem_map.2 ⟨t, ht, rfl⟩
  obtain ⟨t', ht', e'⟩ := List.mem_map.1 h1
  rw [← e']
  exact hx.keys t' ht'

theorem sizes_same {x y : MsgM} (h : y.d = x.d) (hx : ∀ t ∈ x.bat.txs, TxSizes t.d) : ∀ t ∈ y.bat.txs, TxSizes t.d := by
  have e1 : dl y.bat.txs = dl x.bat.txs := congrArg (fun m : MsgD => m.batch.txs) h
  intro t ht
  have h1 : t.d ∈ dl x.bat.txs := by rw [← e1]; exact List.mem_map.2 ⟨t, ht, rfl⟩
  obtain ⟨t', ht', e'⟩ := List.mem_map.1 h1
  rw [← e']
  exact hx t' ht'
end Go.Proofs.YtaoiejgbbmjpkaaGreatDoor

/- tusklaw09.MsgCounts answers true; nothing old in memory is turned. (Laid by gen_msgcounts.py.) -/
namespace Go.Proofs.YtaoiejgbbmjpkaaGreatDoor
open Go.RowKit Go.Sort
set_option linter.unusedVariables false

theorem right_few {m : MsgD} (h : chkM m = 0) : (refWords m.header.refs).length ≤ 28 ∧ (refWords m.cert.header.refs).length ≤ 28 := by
  obtain ⟨hne, hb, h98, hok⟩ := chkM_parts h
  by_cases h9 : 98 ∈ fieldsK m.kind
  · have hk := kind1_only h9
    obtain ⟨_, _, _, _, b4, b5, _, _⟩ := hb
    rw [hk] at b4 b5
    have n4 : m.header.Nil := b4.resolve_left (by decide)
    have n5 : m.cert.Nil := b5.resolve_left (by decide)
    rw [List.eq_nil_of_length_eq_zero n4.2.2.1, List.eq_nil_of_length_eq_zero n5.1.2.2.1]
    exact ⟨Nat.zero_le _, Nat.zero_le _⟩
  · exact ⟨hdr_few (hok h9).hdr, hdr_few (hok h9).cert.1⟩

theorem refLen_succ (l : List RefM) (k : Nat) (r : RefM) (h : l[k]? = some r) : (refWords (rd (l.take (k + 1)))).length = (refWords (rd (l.take k))).length + r.acks.length := by
  rw [refWords_succ l k r h, List.length_append, ofWord_length]

set_option maxRecDepth 100000 in
set_option maxHeartbeats 8000000 in
theorem msgCounts_walk (x : MsgM) (w : World) (hA : x.At w) (hI : x.In) (hG : Mx.Glob w) :
    Calls Tryz.prog 4 #[x.v] w fun e w' => e = .returned (.bool true) ∧ Below w.heap.size w w' := by
  have hn := hI.num
  have hmx := hI.max
  have HLn : Hid (x.bat.txs.length ≤ 50 → x.Lens) := hI.lens
  have hv1 := hI.votes
  have hv2 := hI.bvotes
  have hv3 := hI.qvotes
  clear hI
  have cW := works9_any
  have cG := fun w1 h1 => great9_any x w1 h1 hmx
  have cO : Hid (∀ w1, x.At w1 → x.Lens → Calls Tryz.prog 7 #[x.v] w1 fun e w' => GotOwnM w1 x e w') := fun w1 h1 hl => own9_any x w1 h1 hl
  have hNy : Hid (∀ y : MsgM, y.d = x.d → y.Num) := fun (y : MsgM) (h : y.d = x.d) => num_same h hn
  obtain ⟨xd, hxd⟩ : ∃ d, Hid (d = x.d) := ⟨_, rfl⟩
  obtain ⟨k, dg, vi, tg, ba, he, ce, bl, q⟩ := x
  have hX := Arr.new w 39 [.int .i64 k, .string dg, .int .i64 vi, .int .i64 tg.who, .string tg.mac, .int .i64 ba.author, .int .i64 ba.number, .slice ba.ta ba.txs.length ba.tc, .int .i64 he.author, .int .i64 he.round, .slice he.ra he.refs.length he.rc, .slice he.pa he.parents.length he.pc, .int .i64 ce.hdr.author, .int .i64 ce.hdr.round, .slice ce.hdr.ra ce.hdr.refs.length ce.hdr.rc, .slice ce.hdr.pa ce.hdr.parents.length ce.hdr.pc, .slice ce.va ce.votes.length ce.vc, .int .i64 bl.view, .int .i64 bl.qc.view, .string bl.qc.block, .slice bl.qc.va bl.qc.votes.length bl.qc.vc, .slice bl.ca bl.certs.length bl.cc, .int .i64 q.view, .string q.block, .slice q.va q.votes.length q.vc]
  have hB := belowNew w (.cells [.int .i64 k, .string dg, .int .i64 vi, .int .i64 tg.who, .string tg.mac, .int .i64 ba.author, .int .i64 ba.number, .slice ba.ta ba.txs.length ba.tc, .int .i64 he.author, .int .i64 he.round, .slice he.ra he.refs.length he.rc, .slice he.pa he.parents.length he.pc, .int .i64 ce.hdr.author, .int .i64 ce.hdr.round, .slice ce.hdr.ra ce.hdr.refs.length ce.hdr.rc, .slice ce.hdr.pa ce.hdr.parents.length ce.hdr.pc, .slice ce.va ce.votes.length ce.vc, .int .i64 bl.view, .int .i64 bl.qc.view, .string bl.qc.block, .slice bl.qc.va bl.qc.votes.length bl.qc.vc, .slice bl.ca bl.certs.length bl.cc, .int .i64 q.view, .string q.block, .slice q.va q.votes.length q.vc].toArray 39)
  unfold MsgM.v MsgM.c at cG cO ⊢
  simp only at cG cO ⊢
  obtain ⟨w1, hw1⟩ : ∃ q', w.alloc (.cells [.int .i64 k, .string dg, .int .i64 vi, .int .i64 tg.who, .string tg.mac, .int .i64 ba.author, .int .i64 ba.number, .slice ba.ta ba.txs.length ba.tc, .int .i64 he.author, .int .i64 he.round, .slice he.ra he.refs.length he.rc, .slice he.pa he.parents.length he.pc, .int .i64 ce.hdr.author, .int .i64 ce.hdr.round, .slice ce.hdr.ra ce.hdr.refs.length ce.hdr.rc, .slice ce.hdr.pa ce.hdr.parents.length ce.hdr.pc, .slice ce.va ce.votes.length ce.vc, .int .i64 bl.view, .int .i64 bl.qc.view, .string bl.qc.block, .slice bl.qc.va bl.qc.votes.length bl.qc.vc, .slice bl.ca bl.certs.length bl.cc, .int .i64 q.view, .string q.block, .slice q.va q.votes.length q.vc].toArray 39) = q' := ⟨_, rfl⟩
  rw [hw1] at hX hB
  replace hv1 : ce.votes.length * 24 ≤ 140737488351232 := hv1
  replace hv2 : bl.qc.votes.length * 24 ≤ 140737488351232 := hv2
  replace hv3 : q.votes.length * 24 ≤ 140737488351232 := hv3
  go_enter Tryz.func4, Tryz.ntmps4
  go_wp2_with fail
  refine (cW _).mono ?_
  rintro e w2 ⟨rfl, hb⟩
  have hX2 := hX.below hb hX.lt
  have hB2 := hB.trans (hb.mono hB.size)
  clear hX hB hb cW hw1
  go_wp2_with (refine wpList_load_row (by rfl) 39 _ (by rfl) w.heap.size (by rfl) 39 _ (0, 0) _ hX2 Tryz.underlying39 (by rfl) infoMsg9 ?_)
  refine (cG _ (hA.below hB2)).mono ?_
  rintro e w3 ⟨⟨g, rfl, hg⟩, hb⟩
  have hX3 := hX2.below hb hX2.lt
  have hB3 := hB2.trans (hb.mono hB2.size)
  clear hX2 hB2 hb cG
  cases g
  case true =>
    clear hg
    go_wp2
    go_ret
    exact ⟨rfl, hB3⟩
  have hL := HLn.out (hg rfl).1
  clear hg HLn
  go_wp2_with (refine wpList_load_row (by rfl) 39 _ (by rfl) w.heap.size (by rfl) 39 _ (0, 0) _ hX3 Tryz.underlying39 (by rfl) infoMsg9 ?_)
  refine (cO.out _ (hA.below hB3) hL).mono ?_
  rintro e w4 ⟨y, rfl, hyd, hy, hyf, hb⟩
  have hX4 := hX3.below hb hX3.lt
  have hB4 := hB3.trans (hb.mono hB3.size)
  clear hX3 hB3 hb
  have cC := msgCheck_any y w4 hy (hNy.out y hyd)
  rw [hyd, ← hxd.out] at cC
  obtain ⟨er, her⟩ : ∃ n : Nat, n = chkM xd := ⟨_, rfl⟩
  have HC : Hid (er = chkM xd) := her
  rw [← her] at cC
  clear her hyf
  generalize y.v = vy at cC ⊢
  clear hy hyd y
  go_wp2_with fail
  refine cC.mono ?_
  rintro e w5 ⟨rfl, hb⟩
  have hX := hX4.below hb hX4.lt
  have hB := hB4.trans (hb.mono hB4.size)
  clear hX4 hB4 hb cC
  have cWd : Hid (∀ (y : MsgM) w1, y.d = MsgM.d ⟨k, dg, vi, tg, ba, he, ce, bl, q⟩ → y.At w1 → Mx.Glob w1 → Calls Tryz.prog 6 #[y.v] w1 fun e w' => ∃ ao cap, e = .returned (.slice ao (wordsM xd).length cap) ∧ Below w1.heap.size w1 w') := fun y w1 hyd hy hg => by
    refine (msgWords_any y w1 hy (hNy.out y hyd) (words_fit y) hg).mono ?_
    rintro e w' ⟨ao, cap, rfl, _, hb⟩
    refine ⟨ao, cap, ?_, hb⟩
    rw [hyd, ← hxd.out]
  by_cases hz : er = 0
  case neg =>
    have hz' : ((er : Int) != 0) = true := by rw [bne_iff_ne]; omega
    have hw0 : (wordsM xd).length = 0 := by
      unfold wordsM
      rw [if_neg (by rw [← HC.out]; exact hz)]
      rfl
    rw [hw0] at cWd
    clear hz hw0
    go_wp2_with (refine wpList_load_row (by rfl) 39 _ (by rfl) w.heap.size (by rfl) 39 _ (0, 0) _ hX Tryz.underlying39 (by rfl) infoMsg9 ?_)
    refine (cO.out _ (hA.below hB) hL).mono ?_
    rintro e w6 ⟨y, rfl, hyd, hy, hyf, hb⟩
    have hB6 := hB.trans (hb.mono hB.size)
    have cV := cWd.out y w6 hyd hy (hG.below hB6)
    clear hyf hy hyd hX hB hb
    generalize y.v = vy at cV ⊢
    go_wp2_with fail
    refine cV.mono ?_
    rintro e w7 ⟨ao, cap, rfl, hb⟩
    have hBF := hB6.trans (hb.mono hB6.size)
    clear cV hB6 hb
    go_wp2
    go_ret
    exact ⟨rfl, hBF⟩
  subst hz
  have h0 : chkM (MsgM.d ⟨k, dg, vi, tg, ba, he, ce, bl, q⟩) = 0 := by rw [← hxd.out]; exact HC.out.symm
  have hfw := right_few h0
  have hct : Hid ((wordsM xd).length = tagsIn xd) := words_count xd HC.out.symm
  have HT : Hid ((wordsM xd).length = ce.votes.length + bl.qc.votes.length + q.votes.length + (refWords (rd he.refs)).length + (refWords (rd ce.hdr.refs)).length + (if tg.mac.size = 0 then 0 else 1)) := by
    show _ = _
    rw [hct.out, hxd.out]
    unfold tagsIn
    simp only [← refWords_sum]
    rfl
  have hrr := right_refs h0
  have hr1 : he.refs.length ≤ 4 := by have e : he.refs.length = (rd he.refs).length := (rd_length _).symm; rw [e]; exact hrr.1
  have hr2 : ce.hdr.refs.length ≤ 4 := by have e : ce.hdr.refs.length = (rd ce.hdr.refs).length := (rd_length _).symm; rw [e]; exact hrr.2
  have hf1 : (refWords (rd he.refs)).length ≤ 28 := hfw.1
  have hf2 : (refWords (rd ce.hdr.refs)).length ≤ 28 := hfw.2
  clear hfw hrr h0
  have hAt := hA.below hB
  have hRh : RowAt refK w5 he.ra he.refs := hAt.hdr.refs
  have hRc : RowAt refK w5 ce.hdr.ra ce.hdr.refs := hAt.cert.hdr.refs
  have x4 := hX.cell (i := 4) rfl
  have x10 := hX.cell (i := 10) rfl
  have x14 := hX.cell (i := 14) rfl
  have x16 := hX.cell (i := 16) rfl
  have x20 := hX.cell (i := 20) rfl
  have x24 := hX.cell (i := 24) rfl
  clear hAt
  go_wp2
  go_loopw [3, 4] (fun v3 v4 wr => ∃ i : Nat, i ≤ he.refs.length ∧ v4 = .int .i64 (i : Int) ∧ v3 = .int .i64 ((ce.votes.length + bl.qc.votes.length + q.votes.length + (refWords (rd (he.refs.take i))).length : Nat) : Int) ∧ wr = w5) (fun _ v _ => he.refs.length - (intOf v).toNat)
  case atStart => exact ⟨0, Nat.zero_le _, rfl, by rw [show (refWords (rd (he.refs.take 0))).length = 0 from rfl]; go_num, rfl⟩
  case round =>
    obtain ⟨i, hil, rfl, rfl, hwr⟩ := hrel
    rw [hwr]
    clear hwr
    by_cases hlt : i < he.refs.length
    · obtain ⟨r, hr0⟩ : ∃ r, he.refs[i]? = some r := ⟨he.refs[i], List.getElem?_eq_getElem hlt⟩
      obtain ⟨b, off, hra, hbl, y0, y1⟩ := hRh.ref hr0
      have hsc := refLen_succ he.refs i r hr0
      have hle := refWords_le he.refs (i + 1)
      rw [hra] at x10
      go_wp2
      go_roundw
      case rel => exact ⟨i + 1, by omega, by go_num, by go_num, by first | rfl | trivial⟩
      case measure => simp [intOf]; omega
    · obtain rfl : i = he.refs.length := by omega
      rw [List.take_length]
      go_wp2
      go_loopw [3, 5] (fun v3 v5 wr => ∃ i : Nat, i ≤ ce.hdr.refs.length ∧ v5 = .int .i64 (i : Int) ∧ v3 = .int .i64 ((ce.votes.length + bl.qc.votes.length + q.votes.length + (refWords (rd he.refs)).length + (refWords (rd (ce.hdr.refs.take i))).length : Nat) : Int) ∧ wr = w5) (fun _ v _ => ce.hdr.refs.length - (intOf v).toNat)
      case atStart => exact ⟨0, Nat.zero_le _, rfl, by rw [show (refWords (rd (ce.hdr.refs.take 0))).length = 0 from rfl]; go_num, rfl⟩
      case round =>
        obtain ⟨i, hil2, rfl, rfl, hwr⟩ := hrel
        rw [hwr]
        clear hwr
        by_cases hlt2 : i < ce.hdr.refs.length
        · obtain ⟨r, hr0⟩ : ∃ r, ce.hdr.refs[i]? = some r := ⟨ce.hdr.refs[i], List.getElem?_eq_getElem hlt2⟩
          obtain ⟨b, off, hra, hbl, y0, y1⟩ := hRc.ref hr0
          have hsc := refLen_succ ce.hdr.refs i r hr0
          have hle := refWords_le ce.hdr.refs (i + 1)
          rw [hra] at x14
          go_wp2
          go_roundw
          case rel => exact ⟨i + 1, by omega, by go_num, by go_num, by first | rfl | trivial⟩
          case measure => simp [intOf]; omega
        · obtain rfl : i = ce.hdr.refs.length := by omega
          rw [List.take_length]
          obtain ⟨M, hM⟩ : ∃ M, M = ce.votes.length + bl.qc.votes.length + q.votes.length + (refWords (rd he.refs)).length + (refWords (rd ce.hdr.refs)).length := ⟨_, rfl⟩
          have hMl : M ≤ 100000000000000 := by omega
          have HT2 := HT.out
          rw [← hM] at HT2 ⊢
          clear hM hlt hlt2 hil hil2
          by_cases hm : tg.mac.toList = []
          · have hs0 : tg.mac.size = 0 := by rw [ByteArray.toList_eq] at hm; simpa using congrArg List.length hm
            rw [if_pos hs0, Nat.add_zero] at HT2
            rw [HT2] at cWd
            clear HT2 hs0
            go_wp2_with (refine wpList_load_row (by rfl) 39 _ (by rfl) w.heap.size (by rfl) 39 _ (0, 0) _ hX Tryz.underlying39 (by rfl) infoMsg9 ?_)
            refine (cO.out _ (hA.below hB) hL).mono ?_
            rintro e w6 ⟨y, rfl, hyd, hy, hyf, hb⟩
            have hB6 := hB.trans (hb.mono hB.size)
            have cV := cWd.out y w6 hyd hy (hG.below hB6)
            clear hyf hy hyd hX hB hb x4 x10 x14 x16 x20 x24 hRh hRc
            generalize y.v = vy at cV ⊢
            go_wp2_with fail
            refine cV.mono ?_
            rintro e w7 ⟨ao, cap, rfl, hb⟩
            have hBF := hB6.trans (hb.mono hB6.size)
            clear cV hB6 hb
            go_wp2
            go_ret
            exact ⟨rfl, hBF⟩
          · have hs0 : ¬ tg.mac.size = 0 := fun e => hm (by rw [ByteArray.toList_eq]; exact List.eq_nil_of_length_eq_zero (by simpa using e))
            have hE : tg.mac.toList.isEmpty = false := by rw [← Bool.not_eq_true]; exact fun e => hm (List.isEmpty_iff.1 e)
            have hE2 : (tg.mac.toList != []) = true := by rw [bne_iff_ne]; exact hm
            have hE3 : (tg.mac.toList == []) = false := by rw [beq_eq_false_iff_ne]; exact hm
            rw [if_neg hs0] at HT2
            rw [HT2] at cWd
            clear HT2 hs0
            go_wp2_with (refine wpList_load_row (by rfl) 39 _ (by rfl) w.heap.size (by rfl) 39 _ (0, 0) _ hX Tryz.underlying39 (by rfl) infoMsg9 ?_)
            refine (cO.out _ (hA.below hB) hL).mono ?_
            rintro e w6 ⟨y, rfl, hyd, hy, hyf, hb⟩
            have hB6 := hB.trans (hb.mono hB.size)
            have cV := cWd.out y w6 hyd hy (hG.below hB6)
            clear hyf hy hyd hX hB hb x4 x10 x14 x16 x20 x24 hRh hRc
            generalize y.v = vy at cV ⊢
            go_wp2_with fail
            refine cV.mono ?_
            rintro e w7 ⟨ao, cap, rfl, hb⟩
            have hBF := hB6.trans (hb.mono hB6.size)
            clear cV hB6 hb
            go_wp2
            go_ret
            exact ⟨rfl, hBF⟩
end Go.Proofs.YtaoiejgbbmjpkaaGreatDoor

/- MsgCounts: for every input the statement answers true, and each argument reads afterwards as it read before. Condition: the two tables of package mix read as the program's text lays them; no other. -/
namespace Go.Proofs.YtaoiejgbbmjpkaaGreatDoor
open Go.ChangeShapes Go.WideShapes Go.ChangeAt Go.RowKit
open Go.ChangeMaps (open_string shut_string)
set_option linter.unusedVariables false

set_option maxRecDepth 100000 in
theorem msgCounts_lifted (os : Os) (started : os.Started) (H : Type) (enc : TypeId × Value → H) :
    ReturnsInHanded {} Tryz.checked os 4 .any (fun w args => (Rows.msgCountsSpec.pre enc Tryz.prog Tryz.f4 [] false w args ∧ laidMetH Tryz.prog Mx.laid2 w) ∧ sizedMet enc Tryz.prog Tryz.f4 (OpenSpec.ofChange Rows.msgCountsSpec) false w args)
      (Rows.msgCountsSpec.post enc Tryz.prog Tryz.f4 false true false false) := by
  refine returnsInHanded_of_change_and (C := Tryz.checked) (X := fun w _ => laidMetH Tryz.prog Mx.laid2 w) (fun _ _ _ hh h => h.of_heap hh) ownKnob_none started (by kernel_rfl) Tryz.func4
    (ChangeSpec.witness_shaped (enc := enc) (C := Tryz.checked) (os := os) (X := fun w _ => laidMetH Tryz.prog Mx.laid2 w) false (World.doorLaid Tryz.prog 400 os) #[.agg #[.int .i64 0, .string ByteArray.empty, .int .i64 0, .int .i64 0, .string ByteArray.empty, .int .i64 0, .int .i64 0, .slice none 0 0, .int .i64 0, .int .i64 0, .slice none 0 0, .slice none 0 0, .int .i64 0, .int .i64 0, .slice none 0 0, .slice none 0 0, .slice none 0 0, .int .i64 0, .int .i64 0, .string ByteArray.empty, .slice none 0 0, .slice none 0 0, .int .i64 0, .string ByteArray.empty, .slice none 0 0]] 8 rfl (World.shaped_of_RefB (by kernel_rfl) (by kernel_rfl)) (by kernel_rfl) (by kernel_rfl) (by kernel_rfl) (Mx.door_met os _)) ?_
  intro W base args ds gs before hval0 hW hcnd hsz0 hL _
  have hval : ∀ (j : Nat) t v, Tryz.f4.params[j]? = some t → args[j]? = some v → Value.okWide Tryz.prog W .any base t v := hval0
  have hsz : (DataW.weightsEach Tryz.prog (Tryz.f4.params.toList ++ Rows.msgCountsSpec.plain.varTypes Tryz.prog) (ds ++ gs)).all (· ≤ reachBytes) = true := hsz0
  have hW' := hW
  obtain ⟨p, q, hA0, hV, rfl, hfz, hnd⟩ := hW
  have hA : DataW.TrodAll enc Tryz.prog W 0 (fun _ => true) true Tryz.f4.params.toList args.toList ds p := hA0
  rw [Tryz.params4] at hA hval hsz
  obtain ⟨v0, vs0, d0, ds0, p0, q0, hargs, rfl, rfl, h0, r0⟩ := trodAll_cons hA
  obtain ⟨rfl, rfl, rfl⟩ := trodAll_nil r0
  obtain rfl : args = #[v0] := by cases args; simp_all
  obtain ⟨rfl, rfl⟩ := trodVars_none hV
  have k0 := h0
  have lt0 : ∀ x ∈ p0, x.block < W.heap.size := by obtain ⟨m, hm⟩ := k0; exact DataW.trod_lt m _ _ _ hm
  obtain ⟨x0, rfl, at0, sd0, zs0, ln0, wf0⟩ := open_msg (hval 0 39 v0 rfl rfl) h0
  have in0 := msg_sized hsz (j := 0) rfl rfl sd0 zs0 ln0
  clear hA0 hval0 hsz0
  refine (msgCounts_walk x0 W at0 in0 (Mx.of_laid hL)).mono fun e W' ⟨he, bel⟩ => ?_
  subst he
  exact ⟨_, rfl, _, _, _, [], _, [], hW', trodAll_mk1 (shut_bool Tryz.underlying4 _), (trodAll_cons_mk (Below.trod laidOut_true (by kernel_rfl) (of_decide_eq_true (by kernel_rfl)) k0 bel lt0) trodAll_mk0), rfl, bel.frame _, fun h => by cases h⟩

theorem msgCounts_holds : Rows.MsgCountsSaid :=
  OpenClaim.holds_of_wide 4 Tryz.f4 rfl rfl rfl rfl rfl rfl rfl ⟨rfl, rfl, rfl, rfl, rfl⟩ rfl rfl rfl rfl rfl (by kernel_rfl) Tryz.func4 (by kernel_rfl)
    (of_decide_eq_true (by kernel_rfl)) (by unfold Func.isWrapper; rw [if_neg (of_decide_eq_false (by kernel_rfl))]; exact ⟨rfl, rfl⟩)
    (fun os started H enc _ => msgCounts_lifted os started H enc)

theorem msgCounts_card : Rows.MsgCountsCardSaid :=
  Claim7.holds_tied_plain_at .later [] [.data, .data] true (true, "37fdbc23721d9236c579a7f2280ce951d5bbd052fe92f937da2dbbac692c0bb8") true
    msgCounts_holds (fun _ h => by cases h) (by kernel_rfl) (fun _ h => by cases h) msgCounts_row_tie rfl ⟨rfl, rfl⟩ (by kernel_rfl) rfl
    (fun f fn hf hfn => by
      obtain rfl : f = 4 := Option.some.inj ((show Tryz.prog.funcNamed "tusk/tusklaw09.MsgCounts" = some 4 by kernel_rfl).symm.trans hf) |>.symm
      obtain rfl : fn = Tryz.f4 := (Option.some.inj (Tryz.func4.symm.trans hfn)).symm
      exact ⟨by kernel_rfl, fun j t ht => by
        rw [Tryz.params4] at ht
        have hall : ∀ t ∈ (#[39] : Array TypeId).toList, Tryz.prog.wantsStandIn t = false := by
          show ∀ t ∈ ([39] : List TypeId), Tryz.prog.wantsStandIn t = false
          refine List.forall_mem_cons.2 ⟨by kernel_rfl, ?_⟩
          exact fun _ h => by cases h
        exact hall t (Array.mem_toList_iff.2 (Array.mem_of_getElem? ht))⟩)
    (by kernel_rfl)
end Go.Proofs.YtaoiejgbbmjpkaaGreatDoor
