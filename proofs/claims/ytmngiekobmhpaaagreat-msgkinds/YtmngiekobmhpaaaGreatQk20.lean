/- Texts as one: BlkGreat, MsgGreat, HdrOpenH, Upto, HdrBulk, CertOpen. -/
import Derived.Test.YtmngiekobmhpaaaGreatQk07
import Derived.Test.YtmngiekobmhpaaaGreatQk08
import Derived.Test.YtmngiekobmhpaaaGreatQk09
import Derived.Test.YtmngiekobmhpaaaGreatQk11
import Derived.Test.YtmngiekobmhpaaaGreatQk15
import Derived.Test.YtmngiekobmhpaaaGreatQk02
import Derived.JoinedCond
import Derived.Test.YtmngiekobmhpaaaGreatQk12
/- What tusklaw08.Great does: it answers yes or no; nothing old in memory is turned. -/
namespace Go.Proofs.YtmngiekobmhpaaaGreat
open Go.RowKit
set_option linter.unusedVariables false

/-- Yes or no. -/
def YesNo (e : Ending) : Prop := ∃ g : Bool, e = .returned (.bool g)

set_option maxRecDepth 100000 in
set_option maxHeartbeats 2000000 in
theorem greatBlk_any (x : BlkM) (w : World) (hA : x.At w) (hc : x.certs.length ≤ maxLen) :
    Calls Tryz.prog 29 #[x.v] w fun e w' => YesNo e ∧ Below w.heap.size w w' := by
  obtain ⟨v, q, ca, l, cc⟩ := x
  have hX := Arr.new w 37 [.int .i64 v, .int .i64 q.view, .string q.block, .slice q.va q.votes.length q.vc, .slice ca l.length cc]
  have hB := belowNew w (.cells #[.int .i64 v, .int .i64 q.view, .string q.block, .slice q.va q.votes.length q.vc, .slice ca l.length cc] 37)
  have hR : RowAt strK _ ca l := (hA.below hB).certs
  have hc' : l.length ≤ maxLen := hc
  unfold maxLen at hc'
  unfold BlkM.v
  simp only
  have x2 := hX.cell (i := 2) rfl
  have x3 := hX.cell (i := 3) rfl
  have x4 := hX.cell (i := 4) rfl
  clear hA hc
  go_enter Tryz.func29, Tryz.ntmps29
  go_wp2
  obtain ⟨w1, hw1⟩ : ∃ q', w.alloc (.cells #[.int .i64 v, .int .i64 q.view, .string q.block, .slice q.va q.votes.length q.vc, .slice ca l.length cc] 37) = q' := ⟨_, rfl⟩
  rw [hw1] at hX hB hR x2 x3 x4 ⊢
  go_loopw [3, 4] (fun v3 v4 wr => ∃ (k : Nat) (z : Int), k ≤ l.length ∧ v4 = .int .i64 (k : Int) ∧ v3 = .int .i64 z ∧ wr = w1) (fun _ v _ => l.length - (intOf v).toNat)
  case atStart => exact ⟨0, _, Nat.zero_le _, rfl, rfl, rfl⟩
  case round =>
    obtain ⟨k, z, hk, rfl, rfl, rfl⟩ := hrel
    by_cases hlt : k < l.length
    · obtain ⟨m, hm⟩ : ∃ m, l[k]? = some m := ⟨l[k], List.getElem?_eq_getElem hlt⟩
      obtain ⟨b, off, rfl, hbl, hcc⟩ := hR.cell k m hm
      have c0 := hcc 0 (.string m) rfl
      have e0 : off + k * strK.n + 0 = off + k := by show off + k * 1 + 0 = _; omega
      rw [e0] at c0
      clear hcc hm e0
      go_wp2
      go_roundw
      case rel => exact ⟨k + 1, _, by omega, by go_num, rfl, trivial⟩
      case measure => simp [intOf]; omega
    · go_wp2
      go_ret
      exact ⟨⟨_, rfl⟩, hB⟩
end Go.Proofs.YtmngiekobmhpaaaGreat

/- What tusklaw09.Great does: it answers yes or no; nothing old in memory is turned. -/
namespace Go.Proofs.YtmngiekobmhpaaaGreat
open Go.RowKit
set_option linter.unusedVariables false

/-- Yes, or no, and then some lists are short. -/
def GotGreat (x : MsgM) (e : Ending) : Prop := ∃ g : Bool, e = .returned (.bool g) ∧ (g = false → x.bat.txs.length ≤ 50 ∧ x.cert.votes.length ≤ 50 ∧ x.qc.votes.length ≤ 50)

/-- A message's lists are no longer than lists are. -/
structure MsgM.Max (x : MsgM) : Prop where
  txs : x.bat.txs.length ≤ maxLen
  refs : x.hdr.refs.length ≤ maxLen
  ps : x.hdr.parents.length ≤ maxLen
  crefs : x.cert.hdr.refs.length ≤ maxLen
  cps : x.cert.hdr.parents.length ≤ maxLen
  certs : x.blk.certs.length ≤ maxLen

set_option maxRecDepth 100000 in
set_option maxHeartbeats 4000000 in
theorem great9_any (x : MsgM) (w : World) (hA : x.At w) (hm : x.Max) :
    Calls Tryz.prog 10 #[x.v] w fun e w' => GotGreat x e ∧ Below w.heap.size w w' := by
  obtain ⟨ki, dg, vi, tg, ba, he, ce, bl, q⟩ := x
  have hX1 := Arr.new w 39 [.int .i64 ki, .string dg, .int .i64 vi, .int .i64 tg.who, .string tg.mac, .int .i64 ba.author, .int .i64 ba.number, .slice ba.ta ba.txs.length ba.tc, .int .i64 he.author, .int .i64 he.round, .slice he.ra he.refs.length he.rc, .slice he.pa he.parents.length he.pc, .int .i64 ce.hdr.author, .int .i64 ce.hdr.round, .slice ce.hdr.ra ce.hdr.refs.length ce.hdr.rc, .slice ce.hdr.pa ce.hdr.parents.length ce.hdr.pc, .slice ce.va ce.votes.length ce.vc, .int .i64 bl.view, .int .i64 bl.qc.view, .string bl.qc.block, .slice bl.qc.va bl.qc.votes.length bl.qc.vc, .slice bl.ca bl.certs.length bl.cc, .int .i64 q.view, .string q.block, .slice q.va q.votes.length q.vc]
  have hB1 := belowNew w (.cells #[.int .i64 ki, .string dg, .int .i64 vi, .int .i64 tg.who, .string tg.mac, .int .i64 ba.author, .int .i64 ba.number, .slice ba.ta ba.txs.length ba.tc, .int .i64 he.author, .int .i64 he.round, .slice he.ra he.refs.length he.rc, .slice he.pa he.parents.length he.pc, .int .i64 ce.hdr.author, .int .i64 ce.hdr.round, .slice ce.hdr.ra ce.hdr.refs.length ce.hdr.rc, .slice ce.hdr.pa ce.hdr.parents.length ce.hdr.pc, .slice ce.va ce.votes.length ce.vc, .int .i64 bl.view, .int .i64 bl.qc.view, .string bl.qc.block, .slice bl.qc.va bl.qc.votes.length bl.qc.vc, .slice bl.ca bl.certs.length bl.cc, .int .i64 q.view, .string q.block, .slice q.va q.votes.length q.vc] 39)
  have hA1 := hA.below hB1
  have c1 := fun w1 h1 => great_any he w1 h1 hm.refs hm.ps
  have c2 := fun w1 h1 => great_any ce.hdr w1 h1 hm.crefs hm.cps
  have c3 := fun w1 h1 => greatBlk_any bl w1 h1 hm.certs
  unfold HdrM.v at c1 c2
  unfold BlkM.v at c3
  have yes : ∀ {w'}, Below w.heap.size w w' → ∀ e, e = .returned (.bool true) → GotGreat ⟨ki, dg, vi, tg, ba, he, ce, bl, q⟩ e ∧ Below w.heap.size w w' := fun hb e he => ⟨⟨true, he, fun h => by cases h⟩, hb⟩
  unfold MsgM.v MsgM.c
  simp only
  clear hA hm
  have x7 := hX1.cell (i := 7) rfl
  have x8 := hX1.cell (i := 8) rfl
  have x9 := hX1.cell (i := 9) rfl
  have x10 := hX1.cell (i := 10) rfl
  have x11 := hX1.cell (i := 11) rfl
  obtain ⟨w1, hw1⟩ : ∃ q', w.alloc (.cells #[.int .i64 ki, .string dg, .int .i64 vi, .int .i64 tg.who, .string tg.mac, .int .i64 ba.author, .int .i64 ba.number, .slice ba.ta ba.txs.length ba.tc, .int .i64 he.author, .int .i64 he.round, .slice he.ra he.refs.length he.rc, .slice he.pa he.parents.length he.pc, .int .i64 ce.hdr.author, .int .i64 ce.hdr.round, .slice ce.hdr.ra ce.hdr.refs.length ce.hdr.rc, .slice ce.hdr.pa ce.hdr.parents.length ce.hdr.pc, .slice ce.va ce.votes.length ce.vc, .int .i64 bl.view, .int .i64 bl.qc.view, .string bl.qc.block, .slice bl.qc.va bl.qc.votes.length bl.qc.vc, .slice bl.ca bl.certs.length bl.cc, .int .i64 q.view, .string q.block, .slice q.va q.votes.length q.vc] 39) = q' := ⟨_, rfl⟩
  replace hX1 : Arr w1 w.heap.size 39 [.int .i64 ki, .string dg, .int .i64 vi, .int .i64 tg.who, .string tg.mac, .int .i64 ba.author, .int .i64 ba.number, .slice ba.ta ba.txs.length ba.tc, .int .i64 he.author, .int .i64 he.round, .slice he.ra he.refs.length he.rc, .slice he.pa he.parents.length he.pc, .int .i64 ce.hdr.author, .int .i64 ce.hdr.round, .slice ce.hdr.ra ce.hdr.refs.length ce.hdr.rc, .slice ce.hdr.pa ce.hdr.parents.length ce.hdr.pc, .slice ce.va ce.votes.length ce.vc, .int .i64 bl.view, .int .i64 bl.qc.view, .string bl.qc.block, .slice bl.qc.va bl.qc.votes.length bl.qc.vc, .slice bl.ca bl.certs.length bl.cc, .int .i64 q.view, .string q.block, .slice q.va q.votes.length q.vc] := by rw [← hw1]; exact hX1
  rw [hw1] at hB1 hA1 x7 x8 x9 x10 x11
  go_enter Tryz.func10, Tryz.ntmps10
  by_cases h1 : 50 < ba.txs.length
  · go_wp2
    go_ret
    exact yes hB1 _ rfl
  go_wp2_with fail
  refine (c1 _ hA1.hdr).mono ?_
  rintro e w2 ⟨⟨g1, rfl⟩, hb1⟩
  have hX2 := hX1.below hb1 hX1.lt
  have hA2 := hA1.below hb1
  have hB2 := hB1.trans (hb1.mono hB1.size)
  clear c1 hX1 hA1 hB1 hb1 x7 x8 x9 x10 x11 hw1
  have x12 := hX2.cell (i := 12) rfl
  have x13 := hX2.cell (i := 13) rfl
  have x14 := hX2.cell (i := 14) rfl
  have x15 := hX2.cell (i := 15) rfl
  cases g1
  case true =>
    go_wp2
    go_ret
    exact yes hB2 _ rfl
  go_wp2_with fail
  refine (c2 _ hA2.cert.hdr).mono ?_
  rintro e w3 ⟨⟨g2, rfl⟩, hb2⟩
  have hX3 := hX2.below hb2 hX2.lt
  have hA3 := hA2.below hb2
  have hB3 := hB2.trans (hb2.mono hB2.size)
  clear c2 hX2 hA2 hB2 hb2 x12 x13 x14 x15
  have x16 := hX3.cell (i := 16) rfl
  have x17 := hX3.cell (i := 17) rfl
  have x18 := hX3.cell (i := 18) rfl
  have x19 := hX3.cell (i := 19) rfl
  have x20 := hX3.cell (i := 20) rfl
  have x21 := hX3.cell (i := 21) rfl
  cases g2
  case true =>
    go_wp2
    go_ret
    exact yes hB3 _ rfl
  by_cases h2 : 50 < ce.votes.length
  · go_wp2
    go_ret
    exact yes hB3 _ rfl
  go_wp2_with fail
  refine (c3 _ hA3.blk).mono ?_
  rintro e w4 ⟨⟨g3, rfl⟩, hb3⟩
  have hX4 := hX3.below hb3 hX3.lt
  have hB4 := hB3.trans (hb3.mono hB3.size)
  clear c3 hX3 hA3 hB3 hb3 x16 x17 x18 x19 x20 x21
  have x1 := hX4.cell (i := 1) rfl
  have x23 := hX4.cell (i := 23) rfl
  have x24 := hX4.cell (i := 24) rfl
  cases g3
  case true =>
    go_wp2
    go_ret
    exact yes hB4 _ rfl
  by_cases h3 : 50 < q.votes.length
  · go_wp2
    go_ret
    exact yes hB4 _ rfl
  go_wp2
  go_ret
  exact ⟨⟨_, rfl, fun _ => ⟨Nat.le_of_not_lt h1, Nat.le_of_not_lt h2, Nat.le_of_not_lt h3⟩⟩, hB4⟩
end Go.Proofs.YtmngiekobmhpaaaGreat

/- How a header that came in is opened; its sizes. -/
namespace Go.Proofs.YtmngiekobmhpaaaGreat
open Go.ChangeShapes Go.WideShapes Go.ChangeAt Go.RowKit Go.Joins Go.Deep
set_option linter.unusedVariables false

/-- How a Ref reads. -/
def RefQ {H : Type} (d : DataW H) (r : RefM) : Prop := ∃ y0 y1, d = .agg [y0, y1] ∧ StrQ y0 r.digest ∧ RowD TagQ y1 r.acks

theorem cellsRef6 : Tryz.prog.cellsOf 126 = 2 := by kernel_rfl
theorem cellsHdr6 : Tryz.prog.cellsOf 30 = 4 := by kernel_rfl
theorem cellsRefs6 : Tryz.prog.cellsOf 27 = 1 := by kernel_rfl
theorem bytesRef6 : Tryz.prog.bytesOf 126 = 40 := by kernel_rfl

set_option maxRecDepth 100000 in
theorem open_ref_cells {H : Type} {enc : TypeId × Value → H} {W : World} {fuel : Nat} {cs : List Value} {y : DataW H × List MemPlace}
    (hf : DataW.trod enc Tryz.prog W 0 (fun _ => true) true fuel 126 cs = some y) : ∃ r : RefM, cs = refK.c r ∧ refK.At W r ∧ RefQ y.1 r := by
  obtain ⟨xs, n, _, hx, hcl, hl, hg⟩ := DataW.trod_struct Tryz.underlying126 hf
  obtain ⟨c0, c1, rfl⟩ := list2x (hcl.trans cellsRef6)
  obtain ⟨y0, y1, rfl⟩ := list2x hl
  have g0 := hg 0 _ rfl
  have g1 := hg 1 _ rfl
  simp [cellsTags6, cellsStr6] at g0 g1
  obtain ⟨a0, e0, hy0, s0⟩ := DataW.trod_string Tryz.underlying9 g0
  obtain ⟨ao, len, cap, e1⟩ := slice_form Tryz.underlying31 g1
  simp at e0 e1
  subst e0 e1
  obtain ⟨l, rfl, l1, l2, l3, l4⟩ := open_tagsK g1
  refine ⟨⟨a0, l, ao, cap⟩, rfl, ⟨l1, l2⟩, y0.1, y1.1, ?_, ⟨by rw [hy0], s0⟩, l4⟩
  have := congrArg Prod.fst hx
  simpa using this

/-- How a header reads. -/
def HdrQ {H : Type} (d : DataW H) (x : HdrM) : Prop := ∃ y0 y1 y2 y3, d = .agg [y0, y1, y2, y3] ∧ RowD RefQ y2 x.refs ∧ RowD StrQ y3 x.parents

set_option maxRecDepth 100000 in
theorem open_hdr_cells {H : Type} {enc : TypeId × Value → H} {W : World} {fuel : Nat} {cs : List Value} {y : DataW H × List MemPlace}
    (hf : DataW.trod enc Tryz.prog W 0 (fun _ => true) true fuel 30 cs = some y) : ∃ x : HdrM, cs = hdrK.c x ∧ hdrK.At W x ∧ HdrQ y.1 x := by
  obtain ⟨xs, n, _, hx, hcl, hl, hg⟩ := DataW.trod_struct Tryz.underlying30 hf
  obtain ⟨c0, c1, c2, c3, rfl⟩ := list4x (hcl.trans cellsHdr6)
  obtain ⟨y0, y1, y2, y3, rfl⟩ := list4x hl
  have g0 := hg 0 _ rfl
  have g1 := hg 1 _ rfl
  have g2 := hg 2 _ rfl
  have g3 := hg 3 _ rfl
  simp [cellsInt6, cellsRefs6, cellsStrs6] at g0 g1 g2 g3
  obtain ⟨a0, e0, _, _⟩ := DataW.trod_int Tryz.underlying3 g0
  obtain ⟨a1, e1, _, _⟩ := DataW.trod_int Tryz.underlying3 g1
  obtain ⟨ra, rlen, rc, e2⟩ := slice_form Tryz.underlying27 g2
  obtain ⟨pa, plen, pc, e3⟩ := slice_form Tryz.underlying28 g3
  simp at e0 e1 e2 e3
  subst e0 e1 e2 e3
  obtain ⟨rs, rfl, r1, r2, r3, r4⟩ := open_row refK RefQ Tryz.underlying27 cellsRef6 open_ref_cells g2
  obtain ⟨ps, rfl, p1, p2, p3, p4⟩ := open_row strK StrQ Tryz.underlying28 cellsStr6 open_str_cells g3
  refine ⟨⟨a0, a1, ra, rs, rc, pa, ps, pc⟩, rfl, ⟨r1, r2, p1, p2⟩, y0.1, y1.1, y2.1, y3.1, ?_, r4, p4⟩
  have := congrArg Prod.fst hx
  simpa using this

set_option maxRecDepth 100000 in
theorem open_hdr {H : Type} {enc : TypeId × Value → H} {W : World} {r : Reach} {b0 : Nat} {v : Value} {d : DataW H} {p : List MemPlace} (hv : Value.okWide Tryz.prog W r b0 30 v)
    (h : DataW.Trod enc Tryz.prog W 0 (fun _ => true) true 30 v d p) : ∃ x : HdrM, v = x.v ∧ x.At W ∧ HdrQ d x := by
  obtain ⟨cs, rfl, hsz⟩ := okWide_struct Tryz.underlying30 hv
  obtain ⟨fuel, hf⟩ := h
  have hc : (Value.agg cs).cells.toList = cs.toList := by simp [Value.cells]
  obtain ⟨x, e, hx, hq⟩ := open_hdr_cells hf
  refine ⟨x, ?_, hx, hq⟩
  have e' : cs.toList = x.c := by rw [← hc]; exact e
  have : cs = x.c.toArray := by rw [← e']
  rw [this]
  rfl

set_option maxRecDepth 100000 in
theorem ref_acks_fit {H : Type} {y : DataW H} {r : RefM} (h : RefQ y r) (hw : ∀ n ∈ y.weights Tryz.prog 126, n ≤ reachBytes) : r.acks.length * 24 ≤ 140737488351232 := by
  obtain ⟨y0, y1, rfl, _, h1⟩ := h
  have := (h1.fit Tryz.underlying31 (fun n hn => hw n (by
    rw [DataW.weights, Tryz.underlying126]
    exact DataW.weights_mem_each (ts := [9, 31]) (j := 1) rfl rfl n hn))).1
  rw [bytesTag6] at this
  simpa [reachBytes] using this

set_option maxRecDepth 100000 in
theorem hdr_fit {H : Type} {d : DataW H} {x : HdrM} (h : HdrQ d x) (hw : ∀ n ∈ d.weights Tryz.prog 30, n ≤ reachBytes) : x.Lens := by
  obtain ⟨y0, y1, y2, y3, rfl, h2, h3⟩ := h
  obtain ⟨f1, f2⟩ := h2.fit Tryz.underlying27 (fun n hn => hw n (by
    rw [DataW.weights, Tryz.underlying30]
    exact DataW.weights_mem_each (ts := [3, 3, 27, 28]) (j := 2) rfl rfl n hn))
  obtain ⟨g1, _⟩ := h3.fit Tryz.underlying28 (fun n hn => hw n (by
    rw [DataW.weights, Tryz.underlying30]
    exact DataW.weights_mem_each (ts := [3, 3, 27, 28]) (j := 3) rfl rfl n hn))
  rw [bytesRef6] at f1
  rw [bytesStr6] at g1
  refine ⟨by simpa [reachBytes] using f1, by simpa [reachBytes] using g1, fun r hr => ?_⟩
  obtain ⟨y, hy, hyw⟩ := f2 r hr
  exact ref_acks_fit hy hyw

/-- A header that came in: in sizes that a machine holds. -/
theorem hdr_sized {H : Type} {ts : List TypeId} {ds : List (DataW H)} (h : (DataW.weightsEach Tryz.prog ts ds).all (· ≤ reachBytes) = true) {j : Nat} {d : DataW H} {x : HdrM} (ht : ts[j]? = some 30) (hd : ds[j]? = some d) (hs : HdrQ d x) : x.Lens := hdr_fit hs (weights_of h ht hd)
end Go.Proofs.YtmngiekobmhpaaaGreat

/- What the bound of the second form gives: the sizes of strings, and of slices of strings with all that they hold. -/
namespace Go.Proofs.YtmngiekobmhpaaaGreat
open Go.ChangeShapes Go.WideShapes Go.ChangeAt Go.RowKit

theorem upto_part {H : Type} {d : DataW H} : ∀ {l : List (DataW H)}, d ∈ l → Rows.uptoBulk d ≤ Rows.uptoBulkAll l
  | [], h => by cases h
  | x :: r, h => by
    simp only [Rows.uptoBulkAll]
    rcases List.mem_cons.1 h with e | e
    · subst e; omega
    · have := upto_part e; omega

theorem upto_bound {H : Type} {l : List (DataW H)} (hk : Rows.uptoSmall H l = true) : Rows.uptoBulkAll l ≤ 1048576 := of_decide_eq_true hk

theorem upto_string {H : Type} {s : ByteArray} {d : DataW H} (hd : d = .lit (.string s.data.toList)) {l : List (DataW H)} (hk : Rows.uptoSmall H l = true) (hm : d ∈ l) : s.size ≤ 1048576 := by
  have h1 := upto_bound hk
  have h2 := upto_part hm
  subst hd
  simp only [Rows.uptoBulk] at h2
  have : s.data.toList.length = s.size := by simp
  omega

/-- How many values and letters a row of strings holds. -/
def strsBulk (ss : List ByteArray) : Nat := (ss.map (fun s => s.size + 1)).sum

theorem bulk_strs {H : Type} : ∀ (ss : List ByteArray), Rows.uptoBulkAll (strs (H := H) ss) = strsBulk ss
  | [] => by simp [strs, strsBulk, Rows.uptoBulkAll]
  | s :: ss => by
    have ih := bulk_strs (H := H) ss
    simp only [strs, strsBulk, List.map_cons, List.sum_cons, Rows.uptoBulkAll, Rows.uptoBulk] at ih ⊢
    rw [ih]
    simp

theorem upto_strs {H : Type} {ss : List ByteArray} {d : DataW H} (hd : StrsDatum d ss) {l : List (DataW H)} (hk : Rows.uptoSmall H l = true) (hm : d ∈ l) : strsBulk ss ≤ 1048576 := by
  have h1 := upto_bound hk
  have h2 := upto_part hm
  rcases hd with ⟨rfl, rfl⟩ | ⟨rest, rfl⟩
  · simp [strsBulk]
  · simp only [Rows.uptoBulk] at h2
    rw [bulk_strs] at h2
    omega

theorem strsBulk_length : ∀ (ss : List ByteArray), ss.length ≤ strsBulk ss
  | [] => by simp
  | s :: ss => by
    have := strsBulk_length ss
    simp only [strsBulk, List.map_cons, List.sum_cons, List.length_cons] at this ⊢
    omega

theorem flat_bulk : ∀ (ss : List ByteArray), ((bl ss).flatMap txt).length ≤ 10 * strsBulk ss
  | [] => by simp [bl]
  | s :: ss => by
    have ih := flat_bulk ss
    have hg := goInt_length s.size
    have e : (bl (s :: ss)).flatMap txt = txt s.data.toList ++ (bl ss).flatMap txt := by simp [bl]
    rw [e, List.length_append]
    have e2 : (txt s.data.toList).length = (goInt s.size).length + s.size := by simp [txt]
    simp only [strsBulk, List.map_cons, List.sum_cons] at ih ⊢
    omega

theorem lst_bulk (ss : List ByteArray) : (lst (bl ss)).length ≤ 9 + 10 * strsBulk ss := by
  have := flat_bulk ss
  have := goInt_length (bl ss).length
  rw [lst, List.length_append]
  omega
end Go.Proofs.YtmngiekobmhpaaaGreat

/- What the bound of the second form gives of a header that came in. -/
namespace Go.Proofs.YtmngiekobmhpaaaGreat
open Go.ChangeShapes Go.WideShapes Go.ChangeAt Go.RowKit
set_option linter.unusedVariables false

/-- What a Ref holds. -/
def refBulk (r : RefM) : Nat := r.digest.size + 1 + tagsBulk r.acks

theorem refQ_bulk {H : Type} (y : DataW H) (r : RefM) (h : RefQ y r) : refBulk r ≤ Rows.uptoBulk y := by
  obtain ⟨y0, y1, rfl, h0, h1⟩ := h
  have q0 := h0.bulk
  have q1 := h1.bulk tagQ_bulk
  simp only [Rows.uptoBulk, Rows.uptoBulkAll, refBulk, tagsBulk]
  omega

def refsBulk (l : List RefM) : Nat := (l.map refBulk).sum

theorem refsBulk_len : ∀ (l : List RefM), l.length ≤ refsBulk l
  | [] => by simp
  | r :: l => by
    have := refsBulk_len l
    simp only [refsBulk, refBulk, List.map_cons, List.sum_cons, List.length_cons] at this ⊢
    omega

theorem refsBulk_mem : ∀ {l : List RefM} {r : RefM}, r ∈ l → refBulk r ≤ refsBulk l
  | [], r, h => by cases h
  | x :: l, r, h => by
    simp only [refsBulk, List.map_cons, List.sum_cons]
    rcases List.mem_cons.1 h with rfl | h
    · omega
    · have := refsBulk_mem h
      simp only [refsBulk] at this
      omega

theorem refs_flat_le : ∀ (l : List RefM), ((rd l).flatMap refB).length ≤ 36 * refsBulk l
  | [] => by simp [rd]
  | r :: l => by
    have ih := refs_flat_le l
    have h1 := txt_len_le r.digest.data.toList
    have h2 := tagsB_len_le r.acks
    have h3 : r.digest.data.toList.length = r.digest.size := by simp
    have e : (rd (r :: l)).flatMap refB = refB r.d ++ (rd l).flatMap refB := by simp [rd]
    have e2 : refB r.d = txt r.digest.data.toList ++ tagsB r.acks := rfl
    rw [e, List.length_append, e2, List.length_append]
    simp only [refsBulk, refBulk, List.map_cons, List.sum_cons] at ih ⊢
    omega

theorem hdr_bulk {H : Type} {d : DataW H} {x : HdrM} (h : HdrQ d x) (hk : Rows.uptoBulk d ≤ 1048576) : x.Lens ∧ x.Fit ∧ (encH x.d).length ≤ 1073741824 := by
  obtain ⟨y0, y1, y2, y3, rfl, h2, h3⟩ := h
  have q2 := h2.bulk refQ_bulk
  have q3 := h3.bulk StrQ.bulk
  simp only [Rows.uptoBulk, Rows.uptoBulkAll] at hk
  have b2 : refsBulk x.refs ≤ 1048576 := by unfold refsBulk; omega
  have b3 : strsBulk x.parents ≤ 1048576 := by unfold strsBulk; omega
  have l2 := refsBulk_len x.refs
  have l3 := strsBulk_length x.parents
  have la : ∀ r ∈ x.refs, tagsBulk r.acks ≤ 1048576 := fun r hr => by
    have := refsBulk_mem hr
    unfold refBulk at this
    omega
  have f2 := refs_flat_le x.refs
  have f3 := lst_bulk x.parents
  have g0 := goInt_length x.author
  have g1 := goInt_length x.round
  have g2 := goInt_length ((rd x.refs).length : Int)
  have hl : (encH x.d).length ≤ 1073741824 := by
    show (goInt x.author ++ goInt x.round ++ goInt ((rd x.refs).length : Int) ++ (rd x.refs).flatMap refB ++ lst (bl x.parents)).length ≤ _
    simp only [List.length_append]
    omega
  refine ⟨⟨by omega, by omega, fun r hr => ?_⟩, ⟨by omega, by omega, fun r hr => ?_, fun r hr t ht => ?_, by omega⟩, hl⟩
  · have := la r hr; have := tagsBulk_len r.acks; omega
  · have := la r hr; have := tagsBulk_len r.acks; omega
  · have := la r hr; have := tagsBulk_mem ht; omega
end Go.Proofs.YtmngiekobmhpaaaGreat

/- How a certificate that came in is opened; its bulk. -/
namespace Go.Proofs.YtmngiekobmhpaaaGreat
open Go.ChangeShapes Go.WideShapes Go.ChangeAt Go.RowKit Go.Joins Go.Deep
set_option linter.unusedVariables false

theorem list5x {α : Type} {l : List α} (h : l.length = 5) : ∃ c0 c1 c2 c3 c4, l = [c0, c1, c2, c3, c4] := by
  match l, h with
  | [c0, c1, c2, c3, c4], _ => exact ⟨c0, c1, c2, c3, c4, rfl⟩

theorem cellsCert7 : Tryz.prog.cellsOf 33 = 5 := by kernel_rfl

/-- How a certificate reads. -/
def CertQ {H : Type} (d : DataW H) (x : CertM) : Prop := ∃ y0 y1, d = .agg [y0, y1] ∧ HdrQ y0 x.hdr ∧ RowD TagQ y1 x.votes

set_option maxRecDepth 100000 in
theorem open_cert_cells {H : Type} {enc : TypeId × Value → H} {W : World} {fuel : Nat} {cs : List Value} {y : DataW H × List MemPlace}
    (hf : DataW.trod enc Tryz.prog W 0 (fun _ => true) true fuel 33 cs = some y) : ∃ x : CertM, cs = certK.c x ∧ certK.At W x ∧ CertQ y.1 x := by
  obtain ⟨xs, n, _, hx, hcl, hl, hg⟩ := DataW.trod_struct Tryz.underlying33 hf
  obtain ⟨c0, c1, c2, c3, c4, rfl⟩ := list5x (hcl.trans cellsCert7)
  obtain ⟨y0, y1, rfl⟩ := list2x hl
  have g0 := hg 0 _ rfl
  have g1 := hg 1 _ rfl
  simp [cellsHdr6, cellsTags6] at g0 g1
  obtain ⟨h, e0, hat, hq⟩ := open_hdr_cells g0
  obtain ⟨va, vlen, vc, e1⟩ := slice_form Tryz.underlying31 g1
  have e0' : [c0, c1, c2, c3] = [.int .i64 h.author, .int .i64 h.round, .slice h.ra h.refs.length h.rc, .slice h.pa h.parents.length h.pc] := e0
  simp at e0' e1
  obtain ⟨rfl, rfl, rfl, rfl⟩ := e0'
  subst e1
  obtain ⟨l, rfl, l1, l2, l3, l4⟩ := open_tagsK g1
  refine ⟨⟨h, va, l, vc⟩, rfl, ⟨hat, l1, l2⟩, y0.1, y1.1, ?_, hq, l4⟩
  have := congrArg Prod.fst hx
  simpa using this

set_option maxRecDepth 100000 in
theorem open_cert {H : Type} {enc : TypeId × Value → H} {W : World} {r : Reach} {b0 : Nat} {v : Value} {d : DataW H} {p : List MemPlace} (hv : Value.okWide Tryz.prog W r b0 33 v)
    (h : DataW.Trod enc Tryz.prog W 0 (fun _ => true) true 33 v d p) : ∃ x : CertM, v = x.v ∧ x.At W ∧ CertQ d x := by
  obtain ⟨cs, rfl, hsz⟩ := okWide_struct Tryz.underlying33 hv
  obtain ⟨fuel, hf⟩ := h
  have hc : (Value.agg cs).cells.toList = cs.toList := by simp [Value.cells]
  obtain ⟨x, e, hx, hq⟩ := open_cert_cells hf
  refine ⟨x, ?_, hx, hq⟩
  have e' : cs.toList = x.c := by rw [← hc]; exact e
  have : cs = x.c.toArray := by rw [← e']
  rw [this]
  rfl

/-- What the bound of the second form gives of a certificate. -/
theorem cert_bulk {H : Type} {d : DataW H} {x : CertM} (h : CertQ d x) (hk : Rows.uptoBulk d ≤ 1048576) : x.hdr.Lens ∧ x.Fit ∧ (encH x.hdr.d).length ≤ 1073741824 ∧ x.votes.length * 24 ≤ 140737488351232 := by
  obtain ⟨y0, y1, rfl, h0, h1⟩ := h
  have q1 := h1.bulk tagQ_bulk
  simp only [Rows.uptoBulk, Rows.uptoBulkAll] at hk
  have b1 : tagsBulk x.votes ≤ 1048576 := by unfold tagsBulk; omega
  obtain ⟨a, b, c⟩ := hdr_bulk h0 (by omega)
  have l1 := tagsBulk_len x.votes
  have l2 := tagsB_len_le x.votes
  exact ⟨a, ⟨b, by omega, fun t ht => by have := tagsBulk_mem ht; omega, by omega⟩, c, by omega⟩
end Go.Proofs.YtmngiekobmhpaaaGreat
