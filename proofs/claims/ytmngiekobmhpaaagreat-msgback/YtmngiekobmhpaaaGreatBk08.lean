/- Texts as one: MsgRows, RefTxSame, RefBatSame, RefHdrSame, CertSame, RefBlkSame. -/
import Derived.Test.YtmngiekobmhpaaaGreatBk05
import Derived.Test.YtmngiekobmhpaaaGreatBk06
import Derived.Test.YtmngiekobmhpaaaGreatBk07
import Derived.Test.YtmngiekobmhpaaaGreatBk04
import Derived.Deep.RegionHeld3
/- Transactions, batches and messages as they lie in memory. -/
namespace Go.Proofs.YtmngiekobmhpaaaGreat
open Go.RowKit
set_option linter.unusedVariables false

/-- Transactions. -/
def txK : Kind TxM where
  n := 9
  c := TxM.c
  foot x b := rowFoot strK x.ra x.d.rs b ∨ rowFoot strK x.wa x.d.ws b
  At w x := x.At w
  pos := by decide
  len _ := rfl
  one x u hu := by
    simp only [TxM.c, txC, List.mem_cons, List.not_mem_nil, or_false] at hu
    rcases hu with rfl | rfl | rfl | rfl | rfl | rfl | rfl | rfl | rfl <;> rfl
  lt h hf := hf.elim h.at_.rd.row.lt h.at_.wr.row.lt
  keep h hk := ⟨⟨(h.at_.rd.row.keep (fun b hb => hk b (Or.inl hb))).strs, (h.at_.wr.row.keep (fun b hb => hk b (Or.inr hb))).strs⟩, h.nr, h.nw⟩

theorem RowAt.txs {w : World} {ao : Option Addr} {l : List TxM} (h : RowAt txK w ao l) : TxsAt w ao l :=
  fun i x hx => ⟨h.cell i x hx, h.at_ x (List.mem_of_getElem? hx)⟩

theorem TxsAt.rows {w : World} {ao : Option Addr} {l : List TxM} (h : TxsAt w ao l) : RowAt txK w ao l :=
  ⟨fun i x hx => (h i x hx).1, fun x hx => by
    obtain ⟨i, hi⟩ := List.getElem?_of_mem hx
    exact (h i x hi).2⟩

/-- A batch as it lies in memory. -/
structure BatM where
  author : Int
  number : Int
  ta : Option Addr
  txs : List TxM
  tc : Nat

def BatM.d (x : BatM) : BatD := ⟨x.author, x.number, dl x.txs⟩
def BatM.c (x : BatM) : List Value := [.int .i64 x.author, .int .i64 x.number, .slice x.ta x.txs.length x.tc]
def BatM.v (x : BatM) : Value := .agg #[.int .i64 x.author, .int .i64 x.number, .slice x.ta x.txs.length x.tc]

structure BatM.At (w : World) (x : BatM) : Prop where
  txs : RowAt txK w x.ta x.txs
  nt : x.ta = none → x.tc = 0

def batK : Kind BatM where
  n := 3
  c := BatM.c
  foot x := rowFoot txK x.ta x.txs
  At := BatM.At
  pos := by decide
  len _ := rfl
  one x u hu := by
    simp only [BatM.c, List.mem_cons, List.not_mem_nil, or_false] at hu
    rcases hu with rfl | rfl | rfl <;> rfl
  lt h hf := h.txs.lt hf
  keep h hk := ⟨h.txs.keep hk, h.nt⟩

/-- A message as it lies in memory. -/
structure MsgM where
  kind : Int
  digest : ByteArray
  view : Int
  tag : TagD
  bat : BatM
  hdr : HdrM
  cert : CertM
  blk : BlkM
  qc : QcM

def MsgM.d (x : MsgM) : MsgD := ⟨x.kind, x.digest, x.view, x.tag, x.bat.d, x.hdr.d, x.cert.d, x.blk.d, x.qc.d⟩
def MsgM.c (x : MsgM) : List Value := [.int .i64 x.kind, .string x.digest, .int .i64 x.view, .int .i64 x.tag.who, .string x.tag.mac,
  .int .i64 x.bat.author, .int .i64 x.bat.number, .slice x.bat.ta x.bat.txs.length x.bat.tc,
  .int .i64 x.hdr.author, .int .i64 x.hdr.round, .slice x.hdr.ra x.hdr.refs.length x.hdr.rc, .slice x.hdr.pa x.hdr.parents.length x.hdr.pc,
  .int .i64 x.cert.hdr.author, .int .i64 x.cert.hdr.round, .slice x.cert.hdr.ra x.cert.hdr.refs.length x.cert.hdr.rc, .slice x.cert.hdr.pa x.cert.hdr.parents.length x.cert.hdr.pc, .slice x.cert.va x.cert.votes.length x.cert.vc,
  .int .i64 x.blk.view, .int .i64 x.blk.qc.view, .string x.blk.qc.block, .slice x.blk.qc.va x.blk.qc.votes.length x.blk.qc.vc, .slice x.blk.ca x.blk.certs.length x.blk.cc,
  .int .i64 x.qc.view, .string x.qc.block, .slice x.qc.va x.qc.votes.length x.qc.vc]
def MsgM.v (x : MsgM) : Value := .agg x.c.toArray

/-- Its lists lie in memory, and nil is nil. -/
structure MsgM.At (w : World) (x : MsgM) : Prop where
  bat : x.bat.At w
  hdr : x.hdr.At w
  cert : x.cert.At w
  blk : x.blk.At w
  qc : x.qc.At w

def MsgM.foot (x : MsgM) (b : Nat) : Prop := rowFoot txK x.bat.ta x.bat.txs b ∨ x.hdr.foot b ∨ x.cert.foot b ∨ x.blk.foot b ∨ x.qc.foot b

def msgK : Kind MsgM where
  n := 25
  c := MsgM.c
  foot := MsgM.foot
  At := MsgM.At
  pos := by decide
  len _ := rfl
  one x u hu := by
    simp only [MsgM.c, List.mem_cons, List.not_mem_nil, or_false] at hu
    rcases hu with rfl | rfl | rfl | rfl | rfl | rfl | rfl | rfl | rfl | rfl | rfl | rfl | rfl | rfl | rfl | rfl | rfl | rfl | rfl | rfl | rfl | rfl | rfl | rfl | rfl <;> rfl
  lt h hf := by
    rcases hf with hf | hf | hf | hf | hf
    · exact Kind.lt batK h.bat hf
    · exact Kind.lt hdrK h.hdr hf
    · exact Kind.lt certK h.cert hf
    · exact Kind.lt blkK h.blk hf
    · exact Kind.lt qcK h.qc hf
  keep h hk := ⟨Kind.keep batK h.bat (fun b hb => hk b (Or.inl hb)), Kind.keep hdrK h.hdr (fun b hb => hk b (Or.inr (Or.inl hb))), Kind.keep certK h.cert (fun b hb => hk b (Or.inr (Or.inr (Or.inl hb)))),
    Kind.keep blkK h.blk (fun b hb => hk b (Or.inr (Or.inr (Or.inr (Or.inl hb))))), Kind.keep qcK h.qc (fun b hb => hk b (Or.inr (Or.inr (Or.inr (Or.inr hb)))))⟩

theorem MsgM.At.below {w w' : World} {x : MsgM} (ha : x.At w) (hb : Below w.heap.size w w') : x.At w' := Kind.below msgK ha hb

/-- No message, of a kind. -/
def bat0 : BatM := ⟨0, 0, none, [], 0⟩
def hdr9 : HdrM := ⟨0, 0, none, [], 0, none, [], 0⟩
def msg0 (k : Int) : MsgM := ⟨k, ⟨#[]⟩, 0, tagZ, bat0, hdr9, cert0, blk0, qc0⟩

theorem msg0_at (k : Int) (w : World) : (msg0 k).At w := ⟨⟨nil_row _ _, fun _ => rfl⟩, ⟨nil_row _ _, fun _ => rfl, nil_row _ _, fun _ => rfl⟩, cert0_at w, blk0_at w, qc0_at w⟩

theorem msg0_d (k : Int) : (msg0 k).d = msgZ k := rfl

theorem infoMsg9 : (Tryz.prog.info? 39).map (·.size) = some 25 := by kernel_rfl
end Go.Proofs.YtmngiekobmhpaaaGreat

/- tuskref04.Same answers true at two transactions that read the same; nothing old in memory is turned. -/
namespace Go.Proofs.YtmngiekobmhpaaaGreat
open Go.RowKit
set_option linter.unusedVariables false

set_option maxRecDepth 100000 in
set_option maxHeartbeats 1000000 in
theorem sameTx_any (d : TxD) (ra : Option Addr) (rc : Nat) (wa : Option Addr) (wc : Nat) (ra2 : Option Addr) (rc2 : Nat) (wa2 : Option Addr) (wc2 : Nat) (w : World) (h1 : TxAt w d ra wa) (h2 : TxAt w d ra2 wa2) (l1 : d.rs.length ≤ 9223372036854775807) (l2 : d.ws.length ≤ 9223372036854775807) :
    Calls Tryz.prog 71 #[txV d ra rc wa wc, txV d ra2 rc2 wa2 wc2] w fun e w' => e = .returned (.bool true) ∧ Below w.heap.size w w' := by
  obtain ⟨hX, hY, hB⟩ := two_new w 123 123 (txC d ra rc wa wc) (txC d ra2 rc2 wa2 wc2)
  have k1 := h1.below hB
  have k2 := h2.below hB
  have cR := fun w1 (g1 : StrsAt w1 ra d.rs) (g2 : StrsAt w1 ra2 d.rs) => same_any ra ra2 rc rc2 d.rs w1 g1 g2 l1
  have cW := fun w1 (g1 : StrsAt w1 wa d.ws) (g2 : StrsAt w1 wa2 d.ws) => same_any wa wa2 wc wc2 d.ws w1 g1 g2 l2
  unfold txV
  go_enter Tryz.func71, Tryz.ntmps71
  go_wp2_with fail
  refine (cR _ k1.rd k2.rd).mono ?_
  rintro e w1 ⟨rfl, hb1⟩
  have y8 := (hY.below hb1 hY.lt).cell (i := 8) rfl
  have x8 := (hX.below hb1 hX.lt).cell (i := 8) rfl
  have hB1 := hB.trans (hb1.mono hB.size)
  have j1 := k1.below hb1
  have j2 := k2.below hb1
  clear hb1 hX hY hB k1 k2 h1 h2 cR
  go_wp2_with fail
  refine (cW _ j1.wr j2.wr).mono ?_
  rintro e w2 ⟨rfl, hb2⟩
  have hB2 := hB1.trans (hb2.mono hB1.size)
  clear hb2 hB1 cW j1 j2
  go_wp2
  go_ret
  exact ⟨rfl, hB2⟩
end Go.Proofs.YtmngiekobmhpaaaGreat

/- tuskref05.Same answers true at two batches that read the same; nothing old in memory is turned. -/
namespace Go.Proofs.YtmngiekobmhpaaaGreat
open Go.RowKit
set_option linter.unusedVariables false

theorem dl_get {l m : List TxM} (h : dl l = dl m) {k : Nat} {x y : TxM} (hx : l[k]? = some x) (hy : m[k]? = some y) : y.d = x.d := by
  have h1 : (dl l)[k]? = some x.d := by simp [dl, hx]
  have h2 : (dl m)[k]? = some y.d := by simp [dl, hy]
  rw [h, h2] at h1
  simpa using h1

set_option maxRecDepth 100000 in
set_option maxHeartbeats 4000000 in
theorem sameB_any (a n : Int) (ao : Option Addr) (l : List TxM) (cap : Nat) (ao2 : Option Addr) (m : List TxM) (cap2 : Nat) (w : World) (hA : TxsAt w ao l) (hA2 : TxsAt w ao2 m) (hd : dl l = dl m) (hn : l.length ≤ 4611686018427387903) (hL : ∀ x ∈ l, x.d.rs.length ≤ 9223372036854775807 ∧ x.d.ws.length ≤ 9223372036854775807) :
    Calls Tryz.prog 23 #[batV a n ao l.length cap, batV a n ao2 m.length cap2] w fun e w' => e = .returned (.bool true) ∧ Below w.heap.size w w' := by
  have hlm : m.length = l.length := by rw [← dl_length m, ← hd, dl_length]
  rw [hlm]
  obtain ⟨hX, hY, hB⟩ := two_new w 26 26 (batC a n ao l.length cap) (batC a n ao2 l.length cap2)
  have x0 := hX.cell (i := 0) rfl
  have x1 := hX.cell (i := 1) rfl
  have x2 := hX.cell (i := 2) rfl
  have y0 := hY.cell (i := 0) rfl
  have y1 := hY.cell (i := 1) rfl
  have y2 := hY.cell (i := 2) rfl
  unfold batV
  go_enter Tryz.func23, Tryz.ntmps23
  go_wp2
  go_loopw [5] (fun v wr => ∃ k : Nat, k ≤ l.length ∧ v = .int .i64 (k : Int) ∧ Arr wr w.heap.size 26 (batC a n ao l.length cap) ∧ Arr wr (w.heap.size + 1) 26 (batC a n ao2 l.length cap2) ∧ Below w.heap.size w wr) (fun v _ => l.length - (intOf v).toNat)
  case atStart => exact ⟨0, Nat.zero_le _, rfl, hX, hY, hB⟩
  case round =>
    obtain ⟨k, hk, rfl, hX1, hY1, hb⟩ := hrel
    clear hX hY hB x0 x1 x2 y0 y1 y2
    have x2 := hX1.cell (i := 2) rfl
    have y2 := hY1.cell (i := 2) rfl
    by_cases hlt : k < l.length
    · obtain ⟨x, hx⟩ : ∃ x, l[k]? = some x := ⟨l[k], List.getElem?_eq_getElem hlt⟩
      obtain ⟨y, hy⟩ : ∃ y, m[k]? = some y := ⟨m[k]'(by omega), List.getElem?_eq_getElem (by omega)⟩
      obtain ⟨b, off, rfl, hbl, p0, p1, p2, p3, p4, p5, p6, p7, p8⟩ := (hA.below hb).cells hx
      obtain ⟨b2, off2, rfl, hbl2, q0, q1, q2, q3, q4, q5, q6, q7, q8⟩ := (hA2.below hb).cells hy
      have hAt := (hA k x hx).2.below hb
      have hAt2 := (hA2 k y hy).2.below hb
      have hxy := dl_get hd hx hy
      have hl1 := hL x (List.mem_of_getElem? hx)
      have hkm : k < m.length := by omega
      have cC := fun w1 (h : TxAt w1 x.d x.ra x.wa) (h2 : TxAt w1 x.d y.ra y.wa) => sameTx_any x.d x.ra x.rc x.wa x.wc y.ra y.rc y.wa y.wc w1 h h2 hl1.1 hl1.2
      have ht2 := hAt2.at_
      rw [hxy] at q0 q1 q2 q3 q4 q5 q6 q7 q8 ht2
      have ht1 := hAt.at_
      have hS : (wr.cell? ⟨b, off + k * 9, none⟩ = some (.int .i64 x.d.kind) ∧ wr.cell? ⟨b, off + k * 9 + 1, none⟩ = some (.string x.d.frm) ∧ wr.cell? ⟨b, off + k * 9 + 2, none⟩ = some (.string x.d.to) ∧ wr.cell? ⟨b, off + k * 9 + 3, none⟩ = some (.int .u64 (x.d.amt : Int)) ∧ wr.cell? ⟨b, off + k * 9 + 4, none⟩ = some (.int .u64 (x.d.non : Int)) ∧ wr.cell? ⟨b, off + k * 9 + 5, none⟩ = some (.string x.d.key) ∧ wr.cell? ⟨b, off + k * 9 + 6, none⟩ = some (.string x.d.val) ∧ wr.cell? ⟨b, off + k * 9 + 7, none⟩ = some (.slice x.ra x.d.rs.length x.rc) ∧ wr.cell? ⟨b, off + k * 9 + 8, none⟩ = some (.slice x.wa x.d.ws.length x.wc)) ∧ (wr.cell? ⟨b2, off2 + k * 9, none⟩ = some (.int .i64 x.d.kind) ∧ wr.cell? ⟨b2, off2 + k * 9 + 1, none⟩ = some (.string x.d.frm) ∧ wr.cell? ⟨b2, off2 + k * 9 + 2, none⟩ = some (.string x.d.to) ∧ wr.cell? ⟨b2, off2 + k * 9 + 3, none⟩ = some (.int .u64 (x.d.amt : Int)) ∧ wr.cell? ⟨b2, off2 + k * 9 + 4, none⟩ = some (.int .u64 (x.d.non : Int)) ∧ wr.cell? ⟨b2, off2 + k * 9 + 5, none⟩ = some (.string x.d.key) ∧ wr.cell? ⟨b2, off2 + k * 9 + 6, none⟩ = some (.string x.d.val) ∧ wr.cell? ⟨b2, off2 + k * 9 + 7, none⟩ = some (.slice y.ra x.d.rs.length y.rc) ∧ wr.cell? ⟨b2, off2 + k * 9 + 8, none⟩ = some (.slice y.wa x.d.ws.length y.wc)) ∧ wr.cell? ⟨w.heap.size, 2, none⟩ = some (.slice (some ⟨b, off, none⟩) l.length cap) ∧ wr.cell? ⟨w.heap.size + 1, 2, none⟩ = some (.slice (some ⟨b2, off2, none⟩) l.length cap2) := ⟨⟨p0, p1, p2, p3, p4, p5, p6, p7, p8⟩, ⟨q0, q1, q2, q3, q4, q5, q6, q7, q8⟩, x2, y2⟩
      have hcs : ∀ w2, Below wr.heap.size wr w2 → ((w2.cell? ⟨b, off + k * 9, none⟩ = some (.int .i64 x.d.kind) ∧ w2.cell? ⟨b, off + k * 9 + 1, none⟩ = some (.string x.d.frm) ∧ w2.cell? ⟨b, off + k * 9 + 2, none⟩ = some (.string x.d.to) ∧ w2.cell? ⟨b, off + k * 9 + 3, none⟩ = some (.int .u64 (x.d.amt : Int)) ∧ w2.cell? ⟨b, off + k * 9 + 4, none⟩ = some (.int .u64 (x.d.non : Int)) ∧ w2.cell? ⟨b, off + k * 9 + 5, none⟩ = some (.string x.d.key) ∧ w2.cell? ⟨b, off + k * 9 + 6, none⟩ = some (.string x.d.val) ∧ w2.cell? ⟨b, off + k * 9 + 7, none⟩ = some (.slice x.ra x.d.rs.length x.rc) ∧ w2.cell? ⟨b, off + k * 9 + 8, none⟩ = some (.slice x.wa x.d.ws.length x.wc)) ∧ (w2.cell? ⟨b2, off2 + k * 9, none⟩ = some (.int .i64 x.d.kind) ∧ w2.cell? ⟨b2, off2 + k * 9 + 1, none⟩ = some (.string x.d.frm) ∧ w2.cell? ⟨b2, off2 + k * 9 + 2, none⟩ = some (.string x.d.to) ∧ w2.cell? ⟨b2, off2 + k * 9 + 3, none⟩ = some (.int .u64 (x.d.amt : Int)) ∧ w2.cell? ⟨b2, off2 + k * 9 + 4, none⟩ = some (.int .u64 (x.d.non : Int)) ∧ w2.cell? ⟨b2, off2 + k * 9 + 5, none⟩ = some (.string x.d.key) ∧ w2.cell? ⟨b2, off2 + k * 9 + 6, none⟩ = some (.string x.d.val) ∧ w2.cell? ⟨b2, off2 + k * 9 + 7, none⟩ = some (.slice y.ra x.d.rs.length y.rc) ∧ w2.cell? ⟨b2, off2 + k * 9 + 8, none⟩ = some (.slice y.wa x.d.ws.length y.wc)) ∧ w2.cell? ⟨w.heap.size, 2, none⟩ = some (.slice (some ⟨b, off, none⟩) l.length cap) ∧ w2.cell? ⟨w.heap.size + 1, 2, none⟩ = some (.slice (some ⟨b2, off2, none⟩) l.length cap2)) := by
        intro w2 hb2
        have c := fun (g o : Nat) (v : Value) (h : g < wr.heap.size) (hc : wr.cell? ⟨g, o, none⟩ = some v) => (hb2.cell (p := ⟨g, o, none⟩) h).trans hc
        exact ⟨⟨c _ _ _ hbl p0, c _ _ _ hbl p1, c _ _ _ hbl p2, c _ _ _ hbl p3, c _ _ _ hbl p4, c _ _ _ hbl p5, c _ _ _ hbl p6, c _ _ _ hbl p7, c _ _ _ hbl p8⟩, ⟨c _ _ _ hbl2 q0, c _ _ _ hbl2 q1, c _ _ _ hbl2 q2, c _ _ _ hbl2 q3, c _ _ _ hbl2 q4, c _ _ _ hbl2 q5, c _ _ _ hbl2 q6, c _ _ _ hbl2 q7, c _ _ _ hbl2 q8⟩, c _ _ _ hX1.lt x2, c _ _ _ hY1.lt y2⟩
      have hbd : Below wr.heap.size wr wr.drew := below_drewN (Below.refl _ _) 1
      clear p0 p1 p2 p3 p4 p5 p6 p7 p8 q0 q1 q2 q3 q4 q5 q6 q7 q8 hAt hAt2 hx hy hl1
      go_wp2_with fail
      go_region_held3 (fun w' => (w'.cell? ⟨b, off + k * 9, none⟩ = some (.int .i64 x.d.kind) ∧ w'.cell? ⟨b, off + k * 9 + 1, none⟩ = some (.string x.d.frm) ∧ w'.cell? ⟨b, off + k * 9 + 2, none⟩ = some (.string x.d.to) ∧ w'.cell? ⟨b, off + k * 9 + 3, none⟩ = some (.int .u64 (x.d.amt : Int)) ∧ w'.cell? ⟨b, off + k * 9 + 4, none⟩ = some (.int .u64 (x.d.non : Int)) ∧ w'.cell? ⟨b, off + k * 9 + 5, none⟩ = some (.string x.d.key) ∧ w'.cell? ⟨b, off + k * 9 + 6, none⟩ = some (.string x.d.val) ∧ w'.cell? ⟨b, off + k * 9 + 7, none⟩ = some (.slice x.ra x.d.rs.length x.rc) ∧ w'.cell? ⟨b, off + k * 9 + 8, none⟩ = some (.slice x.wa x.d.ws.length x.wc)) ∧ (w'.cell? ⟨b2, off2 + k * 9, none⟩ = some (.int .i64 x.d.kind) ∧ w'.cell? ⟨b2, off2 + k * 9 + 1, none⟩ = some (.string x.d.frm) ∧ w'.cell? ⟨b2, off2 + k * 9 + 2, none⟩ = some (.string x.d.to) ∧ w'.cell? ⟨b2, off2 + k * 9 + 3, none⟩ = some (.int .u64 (x.d.amt : Int)) ∧ w'.cell? ⟨b2, off2 + k * 9 + 4, none⟩ = some (.int .u64 (x.d.non : Int)) ∧ w'.cell? ⟨b2, off2 + k * 9 + 5, none⟩ = some (.string x.d.key) ∧ w'.cell? ⟨b2, off2 + k * 9 + 6, none⟩ = some (.string x.d.val) ∧ w'.cell? ⟨b2, off2 + k * 9 + 7, none⟩ = some (.slice y.ra x.d.rs.length y.rc) ∧ w'.cell? ⟨b2, off2 + k * 9 + 8, none⟩ = some (.slice y.wa x.d.ws.length y.wc)) ∧ w'.cell? ⟨w.heap.size, 2, none⟩ = some (.slice (some ⟨b, off, none⟩) l.length cap) ∧ w'.cell? ⟨w.heap.size + 1, 2, none⟩ = some (.slice (some ⟨b2, off2, none⟩) l.length cap2)) (exact hcs _ (by assumption))
        (first
        | (go_at_call 71; refine (cC _ (ht1.below hbd) (ht2.below hbd)).mono ?_; rintro e wA ⟨rfl, hbA⟩; have hbA' := hbd.trans (Below.mono hbA hbd.size)))
      have hX2 := hX1.below hbA' hX1.lt
      have hY2 := hY1.below hbA' hY1.lt
      have hb4 := hb.trans (hbA'.mono hb.size)
      clear hcs hS hbd hbA hbA' hX1 hY1 x2 y2 ht1 ht2
      go_wp2
      go_roundw
      case rel => exact ⟨k + 1, by omega, by go_num, hX2, hY2, hb4⟩
      case measure => simp [intOf]; omega
    · go_wp2
      go_ret
      exact ⟨rfl, hb⟩
end Go.Proofs.YtmngiekobmhpaaaGreat

/- tuskref06.SameTags and tuskref06.Same answer true at what reads the same; nothing old in memory is turned. -/
namespace Go.Proofs.YtmngiekobmhpaaaGreat
open Go.RowKit
set_option linter.unusedVariables false

theorem RowAt.drewN {α : Type} {K : Kind α} {w : World} {ao : Option Addr} {l : List α} (h : RowAt K w ao l) (n : Nat) : RowAt K (w.drewN n) ao l :=
  h.below (below_drewN (Below.refl _ _) n)

set_option maxRecDepth 100000 in
set_option maxHeartbeats 1000000 in
theorem sameTags_any (a0 a1 : Option Addr) (c0 c1 : Nat) (l : List TagD) (w : World) (h0 : RowAt tagK w a0 l) (h1 : RowAt tagK w a1 l) (hn : l.length ≤ 4611686018427387903) :
    Calls Tryz.prog 73 #[.slice a0 l.length c0, .slice a1 l.length c1] w fun e w' => e = .returned (.bool true) ∧ Below w.heap.size w w' := by
  go_enter Tryz.func73, Tryz.ntmps73
  go_wp2
  go_loopw [5] (fun i wr => ∃ m : Nat, m ≤ l.length ∧ i = .int .i64 m ∧ Below w.heap.size w wr ∧ RowAt tagK wr a0 l ∧ RowAt tagK wr a1 l) (fun i _ => l.length - (intOf i).toNat)
  case atStart => exact ⟨0, Nat.zero_le _, rfl, Below.refl _ _, h0, h1⟩
  case round =>
    clear h0 h1
    obtain ⟨m, hm, rfl, hw, k0, k1⟩ := hrel
    by_cases hlt : m < l.length
    · obtain ⟨t, ht⟩ : ∃ t, l[m]? = some t := ⟨l[m], List.getElem?_eq_getElem hlt⟩
      obtain ⟨b0, o0, rfl, _, p0, p1⟩ := k0.tag ht
      obtain ⟨b1, o1, rfl, _, q0, q1⟩ := k1.tag ht
      clear ht
      go_wp2_with fail
      go_quiet (fail)
      have hwf := below_drewN hw nq
      have j0 := k0.drewN nq
      have j1 := k1.drewN nq
      clear hw k0 k1 p0 p1 q0 q1
      go_wp2
      go_roundw
      case rel => exact ⟨m + 1, by omega, by go_num, hwf, j0, j1⟩
      case measure => simp [intOf]; omega
    · go_wp2
      go_ret
      exact ⟨rfl, hw⟩

theorem rd_get {l m : List RefM} (h : rd l = rd m) {k : Nat} {x y : RefM} (hx : l[k]? = some x) (hy : m[k]? = some y) : y.d = x.d := by
  have h1 : (rd l)[k]? = some x.d := by simp [rd, hx]
  have h2 : (rd m)[k]? = some y.d := by simp [rd, hy]
  rw [h, h2] at h1
  simpa using h1

set_option maxRecDepth 100000 in
set_option maxHeartbeats 4000000 in
theorem sameH_any (a b : HdrM) (w : World) (hA : a.At w) (hB : b.At w) (hd : a.d = b.d) (hn : a.refs.length ≤ 4611686018427387903) (hp : a.parents.length ≤ 4611686018427387903) (hL : ∀ x ∈ a.refs, x.acks.length ≤ 4611686018427387903) :
    Calls Tryz.prog 24 #[a.v, b.v] w fun e w' => e = .returned (.bool true) ∧ Below w.heap.size w w' := by
  obtain ⟨au, ro, ra, rs, rc, pa, ps, pc⟩ := a
  obtain ⟨au2, ro2, ra2, rs2, rc2, pa2, ps2, pc2⟩ := b
  simp only [HdrM.d, HdrD.mk.injEq] at hd
  obtain ⟨rfl, rfl, hrd, rfl⟩ := hd
  have hlm : rs2.length = rs.length := by rw [← rd_length rs2, ← hrd, rd_length]
  have hA1 : RowAt refK w ra rs := hA.refs
  have hA2 : RowAt strK w pa ps := hA.ps
  have hB1 : RowAt refK w ra2 rs2 := hB.refs
  have hB2 : RowAt strK w pa2 ps := hB.ps
  unfold HdrM.v
  simp only at hn hp hL ⊢
  rw [hlm]
  have Hlm : Hid (rs2.length = rs.length) := hlm
  clear hlm hA hB
  obtain ⟨hX, hY, hBw⟩ := two_new w 30 30 [.int .i64 au, .int .i64 ro, .slice ra rs.length rc, .slice pa ps.length pc] [.int .i64 au, .int .i64 ro, .slice ra2 rs.length rc2, .slice pa2 ps.length pc2]
  have x0 := hX.cell (i := 0) rfl
  have x1 := hX.cell (i := 1) rfl
  have x2 := hX.cell (i := 2) rfl
  have x3 := hX.cell (i := 3) rfl
  have y0 := hY.cell (i := 0) rfl
  have y1 := hY.cell (i := 1) rfl
  have y2 := hY.cell (i := 2) rfl
  have y3 := hY.cell (i := 3) rfl
  have cP := same_any pa pa2 pc pc2 ps _ (hA2.below hBw).strs (hB2.below hBw).strs (by omega)
  go_enter Tryz.func24, Tryz.ntmps24
  go_wp2_with fail
  refine cP.mono ?_
  rintro e w1 ⟨rfl, hb1⟩
  have hX1 := hX.below hb1 hX.lt
  have hY1 := hY.below hb1 hY.lt
  have hBw1 := hBw.trans (hb1.mono hBw.size)
  clear cP hb1 hX hY hBw x0 x1 x2 x3 y0 y1 y2 y3
  go_wp2
  go_loopw [5] (fun v wr => ∃ k : Nat, k ≤ rs.length ∧ v = .int .i64 (k : Int) ∧ Arr wr w.heap.size 30 [.int .i64 au, .int .i64 ro, .slice ra rs.length rc, .slice pa ps.length pc] ∧ Arr wr (w.heap.size + 1) 30 [.int .i64 au, .int .i64 ro, .slice ra2 rs.length rc2, .slice pa2 ps.length pc2] ∧ Below w.heap.size w wr) (fun v _ => rs.length - (intOf v).toNat)
  case atStart => exact ⟨0, Nat.zero_le _, rfl, hX1, hY1, hBw1⟩
  case round =>
    clear hX1 hY1 hBw1
    obtain ⟨k, hk, rfl, hX1, hY1, hb⟩ := hrel
    have x2 := hX1.cell (i := 2) rfl
    have y2 := hY1.cell (i := 2) rfl
    by_cases hlt : k < rs.length
    · obtain ⟨x, hx⟩ : ∃ x, rs[k]? = some x := ⟨rs[k], List.getElem?_eq_getElem hlt⟩
      obtain ⟨y, hy⟩ : ∃ y, rs2[k]? = some y := ⟨rs2[k]'(by rw [Hlm.out]; exact hlt), List.getElem?_eq_getElem (by rw [Hlm.out]; exact hlt)⟩
      obtain ⟨b, off, rfl, hbl, p0, p1⟩ := (hA1.below hb).ref hx
      obtain ⟨b2, off2, rfl, hbl2, q0, q1⟩ := (hB1.below hb).ref hy
      have hAt := ((hA1.below hb).at_ x (List.mem_of_getElem? hx)).1
      have hAt2 := ((hB1.below hb).at_ y (List.mem_of_getElem? hy)).1
      have hxy := rd_get hrd hx hy
      simp only [RefM.d, RefD.mk.injEq] at hxy
      have hl1 := hL x (List.mem_of_getElem? hx)
      rw [hxy.1] at q0
      rw [hxy.2] at q1 hAt2
      have cC := fun w1 (h : RowAt tagK w1 x.ao x.acks) (h2 : RowAt tagK w1 y.ao x.acks) => sameTags_any x.ao y.ao x.cap y.cap x.acks w1 h h2 hl1
      have hS : (wr.cell? ⟨b, off + k * 2, none⟩ = some (.string x.digest) ∧ wr.cell? ⟨b, off + k * 2 + 1, none⟩ = some (.slice x.ao x.acks.length x.cap)) ∧ (wr.cell? ⟨b2, off2 + k * 2, none⟩ = some (.string x.digest) ∧ wr.cell? ⟨b2, off2 + k * 2 + 1, none⟩ = some (.slice y.ao x.acks.length y.cap)) ∧ wr.cell? ⟨w.heap.size, 2, none⟩ = some (.slice (some ⟨b, off, none⟩) rs.length rc) ∧ wr.cell? ⟨w.heap.size + 1, 2, none⟩ = some (.slice (some ⟨b2, off2, none⟩) rs.length rc2) := ⟨⟨p0, p1⟩, ⟨q0, q1⟩, x2, y2⟩
      have hcs : ∀ w2, Below wr.heap.size wr w2 → ((w2.cell? ⟨b, off + k * 2, none⟩ = some (.string x.digest) ∧ w2.cell? ⟨b, off + k * 2 + 1, none⟩ = some (.slice x.ao x.acks.length x.cap)) ∧ (w2.cell? ⟨b2, off2 + k * 2, none⟩ = some (.string x.digest) ∧ w2.cell? ⟨b2, off2 + k * 2 + 1, none⟩ = some (.slice y.ao x.acks.length y.cap)) ∧ w2.cell? ⟨w.heap.size, 2, none⟩ = some (.slice (some ⟨b, off, none⟩) rs.length rc) ∧ w2.cell? ⟨w.heap.size + 1, 2, none⟩ = some (.slice (some ⟨b2, off2, none⟩) rs.length rc2)) := by
        intro w2 hb2
        have c := fun (g o : Nat) (v : Value) (h : g < wr.heap.size) (hc : wr.cell? ⟨g, o, none⟩ = some v) => (hb2.cell (p := ⟨g, o, none⟩) h).trans hc
        exact ⟨⟨c _ _ _ hbl p0, c _ _ _ hbl p1⟩, ⟨c _ _ _ hbl2 q0, c _ _ _ hbl2 q1⟩, c _ _ _ hX1.lt x2, c _ _ _ hY1.lt y2⟩
      have hbd : Below wr.heap.size wr wr.drew := below_drewN (Below.refl _ _) 1
      clear p0 p1 q0 q1 hx hy hl1 hxy
      go_wp2_with fail
      go_region_held3 (fun w' => (w'.cell? ⟨b, off + k * 2, none⟩ = some (.string x.digest) ∧ w'.cell? ⟨b, off + k * 2 + 1, none⟩ = some (.slice x.ao x.acks.length x.cap)) ∧ (w'.cell? ⟨b2, off2 + k * 2, none⟩ = some (.string x.digest) ∧ w'.cell? ⟨b2, off2 + k * 2 + 1, none⟩ = some (.slice y.ao x.acks.length y.cap)) ∧ w'.cell? ⟨w.heap.size, 2, none⟩ = some (.slice (some ⟨b, off, none⟩) rs.length rc) ∧ w'.cell? ⟨w.heap.size + 1, 2, none⟩ = some (.slice (some ⟨b2, off2, none⟩) rs.length rc2)) (exact hcs _ (by assumption))
        (first
        | (go_at_call 73; refine (cC _ (hAt.below hbd) (hAt2.below hbd)).mono ?_; rintro e wA ⟨rfl, hbA⟩; have hbA' := hbd.trans (Below.mono hbA hbd.size)))
      have hX2 := hX1.below hbA' hX1.lt
      have hY2 := hY1.below hbA' hY1.lt
      have hb4 := hb.trans (hbA'.mono hb.size)
      clear hcs hS hbd hbA hbA' hX1 hY1 x2 y2 hAt hAt2
      go_wp2
      go_roundw
      case rel => exact ⟨k + 1, by omega, by go_num, hX2, hY2, hb4⟩
      case measure => simp [intOf]; omega
    · go_wp2
      go_ret
      exact ⟨rfl, hb⟩
end Go.Proofs.YtmngiekobmhpaaaGreat

/- What tuskref07.Same says of two certificates that are the same; nothing old in memory is turned. -/
namespace Go.Proofs.YtmngiekobmhpaaaGreat
open Go.RowKit
set_option linter.unusedVariables false

set_option maxRecDepth 100000 in
set_option maxHeartbeats 2000000 in
theorem sameC_any (a b : CertM) (w : World) (hA : a.At w) (hB : b.At w) (hd : a.d = b.d) (hn : a.hdr.refs.length ≤ 4611686018427387903) (hp : a.hdr.parents.length ≤ 4611686018427387903) (hL : ∀ x ∈ a.hdr.refs, x.acks.length ≤ 4611686018427387903) (hv : a.votes.length ≤ 4611686018427387903) :
    Calls Tryz.prog 25 #[a.v, b.v] w fun e w' => e = .returned (.bool true) ∧ Below w.heap.size w w' := by
  have hdh : a.hdr.d = b.hdr.d := congrArg CertD.header hd
  have hdv : a.votes = b.votes := congrArg CertD.votes hd
  obtain ⟨hX, hY, hb⟩ := two_new w 33 33 a.c b.c
  have hA1 := hA.below hb
  have hB1 := hB.below hb
  have cH := sameH_any a.hdr b.hdr _ hA1.hdr hB1.hdr hdh hn hp hL
  have cV := fun w1 h0 h1 => sameTags_any a.va b.va a.vc b.vc a.votes w1 h0 h1 hv
  have hV0 := hA1.votes
  have hV1 := hB1.votes
  rw [← hdv] at hV1
  unfold CertM.c at hX hY hb cH hV0 hV1
  unfold CertM.v
  unfold HdrM.v at cH
  rw [← hdv] at *
  clear hA hB hA1 hB1 hd hdh hdv
  obtain ⟨w1, hw1⟩ : ∃ q, (w.alloc (.cells [.int .i64 a.hdr.author, .int .i64 a.hdr.round, .slice a.hdr.ra a.hdr.refs.length a.hdr.rc, .slice a.hdr.pa a.hdr.parents.length a.hdr.pc, .slice a.va a.votes.length a.vc].toArray 33)).alloc (.cells [.int .i64 b.hdr.author, .int .i64 b.hdr.round, .slice b.hdr.ra b.hdr.refs.length b.hdr.rc, .slice b.hdr.pa b.hdr.parents.length b.hdr.pc, .slice b.va a.votes.length b.vc].toArray 33) = q := ⟨_, rfl⟩
  rw [hw1] at hX hY hb cH hV0 hV1
  have x0 := hX.cell (i := 0) rfl
  have x1 := hX.cell (i := 1) rfl
  have x2 := hX.cell (i := 2) rfl
  have x3 := hX.cell (i := 3) rfl
  have x4 := hX.cell (i := 4) rfl
  have y0 := hY.cell (i := 0) rfl
  have y1 := hY.cell (i := 1) rfl
  have y2 := hY.cell (i := 2) rfl
  have y3 := hY.cell (i := 3) rfl
  have y4 := hY.cell (i := 4) rfl
  go_enter Tryz.func25, Tryz.ntmps25
  go_wp2_with fail
  refine cH.mono ?_
  rintro e w2 ⟨rfl, hb2⟩
  have hX2 := hX.below hb2 hX.lt
  have hY2 := hY.below hb2 hY.lt
  have hV02 := hV0.below hb2
  have hV12 := hV1.below hb2
  have hB2 := hb.trans (hb2.mono hb.size)
  clear cH hX hY hV0 hV1 hb hb2 x0 x1 x2 x3 x4 y0 y1 y2 y3 y4
  have x4 := hX2.cell (i := 4) rfl
  have y4 := hY2.cell (i := 4) rfl
  go_wp2_with fail
  refine (cV _ hV02 hV12).mono ?_
  rintro e w3 ⟨rfl, hb3⟩
  have hB3 := hB2.trans (hb3.mono hB2.size)
  clear cV hX2 hY2 hV02 hV12 hB2 hb3 x4 y4
  go_wp2
  go_ret
  exact ⟨rfl, hB3⟩
end Go.Proofs.YtmngiekobmhpaaaGreat

/- What tuskref08.SameQc and tuskref08.Same say of two that are the same; nothing old in memory is turned. -/
namespace Go.Proofs.YtmngiekobmhpaaaGreat
open Go.RowKit
set_option linter.unusedVariables false

set_option maxRecDepth 100000 in
set_option maxHeartbeats 2000000 in
theorem sameQ_any (a b : QcM) (w : World) (hA : a.At w) (hB : b.At w) (hd : a.d = b.d) (hv : a.votes.length ≤ 4611686018427387903) :
    Calls Tryz.prog 27 #[a.v, b.v] w fun e w' => e = .returned (.bool true) ∧ Below w.heap.size w w' := by
  obtain ⟨v0, k0, a0, l0, c0⟩ := a
  obtain ⟨v1, k1, a1, l1, c1⟩ := b
  simp only [QcM.d, QcD.mk.injEq] at hd
  obtain ⟨rfl, rfl, rfl⟩ := hd
  have hA1 : RowAt tagK w a0 l0 := hA.votes
  have hB1 : RowAt tagK w a1 l0 := hB.votes
  obtain ⟨hX, hY, hb⟩ := two_new w 35 35 [.int .i64 v0, .string k0, .slice a0 l0.length c0] [.int .i64 v0, .string k0, .slice a1 l0.length c1]
  have cV := sameTags_any a0 a1 c0 c1 l0 _ (hA1.below hb) (hB1.below hb) hv
  unfold QcM.v
  simp only
  clear hA hB hA1 hB1 hv
  obtain ⟨w1, hw1⟩ : ∃ q, (w.alloc (.cells [.int .i64 v0, .string k0, .slice a0 l0.length c0].toArray 35)).alloc (.cells [.int .i64 v0, .string k0, .slice a1 l0.length c1].toArray 35) = q := ⟨_, rfl⟩
  rw [hw1] at hX hY hb cV
  have x0 := hX.cell (i := 0) rfl
  have x1 := hX.cell (i := 1) rfl
  have x2 := hX.cell (i := 2) rfl
  have y0 := hY.cell (i := 0) rfl
  have y1 := hY.cell (i := 1) rfl
  have y2 := hY.cell (i := 2) rfl
  go_enter Tryz.func27, Tryz.ntmps27
  go_wp2_with fail
  refine cV.mono ?_
  rintro e w2 ⟨rfl, hb2⟩
  have hB2 := hb.trans (hb2.mono hb.size)
  clear cV hX hY hb hb2 x0 x1 x2 y0 y1 y2
  go_wp2
  go_ret
  exact ⟨rfl, hB2⟩

set_option maxRecDepth 100000 in
set_option maxHeartbeats 2000000 in
theorem sameK_any (a b : BlkM) (w : World) (hA : a.At w) (hB : b.At w) (hd : a.d = b.d) (hv : a.qc.votes.length ≤ 4611686018427387903) (hc : a.certs.length ≤ 4611686018427387903) :
    Calls Tryz.prog 26 #[a.v, b.v] w fun e w' => e = .returned (.bool true) ∧ Below w.heap.size w w' := by
  obtain ⟨v0, q0, a0, l0, c0⟩ := a
  obtain ⟨v1, q1, a1, l1, c1⟩ := b
  simp only [BlkM.d, BlkD.mk.injEq] at hd
  obtain ⟨rfl, hq, rfl⟩ := hd
  have hA1 : RowAt strK w a0 l0 := hA.certs
  have hB1 : RowAt strK w a1 l0 := hB.certs
  have hAq : q0.At w := hA.qc
  have hBq : q1.At w := hB.qc
  obtain ⟨hX, hY, hb⟩ := two_new w 37 37 [.int .i64 v0, .int .i64 q0.view, .string q0.block, .slice q0.va q0.votes.length q0.vc, .slice a0 l0.length c0] [.int .i64 v0, .int .i64 q1.view, .string q1.block, .slice q1.va q1.votes.length q1.vc, .slice a1 l0.length c1]
  have cQ := sameQ_any q0 q1 _ (hAq.below hb) (hBq.below hb) hq hv
  have cS := fun w1 h0 h1 => same_any a0 a1 c0 c1 l0 w1 h0 h1 (by have := hc; simp only at this; omega)
  have hS0 := hA1.below hb
  have hS1 := hB1.below hb
  unfold QcM.v at cQ
  unfold BlkM.v
  simp only
  clear hA hB hA1 hB1 hv hc hAq hBq hq
  obtain ⟨w1, hw1⟩ : ∃ q, (w.alloc (.cells [.int .i64 v0, .int .i64 q0.view, .string q0.block, .slice q0.va q0.votes.length q0.vc, .slice a0 l0.length c0].toArray 37)).alloc (.cells [.int .i64 v0, .int .i64 q1.view, .string q1.block, .slice q1.va q1.votes.length q1.vc, .slice a1 l0.length c1].toArray 37) = q := ⟨_, rfl⟩
  rw [hw1] at hX hY hb cQ hS0 hS1
  have x0 := hX.cell (i := 0) rfl
  have x1 := hX.cell (i := 1) rfl
  have x2 := hX.cell (i := 2) rfl
  have x3 := hX.cell (i := 3) rfl
  have y0 := hY.cell (i := 0) rfl
  have y1 := hY.cell (i := 1) rfl
  have y2 := hY.cell (i := 2) rfl
  have y3 := hY.cell (i := 3) rfl
  go_enter Tryz.func26, Tryz.ntmps26
  go_wp2_with fail
  refine cQ.mono ?_
  rintro e w2 ⟨rfl, hb2⟩
  have hX2 := hX.below hb2 hX.lt
  have hY2 := hY.below hb2 hY.lt
  have hS02 := hS0.below hb2
  have hS12 := hS1.below hb2
  have hB2 := hb.trans (hb2.mono hb.size)
  clear cQ hX hY hS0 hS1 hb hb2 x0 x1 x2 x3 y0 y1 y2 y3
  have x4 := hX2.cell (i := 4) rfl
  have y4 := hY2.cell (i := 4) rfl
  go_wp2_with fail
  refine (cS _ hS02.strs hS12.strs).mono ?_
  rintro e w3 ⟨rfl, hb3⟩
  have hB3 := hB2.trans (hb3.mono hB2.size)
  clear cS hX2 hY2 hS02 hS12 hB2 hb3 x4 y4
  go_wp2
  go_ret
  exact ⟨rfl, hB3⟩
end Go.Proofs.YtmngiekobmhpaaaGreat
