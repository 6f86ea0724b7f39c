/- Texts as one: MsgRows, BatSealer, BatTick, TxReader, TxQueue, TxRead. -/
import Derived.Test.YtmngiekobmhpaaaGreatRk05
import Derived.Test.YtmngiekobmhpaaaGreatRk06
import Derived.Test.YtmngiekobmhpaaaGreatRk07
import Derived.Test.YtmngiekobmhpaaaGreatRk04
import Derived.BigQuiet
import Derived.BigRegion
import Derived.Laws.ResultCell
import Derived.WalkLawsBesides
/- Transactions, batches and messages as they lie in memory. -/
namespace Go.Proofs.YtmngiekobmhpaaaGreat
open Go.RowKit
set_option linter.unusedVariables false

/-- Transactions. -/
def txK : Kind TxM where
  n := 9
  c := TxM.c
  foot x b := rowFoot strK x.ra x.d.rs b ∨ rowFoot strK x.wa x.d.ws b
  At w x := x.At w
  pos := by decide
  len _ := rfl
  one x u hu := by
    simp only [TxM.c, txC, List.mem_cons, List.not_mem_nil, or_false] at hu
    rcases hu with rfl | rfl | rfl | rfl | rfl | rfl | rfl | rfl | rfl <;> rfl
  lt h hf := hf.elim h.at_.rd.row.lt h.at_.wr.row.lt
  keep h hk := ⟨⟨(h.at_.rd.row.keep (fun b hb => hk b (Or.inl hb))).strs, (h.at_.wr.row.keep (fun b hb => hk b (Or.inr hb))).strs⟩, h.nr, h.nw⟩

theorem RowAt.txs {w : World} {ao : Option Addr} {l : List TxM} (h : RowAt txK w ao l) : TxsAt w ao l :=
  fun i x hx => ⟨h.cell i x hx, h.at_ x (List.mem_of_getElem? hx)⟩

theorem TxsAt.rows {w : World} {ao : Option Addr} {l : List TxM} (h : TxsAt w ao l) : RowAt txK w ao l :=
  ⟨fun i x hx => (h i x hx).1, fun x hx => by
    obtain ⟨i, hi⟩ := List.getElem?_of_mem hx
    exact (h i x hi).2⟩

/-- A batch as it lies in memory. -/
structure BatM where
  author : Int
  number : Int
  ta : Option Addr
  txs : List TxM
  tc : Nat

def BatM.d (x : BatM) : BatD := ⟨x.author, x.number, dl x.txs⟩
def BatM.c (x : BatM) : List Value := [.int .i64 x.author, .int .i64 x.number, .slice x.ta x.txs.length x.tc]
def BatM.v (x : BatM) : Value := .agg #[.int .i64 x.author, .int .i64 x.number, .slice x.ta x.txs.length x.tc]

structure BatM.At (w : World) (x : BatM) : Prop where
  txs : RowAt txK w x.ta x.txs
  nt : x.ta = none → x.tc = 0

def batK : Kind BatM where
  n := 3
  c := BatM.c
  foot x := rowFoot txK x.ta x.txs
  At := BatM.At
  pos := by decide
  len _ := rfl
  one x u hu := by
    simp only [BatM.c, List.mem_cons, List.not_mem_nil, or_false] at hu
    rcases hu with rfl | rfl | rfl <;> rfl
  lt h hf := h.txs.lt hf
  keep h hk := ⟨h.txs.keep hk, h.nt⟩

/-- A message as it lies in memory. -/
structure MsgM where
  kind : Int
  digest : ByteArray
  view : Int
  tag : TagD
  bat : BatM
  hdr : HdrM
  cert : CertM
  blk : BlkM
  qc : QcM

def MsgM.d (x : MsgM) : MsgD := ⟨x.kind, x.digest, x.view, x.tag, x.bat.d, x.hdr.d, x.cert.d, x.blk.d, x.qc.d⟩
def MsgM.c (x : MsgM) : List Value := [.int .i64 x.kind, .string x.digest, .int .i64 x.view, .int .i64 x.tag.who, .string x.tag.mac,
  .int .i64 x.bat.author, .int .i64 x.bat.number, .slice x.bat.ta x.bat.txs.length x.bat.tc,
  .int .i64 x.hdr.author, .int .i64 x.hdr.round, .slice x.hdr.ra x.hdr.refs.length x.hdr.rc, .slice x.hdr.pa x.hdr.parents.length x.hdr.pc,
  .int .i64 x.cert.hdr.author, .int .i64 x.cert.hdr.round, .slice x.cert.hdr.ra x.cert.hdr.refs.length x.cert.hdr.rc, .slice x.cert.hdr.pa x.cert.hdr.parents.length x.cert.hdr.pc, .slice x.cert.va x.cert.votes.length x.cert.vc,
  .int .i64 x.blk.view, .int .i64 x.blk.qc.view, .string x.blk.qc.block, .slice x.blk.qc.va x.blk.qc.votes.length x.blk.qc.vc, .slice x.blk.ca x.blk.certs.length x.blk.cc,
  .int .i64 x.qc.view, .string x.qc.block, .slice x.qc.va x.qc.votes.length x.qc.vc]
def MsgM.v (x : MsgM) : Value := .agg x.c.toArray

/-- Its lists lie in memory, and nil is nil. -/
structure MsgM.At (w : World) (x : MsgM) : Prop where
  bat : x.bat.At w
  hdr : x.hdr.At w
  cert : x.cert.At w
  blk : x.blk.At w
  qc : x.qc.At w

def MsgM.foot (x : MsgM) (b : Nat) : Prop := rowFoot txK x.bat.ta x.bat.txs b ∨ x.hdr.foot b ∨ x.cert.foot b ∨ x.blk.foot b ∨ x.qc.foot b

def msgK : Kind MsgM where
  n := 25
  c := MsgM.c
  foot := MsgM.foot
  At := MsgM.At
  pos := by decide
  len _ := rfl
  one x u hu := by
    simp only [MsgM.c, List.mem_cons, List.not_mem_nil, or_false] at hu
    rcases hu with rfl | rfl | rfl | rfl | rfl | rfl | rfl | rfl | rfl | rfl | rfl | rfl | rfl | rfl | rfl | rfl | rfl | rfl | rfl | rfl | rfl | rfl | rfl | rfl | rfl <;> rfl
  lt h hf := by
    rcases hf with hf | hf | hf | hf | hf
    · exact Kind.lt batK h.bat hf
    · exact Kind.lt hdrK h.hdr hf
    · exact Kind.lt certK h.cert hf
    · exact Kind.lt blkK h.blk hf
    · exact Kind.lt qcK h.qc hf
  keep h hk := ⟨Kind.keep batK h.bat (fun b hb => hk b (Or.inl hb)), Kind.keep hdrK h.hdr (fun b hb => hk b (Or.inr (Or.inl hb))), Kind.keep certK h.cert (fun b hb => hk b (Or.inr (Or.inr (Or.inl hb)))),
    Kind.keep blkK h.blk (fun b hb => hk b (Or.inr (Or.inr (Or.inr (Or.inl hb))))), Kind.keep qcK h.qc (fun b hb => hk b (Or.inr (Or.inr (Or.inr (Or.inr hb)))))⟩

theorem MsgM.At.below {w w' : World} {x : MsgM} (ha : x.At w) (hb : Below w.heap.size w w') : x.At w' := Kind.below msgK ha hb

/-- No message, of a kind. -/
def bat0 : BatM := ⟨0, 0, none, [], 0⟩
def hdr9 : HdrM := ⟨0, 0, none, [], 0, none, [], 0⟩
def msg0 (k : Int) : MsgM := ⟨k, ⟨#[]⟩, 0, tagZ, bat0, hdr9, cert0, blk0, qc0⟩

theorem msg0_at (k : Int) (w : World) : (msg0 k).At w := ⟨⟨nil_row _ _, fun _ => rfl⟩, ⟨nil_row _ _, fun _ => rfl, nil_row _ _, fun _ => rfl⟩, cert0_at w, blk0_at w, qc0_at w⟩

theorem infoMsg9 : (Tryz.prog.info? 39).map (·.size) = some 25 := by kernel_rfl
end Go.Proofs.YtmngiekobmhpaaaGreat

/- What NewSealer, Waits, copied and Add do. -/
namespace Go.Proofs.YtmngiekobmhpaaaGreat
open Go.RowKit
set_option linter.unusedVariables false

theorem SlAt.mono {T : TypeId} {w : World} {base base' p : Nat} {q : Value} {au : Int} {s : Seal TxM} (h : SlAt T w base p q au s) (hb : base' ≤ base) : SlAt T w base' p q au s :=
  ⟨h.box, ⟨h.row.1, h.row.2.imp id fun ⟨g, pre, post, cap, q1, q2, q3⟩ => ⟨g, pre, post, cap, q1, Nat.le_trans hb q2, q3⟩⟩, h.at_, h.off, Nat.le_trans hb h.bp, h.ne, h.lt, fun k hk => Nat.le_trans hb (h.lb k hk)⟩

/-- A new sealer. -/
def Seal.new (size wait : Nat) : Seal TxM := ⟨size, wait, [], 0, 0⟩

theorem SlAt.new (T : TypeId) (w : World) (au : Int) (size wait : Nat) : SlAt T (w.alloc (.cells #[.int .i64 au, .int .i64 (size : Int), .int .i64 (wait : Int), .slice none 0 0, .int .i64 0, .int .i64 0] T)) w.heap.size w.heap.size (.slice none 0 0) au (Seal.new size wait) :=
  ⟨Arr.new w T _, QRow.nil _ _ _ _ _, (fun x hx => by cases hx), (fun x hx => by cases hx), Nat.le_refl _, by simp [Value.ownBlock], by simp [Value.ownBlock], by simp [Value.ownBlock]⟩

/-- What adding answers. -/
def addE (s : Seal TxM) (d : TxD) : Nat := if checkL d ≠ 0 then checkL d else if 4 * s.size ≤ s.l.length then 4 else 0

/-- One more, if it is right and there is room. -/
def Seal.put (s : Seal TxM) (x : TxM) : Seal TxM := if addE s x.d = 0 then { s with l := s.l ++ [x] } else s

/-- Behind Add. -/
def Added (T : TypeId) (w : World) (base p : Nat) (q : Value) (au : Int) (s : Seal TxM) (d : TxD) (own : Bool) (e : Ending) (w' : World) : Prop :=
  e = .returned (.int .i64 (addE s d : Int)) ∧ ∃ x q', x.d = d ∧ SlAt T w' base p q' au (s.put x) ∧ Kept (SlB p q) w w' ∧ (∀ k, SlB p q' k → SlB p q k ∨ w.heap.size ≤ k)

/-- Behind Add, where the very one that was given is kept. -/
def AddedX (T : TypeId) (w : World) (base p : Nat) (q : Value) (au : Int) (s : Seal TxM) (x : TxM) (e : Ending) (w' : World) : Prop :=
  e = .returned (.int .i64 (addE s x.d : Int)) ∧ ∃ q', SlAt T w' base p q' au (s.put x) ∧ Kept (SlB p q) w w' ∧ (∀ k, SlB p q' k → SlB p q k ∨ w.heap.size ≤ k)
end Go.Proofs.YtmngiekobmhpaaaGreat

/- What cut and Tick do. -/
namespace Go.Proofs.YtmngiekobmhpaaaGreat
open Go.RowKit
set_option linter.unusedVariables false

theorem TxsAt.take {w : World} {ao : Option Addr} {l : List TxM} (h : TxsAt w ao l) (n : Nat) : TxsAt w ao (l.take n) := by
  intro i x hx
  exact h i x (by
    rw [List.getElem?_take] at hx
    split at hx
    · exact hx
    · cases hx)

theorem TxsAt.kept {S : Nat → Prop} {w w' : World} {ao : Option Addr} {l : List TxM} (h : TxsAt w ao l) (hk : Kept S w w') (hb : ∀ b off, ao = some ⟨b, off, none⟩ → ¬ S b) (ho : ∀ x ∈ l, x.Off S) : TxsAt w' ao l := by
  intro i x hx
  obtain ⟨⟨b, off, h1, h2, h3⟩, h4⟩ := h i x hx
  exact ⟨⟨b, off, h1, Nat.lt_of_lt_of_le h2 hk.size, fun j v hv => by rw [hk.cell (p := ⟨b, off + i * 9 + j, none⟩) h2 (hb b off h1)]; exact h3 j v hv⟩, h4.kept hk (ho x (List.mem_of_getElem? hx))⟩

/-- Behind Tick: what is handed back, and the sealer. -/
def Ticked (T : TypeId) (w : World) (base p : Nat) (q : Value) (au : Int) (s : Seal TxM) (e : Ending) (w' : World) : Prop :=
  ∃ fo fc q', e = .returned (.tuple #[batV (if s.seals = true then au else 0) (if s.seals = true then (s.number : Int) + 1 else 0) fo s.out.length fc, .bool s.seals]) ∧ (fo = none → fc = 0) ∧ TxsAt w' fo s.out ∧ SlAt T w' base p q' au s.tick ∧ Kept (fun k => k = p) w w' ∧ (∀ k, q'.ownBlock = some k → q.ownBlock = some k ∨ w.heap.size ≤ k)

theorem infoBat : (Tryz.prog.info? 26).map (·.size) = some 3 := by kernel_rfl

theorem results_bat_tmp {fn : Func} {p u : Tmp} (h : fn.results = #[.cell p 26, .tmp u]) (tmps : Array Value) (w : World) (g : Nat) (a n : Int) (ao : Option Addr) (len cap : Nat)
    (hp : tmps.getD p undef = .pointer (some ⟨g, 0, none⟩)) (hg : Arr w g 26 (batC a n ao len cap)) (v : Value) (hv : tmps.getD u undef = v) :
    (results fn tmps).run Tryz.prog w = .ok (.tuple #[batV a n ao len cap, v]) w := by
  rw [results_cell_tmp h, hp, hv]
  have hl := run_loadVar_row w g 26 26 (batC a n ao len cap).toArray (0, 0) _ hg Tryz.underlying26 rfl infoBat
  simp [asAddr, hl, batV, batC, Result.andThen]

/-- No batch. -/
def zeroB : List Value := [.int .i64 0, .int .i64 0, .slice none 0 0]

theorem TxsAt.set3 {w : World} {ao : Option Addr} {l : List TxM} (h : TxsAt w ao l) {g : Nat} (hb : ∀ b off, ao = some ⟨b, off, none⟩ → b ≠ g) (ho : ∀ x ∈ l, x.Off (fun k => k = g)) (v0 v1 v2 : Value) : TxsAt (Proofs.YtmngiekobmhpaaaGreat.set3 w g v0 v1 v2) ao l :=
  ((h.kept (Kept.setCell _ ⟨g, 0, none⟩ v0) (fun b o e k => hb b o e k) ho).kept (Kept.setCell _ ⟨g, 1, none⟩ v1) (fun b o e k => hb b o e k) ho).kept (Kept.setCell _ ⟨g, 2, none⟩ v2) (fun b o e k => hb b o e k) ho
end Go.Proofs.YtmngiekobmhpaaaGreat

/- What must does, and the reader's number, text and keys. -/
namespace Go.Proofs.YtmngiekobmhpaaaGreat
open Go.RowKit
set_option linter.unusedVariables false

/-- The error er, thrown. -/
def thrown (er : Nat) : List PanicEntry := [{ v := .iface 40 (.int .i64 (er : Int)), recovered := false }]

set_option maxRecDepth 100000 in
theorem must_ok (w : World) : Calls Tryz.prog 141 #[.int .i64 0] w fun e w' => e = .returned (.tuple #[]) ∧ w' = w := by
  go_enter Tryz.func141, Tryz.ntmps141
  go_wp2
  go_end0
  exact ⟨rfl, rfl⟩

set_option maxRecDepth 100000 in
theorem must_err (er : Nat) (he : er ≠ 0) (w : World) : Calls Tryz.prog 141 #[.int .i64 (er : Int)] w fun e w' => e = .panicked (thrown er) ∧ w' = w := by
  have hne : ((er : Int) != 0) = true := by rw [bne_iff_ne]; omega
  go_enter Tryz.func141, Tryz.ntmps141
  go_wp2
  exact ⟨rfl, rfl, rfl⟩

/-- A reader's block, a result's, a transaction's that is being read; rows of the call's own. -/
structure RdSt (W : World) (base rb zb tb top : Nat) (T : TypeId) (R : List (Option Addr × List ByteArray)) (w : World) (rcs cs : List Value) : Prop where
  rd : Arr w rb T rcs
  res : Arr w zb 123 zeroC
  tx : Arr w tb 123 cs
  d1 : rb ≠ zb
  d2 : rb ≠ tb
  d3 : zb ≠ tb
  t1 : rb < top
  t2 : zb < top
  t3 : tb < top
  b1 : base ≤ rb
  b2 : base ≤ zb
  b3 : base ≤ tb
  tw : top ≤ w.heap.size
  rows : ∀ p ∈ R, OwnStrs top w p.1 p.2
  bel : Below base W w

theorem RdSt.below {W : World} {base rb zb tb top : Nat} {T : TypeId} {R : List (Option Addr × List ByteArray)} {w w1 : World} {rcs cs : List Value} (h : RdSt W base rb zb tb top T R w rcs cs) (hb : Below w.heap.size w w1) : RdSt W base rb zb tb top T R w1 rcs cs :=
  ⟨h.rd.below hb h.rd.lt, h.res.below hb h.res.lt, h.tx.below hb h.tx.lt, h.d1, h.d2, h.d3, h.t1, h.t2, h.t3, h.b1, h.b2, h.b3, Nat.le_trans h.tw hb.size, fun p hp => (h.rows p hp).below hb, h.bel.trans (hb.mono (by have := h.rd.lt; have := h.b1; omega))⟩

theorem RdSt.setR {W : World} {base rb zb tb top : Nat} {T : TypeId} {R : List (Option Addr × List ByteArray)} {w : World} {rcs cs : List Value} (h : RdSt W base rb zb tb top T R w rcs cs) (i : Nat) (v : Value) : RdSt W base rb zb tb top T R (w.setCell ⟨rb, i, none⟩ v) (rcs.set i v) cs :=
  ⟨h.rd.set i v, h.res.other (p := ⟨rb, i, none⟩) (fun e => h.d1 e.symm) v, h.tx.other (p := ⟨rb, i, none⟩) (fun e => h.d2 e.symm) v, h.d1, h.d2, h.d3, h.t1, h.t2, h.t3, h.b1, h.b2, h.b3, by rw [setCell_size]; exact h.tw, fun p hp => (h.rows p hp).put (p := ⟨rb, i, none⟩) h.t1 v, h.bel.setCell (p := ⟨rb, i, none⟩) h.b1 v⟩

theorem RdSt.setT {W : World} {base rb zb tb top : Nat} {T : TypeId} {R : List (Option Addr × List ByteArray)} {w : World} {rcs cs : List Value} (h : RdSt W base rb zb tb top T R w rcs cs) (i : Nat) (v : Value) : RdSt W base rb zb tb top T R (w.setCell ⟨tb, i, none⟩ v) rcs (cs.set i v) :=
  ⟨h.rd.other (p := ⟨tb, i, none⟩) h.d2 v, h.res.other (p := ⟨tb, i, none⟩) h.d3 v, h.tx.set i v, h.d1, h.d2, h.d3, h.t1, h.t2, h.t3, h.b1, h.b2, h.b3, by rw [setCell_size]; exact h.tw, fun p hp => (h.rows p hp).put (p := ⟨tb, i, none⟩) h.t3 v, h.bel.setCell (p := ⟨tb, i, none⟩) h.b3 v⟩

theorem RdSt.row {W : World} {base rb zb tb top : Nat} {T : TypeId} {R : List (Option Addr × List ByteArray)} {w : World} {rcs cs : List Value} (h : RdSt W base rb zb tb top T R w rcs cs) {a : Option Addr} {ss : List ByteArray} (hr : OwnStrs top w a ss) : RdSt W base rb zb tb top T ((a, ss) :: R) w rcs cs :=
  ⟨h.rd, h.res, h.tx, h.d1, h.d2, h.d3, h.t1, h.t2, h.t3, h.b1, h.b2, h.b3, h.tw, fun p hp => by
    rw [List.mem_cons] at hp
    rcases hp with rfl | hp
    · exact hr
    · exact h.rows p hp, h.bel⟩

set_option maxRecDepth 100000 in
set_option maxHeartbeats 400000 in
theorem number_ok {W : World} {base rb zb tb top : Nat} {R : List (Option Addr × List ByteArray)} {w : World} {rest : ByteArray} {cs : List Value} (st : RdSt W base rb zb tb top 174 R w [.string rest] cs) (hs : rest.size ≤ maxLen) (n k : Nat) (hr : getInt rest.data.toList = (n, k, 0)) :
    Calls Tryz.prog 138 #[.pointer (some ⟨rb, 0, none⟩)] w fun e w' => e = .returned (.int .i64 (n : Int)) ∧ RdSt W base rb zb tb top 174 R w' [.string (rest.extract k rest.size)] cs := by
  have c0 := st.rd.cell (i := 0) rfl
  have f0 := st.rd.frozen 0
  have fin := st.setR 0 (.string (rest.extract k rest.size))
  have hb := getInt_bounds _ n k hr
  have hl : rest.data.toList.length = rest.size := by simp
  have hk : (k : Int) ≤ rest.size := by omega
  have cG := fun w1 => getInt_at rest w1 n k 0 hs hr
  clear st hr hb hl hs
  go_enter Tryz.func138, Tryz.ntmps138
  go_wp2_with fail
  refine (cG _).mono ?_
  rintro e w1 ⟨rfl, rfl⟩
  go_wp2_with fail
  refine (must_ok _).mono ?_
  rintro e w2 ⟨rfl, rfl⟩
  go_wp2
  go_ret
  exact ⟨rfl, fin⟩

set_option maxRecDepth 100000 in
set_option maxHeartbeats 400000 in
theorem number_err {W : World} {base rb zb tb top : Nat} {R : List (Option Addr × List ByteArray)} {w : World} {rest : ByteArray} {cs : List Value} (st : RdSt W base rb zb tb top 174 R w [.string rest] cs) (hs : rest.size ≤ maxLen) (n k er : Nat) (hr : getInt rest.data.toList = (n, k, er)) (he : er ≠ 0) :
    Calls Tryz.prog 138 #[.pointer (some ⟨rb, 0, none⟩)] w fun e w' => e = .panicked (thrown er) ∧ w' = w := by
  have c0 := st.rd.cell (i := 0) rfl
  have cG := fun w1 => getInt_at rest w1 n k er hs hr
  have cM := must_err er he
  clear st hr hs
  go_enter Tryz.func138, Tryz.ntmps138
  go_wp2_with fail
  refine (cG _).mono ?_
  rintro e w1 ⟨rfl, rfl⟩
  go_wp2_with fail
  refine (cM _).mono ?_
  rintro e w2 ⟨rfl, rfl⟩
  go_wp2
  exact ⟨rfl, rfl, rfl⟩

set_option maxRecDepth 100000 in
set_option maxHeartbeats 400000 in
theorem text_ok {W : World} {base rb zb tb top : Nat} {R : List (Option Addr × List ByteArray)} {w : World} {rest : ByteArray} {cs : List Value} (st : RdSt W base rb zb tb top 174 R w [.string rest] cs) (hs : rest.size ≤ maxLen) (t : List UInt8) (k : Nat) (hr : getText rest.data.toList = (t, k, 0)) :
    Calls Tryz.prog 139 #[.pointer (some ⟨rb, 0, none⟩)] w fun e w' => e = .returned (.string ⟨t.toArray⟩) ∧ RdSt W base rb zb tb top 174 R w' [.string (rest.extract k rest.size)] cs := by
  have c0 := st.rd.cell (i := 0) rfl
  have f0 := st.rd.frozen 0
  have fin := st.setR 0 (.string (rest.extract k rest.size))
  have hb := getText_bounds _ t k hr
  have hl : rest.data.toList.length = rest.size := by simp
  have hk : (k : Int) ≤ rest.size := by omega
  have cG := fun w1 => getText_at rest w1 t k 0 hs hr
  clear st hr hb hl hs
  generalize (⟨t.toArray⟩ : ByteArray) = tt at *
  go_enter Tryz.func139, Tryz.ntmps139
  go_wp2_with fail
  refine (cG _).mono ?_
  rintro e w1 ⟨rfl, rfl⟩
  go_wp2_with fail
  refine (must_ok _).mono ?_
  rintro e w2 ⟨rfl, rfl⟩
  go_wp2
  go_ret
  exact ⟨rfl, fin⟩

set_option maxRecDepth 100000 in
set_option maxHeartbeats 400000 in
theorem text_err {W : World} {base rb zb tb top : Nat} {R : List (Option Addr × List ByteArray)} {w : World} {rest : ByteArray} {cs : List Value} (st : RdSt W base rb zb tb top 174 R w [.string rest] cs) (hs : rest.size ≤ maxLen) (t : List UInt8) (k er : Nat) (hr : getText rest.data.toList = (t, k, er)) (he : er ≠ 0) :
    Calls Tryz.prog 139 #[.pointer (some ⟨rb, 0, none⟩)] w fun e w' => e = .panicked (thrown er) ∧ w' = w := by
  have c0 := st.rd.cell (i := 0) rfl
  have cG := fun w1 => getText_at rest w1 t k er hs hr
  have cM := must_err er he
  clear st hr hs
  generalize (⟨t.toArray⟩ : ByteArray) = tt at *
  go_enter Tryz.func139, Tryz.ntmps139
  go_wp2_with fail
  refine (cG _).mono ?_
  rintro e w1 ⟨rfl, rfl⟩
  go_wp2_with fail
  refine (cM _).mono ?_
  rintro e w2 ⟨rfl, rfl⟩
  go_wp2
  exact ⟨rfl, rfl, rfl⟩

/-- A list of at most eight texts out of bytes. -/
theorem getList8 (s : ByteArray) (w : World) (hs : s.size ≤ maxLen) (ts : List (List UInt8)) (k er : Nat) (hr : getList s.data.toList 8 = (ts, k, er)) :
    Calls Tryz.prog 91 #[.string s, .int .i64 8] w fun e w' => ∃ ao cap, e = .returned (.tuple #[.slice ao (mks ts).length cap, .int .i64 (k : Int), .int .i64 (er : Int)]) ∧ OwnStrs w.heap.size w' ao (mks ts) ∧ (ao = none → cap = 0) ∧ Below w.heap.size w w' := by
  refine (getList_any s 8 w 8 hs (Or.inr (by omega)) (by omega)).mono ?_
  rintro e w' ⟨v, rfl, hg, hb⟩
  rw [hr] at hg
  obtain ⟨ao, cap, rfl, hown⟩ := hg
  have hml : (mks ts).length = ts.length := by simp [mks]
  refine ⟨ao, cap, by rw [hml], ?_, ?_, hb⟩
  · refine own_far (cap := cap) (n := ts.length) ?_ hml.symm
    rw [bl_mks]
    exact hown
  · intro he
    rcases hown.2 with ⟨hv, _⟩ | ⟨g, c, cur, hv, _⟩
    · simp at hv; exact hv.2.2
    · simp at hv; rw [hv.1] at he; cases he

set_option maxRecDepth 100000 in
set_option maxHeartbeats 400000 in
theorem keys_ok {W : World} {base rb zb tb top : Nat} {R : List (Option Addr × List ByteArray)} {w : World} {rest : ByteArray} {cs : List Value} (st : RdSt W base rb zb tb top 174 R w [.string rest] cs) (hs : rest.size ≤ maxLen) (ts : List (List UInt8)) (k : Nat) (hr : getList rest.data.toList 8 = (ts, k, 0)) (hk : k ≤ rest.size) :
    Calls Tryz.prog 140 #[.pointer (some ⟨rb, 0, none⟩)] w fun e w' => ∃ ao cap, e = .returned (.slice ao (mks ts).length cap) ∧ (ao = none → cap = 0) ∧ RdSt W base rb zb tb top 174 ((ao, mks ts) :: R) w' [.string (rest.extract k rest.size)] cs := by
  have c0 := st.rd.cell (i := 0) rfl
  replace hk : (k : Int) ≤ rest.size := by omega
  have cG := fun w1 => getList8 rest w1 hs ts k 0 hr
  clear hr hs
  generalize mks ts = ms at *
  go_enter Tryz.func140, Tryz.ntmps140
  go_wp2_with fail
  refine (cG _).mono ?_
  rintro e w1 ⟨ao, cap, rfl, hO, hn, hb⟩
  have st1 := (st.below hb).row (hO.mono st.tw)
  have fin := st1.setR 0 (.string (rest.extract k rest.size))
  have c1 := st1.rd.cell (i := 0) rfl
  have f1 := st1.rd.frozen 0
  clear st st1 c0 hO hb cG
  go_wp2_with fail
  refine (must_ok _).mono ?_
  rintro e w2 ⟨rfl, rfl⟩
  go_wp2
  go_ret
  exact ⟨ao, cap, rfl, hn, fin⟩

set_option maxRecDepth 100000 in
set_option maxHeartbeats 400000 in
theorem keys_err {W : World} {base rb zb tb top : Nat} {R : List (Option Addr × List ByteArray)} {w : World} {rest : ByteArray} {cs : List Value} (st : RdSt W base rb zb tb top 174 R w [.string rest] cs) (hs : rest.size ≤ maxLen) (ts : List (List UInt8)) (k er : Nat) (hr : getList rest.data.toList 8 = (ts, k, er)) (he : er ≠ 0) :
    Calls Tryz.prog 140 #[.pointer (some ⟨rb, 0, none⟩)] w fun e w' => e = .panicked (thrown er) ∧ Below w.heap.size w w' := by
  have c0 := st.rd.cell (i := 0) rfl
  have cG := fun w1 => getList8 rest w1 hs ts k er hr
  have cM := must_err er he
  clear hr hs st
  generalize mks ts = ms at *
  go_enter Tryz.func140, Tryz.ntmps140
  go_wp2_with fail
  refine (cG _).mono ?_
  rintro e w1 ⟨ao, cap, rfl, hO, hn, hb⟩
  clear hO hn c0 cG
  go_wp2_with fail
  refine (cM _).mono ?_
  rintro e w2 ⟨rfl, rfl⟩
  go_wp2
  exact ⟨rfl, rfl, hb⟩
end Go.Proofs.YtmngiekobmhpaaaGreat

/- A row of transactions of the call's own, that is appended to. -/
namespace Go.Proofs.YtmngiekobmhpaaaGreat
open Go.RowKit
set_option linter.unusedVariables false

/-- q is a row of the call's own that holds l. -/
structure TxQ (w : World) (base : Nat) (q : Value) (l : List TxM) : Prop where
  row : QRow w base 123 9 q l.length (flatX l)
  at_ : ∀ x ∈ l, x.At w
  off : ∀ x ∈ l, x.Off (fun k => q.ownBlock = some k)
  lt : ∀ k, q.ownBlock = some k → base ≤ k ∧ k < w.heap.size
  nil : ∀ n cap, q = .slice none n cap → cap = 0

theorem TxQ.empty (w : World) (base : Nat) : TxQ w base (.slice none 0 0) [] :=
  ⟨QRow.nil _ _ _ _ _, (fun x hx => by cases hx), (fun x hx => by cases hx), (fun k hk => by simp [Value.ownBlock] at hk), fun n cap e => by simp at e; exact e.2.symm⟩

theorem TxQ.kept {S : Nat → Prop} {w w' : World} {base : Nat} {q : Value} {l : List TxM} (h : TxQ w base q l) (hk : Kept S w w') (hq : ∀ k, q.ownBlock = some k → ¬ S k) (ho : ∀ x ∈ l, x.Off S) : TxQ w' base q l :=
  ⟨h.row.kept hk hq, fun x hx => (h.at_ x hx).kept hk (ho x hx), h.off, fun k hq => ⟨(h.lt k hq).1, Nat.lt_of_lt_of_le (h.lt k hq).2 hk.size⟩, h.nil⟩

theorem TxQ.below {w w' : World} {base : Nat} {q : Value} {l : List TxM} (h : TxQ w base q l) (hb : Below w.heap.size w w') : TxQ w' base q l :=
  h.kept (Kept.of_below (S := fun _ => False) hb) (fun _ _ h => h) (fun x _ => ⟨fun _ _ _ _ h => h, fun _ _ _ _ h => h⟩)

theorem TxQ.form {w : World} {base : Nat} {q : Value} {l : List TxM} (h : TxQ w base q l) : ∃ ao cap, q = .slice ao l.length cap ∧ (ao = none → cap = 0) ∧ TxsAt w ao l := by
  obtain ⟨ao, cap, rfl, _, _⟩ := h.row.form
  exact ⟨ao, cap, rfl, fun e => h.nil _ _ (by rw [e]), h.row.txs rfl h.at_⟩

/-- More is appended. -/
theorem TxQ.push {w w' : World} {base : Nat} {q q' : Value} {l m : List TxM} (h : TxQ w base q l) (hm : ∀ x ∈ m, x.At w) (hmo : ∀ x ∈ m, x.Off (fun k => q.ownBlock = some k)) (h0 : 0 < m.length)
    (hrow : QRow w' base 123 9 q' (l.length + m.length) (flatX l ++ flatX m)) (hgr : w.grownBy w' q.ownBlock) (hfr : ∀ g, q'.ownBlock = some g → q.ownBlock = some g ∨ w.heap.size ≤ g) : TxQ w' base q' (l ++ m) := by
  have k6 := Kept.of_grown hgr
  refine ⟨by rw [List.length_append, flatX_append]; exact hrow, ?_, ?_, ?_, ?_⟩
  · intro x hx
    rw [List.mem_append] at hx
    rcases hx with hx | hx
    · exact (h.at_ x hx).kept k6 (h.off x hx)
    · exact (hm x hx).kept k6 (hmo x hx)
  · intro x hx
    rw [List.mem_append] at hx
    rcases hx with hx | hx
    · exact (h.at_ x hx).off_grow (h.off x hx) hfr
    · exact (hm x hx).off_grow (hmo x hx) hfr
  · intro k hk
    rcases hrow.lt with hl | ⟨g, hg, hb, hl⟩
    · omega
    · rw [hk] at hg
      simp at hg
      subst hg
      exact ⟨hb, hl⟩
  · intro n cap e
    rcases hrow.2 with ⟨ao, hv, hn⟩ | ⟨g, pre, post, c, hv, _⟩
    · omega
    · rw [hv] at e
      cases e

/-- Lists in new memory keep off what is older. -/
theorem off_own {x : TxM} {b : Nat} {w : World} (h1 : OwnStrs b w x.ra x.d.rs) (h2 : OwnStrs b w x.wa x.d.ws) {S : Nat → Prop} (hS : ∀ k, S k → k < b) : x.Off S := by
  refine ⟨fun bb off e hl hk => ?_, fun bb off e hl hk => ?_⟩
  · obtain ⟨b', off', e', h3, _⟩ := h1 0 hl
    rw [e] at e'
    simp at e'
    have := hS bb hk
    omega
  · obtain ⟨b', off', e', h3, _⟩ := h2 0 hl
    rw [e] at e'
    simp at e'
    have := hS bb hk
    omega

theorem infoTx4 : (Tryz.prog.info? 123).map (fun i => (i.zero, i.size, i.bytes)) = some (some (.agg #[.int .i64 0, .string ⟨#[]⟩, .string ⟨#[]⟩, .int .u64 0, .int .u64 0, .string ⟨#[]⟩, .string ⟨#[]⟩, .slice none 0 0, .slice none 0 0]), 9, 136) := by kernel_rfl

theorem c_one (x : TxM) : ∀ u ∈ x.c, u.oneCell' = true := by
  have := flatX_one [x]
  simpa [flatX] using this

theorem flatX_single (x : TxM) : flatX [x] = x.c := by simp [flatX]

theorem new_c (w : World) (x : TxM) : ∀ j u, x.c[j]? = some u → (w.alloc (.cells x.c.toArray 123)).cell? ((⟨w.heap.size, 0, none⟩ : Addr).add j) = some u := by
  intro j u hu
  rw [Go.WideShapes.add_plain, Nat.zero_add]
  exact (Arr.new w 123 x.c).cell hu
end Go.Proofs.YtmngiekobmhpaaaGreat

/- What the reader's tx does: the transaction that the bytes are, or the first error, thrown. -/
namespace Go.Proofs.YtmngiekobmhpaaaGreat
open Go.RowKit
set_option linter.unusedVariables false

/-- What the reader's tx hands back, or throws. -/
def Read (W : World) (rb : Nat) (r : TxD × Nat) (e : Ending) (w : World) : Prop :=
  (r.2 = 0 ∧ ∃ ra rc wa wc, e = .returned (txV r.1 ra rc wa wc) ∧ OwnStrs (rb + 1) w ra r.1.rs ∧ OwnStrs (rb + 1) w wa r.1.ws ∧ (ra = none → rc = 0) ∧ (wa = none → wc = 0) ∧ Below rb W w) ∨ (r.2 ≠ 0 ∧ e = .panicked (thrown r.2) ∧ Below rb W w)

theorem Read.err {W w : World} {rb er : Nat} {r : TxD × Nat} (h : r = (.none, er)) (he : er ≠ 0) (hb : Below rb W w) : Read W rb r (.panicked (thrown er)) w := by
  subst h
  exact Or.inr ⟨he, rfl, hb⟩

theorem rest_size (r : ByteArray) (k : Nat) (h : r.size ≤ maxLen) : (r.extract k r.size).size ≤ maxLen := by
  rw [ByteArray.size_extract]
  omega

set_option maxRecDepth 100000 in
set_option maxHeartbeats 4000000 in
theorem tx_any (s : ByteArray) (rb : Nat) (W : World) (hR : Arr W rb 174 [.string s]) (hs : s.size ≤ maxLen) :
    Calls Tryz.prog 132 #[.pointer (some ⟨rb, 0, none⟩)] W fun e w' => Read W rb (decL s.data.toList) e w' := by
  have hlt := hR.lt
  have hz1 := Arr.new W 123 zeroC
  have hz2 := Arr.new (W.alloc (.cells zeroC.toArray 123)) 123 zeroC
  rw [alloc_size] at hz2
  have st : RdSt W rb rb W.heap.size (W.heap.size + 1) (W.heap.size + 1 + 1) 174 [] ((W.alloc (.cells zeroC.toArray 123)).alloc (.cells zeroC.toArray 123)) [.string s] zeroC :=
    ⟨(hR.alloc _).alloc _, hz1.alloc _, hz2, by omega, by omega, by omega, by omega, by omega, by omega, by omega, by omega, by omega, by rw [alloc_size, alloc_size]; omega, (fun p hp => by cases hp),
      ((Below.refl rb W).alloc (Nat.le_of_lt hlt) _).alloc (by rw [alloc_size]; omega) _⟩
  clear hz1 hz2 hR
  have H0 : Hid (decL s.data.toList = _) := (rfl : decL s.data.toList = decL s.data.toList)
  obtain ⟨out, hout⟩ : ∃ out, out = decL s.data.toList := ⟨_, rfl⟩
  rw [← hout]
  unfold decL at hout
  have H : Hid (out = _) := hout
  clear hout H0
  have r0s : Hid (s.size ≤ maxLen) := hs
  clear hs
  go_enter Tryz.func132, Tryz.ntmps132
  rcases h0 : getInt s.data.toList with ⟨v0, k0, e0⟩
  by_cases z : e0 ≠ 0
  · have H1 : Hid (out = (.none, e0)) := (H.out.trans (bindI_err h0 z) : _ = _)
    have cE := number_err st r0s.out v0 k0 e0 h0 z
    have hb := st.bel
    clear h0 H st
    go_wp2_with fail
    refine cE.mono ?_
    rintro e w1 ⟨rfl, hw1⟩
    subst hw1
    clear cE
    go_wp2
    exact ⟨rfl, Read.err H1.out z hb⟩
  replace z : e0 = 0 := by omega
  subst z
  have bk := (getInt_bounds _ _ _ h0).1
  have cE := number_ok st r0s.out v0 k0 h0
  have hx := H.out.trans (bindI_ok h0)
  try dsimp only at hx
  rw [← extract_drop] at hx
  have r1s : Hid (((s.extract k0 s.size) : ByteArray).size ≤ maxLen) := rest_size s k0 r0s.out
  obtain ⟨r1, hr⟩ : ∃ q, q = s.extract k0 s.size := ⟨_, rfl⟩
  rw [← hr] at hx r1s
  replace H : Hid (out = _) := hx
  clear hx h0
  rw [← hr] at cE
  clear hr st r0s
  have n0 : (v0 : Int) ≤ 4611686018427387903 := by omega
  clear bk
  go_wp2_with fail
  refine cE.mono ?_
  rintro e w1 ⟨rfl, st⟩
  clear cE
  rcases h1 : getText r1.data.toList with ⟨v1, k1, e1⟩
  by_cases z : e1 ≠ 0
  · have H1 : Hid (out = (.none, e1)) := (H.out.trans (bindT_err h1 z) : _ = _)
    have cE := text_err st r1s.out v1 k1 e1 h1 z
    have hb := st.bel
    clear h1 H st
    go_wp2_with fail
    refine cE.mono ?_
    rintro e w1 ⟨rfl, hw1⟩
    subst hw1
    clear cE
    go_wp2
    exact ⟨rfl, Read.err H1.out z hb⟩
  replace z : e1 = 0 := by omega
  subst z
  have cE := text_ok st r1s.out v1 k1 h1
  have hx := H.out.trans (bindT_ok h1)
  try dsimp only at hx
  rw [← extract_drop] at hx
  have r2s : Hid (((r1.extract k1 r1.size) : ByteArray).size ≤ maxLen) := rest_size r1 k1 r1s.out
  obtain ⟨r2, hr⟩ : ∃ q, q = r1.extract k1 r1.size := ⟨_, rfl⟩
  rw [← hr] at hx r2s
  replace H : Hid (out = _) := hx
  clear hx h1
  rw [← hr] at cE
  clear hr st r1s
  have hx := H.out
  generalize (⟨v1.toArray⟩ : ByteArray) = b1 at cE hx
  replace H : Hid (out = _) := hx
  clear hx
  go_wp2_with fail
  refine cE.mono ?_
  rintro e w2 ⟨rfl, st⟩
  clear cE
  have y := st.tx.cell (i := 1) rfl
  have f := st.tx.frozen 1
  have st' := st.setT 1 (.string b1)
  obtain ⟨w3, hw⟩ : ∃ q, w2.setCell ⟨W.heap.size + 1, 1, none⟩ (.string b1) = q := ⟨_, rfl⟩
  rw [hw] at st'
  replace st' : RdSt W rb rb W.heap.size (W.heap.size + 1) (W.heap.size + 1 + 1) 174 [] w3 [.string r2] [.int .i64 0, .string b1, .string ⟨#[]⟩, .int .u64 0, .int .u64 0, .string ⟨#[]⟩, .string ⟨#[]⟩, .slice none 0 0, .slice none 0 0] := st'
  clear st
  have st := st'
  clear st'
  rcases h2 : getText r2.data.toList with ⟨v2, k2, e2⟩
  by_cases z : e2 ≠ 0
  · have H1 : Hid (out = (.none, e2)) := (H.out.trans (bindT_err h2 z) : _ = _)
    have cE := text_err st r2s.out v2 k2 e2 h2 z
    have hb := st.bel
    clear h2 H st
    go_wp2_with fail
    refine cE.mono ?_
    rintro e w1 ⟨rfl, hw1⟩
    subst hw1
    clear cE
    go_wp2
    exact ⟨rfl, Read.err H1.out z hb⟩
  replace z : e2 = 0 := by omega
  subst z
  have cE := text_ok st r2s.out v2 k2 h2
  have hx := H.out.trans (bindT_ok h2)
  try dsimp only at hx
  rw [← extract_drop] at hx
  have r3s : Hid (((r2.extract k2 r2.size) : ByteArray).size ≤ maxLen) := rest_size r2 k2 r2s.out
  obtain ⟨r3, hr⟩ : ∃ q, q = r2.extract k2 r2.size := ⟨_, rfl⟩
  rw [← hr] at hx r3s
  replace H : Hid (out = _) := hx
  clear hx h2
  rw [← hr] at cE
  clear hr st r2s
  have hx := H.out
  generalize (⟨v2.toArray⟩ : ByteArray) = b2 at cE hx
  replace H : Hid (out = _) := hx
  clear hx
  go_wp2_with fail
  refine cE.mono ?_
  rintro e w4 ⟨rfl, st⟩
  clear cE
  have y := st.tx.cell (i := 2) rfl
  have f := st.tx.frozen 2
  have st' := st.setT 2 (.string b2)
  obtain ⟨w5, hw⟩ : ∃ q, w4.setCell ⟨W.heap.size + 1, 2, none⟩ (.string b2) = q := ⟨_, rfl⟩
  rw [hw] at st'
  replace st' : RdSt W rb rb W.heap.size (W.heap.size + 1) (W.heap.size + 1 + 1) 174 [] w5 [.string r3] [.int .i64 0, .string b1, .string b2, .int .u64 0, .int .u64 0, .string ⟨#[]⟩, .string ⟨#[]⟩, .slice none 0 0, .slice none 0 0] := st'
  clear st
  have st := st'
  clear st'
  rcases h3 : getInt r3.data.toList with ⟨v3, k3, e3⟩
  by_cases z : e3 ≠ 0
  · have H1 : Hid (out = (.none, e3)) := (H.out.trans (bindI_err h3 z) : _ = _)
    have cE := number_err st r3s.out v3 k3 e3 h3 z
    have hb := st.bel
    clear h3 H st
    go_wp2_with fail
    refine cE.mono ?_
    rintro e w1 ⟨rfl, hw1⟩
    subst hw1
    clear cE
    go_wp2
    exact ⟨rfl, Read.err H1.out z hb⟩
  replace z : e3 = 0 := by omega
  subst z
  have bk := (getInt_bounds _ _ _ h3).1
  have cE := number_ok st r3s.out v3 k3 h3
  have hx := H.out.trans (bindI_ok h3)
  try dsimp only at hx
  rw [← extract_drop] at hx
  have r4s : Hid (((r3.extract k3 r3.size) : ByteArray).size ≤ maxLen) := rest_size r3 k3 r3s.out
  obtain ⟨r4, hr⟩ : ∃ q, q = r3.extract k3 r3.size := ⟨_, rfl⟩
  rw [← hr] at hx r4s
  replace H : Hid (out = _) := hx
  clear hx h3
  rw [← hr] at cE
  clear hr st r3s
  have n3 : (v3 : Int) ≤ 4611686018427387903 := by omega
  clear bk
  go_wp2_with fail
  refine cE.mono ?_
  rintro e w6 ⟨rfl, st⟩
  clear cE
  have y := st.tx.cell (i := 3) rfl
  have f := st.tx.frozen 3
  have st' := st.setT 3 (.int .u64 (v3 : Int))
  obtain ⟨w7, hw⟩ : ∃ q, w6.setCell ⟨W.heap.size + 1, 3, none⟩ (.int .u64 (v3 : Int)) = q := ⟨_, rfl⟩
  rw [hw] at st'
  replace st' : RdSt W rb rb W.heap.size (W.heap.size + 1) (W.heap.size + 1 + 1) 174 [] w7 [.string r4] [.int .i64 0, .string b1, .string b2, .int .u64 (v3 : Int), .int .u64 0, .string ⟨#[]⟩, .string ⟨#[]⟩, .slice none 0 0, .slice none 0 0] := st'
  clear st
  have st := st'
  clear st'
  rcases h4 : getInt r4.data.toList with ⟨v4, k4, e4⟩
  by_cases z : e4 ≠ 0
  · have H1 : Hid (out = (.none, e4)) := (H.out.trans (bindI_err h4 z) : _ = _)
    have cE := number_err st r4s.out v4 k4 e4 h4 z
    have hb := st.bel
    clear h4 H st
    go_wp2_with fail
    refine cE.mono ?_
    rintro e w1 ⟨rfl, hw1⟩
    subst hw1
    clear cE
    go_wp2
    exact ⟨rfl, Read.err H1.out z hb⟩
  replace z : e4 = 0 := by omega
  subst z
  have bk := (getInt_bounds _ _ _ h4).1
  have cE := number_ok st r4s.out v4 k4 h4
  have hx := H.out.trans (bindI_ok h4)
  try dsimp only at hx
  rw [← extract_drop] at hx
  have r5s : Hid (((r4.extract k4 r4.size) : ByteArray).size ≤ maxLen) := rest_size r4 k4 r4s.out
  obtain ⟨r5, hr⟩ : ∃ q, q = r4.extract k4 r4.size := ⟨_, rfl⟩
  rw [← hr] at hx r5s
  replace H : Hid (out = _) := hx
  clear hx h4
  rw [← hr] at cE
  clear hr st r4s
  have n4 : (v4 : Int) ≤ 4611686018427387903 := by omega
  clear bk
  go_wp2_with fail
  refine cE.mono ?_
  rintro e w8 ⟨rfl, st⟩
  clear cE
  have y := st.tx.cell (i := 4) rfl
  have f := st.tx.frozen 4
  have st' := st.setT 4 (.int .u64 (v4 : Int))
  obtain ⟨w9, hw⟩ : ∃ q, w8.setCell ⟨W.heap.size + 1, 4, none⟩ (.int .u64 (v4 : Int)) = q := ⟨_, rfl⟩
  rw [hw] at st'
  replace st' : RdSt W rb rb W.heap.size (W.heap.size + 1) (W.heap.size + 1 + 1) 174 [] w9 [.string r5] [.int .i64 0, .string b1, .string b2, .int .u64 (v3 : Int), .int .u64 (v4 : Int), .string ⟨#[]⟩, .string ⟨#[]⟩, .slice none 0 0, .slice none 0 0] := st'
  clear st
  have st := st'
  clear st'
  rcases h5 : getText r5.data.toList with ⟨v5, k5, e5⟩
  by_cases z : e5 ≠ 0
  · have H1 : Hid (out = (.none, e5)) := (H.out.trans (bindT_err h5 z) : _ = _)
    have cE := text_err st r5s.out v5 k5 e5 h5 z
    have hb := st.bel
    clear h5 H st
    go_wp2_with fail
    refine cE.mono ?_
    rintro e w1 ⟨rfl, hw1⟩
    subst hw1
    clear cE
    go_wp2
    exact ⟨rfl, Read.err H1.out z hb⟩
  replace z : e5 = 0 := by omega
  subst z
  have cE := text_ok st r5s.out v5 k5 h5
  have hx := H.out.trans (bindT_ok h5)
  try dsimp only at hx
  rw [← extract_drop] at hx
  have r6s : Hid (((r5.extract k5 r5.size) : ByteArray).size ≤ maxLen) := rest_size r5 k5 r5s.out
  obtain ⟨r6, hr⟩ : ∃ q, q = r5.extract k5 r5.size := ⟨_, rfl⟩
  rw [← hr] at hx r6s
  replace H : Hid (out = _) := hx
  clear hx h5
  rw [← hr] at cE
  clear hr st r5s
  have hx := H.out
  generalize (⟨v5.toArray⟩ : ByteArray) = b5 at cE hx
  replace H : Hid (out = _) := hx
  clear hx
  go_wp2_with fail
  refine cE.mono ?_
  rintro e w10 ⟨rfl, st⟩
  clear cE
  have y := st.tx.cell (i := 5) rfl
  have f := st.tx.frozen 5
  have st' := st.setT 5 (.string b5)
  obtain ⟨w11, hw⟩ : ∃ q, w10.setCell ⟨W.heap.size + 1, 5, none⟩ (.string b5) = q := ⟨_, rfl⟩
  rw [hw] at st'
  replace st' : RdSt W rb rb W.heap.size (W.heap.size + 1) (W.heap.size + 1 + 1) 174 [] w11 [.string r6] [.int .i64 0, .string b1, .string b2, .int .u64 (v3 : Int), .int .u64 (v4 : Int), .string b5, .string ⟨#[]⟩, .slice none 0 0, .slice none 0 0] := st'
  clear st
  have st := st'
  clear st'
  rcases h6 : getText r6.data.toList with ⟨v6, k6, e6⟩
  by_cases z : e6 ≠ 0
  · have H1 : Hid (out = (.none, e6)) := (H.out.trans (bindT_err h6 z) : _ = _)
    have cE := text_err st r6s.out v6 k6 e6 h6 z
    have hb := st.bel
    clear h6 H st
    go_wp2_with fail
    refine cE.mono ?_
    rintro e w1 ⟨rfl, hw1⟩
    subst hw1
    clear cE
    go_wp2
    exact ⟨rfl, Read.err H1.out z hb⟩
  replace z : e6 = 0 := by omega
  subst z
  have cE := text_ok st r6s.out v6 k6 h6
  have hx := H.out.trans (bindT_ok h6)
  try dsimp only at hx
  rw [← extract_drop] at hx
  have r7s : Hid (((r6.extract k6 r6.size) : ByteArray).size ≤ maxLen) := rest_size r6 k6 r6s.out
  obtain ⟨r7, hr⟩ : ∃ q, q = r6.extract k6 r6.size := ⟨_, rfl⟩
  rw [← hr] at hx r7s
  replace H : Hid (out = _) := hx
  clear hx h6
  rw [← hr] at cE
  clear hr st r6s
  have hx := H.out
  generalize (⟨v6.toArray⟩ : ByteArray) = b6 at cE hx
  replace H : Hid (out = _) := hx
  clear hx
  go_wp2_with fail
  refine cE.mono ?_
  rintro e w12 ⟨rfl, st⟩
  clear cE
  have y := st.tx.cell (i := 6) rfl
  have f := st.tx.frozen 6
  have st' := st.setT 6 (.string b6)
  obtain ⟨w13, hw⟩ : ∃ q, w12.setCell ⟨W.heap.size + 1, 6, none⟩ (.string b6) = q := ⟨_, rfl⟩
  rw [hw] at st'
  replace st' : RdSt W rb rb W.heap.size (W.heap.size + 1) (W.heap.size + 1 + 1) 174 [] w13 [.string r7] [.int .i64 0, .string b1, .string b2, .int .u64 (v3 : Int), .int .u64 (v4 : Int), .string b5, .string b6, .slice none 0 0, .slice none 0 0] := st'
  clear st
  have st := st'
  clear st'
  rcases h7 : getList r7.data.toList 8 with ⟨v7, k7, e7⟩
  by_cases z : e7 ≠ 0
  · have H1 : Hid (out = (.none, e7)) := (H.out.trans (bindL_err h7 z) : _ = _)
    have cE := keys_err st r7s.out v7 k7 e7 h7 z
    have hb := st.bel
    have hb' := fun w1 (h : Below _ _ w1) => (st.below h).bel
    clear h7 H st
    go_wp2_with fail
    refine cE.mono ?_
    rintro e w1 ⟨rfl, hbb⟩
    replace hb := hb' w1 hbb
    clear cE hb' hbb
    go_wp2
    exact ⟨rfl, Read.err H1.out z hb⟩
  replace z : e7 = 0 := by omega
  subst z
  have bk := getList_back h7
  have bl7 : r7.data.toList.length = r7.size := by simp
  have cE := keys_ok st r7s.out v7 k7 h7 (by omega)
  have hx := H.out.trans (bindL_ok h7)
  try dsimp only at hx
  rw [← extract_drop] at hx
  have r8s : Hid (((r7.extract k7 r7.size) : ByteArray).size ≤ maxLen) := rest_size r7 k7 r7s.out
  obtain ⟨r8, hr⟩ : ∃ q, q = r7.extract k7 r7.size := ⟨_, rfl⟩
  rw [← hr] at hx r8s
  replace H : Hid (out = _) := hx
  clear hx h7
  rw [← hr] at cE
  clear hr st r7s bl7 bk
  have hx := H.out
  generalize mks v7 = m7 at cE hx
  replace H : Hid (out = _) := hx
  clear hx
  go_wp2_with fail
  refine cE.mono ?_
  rintro e w14 ⟨a7, c7, rfl, nn7, st⟩
  clear cE
  have y := st.tx.cell (i := 7) rfl
  have f := st.tx.frozen 7
  have st' := st.setT 7 (.slice a7 m7.length c7)
  obtain ⟨w15, hw⟩ : ∃ q, w14.setCell ⟨W.heap.size + 1, 7, none⟩ (.slice a7 m7.length c7) = q := ⟨_, rfl⟩
  rw [hw] at st'
  replace st' : RdSt W rb rb W.heap.size (W.heap.size + 1) (W.heap.size + 1 + 1) 174 ((a7, m7) :: []) w15 [.string r8] [.int .i64 0, .string b1, .string b2, .int .u64 (v3 : Int), .int .u64 (v4 : Int), .string b5, .string b6, .slice a7 m7.length c7, .slice none 0 0] := st'
  clear st
  have st := st'
  clear st'
  rcases h8 : getList r8.data.toList 8 with ⟨v8, k8, e8⟩
  by_cases z : e8 ≠ 0
  · have H1 : Hid (out = (.none, e8)) := (H.out.trans (bindL_err h8 z) : _ = _)
    have cE := keys_err st r8s.out v8 k8 e8 h8 z
    have hb := st.bel
    have hb' := fun w1 (h : Below _ _ w1) => (st.below h).bel
    clear h8 H st
    go_wp2_with fail
    refine cE.mono ?_
    rintro e w1 ⟨rfl, hbb⟩
    replace hb := hb' w1 hbb
    clear cE hb' hbb
    go_wp2
    exact ⟨rfl, Read.err H1.out z hb⟩
  replace z : e8 = 0 := by omega
  subst z
  have bk := getList_back h8
  have bl8 : r8.data.toList.length = r8.size := by simp
  have cE := keys_ok st r8s.out v8 k8 h8 (by omega)
  have hx := H.out.trans (bindL_ok h8)
  try dsimp only at hx
  rw [← extract_drop] at hx
  have r9s : Hid (((r8.extract k8 r8.size) : ByteArray).size ≤ maxLen) := rest_size r8 k8 r8s.out
  obtain ⟨r9, hr⟩ : ∃ q, q = r8.extract k8 r8.size := ⟨_, rfl⟩
  rw [← hr] at hx r9s
  replace H : Hid (out = _) := hx
  clear hx h8
  rw [← hr] at cE
  clear hr st r8s bl8 bk
  have hx := H.out
  generalize mks v8 = m8 at cE hx
  replace H : Hid (out = _) := hx
  clear hx
  go_wp2_with fail
  refine cE.mono ?_
  rintro e w16 ⟨a8, c8, rfl, nn8, st⟩
  clear cE
  have y := st.tx.cell (i := 8) rfl
  have f := st.tx.frozen 8
  have st' := st.setT 8 (.slice a8 m8.length c8)
  obtain ⟨w17, hw⟩ : ∃ q, w16.setCell ⟨W.heap.size + 1, 8, none⟩ (.slice a8 m8.length c8) = q := ⟨_, rfl⟩
  rw [hw] at st'
  replace st' : RdSt W rb rb W.heap.size (W.heap.size + 1) (W.heap.size + 1 + 1) 174 ((a8, m8) :: ((a7, m7) :: [])) w17 [.string r9] [.int .i64 0, .string b1, .string b2, .int .u64 (v3 : Int), .int .u64 (v4 : Int), .string b5, .string b6, .slice a7 m7.length c7, .slice a8 m8.length c8] := st'
  clear st
  have st := st'
  clear st'
  replace H : Hid (out = finTx ⟨(v0 : Int), b1, b2, v3, v4, b5, b6, m7, m8⟩ r9.data.toList) := H
  unfold finTx at H
  by_cases hk : (2 : Int) < (v0 : Int)
  · have H1 : Hid (out = (.none, 2)) := (H.out.trans (if_pos hk) : _ = _)
    have hb := st.bel
    clear H st
    go_wp2
    exact ⟨rfl, Read.err (er := 2) H1.out (by decide) hb⟩
  replace H : Hid (out = _) := (H.out.trans (if_neg hk) : _ = _)
  have hk' : (v0 : Int) ≤ 2 := by omega
  clear hk
  have y := st.tx.cell (i := 0) rfl
  have f := st.tx.frozen 0
  have st' := st.setT 0 (.int .i64 (v0 : Int))
  obtain ⟨wz, hw⟩ : ∃ q, w17.setCell ⟨W.heap.size + 1, 0, none⟩ (.int .i64 (v0 : Int)) = q := ⟨_, rfl⟩
  rw [hw] at st'
  replace st' : RdSt W rb rb W.heap.size (W.heap.size + 1) (W.heap.size + 1 + 1) 174 ((a8, m8) :: ((a7, m7) :: [])) wz [.string r9] [.int .i64 (v0 : Int), .string b1, .string b2, .int .u64 (v3 : Int), .int .u64 (v4 : Int), .string b5, .string b6, .slice a7 m7.length c7, .slice a8 m8.length c8] := st'
  clear st
  have st := st'
  clear st'
  have yr := st.rd.cell (i := 0) rfl
  by_cases hr : r9.data.toList ≠ []
  · have H1 : Hid (out = (.none, 6)) := (H.out.trans (if_pos hr) : _ = _)
    have hb := st.bel
    have hr1 : r9.toList.isEmpty = false := by rw [ByteArray.toList_eq]; simpa using hr
    clear H st hr
    go_wp2
    exact ⟨rfl, Read.err (er := 6) H1.out (by decide) hb⟩
  replace H : Hid (out = _) := (H.out.trans (if_neg hr) : _ = _)
  have hr1 : r9.toList.isEmpty = true := by rw [ByteArray.toList_eq]; simpa using hr
  clear hr
  have hA : TxAt wz ⟨(v0 : Int), b1, b2, v3, v4, b5, b6, m7, m8⟩ a7 a8 := ⟨(st.rows (a7, m7) (by simp)).at, (st.rows (a8, m8) (by simp)).at⟩
  have cC := check_any ⟨(v0 : Int), b1, b2, v3, v4, b5, b6, m7, m8⟩ a7 c7 a8 c8 wz hA
  obtain ⟨x0, x1, x2, x3, x4, x5, x6, x7, x8⟩ := st.tx.cells9
  by_cases hc : checkL ⟨(v0 : Int), b1, b2, v3, v4, b5, b6, m7, m8⟩ ≠ 0
  · have H1 : Hid (out = (.none, checkL ⟨(v0 : Int), b1, b2, v3, v4, b5, b6, m7, m8⟩)) := (H.out.trans (if_pos hc) : _ = _)
    have cM := must_err _ hc
    generalize checkL ⟨(v0 : Int), b1, b2, v3, v4, b5, b6, m7, m8⟩ = er at cC cM H1 hc
    have hb' := fun w1 (h : Below _ _ w1) => (st.below h).bel
    clear H st hA
    go_wp2_with fail
    refine cC.mono ?_
    rintro e wy ⟨rfl, hbb⟩
    replace hb' := hb' wy hbb
    clear cC hbb
    go_wp2_with fail
    refine (cM _).mono ?_
    rintro e wx ⟨rfl, rfl⟩
    go_wp2
    exact ⟨rfl, Read.err H1.out hc hb'⟩
  replace H : Hid (out = (⟨(v0 : Int), b1, b2, v3, v4, b5, b6, m7, m8⟩, 0)) := (H.out.trans (if_neg hc) : _ = _)
  replace hc : checkL ⟨(v0 : Int), b1, b2, v3, v4, b5, b6, m7, m8⟩ = 0 := by omega
  rw [hc] at cC
  clear hc hA
  go_wp2_with fail
  refine cC.mono ?_
  rintro e wy ⟨rfl, hbb⟩
  replace st := st.below hbb
  clear cC hbb
  go_wp2_with fail
  refine (must_ok _).mono ?_
  rintro e wx ⟨rfl, rfl⟩
  clear x0 x1 x2 x3 x4 x5 x6 x7 x8
  obtain ⟨x0, x1, x2, x3, x4, x5, x6, x7, x8⟩ := st.tx.cells9
  obtain ⟨q0, q1, q2, q3, q4, q5, q6, q7, q8⟩ := st.res.cells9
  have f0 := st.res.frozen 0
  have f1 := st.res.frozen 1
  have f2 := st.res.frozen 2
  have f3 := st.res.frozen 3
  have f4 := st.res.frozen 4
  have f5 := st.res.frozen 5
  have f6 := st.res.frozen 6
  have f7 := st.res.frozen 7
  have f8 := st.res.frozen 8
  go_wp2
  have hF := st.res.set9 (.int .i64 (v0 : Int)) (.string b1) (.string b2) (.int .u64 (v3 : Int)) (.int .u64 (v4 : Int)) (.string b5) (.string b6) (.slice a7 m7.length c7) (.slice a8 m8.length c8)
  have hBF := below_set9 st.bel (g := W.heap.size) (Nat.le_of_lt hlt) (.int .i64 (v0 : Int)) (.string b1) (.string b2) (.int .u64 (v3 : Int)) (.int .u64 (v4 : Int)) (.string b5) (.string b6) (.slice a7 m7.length c7) (.slice a8 m8.length c8)
  have hSF := (st.rows (a7, m7) (by simp)).set9 (g := W.heap.size) (by omega) (.int .i64 (v0 : Int)) (.string b1) (.string b2) (.int .u64 (v3 : Int)) (.int .u64 (v4 : Int)) (.string b5) (.string b6) (.slice a7 m7.length c7) (.slice a8 m8.length c8)
  have hTF := (st.rows (a8, m8) (by simp)).set9 (g := W.heap.size) (by omega) (.int .i64 (v0 : Int)) (.string b1) (.string b2) (.int .u64 (v3 : Int)) (.int .u64 (v4 : Int)) (.string b5) (.string b6) (.slice a7 m7.length c7) (.slice a8 m8.length c8)
  unfold set9 at hF hBF hSF hTF
  refine bodyPost_ret (v := txV ⟨(v0 : Int), b1, b2, v3, v4, b5, b6, m7, m8⟩ a7 c7 a8 c8) ?x1 ?x2 ?x3
  case x1 => exact results_tx rfl _ _ W.heap.size 123 ⟨(v0 : Int), b1, b2, v3, v4, b5, b6, m7, m8⟩ _ _ _ _ rfl hF
  case x2 => rfl
  rw [H.out]
  exact Or.inl ⟨rfl, a7, c7, a8, c8, rfl, hSF.mono (by omega), hTF.mono (by omega), nn7, nn8, hBF⟩
end Go.Proofs.YtmngiekobmhpaaaGreat
