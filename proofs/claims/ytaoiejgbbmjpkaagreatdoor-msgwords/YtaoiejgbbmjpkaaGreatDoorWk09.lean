/- Texts as one: BlkId, MsgWordOwn, BldFree, HdrEncode, HdrId, RefTxSame, RefBatSame, RefHdrSame. -/
import Derived.Test.YtaoiejgbbmjpkaaGreatDoorWk07
import Derived.Test.YtaoiejgbbmjpkaaGreatDoorWk08
import Derived.Test.YtaoiejgbbmjpkaaGreatDoorWk04
import Derived.Test.YtaoiejgbbmjpkaaGreatDoorWk06
import Derived.Test.YtaoiejgbbmjpkaaGreatDoorWk02
import Derived.Test.YtaoiejgbbmjpkaaGreatDoorWk05
import Derived.Deep.RegionHeld3
import Derived.Test.YtaoiejgbbmjpkaaGreatDoorWk03
/- What block.Id does; nothing old in memory is turned. -/
namespace Go.Proofs.YtaoiejgbbmjpkaaGreatDoor
open Go.RowKit
set_option linter.unusedVariables false

/-- A block's id. -/
def idK (b : BlkD) : ByteArray := Mx.bytes (Mx.sumL (encK b))

set_option maxRecDepth 100000 in
set_option maxHeartbeats 1000000 in
theorem blkId_any (x : BlkM) (w : World) (hA : x.At w) (hf : x.Enc) (hl : (encK x.d).length ≤ 140737488351232) (hG : Mx.Glob w) :
    Calls Tryz.prog 36 #[x.v] w fun e w' => e = .returned (.string (idK x.d)) ∧ Below w.heap.size w w' := by
  have hX := Arr.new w 37 x.c
  have hB := belowNew w (.cells x.c.toArray 37)
  have cE := blkEncode_any x _ (hA.below hB) hf
  obtain ⟨eb, heb⟩ : ∃ q, q = (⟨(encK x.d).toArray⟩ : ByteArray) := ⟨_, rfl⟩
  have hes : eb.size ≤ 140737488351232 := by rw [heb, size_mk]; exact hl
  have cS := fun w1 hg => Mx.sum_any eb w1 hes hg
  have HE : Hid (idK x.d = Mx.bytes (Mx.sumL eb.data.toList)) := by show idK x.d = _; rw [heb]; rfl
  rw [← heb] at cE
  obtain ⟨out, hout⟩ : ∃ q, Hid (q = idK x.d) := ⟨_, rfl⟩
  rw [← hout.out]
  have hG1 := hG.below hB
  clear heb hes hA hf hl hG
  unfold BlkM.v at cE ⊢
  unfold BlkM.c at hX hB cE hG1
  have x0 := hX.cell (i := 0) rfl
  have x1 := hX.cell (i := 1) rfl
  have x2 := hX.cell (i := 2) rfl
  have x3 := hX.cell (i := 3) rfl
  have x4 := hX.cell (i := 4) rfl
  go_enter Tryz.func36, Tryz.ntmps36
  go_wp2_with fail
  refine cE.mono ?_
  rintro e w1 ⟨rfl, hb1⟩
  have hB1 := hB.trans (hb1.mono hB.size)
  have hG2 := hG1.below hb1
  clear cE hX hB x0 x1 x2 x3 x4 hb1 hG1
  go_wp2_with fail
  refine (cS _ hG2).mono ?_
  rintro e w2 ⟨rfl, hb2⟩
  have hB2 := hB1.trans (hb2.mono hB1.size)
  clear cS hB1 hb2
  go_wp2
  go_ret
  exact ⟨by rw [hout.out, HE.out]; rfl, hB2⟩
end Go.Proofs.YtaoiejgbbmjpkaaGreatDoor

/- What own of a message's words does: the word of the message's own tag. (Laid by gen_msgwordown.py.) -/
namespace Go.Proofs.YtaoiejgbbmjpkaaGreatDoor
open Go.RowKit
set_option linter.unusedVariables false

/-- A header's id. -/
def idH9 (d : HdrD) : ByteArray := Mx.bytes (Mx.sumL (encH d))

/-- What a new view's tag is of. -/
def nvB (v : Int) (q : QcD) : ByteArray := ⟨(goInt v ++ encQ q).toArray⟩

/-- The word of a message's own tag. -/
def ownWords (m : MsgD) : List WordD :=
  if m.kind = 2 then [⟨m.tag, ackB, m.digest⟩] else if m.kind = 4 then [⟨m.tag, voteB, m.digest⟩] else if m.kind = 6 then [⟨m.tag, proposeB, idK m.block⟩]
  else if m.kind = 7 then [⟨m.tag, agreeB, wordB m.view m.digest⟩] else if m.kind = 8 then [⟨m.tag, newviewB, nvB m.view m.qc⟩] else []

theorem one_tag {w : World} {b : Nat} {t : TagD} (h : Arr w b 23 [.int .i64 t.who, .string t.mac]) : RowAt tagK w (some ⟨b, 0, none⟩) [t] := by
  refine ⟨fun i x hx => ?_, fun _ _ => trivial⟩
  match i, hx with
  | 0, hx =>
    simp at hx
    subst hx
    refine ⟨b, 0, rfl, h.lt, fun j v hj => ?_⟩
    have e : 0 + 0 * tagK.n + j = j := by omega
    rw [e]
    exact h.cell hj

theorem addOne_any (p B : Nat) (l : List WordD) (kind word : ByteArray) (t : TagD) (b : Nat) (w : World) (h : WAt w p B l) (hR : Arr w b 23 [.int .i64 t.who, .string t.mac]) (hn : l.length + 1 ≤ 1000000000) :
    Calls Tryz.prog 16 #[.pointer (some ⟨p, 0, none⟩), .string kind, .string word, .slice (some ⟨b, 0, none⟩) 1 1] w fun e w' => e = .returned (.tuple #[]) ∧ WAt w' p B (l ++ [⟨t, kind, word⟩]) ∧ Kept (WS p B) w w' :=
  wordsAdd_any p B l kind word (some ⟨b, 0, none⟩) 1 [t] w h (one_tag hR) (fun h2 => by simp at h2) hn

theorem nv_join (v : Int) (q : QcD) : (⟨(goInt v).toArray⟩ ++ ⟨(encQ q).toArray⟩ : ByteArray) = nvB v q := by
  apply ByteArray.ext
  simp [nvB]

set_option maxRecDepth 100000 in
set_option maxHeartbeats 2000000 in
theorem wown2_any (p B : Nat) (l : List WordD) (dg : ByteArray) (vi : Int) (tg : TagD) (ba : BatM) (he : HdrM) (ce : CertM) (bl : BlkM) (q : QcM) (w : World) (h : WAt w p B l) (hn : l.length + 1 ≤ 1000000000) :
    Calls Tryz.prog 14 #[.pointer (some ⟨p, 0, none⟩), MsgM.v ⟨2, dg, vi, tg, ba, he, ce, bl, q⟩] w fun e w' => e = .returned (.tuple #[]) ∧ WAt w' p B (l ++ [⟨tg, ackB, dg⟩]) ∧ Kept (WS p B) w w' := by
  have hX := Arr.new w 39 [.int .i64 2, .string dg, .int .i64 vi, .int .i64 tg.who, .string tg.mac, .int .i64 ba.author, .int .i64 ba.number, .slice ba.ta ba.txs.length ba.tc, .int .i64 he.author, .int .i64 he.round, .slice he.ra he.refs.length he.rc, .slice he.pa he.parents.length he.pc, .int .i64 ce.hdr.author, .int .i64 ce.hdr.round, .slice ce.hdr.ra ce.hdr.refs.length ce.hdr.rc, .slice ce.hdr.pa ce.hdr.parents.length ce.hdr.pc, .slice ce.va ce.votes.length ce.vc, .int .i64 bl.view, .int .i64 bl.qc.view, .string bl.qc.block, .slice bl.qc.va bl.qc.votes.length bl.qc.vc, .slice bl.ca bl.certs.length bl.cc, .int .i64 q.view, .string q.block, .slice q.va q.votes.length q.vc]
  have hB := belowNew w (.cells [.int .i64 2, .string dg, .int .i64 vi, .int .i64 tg.who, .string tg.mac, .int .i64 ba.author, .int .i64 ba.number, .slice ba.ta ba.txs.length ba.tc, .int .i64 he.author, .int .i64 he.round, .slice he.ra he.refs.length he.rc, .slice he.pa he.parents.length he.pc, .int .i64 ce.hdr.author, .int .i64 ce.hdr.round, .slice ce.hdr.ra ce.hdr.refs.length ce.hdr.rc, .slice ce.hdr.pa ce.hdr.parents.length ce.hdr.pc, .slice ce.va ce.votes.length ce.vc, .int .i64 bl.view, .int .i64 bl.qc.view, .string bl.qc.block, .slice bl.qc.va bl.qc.votes.length bl.qc.vc, .slice bl.ca bl.certs.length bl.cc, .int .i64 q.view, .string q.block, .slice q.va q.votes.length q.vc].toArray 39)
  unfold MsgM.v MsgM.c
  simp only
  obtain ⟨w1, hw1⟩ : ∃ q', w.alloc (.cells [.int .i64 2, .string dg, .int .i64 vi, .int .i64 tg.who, .string tg.mac, .int .i64 ba.author, .int .i64 ba.number, .slice ba.ta ba.txs.length ba.tc, .int .i64 he.author, .int .i64 he.round, .slice he.ra he.refs.length he.rc, .slice he.pa he.parents.length he.pc, .int .i64 ce.hdr.author, .int .i64 ce.hdr.round, .slice ce.hdr.ra ce.hdr.refs.length ce.hdr.rc, .slice ce.hdr.pa ce.hdr.parents.length ce.hdr.pc, .slice ce.va ce.votes.length ce.vc, .int .i64 bl.view, .int .i64 bl.qc.view, .string bl.qc.block, .slice bl.qc.va bl.qc.votes.length bl.qc.vc, .slice bl.ca bl.certs.length bl.cc, .int .i64 q.view, .string q.block, .slice q.va q.votes.length q.vc].toArray 39) = q' := ⟨_, rfl⟩
  rw [hw1] at hX hB
  have h1 := h.below hB
  have hK1 : Kept (WS p B) w w1 := Kept.of_below hB
  have x0 := hX.cell (i := 0) rfl
  have x1 := hX.cell (i := 1) rfl
  have x3 := hX.cell (i := 3) rfl
  have x4 := hX.cell (i := 4) rfl
  have hb2 := belowNew w1 (.cells #[.int .i64 tg.who, .string tg.mac] 23)
  have cA := addOne_any p B l ackB dg tg w1.heap.size _ (h1.below hb2) (Arr.new w1 23 [.int .i64 tg.who, .string tg.mac]) hn
  have hK2 := hK1.trans (Kept.of_below hb2)
  unfold ackB at cA ⊢
  clear h h1 hb2
  go_enter Tryz.func14, Tryz.ntmps14
  go_wp2_with fail
  refine cA.mono ?_
  rintro e w3 ⟨rfl, hW3, hK3⟩
  have hK4 := hK2.trans hK3
  clear cA hX hw1 hB hK1 hK2 x0 x1 x3 x4
  go_wp2
  first | go_end0 | refine bodyPost_ret (results_none rfl _ _ _) rfl ?_
  exact ⟨rfl, hW3, hK4⟩

set_option maxRecDepth 100000 in
set_option maxHeartbeats 2000000 in
theorem wown4_any (p B : Nat) (l : List WordD) (dg : ByteArray) (vi : Int) (tg : TagD) (ba : BatM) (he : HdrM) (ce : CertM) (bl : BlkM) (q : QcM) (w : World) (h : WAt w p B l) (hn : l.length + 1 ≤ 1000000000) :
    Calls Tryz.prog 14 #[.pointer (some ⟨p, 0, none⟩), MsgM.v ⟨4, dg, vi, tg, ba, he, ce, bl, q⟩] w fun e w' => e = .returned (.tuple #[]) ∧ WAt w' p B (l ++ [⟨tg, voteB, dg⟩]) ∧ Kept (WS p B) w w' := by
  have hX := Arr.new w 39 [.int .i64 4, .string dg, .int .i64 vi, .int .i64 tg.who, .string tg.mac, .int .i64 ba.author, .int .i64 ba.number, .slice ba.ta ba.txs.length ba.tc, .int .i64 he.author, .int .i64 he.round, .slice he.ra he.refs.length he.rc, .slice he.pa he.parents.length he.pc, .int .i64 ce.hdr.author, .int .i64 ce.hdr.round, .slice ce.hdr.ra ce.hdr.refs.length ce.hdr.rc, .slice ce.hdr.pa ce.hdr.parents.length ce.hdr.pc, .slice ce.va ce.votes.length ce.vc, .int .i64 bl.view, .int .i64 bl.qc.view, .string bl.qc.block, .slice bl.qc.va bl.qc.votes.length bl.qc.vc, .slice bl.ca bl.certs.length bl.cc, .int .i64 q.view, .string q.block, .slice q.va q.votes.length q.vc]
  have hB := belowNew w (.cells [.int .i64 4, .string dg, .int .i64 vi, .int .i64 tg.who, .string tg.mac, .int .i64 ba.author, .int .i64 ba.number, .slice ba.ta ba.txs.length ba.tc, .int .i64 he.author, .int .i64 he.round, .slice he.ra he.refs.length he.rc, .slice he.pa he.parents.length he.pc, .int .i64 ce.hdr.author, .int .i64 ce.hdr.round, .slice ce.hdr.ra ce.hdr.refs.length ce.hdr.rc, .slice ce.hdr.pa ce.hdr.parents.length ce.hdr.pc, .slice ce.va ce.votes.length ce.vc, .int .i64 bl.view, .int .i64 bl.qc.view, .string bl.qc.block, .slice bl.qc.va bl.qc.votes.length bl.qc.vc, .slice bl.ca bl.certs.length bl.cc, .int .i64 q.view, .string q.block, .slice q.va q.votes.length q.vc].toArray 39)
  unfold MsgM.v MsgM.c
  simp only
  obtain ⟨w1, hw1⟩ : ∃ q', w.alloc (.cells [.int .i64 4, .string dg, .int .i64 vi, .int .i64 tg.who, .string tg.mac, .int .i64 ba.author, .int .i64 ba.number, .slice ba.ta ba.txs.length ba.tc, .int .i64 he.author, .int .i64 he.round, .slice he.ra he.refs.length he.rc, .slice he.pa he.parents.length he.pc, .int .i64 ce.hdr.author, .int .i64 ce.hdr.round, .slice ce.hdr.ra ce.hdr.refs.length ce.hdr.rc, .slice ce.hdr.pa ce.hdr.parents.length ce.hdr.pc, .slice ce.va ce.votes.length ce.vc, .int .i64 bl.view, .int .i64 bl.qc.view, .string bl.qc.block, .slice bl.qc.va bl.qc.votes.length bl.qc.vc, .slice bl.ca bl.certs.length bl.cc, .int .i64 q.view, .string q.block, .slice q.va q.votes.length q.vc].toArray 39) = q' := ⟨_, rfl⟩
  rw [hw1] at hX hB
  have h1 := h.below hB
  have hK1 : Kept (WS p B) w w1 := Kept.of_below hB
  have x0 := hX.cell (i := 0) rfl
  have x1 := hX.cell (i := 1) rfl
  have x3 := hX.cell (i := 3) rfl
  have x4 := hX.cell (i := 4) rfl
  have hb2 := belowNew w1 (.cells #[.int .i64 tg.who, .string tg.mac] 23)
  have cA := addOne_any p B l voteB dg tg w1.heap.size _ (h1.below hb2) (Arr.new w1 23 [.int .i64 tg.who, .string tg.mac]) hn
  have hK2 := hK1.trans (Kept.of_below hb2)
  unfold voteB at cA ⊢
  clear h h1 hb2
  go_enter Tryz.func14, Tryz.ntmps14
  go_wp2_with fail
  refine cA.mono ?_
  rintro e w3 ⟨rfl, hW3, hK3⟩
  have hK4 := hK2.trans hK3
  clear cA hX hw1 hB hK1 hK2 x0 x1 x3 x4
  go_wp2
  first | go_end0 | refine bodyPost_ret (results_none rfl _ _ _) rfl ?_
  exact ⟨rfl, hW3, hK4⟩

set_option maxRecDepth 100000 in
set_option maxHeartbeats 2000000 in
theorem wown6_any (p B : Nat) (l : List WordD) (dg : ByteArray) (vi : Int) (tg : TagD) (ba : BatM) (he : HdrM) (ce : CertM) (bl : BlkM) (q : QcM) (w : World) (h : WAt w p B l) (hn : l.length + 1 ≤ 1000000000) (hA : ∀ w1, Kept (WS p B) w w1 → bl.At w1) (hf : bl.Enc) (hl : (encK bl.d).length ≤ 140737488351232) (hG : Mx.Glob w) :
    Calls Tryz.prog 14 #[.pointer (some ⟨p, 0, none⟩), MsgM.v ⟨6, dg, vi, tg, ba, he, ce, bl, q⟩] w fun e w' => e = .returned (.tuple #[]) ∧ WAt w' p B (l ++ [⟨tg, proposeB, idK bl.d⟩]) ∧ Kept (WS p B) w w' := by
  have hX := Arr.new w 39 [.int .i64 6, .string dg, .int .i64 vi, .int .i64 tg.who, .string tg.mac, .int .i64 ba.author, .int .i64 ba.number, .slice ba.ta ba.txs.length ba.tc, .int .i64 he.author, .int .i64 he.round, .slice he.ra he.refs.length he.rc, .slice he.pa he.parents.length he.pc, .int .i64 ce.hdr.author, .int .i64 ce.hdr.round, .slice ce.hdr.ra ce.hdr.refs.length ce.hdr.rc, .slice ce.hdr.pa ce.hdr.parents.length ce.hdr.pc, .slice ce.va ce.votes.length ce.vc, .int .i64 bl.view, .int .i64 bl.qc.view, .string bl.qc.block, .slice bl.qc.va bl.qc.votes.length bl.qc.vc, .slice bl.ca bl.certs.length bl.cc, .int .i64 q.view, .string q.block, .slice q.va q.votes.length q.vc]
  have hB := belowNew w (.cells [.int .i64 6, .string dg, .int .i64 vi, .int .i64 tg.who, .string tg.mac, .int .i64 ba.author, .int .i64 ba.number, .slice ba.ta ba.txs.length ba.tc, .int .i64 he.author, .int .i64 he.round, .slice he.ra he.refs.length he.rc, .slice he.pa he.parents.length he.pc, .int .i64 ce.hdr.author, .int .i64 ce.hdr.round, .slice ce.hdr.ra ce.hdr.refs.length ce.hdr.rc, .slice ce.hdr.pa ce.hdr.parents.length ce.hdr.pc, .slice ce.va ce.votes.length ce.vc, .int .i64 bl.view, .int .i64 bl.qc.view, .string bl.qc.block, .slice bl.qc.va bl.qc.votes.length bl.qc.vc, .slice bl.ca bl.certs.length bl.cc, .int .i64 q.view, .string q.block, .slice q.va q.votes.length q.vc].toArray 39)
  unfold MsgM.v MsgM.c
  simp only
  obtain ⟨w1, hw1⟩ : ∃ q', w.alloc (.cells [.int .i64 6, .string dg, .int .i64 vi, .int .i64 tg.who, .string tg.mac, .int .i64 ba.author, .int .i64 ba.number, .slice ba.ta ba.txs.length ba.tc, .int .i64 he.author, .int .i64 he.round, .slice he.ra he.refs.length he.rc, .slice he.pa he.parents.length he.pc, .int .i64 ce.hdr.author, .int .i64 ce.hdr.round, .slice ce.hdr.ra ce.hdr.refs.length ce.hdr.rc, .slice ce.hdr.pa ce.hdr.parents.length ce.hdr.pc, .slice ce.va ce.votes.length ce.vc, .int .i64 bl.view, .int .i64 bl.qc.view, .string bl.qc.block, .slice bl.qc.va bl.qc.votes.length bl.qc.vc, .slice bl.ca bl.certs.length bl.cc, .int .i64 q.view, .string q.block, .slice q.va q.votes.length q.vc].toArray 39) = q' := ⟨_, rfl⟩
  rw [hw1] at hX hB
  have h1 := h.below hB
  have hK1 : Kept (WS p B) w w1 := Kept.of_below hB
  obtain ⟨wd, hwd⟩ : ∃ z, z = idK bl.d := ⟨_, rfl⟩
  rw [← hwd]
  have cA : Hid (∀ w2 b, Below w1.heap.size w1 w2 → Arr w2 b 23 [.int .i64 tg.who, .string tg.mac] → Calls Tryz.prog 16 #[.pointer (some ⟨p, 0, none⟩), .string ⟨#[112, 114, 111, 112, 111, 115, 101]⟩, .string wd, .slice (some ⟨b, 0, none⟩) 1 1] w2 fun e w3 => e = .returned (.tuple #[]) ∧ WAt w3 p B (l ++ [⟨tg, proposeB, wd⟩]) ∧ Kept (WS p B) w w3) := by
    intro w2 b hb2 hR
    refine (addOne_any p B l proposeB wd tg b w2 (h1.below hb2) hR hn).mono ?_
    rintro e w3 ⟨rfl, hw, hk⟩
    exact ⟨rfl, hw, (hK1.trans (Kept.of_below hb2)).trans hk⟩
  have cI : Hid (∀ w2, Below w1.heap.size w1 w2 → Calls Tryz.prog 36 #[bl.v] w2 fun e w3 => e = .returned (.string wd) ∧ Below w2.heap.size w2 w3) := by
    intro w2 hb2
    rw [hwd]
    exact blkId_any bl w2 (hA _ (hK1.trans (Kept.of_below hb2))) hf hl ((hG.below hB).below hb2)
  unfold BlkM.v at cI
  have hbD0 : Below w1.heap.size w1 w1.drew := (Below.refl _ w1).drew
  have hbD1 : Below w1.heap.size w1 (w1.alloc (.cells #[.int .i64 tg.who, .string tg.mac] 23)).drew := ((Below.refl w1.heap.size w1).alloc (Nat.le_refl _) _).drew
  have hNw : ∀ w : World, Arr (w.alloc (.cells #[.int .i64 tg.who, .string tg.mac] 23)) w.heap.size 23 [.int .i64 tg.who, .string tg.mac] := fun w => Arr.new w 23 [.int .i64 tg.who, .string tg.mac]
  have hN1 : Arr (w1.alloc (.cells #[.int .i64 tg.who, .string tg.mac] 23)).drew w1.heap.size 23 [.int .i64 tg.who, .string tg.mac] := (hNw w1).below ((Below.refl _ _).drew) (hNw w1).lt
  have hXn := hX.alloc (.cells #[.int .i64 tg.who, .string tg.mac] 23)
  have hXb : ∀ w2, Below w1.heap.size w1 w2 → Arr w2 w.heap.size 39 [.int .i64 6, .string dg, .int .i64 vi, .int .i64 tg.who, .string tg.mac, .int .i64 ba.author, .int .i64 ba.number, .slice ba.ta ba.txs.length ba.tc, .int .i64 he.author, .int .i64 he.round, .slice he.ra he.refs.length he.rc, .slice he.pa he.parents.length he.pc, .int .i64 ce.hdr.author, .int .i64 ce.hdr.round, .slice ce.hdr.ra ce.hdr.refs.length ce.hdr.rc, .slice ce.hdr.pa ce.hdr.parents.length ce.hdr.pc, .slice ce.va ce.votes.length ce.vc, .int .i64 bl.view, .int .i64 bl.qc.view, .string bl.qc.block, .slice bl.qc.va bl.qc.votes.length bl.qc.vc, .slice bl.ca bl.certs.length bl.cc, .int .i64 q.view, .string q.block, .slice q.va q.votes.length q.vc] := fun w2 hb => hX.below hb hX.lt
  have hXa : ∀ w2, Below w1.heap.size w1 w2 → Arr (w2.alloc (.cells #[.int .i64 tg.who, .string tg.mac] 23)) w.heap.size 39 [.int .i64 6, .string dg, .int .i64 vi, .int .i64 tg.who, .string tg.mac, .int .i64 ba.author, .int .i64 ba.number, .slice ba.ta ba.txs.length ba.tc, .int .i64 he.author, .int .i64 he.round, .slice he.ra he.refs.length he.rc, .slice he.pa he.parents.length he.pc, .int .i64 ce.hdr.author, .int .i64 ce.hdr.round, .slice ce.hdr.ra ce.hdr.refs.length ce.hdr.rc, .slice ce.hdr.pa ce.hdr.parents.length ce.hdr.pc, .slice ce.va ce.votes.length ce.vc, .int .i64 bl.view, .int .i64 bl.qc.view, .string bl.qc.block, .slice bl.qc.va bl.qc.votes.length bl.qc.vc, .slice bl.ca bl.certs.length bl.cc, .int .i64 q.view, .string q.block, .slice q.va q.votes.length q.vc] := fun w2 hb => (hX.below hb hX.lt).alloc (.cells #[.int .i64 tg.who, .string tg.mac] 23)
  have x0 := hX.cell (i := 0) rfl
  have y0 := hXn.cell (i := 0) rfl
  have x3 := hX.cell (i := 3) rfl
  have y3 := hXn.cell (i := 3) rfl
  have x4 := hX.cell (i := 4) rfl
  have y4 := hXn.cell (i := 4) rfl
  have x17 := hX.cell (i := 17) rfl
  have y17 := hXn.cell (i := 17) rfl
  have x18 := hX.cell (i := 18) rfl
  have y18 := hXn.cell (i := 18) rfl
  have x19 := hX.cell (i := 19) rfl
  have y19 := hXn.cell (i := 19) rfl
  have x20 := hX.cell (i := 20) rfl
  have y20 := hXn.cell (i := 20) rfl
  have x21 := hX.cell (i := 21) rfl
  have y21 := hXn.cell (i := 21) rfl
  clear hwd h h1
  go_enter Tryz.func14, Tryz.ntmps14
  go_wp2_with fail
  go_region_law (first
    | (go_simp; go_at_call 36; refine (cI.out _ (by first | exact hbD0 | exact hbD1 | exact hbW | exact hbW.alloc hbW.size _)).mono ?_; rintro e w2 ⟨rfl, hb2⟩; (first | have hbW := hbD0.trans (hb2.mono hbD0.size) | have hbW := hbD1.trans (hb2.mono hbD1.size) | have hbW := hbW.trans (hb2.mono hbW.size) | have hbW := (hbW.alloc hbW.size (.cells #[.int .i64 tg.who, .string tg.mac] 23)).trans (hb2.mono (hbW.alloc hbW.size (.cells #[.int .i64 tg.who, .string tg.mac] 23)).size)); (try (have hNb := hN1.below hb2 hN1.lt)); (try (have hNb := hNb.below hb2 hNb.lt)); (try (have hNb := (hNw _).below hb2 (hNw _).lt)); have hX2 := hXb w2 hbW; have hX3 := hXa w2 hbW; have u3 := hX2.cell (i := 3) rfl; have v3 := hX3.cell (i := 3) rfl; have u4 := hX2.cell (i := 4) rfl; have v4 := hX3.cell (i := 4) rfl; have u17 := hX2.cell (i := 17) rfl; have v17 := hX3.cell (i := 17) rfl; have u18 := hX2.cell (i := 18) rfl; have v18 := hX3.cell (i := 18) rfl; have u19 := hX2.cell (i := 19) rfl; have v19 := hX3.cell (i := 19) rfl; have u20 := hX2.cell (i := 20) rfl; have v20 := hX3.cell (i := 20) rfl; have u21 := hX2.cell (i := 21) rfl; have v21 := hX3.cell (i := 21) rfl)
    | (go_simp; go_at_call 16; (first | refine (cA.out w2 _ hbW hNb).mono ?_ | refine (cA.out _ _ (hbW.alloc hbW.size _) (hNw w2)).mono ?_); rintro e w3 ⟨rfl, hwF, hkF⟩))
  all_goals
    clear cA cI hX hXn hXa hXb hw1 hB
    go_wp2
    first | go_end0 | refine bodyPost_ret (results_none rfl _ _ _) rfl ?_
    exact ⟨rfl, hwF, hkF⟩

set_option maxRecDepth 100000 in
set_option maxHeartbeats 2000000 in
theorem wown7_any (p B : Nat) (l : List WordD) (dg : ByteArray) (vi : Int) (tg : TagD) (ba : BatM) (he : HdrM) (ce : CertM) (bl : BlkM) (q : QcM) (w : World) (h : WAt w p B l) (hn : l.length + 1 ≤ 1000000000) (hd : dg.size ≤ 140737488351232) :
    Calls Tryz.prog 14 #[.pointer (some ⟨p, 0, none⟩), MsgM.v ⟨7, dg, vi, tg, ba, he, ce, bl, q⟩] w fun e w' => e = .returned (.tuple #[]) ∧ WAt w' p B (l ++ [⟨tg, agreeB, wordB vi dg⟩]) ∧ Kept (WS p B) w w' := by
  have hX := Arr.new w 39 [.int .i64 7, .string dg, .int .i64 vi, .int .i64 tg.who, .string tg.mac, .int .i64 ba.author, .int .i64 ba.number, .slice ba.ta ba.txs.length ba.tc, .int .i64 he.author, .int .i64 he.round, .slice he.ra he.refs.length he.rc, .slice he.pa he.parents.length he.pc, .int .i64 ce.hdr.author, .int .i64 ce.hdr.round, .slice ce.hdr.ra ce.hdr.refs.length ce.hdr.rc, .slice ce.hdr.pa ce.hdr.parents.length ce.hdr.pc, .slice ce.va ce.votes.length ce.vc, .int .i64 bl.view, .int .i64 bl.qc.view, .string bl.qc.block, .slice bl.qc.va bl.qc.votes.length bl.qc.vc, .slice bl.ca bl.certs.length bl.cc, .int .i64 q.view, .string q.block, .slice q.va q.votes.length q.vc]
  have hB := belowNew w (.cells [.int .i64 7, .string dg, .int .i64 vi, .int .i64 tg.who, .string tg.mac, .int .i64 ba.author, .int .i64 ba.number, .slice ba.ta ba.txs.length ba.tc, .int .i64 he.author, .int .i64 he.round, .slice he.ra he.refs.length he.rc, .slice he.pa he.parents.length he.pc, .int .i64 ce.hdr.author, .int .i64 ce.hdr.round, .slice ce.hdr.ra ce.hdr.refs.length ce.hdr.rc, .slice ce.hdr.pa ce.hdr.parents.length ce.hdr.pc, .slice ce.va ce.votes.length ce.vc, .int .i64 bl.view, .int .i64 bl.qc.view, .string bl.qc.block, .slice bl.qc.va bl.qc.votes.length bl.qc.vc, .slice bl.ca bl.certs.length bl.cc, .int .i64 q.view, .string q.block, .slice q.va q.votes.length q.vc].toArray 39)
  unfold MsgM.v MsgM.c
  simp only
  obtain ⟨w1, hw1⟩ : ∃ q', w.alloc (.cells [.int .i64 7, .string dg, .int .i64 vi, .int .i64 tg.who, .string tg.mac, .int .i64 ba.author, .int .i64 ba.number, .slice ba.ta ba.txs.length ba.tc, .int .i64 he.author, .int .i64 he.round, .slice he.ra he.refs.length he.rc, .slice he.pa he.parents.length he.pc, .int .i64 ce.hdr.author, .int .i64 ce.hdr.round, .slice ce.hdr.ra ce.hdr.refs.length ce.hdr.rc, .slice ce.hdr.pa ce.hdr.parents.length ce.hdr.pc, .slice ce.va ce.votes.length ce.vc, .int .i64 bl.view, .int .i64 bl.qc.view, .string bl.qc.block, .slice bl.qc.va bl.qc.votes.length bl.qc.vc, .slice bl.ca bl.certs.length bl.cc, .int .i64 q.view, .string q.block, .slice q.va q.votes.length q.vc].toArray 39) = q' := ⟨_, rfl⟩
  rw [hw1] at hX hB
  have h1 := h.below hB
  have hK1 : Kept (WS p B) w w1 := Kept.of_below hB
  obtain ⟨wd, hwd⟩ : ∃ z, z = wordB vi dg := ⟨_, rfl⟩
  rw [← hwd]
  have cA : Hid (∀ w2 b, Below w1.heap.size w1 w2 → Arr w2 b 23 [.int .i64 tg.who, .string tg.mac] → Calls Tryz.prog 16 #[.pointer (some ⟨p, 0, none⟩), .string ⟨#[97, 103, 114, 101, 101]⟩, .string wd, .slice (some ⟨b, 0, none⟩) 1 1] w2 fun e w3 => e = .returned (.tuple #[]) ∧ WAt w3 p B (l ++ [⟨tg, agreeB, wd⟩]) ∧ Kept (WS p B) w w3) := by
    intro w2 b hb2 hR
    refine (addOne_any p B l agreeB wd tg b w2 (h1.below hb2) hR hn).mono ?_
    rintro e w3 ⟨rfl, hw, hk⟩
    exact ⟨rfl, hw, (hK1.trans (Kept.of_below hb2)).trans hk⟩
  have cI : Hid (∀ w2, Below w1.heap.size w1 w2 → Calls Tryz.prog 37 #[.int .i64 vi, .string dg] w2 fun e w3 => e = .returned (.string wd) ∧ Below w2.heap.size w2 w3) := by
    intro w2 hb2
    rw [hwd]
    exact word_any vi dg w2 hd
  have hbD0 : Below w1.heap.size w1 w1.drew := (Below.refl _ w1).drew
  have hbD1 : Below w1.heap.size w1 (w1.alloc (.cells #[.int .i64 tg.who, .string tg.mac] 23)).drew := ((Below.refl w1.heap.size w1).alloc (Nat.le_refl _) _).drew
  have hNw : ∀ w : World, Arr (w.alloc (.cells #[.int .i64 tg.who, .string tg.mac] 23)) w.heap.size 23 [.int .i64 tg.who, .string tg.mac] := fun w => Arr.new w 23 [.int .i64 tg.who, .string tg.mac]
  have hN1 : Arr (w1.alloc (.cells #[.int .i64 tg.who, .string tg.mac] 23)).drew w1.heap.size 23 [.int .i64 tg.who, .string tg.mac] := (hNw w1).below ((Below.refl _ _).drew) (hNw w1).lt
  have hXn := hX.alloc (.cells #[.int .i64 tg.who, .string tg.mac] 23)
  have hXb : ∀ w2, Below w1.heap.size w1 w2 → Arr w2 w.heap.size 39 [.int .i64 7, .string dg, .int .i64 vi, .int .i64 tg.who, .string tg.mac, .int .i64 ba.author, .int .i64 ba.number, .slice ba.ta ba.txs.length ba.tc, .int .i64 he.author, .int .i64 he.round, .slice he.ra he.refs.length he.rc, .slice he.pa he.parents.length he.pc, .int .i64 ce.hdr.author, .int .i64 ce.hdr.round, .slice ce.hdr.ra ce.hdr.refs.length ce.hdr.rc, .slice ce.hdr.pa ce.hdr.parents.length ce.hdr.pc, .slice ce.va ce.votes.length ce.vc, .int .i64 bl.view, .int .i64 bl.qc.view, .string bl.qc.block, .slice bl.qc.va bl.qc.votes.length bl.qc.vc, .slice bl.ca bl.certs.length bl.cc, .int .i64 q.view, .string q.block, .slice q.va q.votes.length q.vc] := fun w2 hb => hX.below hb hX.lt
  have hXa : ∀ w2, Below w1.heap.size w1 w2 → Arr (w2.alloc (.cells #[.int .i64 tg.who, .string tg.mac] 23)) w.heap.size 39 [.int .i64 7, .string dg, .int .i64 vi, .int .i64 tg.who, .string tg.mac, .int .i64 ba.author, .int .i64 ba.number, .slice ba.ta ba.txs.length ba.tc, .int .i64 he.author, .int .i64 he.round, .slice he.ra he.refs.length he.rc, .slice he.pa he.parents.length he.pc, .int .i64 ce.hdr.author, .int .i64 ce.hdr.round, .slice ce.hdr.ra ce.hdr.refs.length ce.hdr.rc, .slice ce.hdr.pa ce.hdr.parents.length ce.hdr.pc, .slice ce.va ce.votes.length ce.vc, .int .i64 bl.view, .int .i64 bl.qc.view, .string bl.qc.block, .slice bl.qc.va bl.qc.votes.length bl.qc.vc, .slice bl.ca bl.certs.length bl.cc, .int .i64 q.view, .string q.block, .slice q.va q.votes.length q.vc] := fun w2 hb => (hX.below hb hX.lt).alloc (.cells #[.int .i64 tg.who, .string tg.mac] 23)
  have x0 := hX.cell (i := 0) rfl
  have y0 := hXn.cell (i := 0) rfl
  have x1 := hX.cell (i := 1) rfl
  have y1 := hXn.cell (i := 1) rfl
  have x2 := hX.cell (i := 2) rfl
  have y2 := hXn.cell (i := 2) rfl
  have x3 := hX.cell (i := 3) rfl
  have y3 := hXn.cell (i := 3) rfl
  have x4 := hX.cell (i := 4) rfl
  have y4 := hXn.cell (i := 4) rfl
  clear hwd h h1
  go_enter Tryz.func14, Tryz.ntmps14
  go_wp2_with fail
  go_region_law (first
    | (go_simp; go_at_call 37; refine (cI.out _ (by first | exact hbD0 | exact hbD1 | exact hbW | exact hbW.alloc hbW.size _)).mono ?_; rintro e w2 ⟨rfl, hb2⟩; (first | have hbW := hbD0.trans (hb2.mono hbD0.size) | have hbW := hbD1.trans (hb2.mono hbD1.size) | have hbW := hbW.trans (hb2.mono hbW.size) | have hbW := (hbW.alloc hbW.size (.cells #[.int .i64 tg.who, .string tg.mac] 23)).trans (hb2.mono (hbW.alloc hbW.size (.cells #[.int .i64 tg.who, .string tg.mac] 23)).size)); (try (have hNb := hN1.below hb2 hN1.lt)); (try (have hNb := hNb.below hb2 hNb.lt)); (try (have hNb := (hNw _).below hb2 (hNw _).lt)); have hX2 := hXb w2 hbW; have hX3 := hXa w2 hbW; have u1 := hX2.cell (i := 1) rfl; have v1 := hX3.cell (i := 1) rfl; have u2 := hX2.cell (i := 2) rfl; have v2 := hX3.cell (i := 2) rfl; have u3 := hX2.cell (i := 3) rfl; have v3 := hX3.cell (i := 3) rfl; have u4 := hX2.cell (i := 4) rfl; have v4 := hX3.cell (i := 4) rfl)
    | (go_simp; go_at_call 16; (first | refine (cA.out w2 _ hbW hNb).mono ?_ | refine (cA.out _ _ (hbW.alloc hbW.size _) (hNw w2)).mono ?_); rintro e w3 ⟨rfl, hwF, hkF⟩))
  all_goals
    clear cA cI hX hXn hXa hXb hw1 hB
    go_wp2
    first | go_end0 | refine bodyPost_ret (results_none rfl _ _ _) rfl ?_
    exact ⟨rfl, hwF, hkF⟩

set_option maxRecDepth 100000 in
set_option maxHeartbeats 2000000 in
theorem wown8_any (p B : Nat) (l : List WordD) (dg : ByteArray) (vi : Int) (tg : TagD) (ba : BatM) (he : HdrM) (ce : CertM) (bl : BlkM) (q : QcM) (w : World) (h : WAt w p B l) (hn : l.length + 1 ≤ 1000000000) (hA : ∀ w1, Kept (WS p B) w w1 → q.At w1) (hf : q.Enc) (hl : (encQ q.d).length ≤ 140737488351232) :
    Calls Tryz.prog 14 #[.pointer (some ⟨p, 0, none⟩), MsgM.v ⟨8, dg, vi, tg, ba, he, ce, bl, q⟩] w fun e w' => e = .returned (.tuple #[]) ∧ WAt w' p B (l ++ [⟨tg, newviewB, nvB vi q.d⟩]) ∧ Kept (WS p B) w w' := by
  have hX := Arr.new w 39 [.int .i64 8, .string dg, .int .i64 vi, .int .i64 tg.who, .string tg.mac, .int .i64 ba.author, .int .i64 ba.number, .slice ba.ta ba.txs.length ba.tc, .int .i64 he.author, .int .i64 he.round, .slice he.ra he.refs.length he.rc, .slice he.pa he.parents.length he.pc, .int .i64 ce.hdr.author, .int .i64 ce.hdr.round, .slice ce.hdr.ra ce.hdr.refs.length ce.hdr.rc, .slice ce.hdr.pa ce.hdr.parents.length ce.hdr.pc, .slice ce.va ce.votes.length ce.vc, .int .i64 bl.view, .int .i64 bl.qc.view, .string bl.qc.block, .slice bl.qc.va bl.qc.votes.length bl.qc.vc, .slice bl.ca bl.certs.length bl.cc, .int .i64 q.view, .string q.block, .slice q.va q.votes.length q.vc]
  have hB := belowNew w (.cells [.int .i64 8, .string dg, .int .i64 vi, .int .i64 tg.who, .string tg.mac, .int .i64 ba.author, .int .i64 ba.number, .slice ba.ta ba.txs.length ba.tc, .int .i64 he.author, .int .i64 he.round, .slice he.ra he.refs.length he.rc, .slice he.pa he.parents.length he.pc, .int .i64 ce.hdr.author, .int .i64 ce.hdr.round, .slice ce.hdr.ra ce.hdr.refs.length ce.hdr.rc, .slice ce.hdr.pa ce.hdr.parents.length ce.hdr.pc, .slice ce.va ce.votes.length ce.vc, .int .i64 bl.view, .int .i64 bl.qc.view, .string bl.qc.block, .slice bl.qc.va bl.qc.votes.length bl.qc.vc, .slice bl.ca bl.certs.length bl.cc, .int .i64 q.view, .string q.block, .slice q.va q.votes.length q.vc].toArray 39)
  unfold MsgM.v MsgM.c
  simp only
  obtain ⟨w1, hw1⟩ : ∃ q', w.alloc (.cells [.int .i64 8, .string dg, .int .i64 vi, .int .i64 tg.who, .string tg.mac, .int .i64 ba.author, .int .i64 ba.number, .slice ba.ta ba.txs.length ba.tc, .int .i64 he.author, .int .i64 he.round, .slice he.ra he.refs.length he.rc, .slice he.pa he.parents.length he.pc, .int .i64 ce.hdr.author, .int .i64 ce.hdr.round, .slice ce.hdr.ra ce.hdr.refs.length ce.hdr.rc, .slice ce.hdr.pa ce.hdr.parents.length ce.hdr.pc, .slice ce.va ce.votes.length ce.vc, .int .i64 bl.view, .int .i64 bl.qc.view, .string bl.qc.block, .slice bl.qc.va bl.qc.votes.length bl.qc.vc, .slice bl.ca bl.certs.length bl.cc, .int .i64 q.view, .string q.block, .slice q.va q.votes.length q.vc].toArray 39) = q' := ⟨_, rfl⟩
  rw [hw1] at hX hB
  have h1 := h.below hB
  have hK1 : Kept (WS p B) w w1 := Kept.of_below hB
  obtain ⟨wd, hwd⟩ : ∃ z, z = nvB vi q.d := ⟨_, rfl⟩
  rw [← hwd]
  have cA : Hid (∀ w2 b, Below w1.heap.size w1 w2 → Arr w2 b 23 [.int .i64 tg.who, .string tg.mac] → Calls Tryz.prog 16 #[.pointer (some ⟨p, 0, none⟩), .string ⟨#[110, 101, 119, 118, 105, 101, 119]⟩, .string wd, .slice (some ⟨b, 0, none⟩) 1 1] w2 fun e w3 => e = .returned (.tuple #[]) ∧ WAt w3 p B (l ++ [⟨tg, newviewB, wd⟩]) ∧ Kept (WS p B) w w3) := by
    intro w2 b hb2 hR
    refine (addOne_any p B l newviewB wd tg b w2 (h1.below hb2) hR hn).mono ?_
    rintro e w3 ⟨rfl, hw, hk⟩
    exact ⟨rfl, hw, (hK1.trans (Kept.of_below hb2)).trans hk⟩
  obtain ⟨nb, hnb⟩ : ∃ z, z = (⟨(goInt vi).toArray⟩ : ByteArray) := ⟨_, rfl⟩
  obtain ⟨qb, hqb⟩ : ∃ z, z = (⟨(encQ q.d).toArray⟩ : ByteArray) := ⟨_, rfl⟩
  have hjo := nv_join vi q.d
  rw [← hnb, ← hqb, ← hwd] at hjo
  have hnl : nb.size ≤ 9 := by rw [hnb, size_mk]; exact goInt_length _
  have hql : qb.size ≤ 140737488351232 := by rw [hqb, size_mk]; exact hl
  have hsum : ¬ (9223372036854775807 < nb.size + qb.size) := by omega
  have cI : Hid (∀ w2, Below w1.heap.size w1 w2 → Calls Tryz.prog 38 #[.int .i64 vi] w2 fun e w3 => e = .returned (.string nb) ∧ Below w2.heap.size w2 w3) := by
    intro w2 hb2
    rw [hnb]
    exact int_any vi w2
  have cQ : Hid (∀ w2, Below w1.heap.size w1 w2 → Calls Tryz.prog 39 #[q.v] w2 fun e w3 => e = .returned (.string qb) ∧ Below w2.heap.size w2 w3) := by
    intro w2 hb2
    rw [hqb]
    exact encodeQc_any q w2 (hA _ (hK1.trans (Kept.of_below hb2))) hf
  unfold QcM.v at cQ
  clear hnb hqb
  have hbD0 : Below w1.heap.size w1 w1.drew := (Below.refl _ w1).drew
  have hbD1 : Below w1.heap.size w1 (w1.alloc (.cells #[.int .i64 tg.who, .string tg.mac] 23)).drew := ((Below.refl w1.heap.size w1).alloc (Nat.le_refl _) _).drew
  have hNw : ∀ w : World, Arr (w.alloc (.cells #[.int .i64 tg.who, .string tg.mac] 23)) w.heap.size 23 [.int .i64 tg.who, .string tg.mac] := fun w => Arr.new w 23 [.int .i64 tg.who, .string tg.mac]
  have hN1 : Arr (w1.alloc (.cells #[.int .i64 tg.who, .string tg.mac] 23)).drew w1.heap.size 23 [.int .i64 tg.who, .string tg.mac] := (hNw w1).below ((Below.refl _ _).drew) (hNw w1).lt
  have hXn := hX.alloc (.cells #[.int .i64 tg.who, .string tg.mac] 23)
  have hXb : ∀ w2, Below w1.heap.size w1 w2 → Arr w2 w.heap.size 39 [.int .i64 8, .string dg, .int .i64 vi, .int .i64 tg.who, .string tg.mac, .int .i64 ba.author, .int .i64 ba.number, .slice ba.ta ba.txs.length ba.tc, .int .i64 he.author, .int .i64 he.round, .slice he.ra he.refs.length he.rc, .slice he.pa he.parents.length he.pc, .int .i64 ce.hdr.author, .int .i64 ce.hdr.round, .slice ce.hdr.ra ce.hdr.refs.length ce.hdr.rc, .slice ce.hdr.pa ce.hdr.parents.length ce.hdr.pc, .slice ce.va ce.votes.length ce.vc, .int .i64 bl.view, .int .i64 bl.qc.view, .string bl.qc.block, .slice bl.qc.va bl.qc.votes.length bl.qc.vc, .slice bl.ca bl.certs.length bl.cc, .int .i64 q.view, .string q.block, .slice q.va q.votes.length q.vc] := fun w2 hb => hX.below hb hX.lt
  have hXa : ∀ w2, Below w1.heap.size w1 w2 → Arr (w2.alloc (.cells #[.int .i64 tg.who, .string tg.mac] 23)) w.heap.size 39 [.int .i64 8, .string dg, .int .i64 vi, .int .i64 tg.who, .string tg.mac, .int .i64 ba.author, .int .i64 ba.number, .slice ba.ta ba.txs.length ba.tc, .int .i64 he.author, .int .i64 he.round, .slice he.ra he.refs.length he.rc, .slice he.pa he.parents.length he.pc, .int .i64 ce.hdr.author, .int .i64 ce.hdr.round, .slice ce.hdr.ra ce.hdr.refs.length ce.hdr.rc, .slice ce.hdr.pa ce.hdr.parents.length ce.hdr.pc, .slice ce.va ce.votes.length ce.vc, .int .i64 bl.view, .int .i64 bl.qc.view, .string bl.qc.block, .slice bl.qc.va bl.qc.votes.length bl.qc.vc, .slice bl.ca bl.certs.length bl.cc, .int .i64 q.view, .string q.block, .slice q.va q.votes.length q.vc] := fun w2 hb => (hX.below hb hX.lt).alloc (.cells #[.int .i64 tg.who, .string tg.mac] 23)
  have x0 := hX.cell (i := 0) rfl
  have y0 := hXn.cell (i := 0) rfl
  have x2 := hX.cell (i := 2) rfl
  have y2 := hXn.cell (i := 2) rfl
  have x3 := hX.cell (i := 3) rfl
  have y3 := hXn.cell (i := 3) rfl
  have x4 := hX.cell (i := 4) rfl
  have y4 := hXn.cell (i := 4) rfl
  have x22 := hX.cell (i := 22) rfl
  have y22 := hXn.cell (i := 22) rfl
  have x23 := hX.cell (i := 23) rfl
  have y23 := hXn.cell (i := 23) rfl
  have x24 := hX.cell (i := 24) rfl
  have y24 := hXn.cell (i := 24) rfl
  clear hwd h h1
  go_enter Tryz.func14, Tryz.ntmps14
  go_wp2_with fail
  go_region_law (first
    | (go_simp; go_at_call 38; refine (cI.out _ (by first | exact hbD0 | exact hbD1 | exact hbW | exact hbW.alloc hbW.size _)).mono ?_; rintro e w2 ⟨rfl, hb2⟩; (first | have hbW := hbD0.trans (hb2.mono hbD0.size) | have hbW := hbD1.trans (hb2.mono hbD1.size) | have hbW := hbW.trans (hb2.mono hbW.size) | have hbW := (hbW.alloc hbW.size (.cells #[.int .i64 tg.who, .string tg.mac] 23)).trans (hb2.mono (hbW.alloc hbW.size (.cells #[.int .i64 tg.who, .string tg.mac] 23)).size)); (try (have hNb := hN1.below hb2 hN1.lt)); (try (have hNb := hNb.below hb2 hNb.lt)); (try (have hNb := (hNw _).below hb2 (hNw _).lt)); have hX2 := hXb w2 hbW; have hX3 := hXa w2 hbW; have u2 := hX2.cell (i := 2) rfl; have v2 := hX3.cell (i := 2) rfl; have u3 := hX2.cell (i := 3) rfl; have v3 := hX3.cell (i := 3) rfl; have u4 := hX2.cell (i := 4) rfl; have v4 := hX3.cell (i := 4) rfl; have u22 := hX2.cell (i := 22) rfl; have v22 := hX3.cell (i := 22) rfl; have u23 := hX2.cell (i := 23) rfl; have v23 := hX3.cell (i := 23) rfl; have u24 := hX2.cell (i := 24) rfl; have v24 := hX3.cell (i := 24) rfl)
    | (go_simp; go_at_call 39; refine (cQ.out _ (by first | exact hbD0 | exact hbD1 | exact hbW | exact hbW.alloc hbW.size _)).mono ?_; rintro e w2 ⟨rfl, hb2⟩; (first | have hbW := hbD0.trans (hb2.mono hbD0.size) | have hbW := hbD1.trans (hb2.mono hbD1.size) | have hbW := hbW.trans (hb2.mono hbW.size) | have hbW := (hbW.alloc hbW.size (.cells #[.int .i64 tg.who, .string tg.mac] 23)).trans (hb2.mono (hbW.alloc hbW.size (.cells #[.int .i64 tg.who, .string tg.mac] 23)).size)); (try (have hNb := hN1.below hb2 hN1.lt)); (try (have hNb := hNb.below hb2 hNb.lt)); (try (have hNb := (hNw _).below hb2 (hNw _).lt)); have hX2 := hXb w2 hbW; have hX3 := hXa w2 hbW; have u2 := hX2.cell (i := 2) rfl; have v2 := hX3.cell (i := 2) rfl; have u3 := hX2.cell (i := 3) rfl; have v3 := hX3.cell (i := 3) rfl; have u4 := hX2.cell (i := 4) rfl; have v4 := hX3.cell (i := 4) rfl; have u22 := hX2.cell (i := 22) rfl; have v22 := hX3.cell (i := 22) rfl; have u23 := hX2.cell (i := 23) rfl; have v23 := hX3.cell (i := 23) rfl; have u24 := hX2.cell (i := 24) rfl; have v24 := hX3.cell (i := 24) rfl)
    | (go_simp; go_at_call 16; (first | refine (cA.out w2 _ hbW hNb).mono ?_ | refine (cA.out _ _ (hbW.alloc hbW.size _) (hNw w2)).mono ?_); rintro e w3 ⟨rfl, hwF, hkF⟩))
  all_goals
    clear cA cI hX hXn hXa hXb hw1 hB
    go_wp2
    first | go_end0 | refine bodyPost_ret (results_none rfl _ _ _) rfl ?_
    exact ⟨rfl, hwF, hkF⟩
end Go.Proofs.YtaoiejgbbmjpkaaGreatDoor

/- A strings.Builder of the call's own at work beside other blocks of the call's own. -/
namespace Go.Proofs.YtaoiejgbbmjpkaaGreatDoor
open Go.RowKit
set_option linter.unusedVariables false

/-- Block g is neither the Builder's b nor its row's. -/
def BldOff (w : World) (b g : Nat) : Prop := g ≠ b ∧ ∀ p v T, w.heap[b]? = some (.cells #[p, v] T (0, 0)) → v.ownBlock ≠ some g

theorem BldOff.below {w w' : World} {b g : Nat} (h : BldOff w b g) (hb : Below w.heap.size w w') (hl : b < w.heap.size) : BldOff w' b g :=
  ⟨h.1, fun p v T he => h.2 p v T (by rw [← hb.block b hl]; exact he)⟩

theorem bld_lt {T e : TypeId} {B b : Nat} {bs : List Value} {w : World} (h : Lib.IsBuilder T e B b bs w) : b < w.heap.size := by
  rcases h with ⟨_, v, hb, _⟩ | ⟨_, v, hb, _⟩
  · exact (Array.getElem?_eq_some_iff.1 hb).1
  · exact (Array.getElem?_eq_some_iff.1 hb).1

/-- What is new is apart from a Builder. -/
theorem BldOff.new {T e : TypeId} {B b : Nat} {bs : List Value} {w : World} (h : Lib.IsBuilder T e B b bs w) {g : Nat} (hg : w.heap.size ≤ g) : BldOff w b g := by
  have hl := bld_lt h
  refine ⟨by omega, fun p v T' he => ?_⟩
  rcases h with ⟨_, v', hb, hown, _⟩ | ⟨_, v', hb, hown, _⟩
  · rw [hb] at he
    simp at he
    intro ho
    have := (hown.lt g (by rw [he.1.2]; exact ho)).2
    omega
  · rw [hb] at he
    simp at he
    intro ho
    have := (hown.lt g (by rw [he.1.2]; exact ho)).2
    omega

theorem copyCheck_free (B b : Nat) (bs : List Value) (w : World) (h : Lib.IsBuilder 99 5 B b bs w) :
    Calls Tryz.prog 82 #[.pointer (some ⟨b, 0, none⟩)] w fun e w' => e = .returned (.tuple #[]) ∧ (Lib.BuilderAt 99 5 B b (.pointer (some ⟨b, 0, none⟩)) bs w' ∧ Below B w w') ∧ w.heap.size ≤ w'.heap.size ∧ ∀ g, BldOff w b g → w'.heap[g]? = w.heap[g]? ∧ BldOff w' b g := by
  rcases h with h | h
  · refine (copyCheck_fresh b w h.cell0 h.shape h.frozen0).mono ?_
    rintro e w' ⟨rfl, rfl⟩
    have hu := h.used (.pointer (some ⟨b, 0, none⟩))
    refine ⟨rfl, ⟨h.used _, (Below.refl B w).setCell (p := ⟨b, 0, none⟩) h.1 _⟩, by rw [setCell_size]; omega, fun g hg => ⟨Below.heap_setCell w ⟨b, 0, none⟩ _ g hg.1, hg.1, fun p v T he => ?_⟩⟩
    obtain ⟨_, v', hb', _⟩ := h
    have := (Arr.set (show Arr w b 99 [.pointer none, v'] from hb') 0 (.pointer (some ⟨b, 0, none⟩)))
    unfold Arr at this
    rw [this] at he
    simp at he
    rw [← he.1.2]
    exact hg.2 _ _ _ hb'
  · refine (copyCheck_used b w h.cell0).mono ?_
    rintro e w' ⟨rfl, rfl⟩
    exact ⟨rfl, ⟨h, Below.refl B _⟩, Nat.le_refl _, fun g hg => ⟨rfl, hg⟩⟩

set_option maxRecDepth 100000 in
set_option maxHeartbeats 400000 in
theorem write_free (B b : Nat) (bs : List Value) (s : ByteArray) (w : World) (h : Lib.IsBuilder 99 5 B b bs w) (hlen : bs.length + s.size ≤ 140737488355328) (hBw : B ≤ w.heap.size) :
    Calls Tryz.prog 59 #[.pointer (some ⟨b, 0, none⟩), .string s] w fun e w' => e = .returned (.tuple #[.int .i64 s.size, .nilIface]) ∧ (Lib.BuilderAt 99 5 B b (.pointer (some ⟨b, 0, none⟩)) (bs ++ Lib.strCells s) w' ∧ Below B w w') ∧ w.heap.size ≤ w'.heap.size ∧ ∀ g, g < w.heap.size → BldOff w b g → w'.heap[g]? = w.heap[g]? := by
  obtain ⟨i0, hi, hz0, hz1, hz2⟩ := info_parts infoByte
  go_enter Tryz.func59, Tryz.ntmps59
  go_wp2_with fail
  refine (copyCheck_free B b bs _ h).mono ?_
  rintro e w1 ⟨rfl, ⟨h1, hb1⟩, hz, hoff⟩
  obtain ⟨hB, v, hbk, hown, hne⟩ := h1
  have c1 : w1.cell? ⟨b, 1, none⟩ = some v := by rw [Lib.cell_of_heap hbk]; rfl
  go_wp2_with (at_builtin; refine Lib.wpList_append_own_string _ rfl _ _ 74 9 rfl B 5 i0 Tryz.underlying74 Tryz.underlying9 hi hz0 hz1 hz2 _ _ _ rfl hown s rfl ?c3 ?c4 ?c5 ?_)
  case c3 => unfold maxLen; omega
  case c4 => omega
  case c5 => have := hb1.size; omega
  intro v' w2 hown' hgrow _
  have hlt : b < w1.heap.size := (Array.getElem?_eq_some_iff.1 hbk).1
  have hb2 : w2.heap[b]? = some (.cells #[.pointer (some ⟨b, 0, none⟩), v] 99 (0, 0)) := by
    rw [hgrow.block b hlt (fun e => hne e.symm)]
    exact hbk
  have d1 : w2.cell? ⟨b, 1, none⟩ = some v := by rw [Lib.cell_of_heap hb2]; rfl
  have f1 : w2.frozen? ⟨b, 1, none⟩ = false := Lib.frozen_of_heap hb2 1
  obtain ⟨ao, n', cap, rfl⟩ : ∃ ao n' cap, v' = .slice ao n' cap := by
    rcases hown'.2 with ⟨hv, _⟩ | ⟨g, cap, cur, hv, _⟩
    · exact ⟨_, _, _, hv⟩
    · exact ⟨_, _, _, hv⟩
  have fin1 : Lib.BuilderAt 99 5 B b (.pointer (some ⟨b, 0, none⟩)) (bs ++ Lib.strCells s) (w2.setCell ⟨b, 1, none⟩ (.slice ao n' cap)) :=
    Lib.BuilderAt.put (T := 99) (e := 5) hB hb2 (bs' := bs ++ Lib.strCells s) (by simpa [Lib.strCells_length] using hown') (by decide)
  have fin2 : Below B w (w2.setCell ⟨b, 1, none⟩ (.slice ao n' cap)) :=
    (hb1.grown hgrow (by have := hb1.size; omega) (fun k hk => (hown.lt k hk).1)).setCell (p := ⟨b, 1, none⟩) hB _
  have fin3 : Hid (w.heap.size ≤ (w2.setCell ⟨b, 1, none⟩ (.slice ao n' cap)).heap.size ∧ ∀ g, g < w.heap.size → BldOff w b g → (w2.setCell ⟨b, 1, none⟩ (.slice ao n' cap)).heap[g]? = w.heap[g]?) := by
    refine ⟨by rw [setCell_size]; have := hgrow.size; omega, fun g hg ho => ?_⟩
    obtain ⟨e1, o1⟩ := hoff g ho
    rw [Below.heap_setCell w2 ⟨b, 1, none⟩ _ g ho.1, hgrow.block g (by omega) (fun e => o1.2 _ _ _ hbk e.symm), e1]
  clear hown' hgrow hown hbk hb2 hb1 h hne hlt c1 hoff hz
  go_wp2
  go_ret2
  exact ⟨rfl, ⟨fin1, fin2⟩, fin3.out⟩

theorem BldSt.writeF {W w : World} {xb bb : Nat} {T : TypeId} {cs : List Value} {l : List UInt8} (h : BldSt W xb bb T cs w l) (m : List UInt8) (hm : l.length + m.length ≤ 140737488355328) :
    Calls Tryz.prog 59 #[.pointer (some ⟨bb, 0, none⟩), .string ⟨m.toArray⟩] w fun e w' => e = .returned (.tuple #[.int .i64 m.length, .nilIface]) ∧ BldSt W xb bb T cs w' (l ++ m) ∧ w.heap.size ≤ w'.heap.size ∧ ∀ g, g < w.heap.size → BldOff w bb g → w'.heap[g]? = w.heap[g]? := by
  refine (write_free bb bb _ ⟨m.toArray⟩ w h.bld (by rw [Lib.byteCells_length, size_mk]; exact hm) h.has).mono ?_
  rintro e w' ⟨rfl, ⟨h2, hb⟩, hz, hg⟩
  refine ⟨by rw [size_mk], ⟨h.box.below hb h.ord, h.ord, Or.inr ?_, h.bel.trans (hb.mono h.low), h.low, Nat.le_trans h.has hb.size⟩, hz, hg⟩
  rw [Lib.byteCells_append]
  rw [Lib.strCells_eq] at h2
  exact h2
end Go.Proofs.YtaoiejgbbmjpkaaGreatDoor

/- What package header's Encode does; nothing old in memory is turned. -/
namespace Go.Proofs.YtaoiejgbbmjpkaaGreatDoor
open Go.RowKit
set_option linter.unusedVariables false

/-- The bytes up to the k-th Ref. -/
def preH (x : HdrM) (k : Nat) : List UInt8 := goInt x.author ++ goInt x.round ++ goInt (x.refs.length : Int) ++ ((rd x.refs).take k).flatMap refB

theorem encH_eq (x : HdrM) : encH x.d = preH x x.refs.length ++ lst (bl x.parents) := by
  have e : (rd x.refs).take x.refs.length = rd x.refs := List.take_of_length_le (by rw [rd_length]; omega)
  unfold preH
  rw [e]
  simp [encH, HdrM.d, rd_length]

theorem preH_succ (x : HdrM) (k : Nat) (r : RefM) (h : x.refs[k]? = some r) : preH x (k + 1) = preH x k ++ txt r.digest.data.toList ++ tagsB r.acks := by
  have hk := (List.getElem?_eq_some_iff.1 h).1
  have hr : (rd x.refs)[k]? = some r.d := by simp [rd, h]
  obtain ⟨hk2, he⟩ := List.getElem?_eq_some_iff.1 hr
  unfold preH
  rw [List.take_succ_eq_append_getElem hk2, he, List.flatMap_append]
  simp [refB, RefM.d]

theorem preH_le (x : HdrM) (k : Nat) : (preH x k).length ≤ (encH x.d).length := by
  have h : (rd x.refs).flatMap refB = ((rd x.refs).take k).flatMap refB ++ ((rd x.refs).drop k).flatMap refB := by rw [← List.flatMap_append, List.take_append_drop]
  have e : encH x.d = goInt x.author ++ goInt x.round ++ goInt (x.refs.length : Int) ++ (rd x.refs).flatMap refB ++ lst (bl x.parents) := by simp [encH, HdrM.d, rd_length]
  rw [e, h, preH]
  simp only [List.length_append]
  omega

theorem preH_ne (x : HdrM) (k : Nat) (h : x.refs.length ≤ 4611686018427387903) : preH x k ≠ [] := by
  have := goInt_ne x.refs.length h
  unfold preH
  intro e
  simp at e
  exact this e.2.2.1

/-- What a header holds is no more than a machine takes. -/
structure HdrM.Fit (x : HdrM) : Prop where
  n : x.refs.length ≤ 1000000000
  p : x.parents.length ≤ 1000000000
  acks : ∀ r ∈ x.refs, r.acks.length ≤ 1000000000
  mac : ∀ r ∈ x.refs, ∀ t ∈ r.acks, t.mac.size ≤ 140737488351232
  len : (encH x.d).length ≤ 140737488355328

set_option maxRecDepth 100000 in
set_option maxHeartbeats 2000000 in
theorem hdrEncode_any (x : HdrM) (w : World) (hA : x.At w) (hf : x.Fit) :
    Calls Tryz.prog 41 #[x.v] w fun e w' => e = .returned (.string ⟨(encH x.d).toArray⟩) ∧ Below w.heap.size w w' := by
  have hX := Arr.new w 30 x.c
  have hB := belowNew w (.cells x.c.toArray 30)
  have st := BldSt.new hX hB
  rw [alloc_size] at st
  obtain ⟨out, hout⟩ : ∃ out, Hid (out = (⟨(encH x.d).toArray⟩ : ByteArray)) := ⟨_, rfl⟩
  rw [← hout.out]
  have hn := hf.n
  have hpn := hf.p
  have HL : Hid (∀ k, (preH x k).length ≤ 140737488355328) := fun k => Nat.le_trans (preH_le x k) hf.len
  have HP : Hid ((preH x x.refs.length).length + (lst (bl x.parents)).length ≤ 140737488355328) := by
    have := hf.len
    rw [encH_eq, List.length_append] at this
    exact this
  have HE : Hid (encH x.d = _) := encH_eq x
  have HK := hf.acks
  have HM := hf.mac
  have HS : Hid (∀ k r, x.refs[k]? = some r → preH x (k + 1) = preH x k ++ txt r.digest.data.toList ++ tagsB r.acks) := fun k r h => preH_succ x k r h
  have HN : Hid (∀ k, preH x k ≠ []) := fun k => preH_ne x k (by omega)
  have H0 : Hid (preH x 0 = goInt x.author ++ goInt x.round ++ goInt (x.refs.length : Int)) := by show _ = _; simp [preH]
  have g0 := goInt_length x.author
  have g1 := goInt_length x.round
  have g2 := goInt_length (x.refs.length : Int)
  have C0 := fun w1 => int_any x.author w1
  have C1 := fun w1 => int_any x.round w1
  have C2 := fun w1 => int_any (x.refs.length : Int) w1
  obtain ⟨au, ro, ra, rs, rc, pa, ps, pc⟩ := x
  have hA1 : RowAt refK w ra rs := hA.refs
  have hA2 : RowAt strK w pa ps := hA.ps
  obtain ⟨pre, hpre⟩ : ∃ q, q = preH ⟨au, ro, ra, rs, rc, pa, ps, pc⟩ := ⟨_, rfl⟩
  rw [← hpre] at HL HP HE HS HN H0
  clear hX hB hf hA hpre
  unfold HdrM.v
  unfold HdrM.c at st
  simp only at st hn hpn HL HP HE HK HM HS HN H0 g0 g1 g2 C0 C1 C2 ⊢
  generalize goInt au = l0 at *
  generalize goInt ro = l1 at *
  generalize goInt (rs.length : Int) = l2 at *
  have hlen : Hid (l0.length ≤ 9 ∧ l1.length ≤ 9 ∧ l2.length ≤ 9) := ⟨g0, g1, g2⟩
  clear g0 g1 g2
  go_enter Tryz.func41, Tryz.ntmps41
  have c0 := st.box.cell (i := 0) rfl
  go_wp2_with fail
  refine (C0 _).mono ?_
  rintro e w2 ⟨rfl, hb⟩
  replace st := st.call hb
  clear hb c0 C0
  go_wp2_with fail
  refine (st.write l0 (by have := hlen.out; simp; omega)).mono ?_
  rintro e w3 ⟨rfl, st2⟩
  clear st
  have c1 := st2.box.cell (i := 1) rfl
  go_wp2_with fail
  refine (C1 _).mono ?_
  rintro e w2 ⟨rfl, hb⟩
  replace st2 := st2.call hb
  clear hb c1 C1
  go_wp2_with fail
  refine (st2.write l1 (by have := hlen.out; simp; omega)).mono ?_
  rintro e w3 ⟨rfl, st3⟩
  clear st2
  have c2 := st3.box.cell (i := 2) rfl
  go_wp2_with fail
  refine (C2 _).mono ?_
  rintro e w2 ⟨rfl, hb⟩
  replace st3 := st3.call hb
  clear hb c2 C2
  go_wp2_with fail
  refine (st3.write l2 (by have := hlen.out; simp; omega)).mono ?_
  rintro e w3 ⟨rfl, st4⟩
  clear st3
  rw [List.nil_append, ← H0.out] at st4
  have c2 := st4.box.cell (i := 2) rfl
  go_wp2
  go_loopw [5, 22] (fun v5 v22 wr => ∃ k : Nat, k ≤ rs.length ∧ v22 = .int .i64 (k : Int) ∧ BldSt w w.heap.size (w.heap.size + 1) 30 [.int .i64 au, .int .i64 ro, .slice ra rs.length rc, .slice pa ps.length pc] wr (pre k)) (fun _ v _ => rs.length - (intOf v).toNat)
  case atStart => exact ⟨0, Nat.zero_le _, rfl, st4⟩
  case round =>
    clear st4 c2 H0
    obtain ⟨k, hk, rfl, st⟩ := hrel
    by_cases hlt : k < rs.length
    · obtain ⟨r, hr⟩ : ∃ r, rs[k]? = some r := ⟨rs[k], List.getElem?_eq_getElem hlt⟩
      obtain ⟨b, off, rfl, hbl, y0, y1⟩ := (hA1.below st.bel).ref hr
      have hrt := ((hA1.below st.bel).at_ r (List.mem_of_getElem? hr)).1
      have HMem : Hid (r ∈ rs) := List.mem_of_getElem? hr
      have hs1 := HS.out k r hr
      have hlk := HL.out (k + 1)
      rw [hs1] at hlk
      simp only [List.length_append] at hlk
      have hdl : r.digest.size ≤ (txt r.digest.data.toList).length := by rw [txt, List.length_append]; simp
      have cT := fun w1 => text_any r.digest w1 (by omega)
      have cG := fun w1 h => tags_any r.ao r.cap r.acks w1 h (HK r (List.mem_of_getElem? hr)) (HM r (List.mem_of_getElem? hr)) (by omega)
      have Hs1 : Hid (pre (k + 1) = _) := hs1
      generalize txt r.digest.data.toList = m0 at *
      generalize tagsB r.acks = m1 at *
      have hlk' : Hid ((pre k).length + m0.length + m1.length ≤ 140737488355328) := hlk
      clear hlk hdl hs1 hr
      have hbx := belowNew wr (.cells #[.string r.digest, .slice r.ao r.acks.length r.cap] 53)
      have hX := Arr.new wr 53 [.string r.digest, .slice r.ao r.acks.length r.cap]
      have st1 := st.call hbx
      have hrt1 := hrt.below hbx
      have hoff0 : BldOff _ (w.heap.size + 1) wr.heap.size := (BldOff.new st.bld (Nat.le_refl _)).below hbx (bld_lt st.bld)
      clear st hrt
      have x0 := hX.cell (i := 0) rfl
      have x1 := hX.cell (i := 1) rfl
      have hwl := st1.bel.size
      go_wp2_with fail
      refine (cT _).mono ?_
      rintro e w2 ⟨rfl, hb⟩
      have hoff1 := hoff0.below hb (bld_lt st1.bld)
      have st2 := st1.call hb
      have hX2 := hX.below hb hX.lt
      clear st1 hX hrt1 hb cT x0 x1 y0 y1 hoff0
      go_wp2_with fail
      have hxl := hX2.lt
      refine (st2.writeF m0 (by have := hlk'.out; omega)).mono ?_
      rintro e w3 ⟨rfl, st3, hz3, hg3⟩
      have hX3 : Arr w3 wr.heap.size 53 [.string r.digest, .slice r.ao r.acks.length r.cap] := by
        have := hg3 wr.heap.size hxl hoff1
        unfold Arr at hX2 ⊢
        rw [this]
        exact hX2
      have hrt3 := ((hA1.below st3.bel).at_ r (HMem.out)).1
      clear st2 hX2 hoff1 hg3
      have x1 := hX3.cell (i := 1) rfl
      go_wp2_with fail
      refine (cG _ hrt3).mono ?_
      rintro e w4 ⟨rfl, hb⟩
      have st4 := st3.call hb
      clear st3 hb cG x1 hX3 hrt3
      go_wp2_with fail
      refine (st4.write m1 (by have := hlk'.out; simp; omega)).mono ?_
      rintro e w5 ⟨rfl, st5⟩
      clear st4
      rw [← Hs1.out] at st5
      go_wp2
      go_roundw
      case rel => exact ⟨k + 1, by omega, by go_num, st5⟩
      case measure => simp [intOf]; omega
    · obtain rfl : k = rs.length := by omega
      have c3 := st.box.cell (i := 3) rfl
      have hPz := HP.out
      have cL := list_any pa pc ps wr (hA2.below st.bel).strs (by omega) (by omega)
      generalize lst (bl ps) = m2 at *
      clear hPz
      go_wp2_with fail
      refine cL.mono ?_
      rintro e w2 ⟨rfl, hb⟩
      have st2 := st.call hb
      clear st hb cL c3
      go_wp2_with fail
      refine (st2.write m2 (HP.out)).mono ?_
      rintro e w3 ⟨rfl, st3⟩
      clear st2
      go_wp2_with fail
      refine (st3.read (by have := HN.out rs.length; intro e; simp at e; exact this e.1)).mono ?_
      rintro e w4 ⟨rfl, hb4⟩
      go_wp2
      go_ret
      exact ⟨by rw [hout.out, HE.out]; rfl, hb4⟩
end Go.Proofs.YtaoiejgbbmjpkaaGreatDoor

/- What header.Id does; nothing old in memory is turned. -/
namespace Go.Proofs.YtaoiejgbbmjpkaaGreatDoor
open Go.RowKit
set_option linter.unusedVariables false

set_option maxRecDepth 100000 in
set_option maxHeartbeats 1000000 in
theorem hdrId_any (x : HdrM) (w : World) (hA : x.At w) (hf : x.Fit) (hl : (encH x.d).length ≤ 140737488351232) (hG : Mx.Glob w) :
    Calls Tryz.prog 17 #[x.v] w fun e w' => e = .returned (.string (Mx.bytes (Mx.sumL (encH x.d)))) ∧ Below w.heap.size w w' := by
  have hX := Arr.new w 30 x.c
  have hB := belowNew w (.cells x.c.toArray 30)
  have cE := hdrEncode_any x _ (hA.below hB) hf
  obtain ⟨eb, heb⟩ : ∃ q, q = (⟨(encH x.d).toArray⟩ : ByteArray) := ⟨_, rfl⟩
  have hes : eb.size ≤ 140737488351232 := by rw [heb, size_mk]; exact hl
  have cS := fun w1 hg => Mx.sum_any eb w1 hes hg
  have HE : Hid (Mx.bytes (Mx.sumL (encH x.d)) = Mx.bytes (Mx.sumL eb.data.toList)) := by show _ = _; rw [heb]
  rw [← heb] at cE
  obtain ⟨out, hout⟩ : ∃ q, Hid (q = Mx.bytes (Mx.sumL (encH x.d))) := ⟨_, rfl⟩
  rw [← hout.out]
  have hG1 := hG.below hB
  clear heb hes hA hf hl hG
  unfold HdrM.v at cE ⊢
  unfold HdrM.c at hX hB hG1 cE
  have x0 := hX.cell (i := 0) rfl
  have x1 := hX.cell (i := 1) rfl
  have x2 := hX.cell (i := 2) rfl
  have x3 := hX.cell (i := 3) rfl
  go_enter Tryz.func17, Tryz.ntmps17
  go_wp2_with fail
  refine cE.mono ?_
  rintro e w1 ⟨rfl, hb1⟩
  have hB1 := hB.trans (hb1.mono hB.size)
  have hG2 := hG1.below hb1
  clear cE hX hB hG1 x0 x1 x2 x3 hb1
  go_wp2_with fail
  refine (cS _ hG2).mono ?_
  rintro e w2 ⟨rfl, hb2⟩
  have hB2 := hB1.trans (hb2.mono hB1.size)
  clear cS hB1 hb2 hG2
  go_wp2
  go_ret
  exact ⟨by rw [hout.out, HE.out]; rfl, hB2⟩
end Go.Proofs.YtaoiejgbbmjpkaaGreatDoor

/- tuskref04.Same answers true at two transactions that read the same; nothing old in memory is turned. -/
namespace Go.Proofs.YtaoiejgbbmjpkaaGreatDoor
open Go.RowKit
set_option linter.unusedVariables false

set_option maxRecDepth 100000 in
set_option maxHeartbeats 1000000 in
theorem sameTx_any (d : TxD) (ra : Option Addr) (rc : Nat) (wa : Option Addr) (wc : Nat) (ra2 : Option Addr) (rc2 : Nat) (wa2 : Option Addr) (wc2 : Nat) (w : World) (h1 : TxAt w d ra wa) (h2 : TxAt w d ra2 wa2) (l1 : d.rs.length ≤ 9223372036854775807) (l2 : d.ws.length ≤ 9223372036854775807) :
    Calls Tryz.prog 115 #[txV d ra rc wa wc, txV d ra2 rc2 wa2 wc2] w fun e w' => e = .returned (.bool true) ∧ Below w.heap.size w w' := by
  obtain ⟨hX, hY, hB⟩ := two_new w 86 86 (txC d ra rc wa wc) (txC d ra2 rc2 wa2 wc2)
  have k1 := h1.below hB
  have k2 := h2.below hB
  have cR := fun w1 (g1 : StrsAt w1 ra d.rs) (g2 : StrsAt w1 ra2 d.rs) => same_any ra ra2 rc rc2 d.rs w1 g1 g2 l1
  have cW := fun w1 (g1 : StrsAt w1 wa d.ws) (g2 : StrsAt w1 wa2 d.ws) => same_any wa wa2 wc wc2 d.ws w1 g1 g2 l2
  unfold txV
  go_enter Tryz.func115, Tryz.ntmps115
  go_wp2_with fail
  refine (cR _ k1.rd k2.rd).mono ?_
  rintro e w1 ⟨rfl, hb1⟩
  have y8 := (hY.below hb1 hY.lt).cell (i := 8) rfl
  have x8 := (hX.below hb1 hX.lt).cell (i := 8) rfl
  have hB1 := hB.trans (hb1.mono hB.size)
  have j1 := k1.below hb1
  have j2 := k2.below hb1
  clear hb1 hX hY hB k1 k2 h1 h2 cR
  go_wp2_with fail
  refine (cW _ j1.wr j2.wr).mono ?_
  rintro e w2 ⟨rfl, hb2⟩
  have hB2 := hB1.trans (hb2.mono hB1.size)
  clear hb2 hB1 cW j1 j2
  go_wp2
  go_ret
  exact ⟨rfl, hB2⟩
end Go.Proofs.YtaoiejgbbmjpkaaGreatDoor

/- tuskref05.Same answers true at two batches that read the same; nothing old in memory is turned. -/
namespace Go.Proofs.YtaoiejgbbmjpkaaGreatDoor
open Go.RowKit
set_option linter.unusedVariables false

theorem dl_get {l m : List TxM} (h : dl l = dl m) {k : Nat} {x y : TxM} (hx : l[k]? = some x) (hy : m[k]? = some y) : y.d = x.d := by
  have h1 : (dl l)[k]? = some x.d := by simp [dl, hx]
  have h2 : (dl m)[k]? = some y.d := by simp [dl, hy]
  rw [h, h2] at h1
  simpa using h1

set_option maxRecDepth 100000 in
set_option maxHeartbeats 4000000 in
theorem sameB_any (a n : Int) (ao : Option Addr) (l : List TxM) (cap : Nat) (ao2 : Option Addr) (m : List TxM) (cap2 : Nat) (w : World) (hA : TxsAt w ao l) (hA2 : TxsAt w ao2 m) (hd : dl l = dl m) (hn : l.length ≤ 4611686018427387903) (hL : ∀ x ∈ l, x.d.rs.length ≤ 9223372036854775807 ∧ x.d.ws.length ≤ 9223372036854775807) :
    Calls Tryz.prog 74 #[batV a n ao l.length cap, batV a n ao2 m.length cap2] w fun e w' => e = .returned (.bool true) ∧ Below w.heap.size w w' := by
  have hlm : m.length = l.length := by rw [← dl_length m, ← hd, dl_length]
  rw [hlm]
  obtain ⟨hX, hY, hB⟩ := two_new w 26 26 (batC a n ao l.length cap) (batC a n ao2 l.length cap2)
  have x0 := hX.cell (i := 0) rfl
  have x1 := hX.cell (i := 1) rfl
  have x2 := hX.cell (i := 2) rfl
  have y0 := hY.cell (i := 0) rfl
  have y1 := hY.cell (i := 1) rfl
  have y2 := hY.cell (i := 2) rfl
  unfold batV
  go_enter Tryz.func74, Tryz.ntmps74
  go_wp2
  go_loopw [5] (fun v wr => ∃ k : Nat, k ≤ l.length ∧ v = .int .i64 (k : Int) ∧ Arr wr w.heap.size 26 (batC a n ao l.length cap) ∧ Arr wr (w.heap.size + 1) 26 (batC a n ao2 l.length cap2) ∧ Below w.heap.size w wr) (fun v _ => l.length - (intOf v).toNat)
  case atStart => exact ⟨0, Nat.zero_le _, rfl, hX, hY, hB⟩
  case round =>
    obtain ⟨k, hk, rfl, hX1, hY1, hb⟩ := hrel
    clear hX hY hB x0 x1 x2 y0 y1 y2
    have x2 := hX1.cell (i := 2) rfl
    have y2 := hY1.cell (i := 2) rfl
    by_cases hlt : k < l.length
    · obtain ⟨x, hx⟩ : ∃ x, l[k]? = some x := ⟨l[k], List.getElem?_eq_getElem hlt⟩
      obtain ⟨y, hy⟩ : ∃ y, m[k]? = some y := ⟨m[k]'(by omega), List.getElem?_eq_getElem (by omega)⟩
      obtain ⟨b, off, rfl, hbl, p0, p1, p2, p3, p4, p5, p6, p7, p8⟩ := (hA.below hb).cells hx
      obtain ⟨b2, off2, rfl, hbl2, q0, q1, q2, q3, q4, q5, q6, q7, q8⟩ := (hA2.below hb).cells hy
      have hAt := (hA k x hx).2.below hb
      have hAt2 := (hA2 k y hy).2.below hb
      have hxy := dl_get hd hx hy
      have hl1 := hL x (List.mem_of_getElem? hx)
      have hkm : k < m.length := by omega
      have cC := fun w1 (h : TxAt w1 x.d x.ra x.wa) (h2 : TxAt w1 x.d y.ra y.wa) => sameTx_any x.d x.ra x.rc x.wa x.wc y.ra y.rc y.wa y.wc w1 h h2 hl1.1 hl1.2
      have ht2 := hAt2.at_
      rw [hxy] at q0 q1 q2 q3 q4 q5 q6 q7 q8 ht2
      have ht1 := hAt.at_
      have hS : (wr.cell? ⟨b, off + k * 9, none⟩ = some (.int .i64 x.d.kind) ∧ wr.cell? ⟨b, off + k * 9 + 1, none⟩ = some (.string x.d.frm) ∧ wr.cell? ⟨b, off + k * 9 + 2, none⟩ = some (.string x.d.to) ∧ wr.cell? ⟨b, off + k * 9 + 3, none⟩ = some (.int .u64 (x.d.amt : Int)) ∧ wr.cell? ⟨b, off + k * 9 + 4, none⟩ = some (.int .u64 (x.d.non : Int)) ∧ wr.cell? ⟨b, off + k * 9 + 5, none⟩ = some (.string x.d.key) ∧ wr.cell? ⟨b, off + k * 9 + 6, none⟩ = some (.string x.d.val) ∧ wr.cell? ⟨b, off + k * 9 + 7, none⟩ = some (.slice x.ra x.d.rs.length x.rc) ∧ wr.cell? ⟨b, off + k * 9 + 8, none⟩ = some (.slice x.wa x.d.ws.length x.wc)) ∧ (wr.cell? ⟨b2, off2 + k * 9, none⟩ = some (.int .i64 x.d.kind) ∧ wr.cell? ⟨b2, off2 + k * 9 + 1, none⟩ = some (.string x.d.frm) ∧ wr.cell? ⟨b2, off2 + k * 9 + 2, none⟩ = some (.string x.d.to) ∧ wr.cell? ⟨b2, off2 + k * 9 + 3, none⟩ = some (.int .u64 (x.d.amt : Int)) ∧ wr.cell? ⟨b2, off2 + k * 9 + 4, none⟩ = some (.int .u64 (x.d.non : Int)) ∧ wr.cell? ⟨b2, off2 + k * 9 + 5, none⟩ = some (.string x.d.key) ∧ wr.cell? ⟨b2, off2 + k * 9 + 6, none⟩ = some (.string x.d.val) ∧ wr.cell? ⟨b2, off2 + k * 9 + 7, none⟩ = some (.slice y.ra x.d.rs.length y.rc) ∧ wr.cell? ⟨b2, off2 + k * 9 + 8, none⟩ = some (.slice y.wa x.d.ws.length y.wc)) ∧ wr.cell? ⟨w.heap.size, 2, none⟩ = some (.slice (some ⟨b, off, none⟩) l.length cap) ∧ wr.cell? ⟨w.heap.size + 1, 2, none⟩ = some (.slice (some ⟨b2, off2, none⟩) l.length cap2) := ⟨⟨p0, p1, p2, p3, p4, p5, p6, p7, p8⟩, ⟨q0, q1, q2, q3, q4, q5, q6, q7, q8⟩, x2, y2⟩
      have hcs : ∀ w2, Below wr.heap.size wr w2 → ((w2.cell? ⟨b, off + k * 9, none⟩ = some (.int .i64 x.d.kind) ∧ w2.cell? ⟨b, off + k * 9 + 1, none⟩ = some (.string x.d.frm) ∧ w2.cell? ⟨b, off + k * 9 + 2, none⟩ = some (.string x.d.to) ∧ w2.cell? ⟨b, off + k * 9 + 3, none⟩ = some (.int .u64 (x.d.amt : Int)) ∧ w2.cell? ⟨b, off + k * 9 + 4, none⟩ = some (.int .u64 (x.d.non : Int)) ∧ w2.cell? ⟨b, off + k * 9 + 5, none⟩ = some (.string x.d.key) ∧ w2.cell? ⟨b, off + k * 9 + 6, none⟩ = some (.string x.d.val) ∧ w2.cell? ⟨b, off + k * 9 + 7, none⟩ = some (.slice x.ra x.d.rs.length x.rc) ∧ w2.cell? ⟨b, off + k * 9 + 8, none⟩ = some (.slice x.wa x.d.ws.length x.wc)) ∧ (w2.cell? ⟨b2, off2 + k * 9, none⟩ = some (.int .i64 x.d.kind) ∧ w2.cell? ⟨b2, off2 + k * 9 + 1, none⟩ = some (.string x.d.frm) ∧ w2.cell? ⟨b2, off2 + k * 9 + 2, none⟩ = some (.string x.d.to) ∧ w2.cell? ⟨b2, off2 + k * 9 + 3, none⟩ = some (.int .u64 (x.d.amt : Int)) ∧ w2.cell? ⟨b2, off2 + k * 9 + 4, none⟩ = some (.int .u64 (x.d.non : Int)) ∧ w2.cell? ⟨b2, off2 + k * 9 + 5, none⟩ = some (.string x.d.key) ∧ w2.cell? ⟨b2, off2 + k * 9 + 6, none⟩ = some (.string x.d.val) ∧ w2.cell? ⟨b2, off2 + k * 9 + 7, none⟩ = some (.slice y.ra x.d.rs.length y.rc) ∧ w2.cell? ⟨b2, off2 + k * 9 + 8, none⟩ = some (.slice y.wa x.d.ws.length y.wc)) ∧ w2.cell? ⟨w.heap.size, 2, none⟩ = some (.slice (some ⟨b, off, none⟩) l.length cap) ∧ w2.cell? ⟨w.heap.size + 1, 2, none⟩ = some (.slice (some ⟨b2, off2, none⟩) l.length cap2)) := by
        intro w2 hb2
        have c := fun (g o : Nat) (v : Value) (h : g < wr.heap.size) (hc : wr.cell? ⟨g, o, none⟩ = some v) => (hb2.cell (p := ⟨g, o, none⟩) h).trans hc
        exact ⟨⟨c _ _ _ hbl p0, c _ _ _ hbl p1, c _ _ _ hbl p2, c _ _ _ hbl p3, c _ _ _ hbl p4, c _ _ _ hbl p5, c _ _ _ hbl p6, c _ _ _ hbl p7, c _ _ _ hbl p8⟩, ⟨c _ _ _ hbl2 q0, c _ _ _ hbl2 q1, c _ _ _ hbl2 q2, c _ _ _ hbl2 q3, c _ _ _ hbl2 q4, c _ _ _ hbl2 q5, c _ _ _ hbl2 q6, c _ _ _ hbl2 q7, c _ _ _ hbl2 q8⟩, c _ _ _ hX1.lt x2, c _ _ _ hY1.lt y2⟩
      have hbd : Below wr.heap.size wr wr.drew := below_drewN (Below.refl _ _) 1
      clear p0 p1 p2 p3 p4 p5 p6 p7 p8 q0 q1 q2 q3 q4 q5 q6 q7 q8 hAt hAt2 hx hy hl1
      go_wp2_with fail
      go_region_held3 (fun w' => (w'.cell? ⟨b, off + k * 9, none⟩ = some (.int .i64 x.d.kind) ∧ w'.cell? ⟨b, off + k * 9 + 1, none⟩ = some (.string x.d.frm) ∧ w'.cell? ⟨b, off + k * 9 + 2, none⟩ = some (.string x.d.to) ∧ w'.cell? ⟨b, off + k * 9 + 3, none⟩ = some (.int .u64 (x.d.amt : Int)) ∧ w'.cell? ⟨b, off + k * 9 + 4, none⟩ = some (.int .u64 (x.d.non : Int)) ∧ w'.cell? ⟨b, off + k * 9 + 5, none⟩ = some (.string x.d.key) ∧ w'.cell? ⟨b, off + k * 9 + 6, none⟩ = some (.string x.d.val) ∧ w'.cell? ⟨b, off + k * 9 + 7, none⟩ = some (.slice x.ra x.d.rs.length x.rc) ∧ w'.cell? ⟨b, off + k * 9 + 8, none⟩ = some (.slice x.wa x.d.ws.length x.wc)) ∧ (w'.cell? ⟨b2, off2 + k * 9, none⟩ = some (.int .i64 x.d.kind) ∧ w'.cell? ⟨b2, off2 + k * 9 + 1, none⟩ = some (.string x.d.frm) ∧ w'.cell? ⟨b2, off2 + k * 9 + 2, none⟩ = some (.string x.d.to) ∧ w'.cell? ⟨b2, off2 + k * 9 + 3, none⟩ = some (.int .u64 (x.d.amt : Int)) ∧ w'.cell? ⟨b2, off2 + k * 9 + 4, none⟩ = some (.int .u64 (x.d.non : Int)) ∧ w'.cell? ⟨b2, off2 + k * 9 + 5, none⟩ = some (.string x.d.key) ∧ w'.cell? ⟨b2, off2 + k * 9 + 6, none⟩ = some (.string x.d.val) ∧ w'.cell? ⟨b2, off2 + k * 9 + 7, none⟩ = some (.slice y.ra x.d.rs.length y.rc) ∧ w'.cell? ⟨b2, off2 + k * 9 + 8, none⟩ = some (.slice y.wa x.d.ws.length y.wc)) ∧ w'.cell? ⟨w.heap.size, 2, none⟩ = some (.slice (some ⟨b, off, none⟩) l.length cap) ∧ w'.cell? ⟨w.heap.size + 1, 2, none⟩ = some (.slice (some ⟨b2, off2, none⟩) l.length cap2)) (exact hcs _ (by assumption))
        (first
        | (go_at_call 115; refine (cC _ (ht1.below hbd) (ht2.below hbd)).mono ?_; rintro e wA ⟨rfl, hbA⟩; have hbA' := hbd.trans (Below.mono hbA hbd.size)))
      have hX2 := hX1.below hbA' hX1.lt
      have hY2 := hY1.below hbA' hY1.lt
      have hb4 := hb.trans (hbA'.mono hb.size)
      clear hcs hS hbd hbA hbA' hX1 hY1 x2 y2 ht1 ht2
      go_wp2
      go_roundw
      case rel => exact ⟨k + 1, by omega, by go_num, hX2, hY2, hb4⟩
      case measure => simp [intOf]; omega
    · go_wp2
      go_ret
      exact ⟨rfl, hb⟩
end Go.Proofs.YtaoiejgbbmjpkaaGreatDoor

/- tuskref06.SameTags and tuskref06.Same answer true at what reads the same; nothing old in memory is turned. -/
namespace Go.Proofs.YtaoiejgbbmjpkaaGreatDoor
open Go.RowKit
set_option linter.unusedVariables false

theorem RowAt.drewN {α : Type} {K : Kind α} {w : World} {ao : Option Addr} {l : List α} (h : RowAt K w ao l) (n : Nat) : RowAt K (w.drewN n) ao l :=
  h.below (below_drewN (Below.refl _ _) n)

set_option maxRecDepth 100000 in
set_option maxHeartbeats 1000000 in
theorem sameTags_any (a0 a1 : Option Addr) (c0 c1 : Nat) (l : List TagD) (w : World) (h0 : RowAt tagK w a0 l) (h1 : RowAt tagK w a1 l) (hn : l.length ≤ 4611686018427387903) :
    Calls Tryz.prog 117 #[.slice a0 l.length c0, .slice a1 l.length c1] w fun e w' => e = .returned (.bool true) ∧ Below w.heap.size w w' := by
  go_enter Tryz.func117, Tryz.ntmps117
  go_wp2
  go_loopw [5] (fun i wr => ∃ m : Nat, m ≤ l.length ∧ i = .int .i64 m ∧ Below w.heap.size w wr ∧ RowAt tagK wr a0 l ∧ RowAt tagK wr a1 l) (fun i _ => l.length - (intOf i).toNat)
  case atStart => exact ⟨0, Nat.zero_le _, rfl, Below.refl _ _, h0, h1⟩
  case round =>
    clear h0 h1
    obtain ⟨m, hm, rfl, hw, k0, k1⟩ := hrel
    by_cases hlt : m < l.length
    · obtain ⟨t, ht⟩ : ∃ t, l[m]? = some t := ⟨l[m], List.getElem?_eq_getElem hlt⟩
      obtain ⟨b0, o0, rfl, _, p0, p1⟩ := k0.tag ht
      obtain ⟨b1, o1, rfl, _, q0, q1⟩ := k1.tag ht
      clear ht
      go_wp2_with fail
      go_quiet (fail)
      have hwf := below_drewN hw nq
      have j0 := k0.drewN nq
      have j1 := k1.drewN nq
      clear hw k0 k1 p0 p1 q0 q1
      go_wp2
      go_roundw
      case rel => exact ⟨m + 1, by omega, by go_num, hwf, j0, j1⟩
      case measure => simp [intOf]; omega
    · go_wp2
      go_ret
      exact ⟨rfl, hw⟩

theorem rd_get {l m : List RefM} (h : rd l = rd m) {k : Nat} {x y : RefM} (hx : l[k]? = some x) (hy : m[k]? = some y) : y.d = x.d := by
  have h1 : (rd l)[k]? = some x.d := by simp [rd, hx]
  have h2 : (rd m)[k]? = some y.d := by simp [rd, hy]
  rw [h, h2] at h1
  simpa using h1

set_option maxRecDepth 100000 in
set_option maxHeartbeats 4000000 in
theorem sameH_any (a b : HdrM) (w : World) (hA : a.At w) (hB : b.At w) (hd : a.d = b.d) (hn : a.refs.length ≤ 4611686018427387903) (hp : a.parents.length ≤ 4611686018427387903) (hL : ∀ x ∈ a.refs, x.acks.length ≤ 4611686018427387903) :
    Calls Tryz.prog 75 #[a.v, b.v] w fun e w' => e = .returned (.bool true) ∧ Below w.heap.size w w' := by
  obtain ⟨au, ro, ra, rs, rc, pa, ps, pc⟩ := a
  obtain ⟨au2, ro2, ra2, rs2, rc2, pa2, ps2, pc2⟩ := b
  simp only [HdrM.d, HdrD.mk.injEq] at hd
  obtain ⟨rfl, rfl, hrd, rfl⟩ := hd
  have hlm : rs2.length = rs.length := by rw [← rd_length rs2, ← hrd, rd_length]
  have hA1 : RowAt refK w ra rs := hA.refs
  have hA2 : RowAt strK w pa ps := hA.ps
  have hB1 : RowAt refK w ra2 rs2 := hB.refs
  have hB2 : RowAt strK w pa2 ps := hB.ps
  unfold HdrM.v
  simp only at hn hp hL ⊢
  rw [hlm]
  have Hlm : Hid (rs2.length = rs.length) := hlm
  clear hlm hA hB
  obtain ⟨hX, hY, hBw⟩ := two_new w 30 30 [.int .i64 au, .int .i64 ro, .slice ra rs.length rc, .slice pa ps.length pc] [.int .i64 au, .int .i64 ro, .slice ra2 rs.length rc2, .slice pa2 ps.length pc2]
  have x0 := hX.cell (i := 0) rfl
  have x1 := hX.cell (i := 1) rfl
  have x2 := hX.cell (i := 2) rfl
  have x3 := hX.cell (i := 3) rfl
  have y0 := hY.cell (i := 0) rfl
  have y1 := hY.cell (i := 1) rfl
  have y2 := hY.cell (i := 2) rfl
  have y3 := hY.cell (i := 3) rfl
  have cP := same_any pa pa2 pc pc2 ps _ (hA2.below hBw).strs (hB2.below hBw).strs (by omega)
  go_enter Tryz.func75, Tryz.ntmps75
  go_wp2_with fail
  refine cP.mono ?_
  rintro e w1 ⟨rfl, hb1⟩
  have hX1 := hX.below hb1 hX.lt
  have hY1 := hY.below hb1 hY.lt
  have hBw1 := hBw.trans (hb1.mono hBw.size)
  clear cP hb1 hX hY hBw x0 x1 x2 x3 y0 y1 y2 y3
  go_wp2
  go_loopw [5] (fun v wr => ∃ k : Nat, k ≤ rs.length ∧ v = .int .i64 (k : Int) ∧ Arr wr w.heap.size 30 [.int .i64 au, .int .i64 ro, .slice ra rs.length rc, .slice pa ps.length pc] ∧ Arr wr (w.heap.size + 1) 30 [.int .i64 au, .int .i64 ro, .slice ra2 rs.length rc2, .slice pa2 ps.length pc2] ∧ Below w.heap.size w wr) (fun v _ => rs.length - (intOf v).toNat)
  case atStart => exact ⟨0, Nat.zero_le _, rfl, hX1, hY1, hBw1⟩
  case round =>
    clear hX1 hY1 hBw1
    obtain ⟨k, hk, rfl, hX1, hY1, hb⟩ := hrel
    have x2 := hX1.cell (i := 2) rfl
    have y2 := hY1.cell (i := 2) rfl
    by_cases hlt : k < rs.length
    · obtain ⟨x, hx⟩ : ∃ x, rs[k]? = some x := ⟨rs[k], List.getElem?_eq_getElem hlt⟩
      obtain ⟨y, hy⟩ : ∃ y, rs2[k]? = some y := ⟨rs2[k]'(by rw [Hlm.out]; exact hlt), List.getElem?_eq_getElem (by rw [Hlm.out]; exact hlt)⟩
      obtain ⟨b, off, rfl, hbl, p0, p1⟩ := (hA1.below hb).ref hx
      obtain ⟨b2, off2, rfl, hbl2, q0, q1⟩ := (hB1.below hb).ref hy
      have hAt := ((hA1.below hb).at_ x (List.mem_of_getElem? hx)).1
      have hAt2 := ((hB1.below hb).at_ y (List.mem_of_getElem? hy)).1
      have hxy := rd_get hrd hx hy
      simp only [RefM.d, RefD.mk.injEq] at hxy
      have hl1 := hL x (List.mem_of_getElem? hx)
      rw [hxy.1] at q0
      rw [hxy.2] at q1 hAt2
      have cC := fun w1 (h : RowAt tagK w1 x.ao x.acks) (h2 : RowAt tagK w1 y.ao x.acks) => sameTags_any x.ao y.ao x.cap y.cap x.acks w1 h h2 hl1
      have hS : (wr.cell? ⟨b, off + k * 2, none⟩ = some (.string x.digest) ∧ wr.cell? ⟨b, off + k * 2 + 1, none⟩ = some (.slice x.ao x.acks.length x.cap)) ∧ (wr.cell? ⟨b2, off2 + k * 2, none⟩ = some (.string x.digest) ∧ wr.cell? ⟨b2, off2 + k * 2 + 1, none⟩ = some (.slice y.ao x.acks.length y.cap)) ∧ wr.cell? ⟨w.heap.size, 2, none⟩ = some (.slice (some ⟨b, off, none⟩) rs.length rc) ∧ wr.cell? ⟨w.heap.size + 1, 2, none⟩ = some (.slice (some ⟨b2, off2, none⟩) rs.length rc2) := ⟨⟨p0, p1⟩, ⟨q0, q1⟩, x2, y2⟩
      have hcs : ∀ w2, Below wr.heap.size wr w2 → ((w2.cell? ⟨b, off + k * 2, none⟩ = some (.string x.digest) ∧ w2.cell? ⟨b, off + k * 2 + 1, none⟩ = some (.slice x.ao x.acks.length x.cap)) ∧ (w2.cell? ⟨b2, off2 + k * 2, none⟩ = some (.string x.digest) ∧ w2.cell? ⟨b2, off2 + k * 2 + 1, none⟩ = some (.slice y.ao x.acks.length y.cap)) ∧ w2.cell? ⟨w.heap.size, 2, none⟩ = some (.slice (some ⟨b, off, none⟩) rs.length rc) ∧ w2.cell? ⟨w.heap.size + 1, 2, none⟩ = some (.slice (some ⟨b2, off2, none⟩) rs.length rc2)) := by
        intro w2 hb2
        have c := fun (g o : Nat) (v : Value) (h : g < wr.heap.size) (hc : wr.cell? ⟨g, o, none⟩ = some v) => (hb2.cell (p := ⟨g, o, none⟩) h).trans hc
        exact ⟨⟨c _ _ _ hbl p0, c _ _ _ hbl p1⟩, ⟨c _ _ _ hbl2 q0, c _ _ _ hbl2 q1⟩, c _ _ _ hX1.lt x2, c _ _ _ hY1.lt y2⟩
      have hbd : Below wr.heap.size wr wr.drew := below_drewN (Below.refl _ _) 1
      clear p0 p1 q0 q1 hx hy hl1 hxy
      go_wp2_with fail
      go_region_held3 (fun w' => (w'.cell? ⟨b, off + k * 2, none⟩ = some (.string x.digest) ∧ w'.cell? ⟨b, off + k * 2 + 1, none⟩ = some (.slice x.ao x.acks.length x.cap)) ∧ (w'.cell? ⟨b2, off2 + k * 2, none⟩ = some (.string x.digest) ∧ w'.cell? ⟨b2, off2 + k * 2 + 1, none⟩ = some (.slice y.ao x.acks.length y.cap)) ∧ w'.cell? ⟨w.heap.size, 2, none⟩ = some (.slice (some ⟨b, off, none⟩) rs.length rc) ∧ w'.cell? ⟨w.heap.size + 1, 2, none⟩ = some (.slice (some ⟨b2, off2, none⟩) rs.length rc2)) (exact hcs _ (by assumption))
        (first
        | (go_at_call 117; refine (cC _ (hAt.below hbd) (hAt2.below hbd)).mono ?_; rintro e wA ⟨rfl, hbA⟩; have hbA' := hbd.trans (Below.mono hbA hbd.size)))
      have hX2 := hX1.below hbA' hX1.lt
      have hY2 := hY1.below hbA' hY1.lt
      have hb4 := hb.trans (hbA'.mono hb.size)
      clear hcs hS hbd hbA hbA' hX1 hY1 x2 y2 hAt hAt2
      go_wp2
      go_roundw
      case rel => exact ⟨k + 1, by omega, by go_num, hX2, hY2, hb4⟩
      case measure => simp [intOf]; omega
    · go_wp2
      go_ret
      exact ⟨rfl, hb⟩
end Go.Proofs.YtaoiejgbbmjpkaaGreatDoor
