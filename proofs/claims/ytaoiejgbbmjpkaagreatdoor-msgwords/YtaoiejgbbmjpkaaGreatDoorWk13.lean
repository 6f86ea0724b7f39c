/- Texts as one: MsgWordsFn, MsgWordsMath, RefWordsMath, RefMsgWords, BatSealer, BatTick, TxReader, TxQueue. -/
import Derived.Test.YtaoiejgbbmjpkaaGreatDoorWk09
import Derived.Test.YtaoiejgbbmjpkaaGreatDoorWk12
import Derived.Test.YtaoiejgbbmjpkaaGreatDoorWk03
import Derived.Test.YtaoiejgbbmjpkaaGreatDoorWk06
import Derived.Test.YtaoiejgbbmjpkaaGreatDoorWk02
import Derived.Test.YtaoiejgbbmjpkaaGreatDoorWk05
import Derived.BigQuiet
import Derived.BigRegion
import Derived.Laws.ResultCell
import Derived.WalkLawsBesides
/- What msg.Words does: the words of all tags in a message; nothing old in memory is turned. (Laid by gen_msgwords.py.) -/
namespace Go.Proofs.YtaoiejgbbmjpkaaGreatDoor
open Go.RowKit
set_option linter.unusedVariables false

/-- The words of the tags in a field. -/
def fieldWords (m : MsgD) (c : UInt8) : List WordD :=
  if c = 116 then ownWords m else if c = 104 then refWords m.header.refs else if c = 99 then refWords m.cert.header.refs ++ ofWord voteB (idH9 m.cert.header) m.cert.votes
  else if c = 107 then qcWords m.block.qc else if c = 113 then qcWords m.qc else []

/-- The words of all tags in a message. -/
def wordsM (m : MsgD) : List WordD := if chkM m = 0 then (fieldsK m.kind).flatMap (fieldWords m) else []

/-- A right message's parts are not too great for their words. -/
structure WordsFit (x : MsgM) : Prop where
  len : ∀ c ∈ fieldsK x.kind, (fieldWords x.d c).length ≤ 100000000
  refs : x.hdr.refs.length ≤ 1000000000
  crefs : x.cert.hdr.refs.length ≤ 1000000000
  dig : 100 ∈ fieldsK x.kind → x.digest.size ≤ 140737488351232
  cert : 99 ∈ fieldsK x.kind → x.cert.hdr.Fit ∧ (encH x.cert.hdr.d).length ≤ 140737488351232
  blk : 107 ∈ fieldsK x.kind → x.blk.Enc ∧ (encK x.blk.d).length ≤ 140737488351232 ∧ x.blk.qc.block.size ≤ 140737488351232
  qc : 113 ∈ fieldsK x.kind → x.qc.Enc ∧ (encQ x.qc.d).length ≤ 140737488351232 ∧ x.qc.block.size ≤ 140737488351232

theorem Kept.iterAt (w : World) (k : Nat) (s : ByteArray) (pos : Nat) : Kept (fun j => j = k) w (w.iterAt k s pos) :=
  ⟨rfl, rfl, rfl, Nat.le_of_eq (Lib.iterAt_size w k s pos).symm, fun j _ hn => Lib.iterAt_other w k j s pos hn⟩

theorem WAt.iter {w : World} {p B : Nat} {l : List WordD} (h : WAt w p B l) {k : Nat} (hk : k < B) (hp : k ≠ p) (s : ByteArray) (pos : Nat) : WAt (w.iterAt k s pos) p B l := by
  obtain ⟨h1, h2, q, hX, hQ⟩ := h
  have kk := Kept.iterAt w k s pos
  exact ⟨h1, Nat.le_trans h2 kk.size, q, hX.kept kk (fun e => hp e.symm), hQ.kept kk (fun j hj e => by have := (hQ.lt j hj).1; have e' : j = k := e; omega) (fun _ _ _ h => h.elim)⟩

theorem own_any9 (p B : Nat) (l : List WordD) (x : MsgM) (w : World) (h : WAt w p B l) (hn : l.length + 1 ≤ 1000000000) (hA : ∀ w1, Kept (WS p B) w w1 → x.At w1) (hF : WordsFit x) (ht : 116 ∈ fieldsK x.kind) (hG : Mx.Glob w) :
    Calls Tryz.prog 14 #[.pointer (some ⟨p, 0, none⟩), x.v] w fun e w' => e = .returned (.tuple #[]) ∧ WAt w' p B (l ++ ownWords x.d) ∧ Kept (WS p B) w w' := by
  obtain ⟨k, dg, vi, tg, ba, he, ce, bl, q⟩ := x
  have hk := kind_cases (k := k) (fun e => by rw [show (MsgM.mk k dg vi tg ba he ce bl q).kind = k from rfl, e] at ht; cases ht)
  have hk : k = 1 ∨ k = 2 ∨ k = 3 ∨ k = 4 ∨ k = 5 ∨ k = 6 ∨ k = 7 ∨ k = 8 ∨ k = 9 ∨ k = 10 ∨ k = 11 := by omega
  rcases hk with rfl | rfl | rfl | rfl | rfl | rfl | rfl | rfl | rfl | rfl | rfl
  · exact absurd ht (by show ¬ 116 ∈ fieldsK 1; decide)
  · exact wown2_any p B l dg vi tg ba he ce bl q w h hn
  · exact absurd ht (by show ¬ 116 ∈ fieldsK 3; decide)
  · exact wown4_any p B l dg vi tg ba he ce bl q w h hn
  · exact absurd ht (by show ¬ 116 ∈ fieldsK 5; decide)
  · have hb := hF.blk (by show 107 ∈ fieldsK 6; decide)
    exact wown6_any p B l dg vi tg ba he ce bl q w h hn (fun w1 h1 => (hA w1 h1).blk) hb.1 hb.2.1 hG
  · exact wown7_any p B l dg vi tg ba he ce bl q w h hn (hF.dig (by show 100 ∈ fieldsK 7; decide))
  · have hb := hF.qc (by show 113 ∈ fieldsK 8; decide)
    exact wown8_any p B l dg vi tg ba he ce bl q w h hn (fun w1 h1 => (hA w1 h1).qc) hb.1 hb.2.1
  · exact absurd ht (by show ¬ 116 ∈ fieldsK 9; decide)
  · exact absurd ht (by show ¬ 116 ∈ fieldsK 10; decide)
  · exact absurd ht (by show ¬ 116 ∈ fieldsK 11; decide)

theorem flat_leW {f : UInt8 → List WordD} {n : Nat} : ∀ (cs : List UInt8), (∀ c ∈ cs, (f c).length ≤ n) → (cs.flatMap f).length ≤ n * cs.length
  | [], _ => by simp
  | c :: cs, h => by
    have ih := flat_leW cs (fun x hx => h x (by simp [hx]))
    have h1 := h c (by simp)
    rw [List.flatMap_cons, List.length_append, List.length_cons, Nat.mul_add, Nat.mul_one]
    omega

theorem own_len (x : MsgM) (ht : 116 ∈ fieldsK x.kind) : (ownWords x.d).length = 1 := by
  obtain ⟨k, dg, vi, tg, ba, he, ce, bl, q⟩ := x
  have hk := kind_cases (k := k) (fun e => by rw [show (MsgM.mk k dg vi tg ba he ce bl q).kind = k from rfl, e] at ht; cases ht)
  rcases hk with rfl | rfl | rfl | rfl | rfl | rfl | rfl | rfl | rfl | rfl | rfl <;> first | rfl | exact absurd ht (by simp [fieldsK])

set_option maxRecDepth 100000 in
set_option maxHeartbeats 4000000 in
theorem msgWords_any (x : MsgM) (w : World) (hA : x.At w) (hn : x.Num) (hF : chkM x.d = 0 → WordsFit x) (hG : Mx.Glob w) :
    Calls Tryz.prog 6 #[x.v] w fun e w' => ∃ ao cap, e = .returned (.slice ao (wordsM x.d).length cap) ∧ RowAt wordK w' ao (wordsM x.d) ∧ Below w.heap.size w w' := by
  obtain ⟨k, dg, vi, tg, ba, he, ce, bl, q⟩ := x
  have hX := Arr.new w 39 [.int .i64 k, .string dg, .int .i64 vi, .int .i64 tg.who, .string tg.mac, .int .i64 ba.author, .int .i64 ba.number, .slice ba.ta ba.txs.length ba.tc, .int .i64 he.author, .int .i64 he.round, .slice he.ra he.refs.length he.rc, .slice he.pa he.parents.length he.pc, .int .i64 ce.hdr.author, .int .i64 ce.hdr.round, .slice ce.hdr.ra ce.hdr.refs.length ce.hdr.rc, .slice ce.hdr.pa ce.hdr.parents.length ce.hdr.pc, .slice ce.va ce.votes.length ce.vc, .int .i64 bl.view, .int .i64 bl.qc.view, .string bl.qc.block, .slice bl.qc.va bl.qc.votes.length bl.qc.vc, .slice bl.ca bl.certs.length bl.cc, .int .i64 q.view, .string q.block, .slice q.va q.votes.length q.vc]
  have hB := belowNew w (.cells [.int .i64 k, .string dg, .int .i64 vi, .int .i64 tg.who, .string tg.mac, .int .i64 ba.author, .int .i64 ba.number, .slice ba.ta ba.txs.length ba.tc, .int .i64 he.author, .int .i64 he.round, .slice he.ra he.refs.length he.rc, .slice he.pa he.parents.length he.pc, .int .i64 ce.hdr.author, .int .i64 ce.hdr.round, .slice ce.hdr.ra ce.hdr.refs.length ce.hdr.rc, .slice ce.hdr.pa ce.hdr.parents.length ce.hdr.pc, .slice ce.va ce.votes.length ce.vc, .int .i64 bl.view, .int .i64 bl.qc.view, .string bl.qc.block, .slice bl.qc.va bl.qc.votes.length bl.qc.vc, .slice bl.ca bl.certs.length bl.cc, .int .i64 q.view, .string q.block, .slice q.va q.votes.length q.vc].toArray 39)
  have cC := fun w1 h1 => msgCheck_any ⟨k, dg, vi, tg, ba, he, ce, bl, q⟩ w1 h1 hn
  obtain ⟨er, her⟩ : ∃ n : Nat, n = chkM (MsgM.d ⟨k, dg, vi, tg, ba, he, ce, bl, q⟩) := ⟨_, rfl⟩
  have HW : Hid (wordsM (MsgM.d ⟨k, dg, vi, tg, ba, he, ce, bl, q⟩) = if er = 0 then (fieldsK k).flatMap (fieldWords (MsgM.d ⟨k, dg, vi, tg, ba, he, ce, bl, q⟩)) else []) := by
    show _ = _
    rw [her]
    rfl
  rw [← her] at cC hF
  obtain ⟨ws, hws⟩ : ∃ l, l = wordsM (MsgM.d ⟨k, dg, vi, tg, ba, he, ce, bl, q⟩) := ⟨_, rfl⟩
  rw [← hws] at HW ⊢
  have HF : Hid (er = 0 → WordsFit ⟨k, dg, vi, tg, ba, he, ce, bl, q⟩) := hF
  have HA : Hid (MsgM.At w ⟨k, dg, vi, tg, ba, he, ce, bl, q⟩) := hA
  have HG : Hid (Mx.Glob w) := hG
  unfold MsgM.v MsgM.c at cC ⊢
  simp only at cC ⊢
  obtain ⟨w1, hw1⟩ : ∃ q', w.alloc (.cells [.int .i64 k, .string dg, .int .i64 vi, .int .i64 tg.who, .string tg.mac, .int .i64 ba.author, .int .i64 ba.number, .slice ba.ta ba.txs.length ba.tc, .int .i64 he.author, .int .i64 he.round, .slice he.ra he.refs.length he.rc, .slice he.pa he.parents.length he.pc, .int .i64 ce.hdr.author, .int .i64 ce.hdr.round, .slice ce.hdr.ra ce.hdr.refs.length ce.hdr.rc, .slice ce.hdr.pa ce.hdr.parents.length ce.hdr.pc, .slice ce.va ce.votes.length ce.vc, .int .i64 bl.view, .int .i64 bl.qc.view, .string bl.qc.block, .slice bl.qc.va bl.qc.votes.length bl.qc.vc, .slice bl.ca bl.certs.length bl.cc, .int .i64 q.view, .string q.block, .slice q.va q.votes.length q.vc].toArray 39) = q' := ⟨_, rfl⟩
  rw [hw1] at hX hB
  have cC1 := cC w1 (hA.below hB)
  clear her hws hA cC hn hF hG
  go_enter Tryz.func6, Tryz.ntmps6
  go_wp2_with (refine wpList_load_row (by rfl) 39 _ (by rfl) w.heap.size (by rfl) 39 _ (0, 0) _ hX Tryz.underlying39 (by rfl) infoMsg9 ?_)
  refine cC1.mono ?_
  rintro e w2 ⟨rfl, hb2⟩
  have hX2 := hX.below hb2 hX.lt
  have hB2 := hB.trans (hb2.mono hB.size)
  clear hX hB hb2 cC1 hw1
  by_cases hz : er = 0
  case neg =>
    have ho : Hid (ws = []) := by
      show _ = _
      rw [HW.out, if_neg hz]
    have hz' : ((er : Int) != 0) = true := by rw [bne_iff_ne]; omega
    clear HW HF hz hX2
    go_wp2
    go_ret
    exact ⟨none, 0, by rw [ho.out]; rfl, by rw [ho.out]; exact nil_row _ _, hB2⟩
  subst hz
  have HO2 : Hid (ws = (fieldsK k).flatMap (fieldWords (MsgM.d ⟨k, dg, vi, tg, ba, he, ce, bl, q⟩))) := by
    show _ = _
    rw [HW.out, if_pos rfl]
  have hFit : Hid (WordsFit ⟨k, dg, vi, tg, ba, he, ce, bl, q⟩) := HF.out rfl
  clear HW HF
  obtain ⟨p, hp⟩ : ∃ n, w2.heap.size = n := ⟨_, rfl⟩
  have hgp : w.heap.size < p := by rw [← hp]; exact hX2.lt
  have hbP := belowNew w2 (.cells #[.slice none 0 0] 57)
  have hP := Arr.new w2 57 [.slice none 0 0]
  have hX3 := hX2.below hbP hX2.lt
  rw [hp] at hbP hP
  have hs3 : (w2.alloc (.cells #[.slice none 0 0] 57)).heap.size = p + 1 := by rw [alloc_size, hp]
  obtain ⟨w3, hw3⟩ : ∃ q', w2.alloc (.cells #[.slice none 0 0] 57) = q' := ⟨_, rfl⟩
  rw [hw3] at hbP hP hX3 hs3
  have x0 := hX3.cell (i := 0) rfl
  have cL := letters_any k
  have hkl : (fieldsS k).data.toList = fieldsK k := rfl
  obtain ⟨own, hown⟩ : ∃ o, o = fieldsS k := ⟨_, rfl⟩
  rw [← hown] at cL hkl
  have HO : Hid (own = fieldsS k) := hown
  clear hown
  go_wp2_with fail
  refine (cL _).mono ?_
  rintro e w6 ⟨rfl, hw6⟩
  rw [← hw6] at hbP hP hX3 hs3
  clear hw6 cL x0 hw3
  have hIt : (w6.alloc (.stringIter own 0)).heap[w6.heap.size]? = some (.stringIter own 0) := World.iter_heap w6 own 0
  have hs7 : (w6.alloc (.stringIter own 0)).heap.size = p + 2 := by rw [alloc_size, hs3]
  have hbI := belowNew w6 (.stringIter own 0)
  have hPI := hP.below hbI hP.lt
  have hb7 : Below p w2 (w6.alloc (.stringIter own 0)) := hbP.trans (hbI.mono (by omega))
  rw [hs3] at hIt
  have hW0 : WAt (w6.alloc (.stringIter own 0)) p (p + 2) [] := ⟨by omega, by omega, _, hPI, KQ.empty _ _ _ _⟩
  have hos : own.size = (fieldsK k).length := by rw [← hkl]; rfl
  have hX2p : ∀ wr, Below p w2 wr → Arr wr w.heap.size 39 [.int .i64 k, .string dg, .int .i64 vi, .int .i64 tg.who, .string tg.mac, .int .i64 ba.author, .int .i64 ba.number, .slice ba.ta ba.txs.length ba.tc, .int .i64 he.author, .int .i64 he.round, .slice he.ra he.refs.length he.rc, .slice he.pa he.parents.length he.pc, .int .i64 ce.hdr.author, .int .i64 ce.hdr.round, .slice ce.hdr.ra ce.hdr.refs.length ce.hdr.rc, .slice ce.hdr.pa ce.hdr.parents.length ce.hdr.pc, .slice ce.va ce.votes.length ce.vc, .int .i64 bl.view, .int .i64 bl.qc.view, .string bl.qc.block, .slice bl.qc.va bl.qc.votes.length bl.qc.vc, .slice bl.ca bl.certs.length bl.cc, .int .i64 q.view, .string q.block, .slice q.va q.votes.length q.vc] := fun wr hb => hX2.below hb hgp
  have hAp : Hid (∀ wr, Below p w2 wr → MsgM.At wr ⟨k, dg, vi, tg, ba, he, ce, bl, q⟩) := fun wr hb => (HA.out.below hB2).below (by rw [hp]; exact hb)
  have hGp : Hid (∀ wr, Below p w2 wr → Mx.Glob wr) := fun wr hb => (HG.out.below hB2).below (by rw [hp]; exact hb)
  clear hX3 hP hbP hbI hPI hX2
  go_wp2
  go_loopw [5] (fun v5 wr => ∃ j : Nat, j ≤ own.size ∧ wr.heap[p + 1]? = some (.stringIter own j) ∧ WAt wr p (p + 2) (((fieldsK k).take j).flatMap (fieldWords (MsgM.d ⟨k, dg, vi, tg, ba, he, ce, bl, q⟩))) ∧ Below p w2 wr) (fun _ wr => own.size - wr.iterPos (p + 1))
  case atStart => exact ⟨0, Nat.zero_le _, hIt, by rw [List.take_zero, List.flatMap_nil]; exact hW0, hb7⟩
  case round =>
    clear hW0 hIt hb7
    obtain ⟨j, hj8, hit, hW, hb⟩ := hrel
    by_cases hj : j < own.size
    · have hjl : j < (fieldsK k).length := by omega
      have hel : own[j] = (fieldsK k)[j] := by
        have hown := HO.out
        subst hown
        rfl
      have hin : own[j] ∈ fieldsK k := by rw [hel]; exact List.getElem_mem hjl
      have hmem : own[j] ∈ letters := (fieldsK_letters k).2 _ hin
      have hasc : (own[j]).toNat < 128 := by
        have : ∀ c ∈ letters, c.toNat < 128 := by decide
        exact this _ hmem
      have hnx : ∀ ty, (Instr.next (.pointer (some ⟨p + 1, 0, none⟩)) true ty).run Tryz.prog wr = _ := fun ty => Lib.run_next_ascii_at wr (p + 1) own j ty hit hj hasc
      have hit2 := Lib.iterAt_heap wr (p + 1) own j (j + 1) hit
      have hW1 := hW.iter (k := p + 1) (by omega) (by omega) own (j + 1)
      have hb1 := Lib.below_iterAt hb (k := p + 1) (by omega) own (j + 1)
      have HM : Hid (own.size - (j + 1) < own.size - World.iterPos wr (p + 1)) := by
        show _ < _
        simp only [World.iterPos, hit]
        omega
      have hlen : ((fieldsK k).take j).length ≤ 3 := by
        have := fieldsK_len k
        rw [List.length_take]
        omega
      have hfl1 := flat_leW ((fieldsK k).take j) (fun c hc => hFit.out.len c (List.mem_of_mem_take hc))
      have hfl2 : 100000000 * ((fieldsK k).take j).length ≤ 100000000 * 3 := Nat.mul_le_mul_left _ hlen
      have hfl3 : (fieldWords (MsgM.d ⟨k, dg, vi, tg, ba, he, ce, bl, q⟩) own[j]).length ≤ 100000000 := hFit.out.len own[j] hin
      have hNx : ((fieldsK k).take j).flatMap (fieldWords (MsgM.d ⟨k, dg, vi, tg, ba, he, ce, bl, q⟩)) ++ fieldWords (MsgM.d ⟨k, dg, vi, tg, ba, he, ce, bl, q⟩) own[j] = ((fieldsK k).take (j + 1)).flatMap (fieldWords (MsgM.d ⟨k, dg, vi, tg, ba, he, ce, bl, q⟩)) := by
        rw [List.take_succ_eq_append_getElem hjl, List.flatMap_append, hel]
        simp
      obtain ⟨c, hcd⟩ : ∃ c, c = own[j] := ⟨_, rfl⟩
      rw [← hcd] at hnx hNx hfl3 hmem hin
      obtain ⟨pre, hpre⟩ : ∃ l, l = ((fieldsK k).take j).flatMap (fieldWords (MsgM.d ⟨k, dg, vi, tg, ba, he, ce, bl, q⟩)) := ⟨_, rfl⟩
      rw [← hpre] at hNx hW1 hfl1
      have Hln : Hid (pre.length + (fieldWords (MsgM.d ⟨k, dg, vi, tg, ba, he, ce, bl, q⟩) c).length ≤ 1000000000) := by show _ ≤ _; omega
      have HNx : Hid (((fieldsK k).take (j + 1)).flatMap (fieldWords (MsgM.d ⟨k, dg, vi, tg, ba, he, ce, bl, q⟩)) = pre ++ fieldWords (MsgM.d ⟨k, dg, vi, tg, ba, he, ce, bl, q⟩) c) := hNx.symm
      have Hin : Hid (c ∈ fieldsK k) := hin
      clear hasc hit hel hcd hpre hfl1 hfl2 hfl3 hlen hin hW hNx hb
      obtain ⟨w3, hw3⟩ : ∃ q', wr.iterAt (p + 1) own (j + 1) = q' := ⟨_, rfl⟩
      rw [hw3] at hit2 hW1 hnx hb1
      have hlt3 : p + 1 < w3.heap.size := (Array.getElem?_eq_some_iff.1 hit2).1
      have hKb : Hid (∀ wx, Kept (WS p (p + 2)) w3 wx → Below p w2 wx) := fun wx hk => hb1.trans (hk.below (by omega) (fun i hi => by rcases hi with rfl | h <;> omega))
      have hKi : Hid (∀ wx, Kept (WS p (p + 2)) w3 wx → wx.heap[p + 1]? = some (.stringIter own (j + 1))) := fun wx hk => by
        rw [hk.block (p + 1) hlt3 (fun h => by rcases h with h | h <;> omega)]
        exact hit2
      have hAt : Hid (∀ wx, Kept (WS p (p + 2)) w3 wx → MsgM.At wx ⟨k, dg, vi, tg, ba, he, ce, bl, q⟩) := fun wx hk => hAp.out _ (hKb.out wx hk)
      have hXr := hX2p _ hb1
      have HW1 : Hid (WAt w3 p (p + 2) pre) := hW1
      have HXp : Hid (∀ wr, Below p w2 wr → Arr wr w.heap.size 39 [.int .i64 k, .string dg, .int .i64 vi, .int .i64 tg.who, .string tg.mac, .int .i64 ba.author, .int .i64 ba.number, .slice ba.ta ba.txs.length ba.tc, .int .i64 he.author, .int .i64 he.round, .slice he.ra he.refs.length he.rc, .slice he.pa he.parents.length he.pc, .int .i64 ce.hdr.author, .int .i64 ce.hdr.round, .slice ce.hdr.ra ce.hdr.refs.length ce.hdr.rc, .slice ce.hdr.pa ce.hdr.parents.length ce.hdr.pc, .slice ce.va ce.votes.length ce.vc, .int .i64 bl.view, .int .i64 bl.qc.view, .string bl.qc.block, .slice bl.qc.va bl.qc.votes.length bl.qc.vc, .slice bl.ca bl.certs.length bl.cc, .int .i64 q.view, .string q.block, .slice q.va q.votes.length q.vc]) := hX2p
      clear hw3 hit2 hW1 hX2p
      simp only [letters, List.mem_cons, List.not_mem_nil, or_false] at hmem
      rcases hmem with rfl | rfl | rfl | rfl | rfl | rfl | rfl | rfl
      · go_wp2
        go_roundw
        case rel => exact ⟨j + 1, by omega, hKi.out _ (Kept.refl _ _), by rw [HNx.out]; exact (List.append_nil pre).symm ▸ HW1.out, hb1⟩
        case measure =>
          have := HM.out
          simp only [World.iterPos, hKi.out _ (Kept.refl _ _)] at this ⊢
          omega
      · have cO := own_any9 p (p + 2) pre ⟨k, dg, vi, tg, ba, he, ce, bl, q⟩ w3 HW1.out (by have := Hln.out; have e := own_len ⟨k, dg, vi, tg, ba, he, ce, bl, q⟩ Hin.out; rw [show (fieldWords (MsgM.d ⟨k, dg, vi, tg, ba, he, ce, bl, q⟩) 116) = ownWords (MsgM.d ⟨k, dg, vi, tg, ba, he, ce, bl, q⟩) from rfl, e] at this; exact this) hAt.out hFit.out Hin.out (hGp.out _ hb1)
        unfold MsgM.v MsgM.c at cO
        simp only at cO
        go_wp2_with (refine wpList_load_row (by rfl) 39 _ (by rfl) w.heap.size (by rfl) 39 _ (0, 0) _ hXr Tryz.underlying39 (by rfl) infoMsg9 ?_)
        refine cO.mono ?_
        rintro e w5 ⟨rfl, hW5, hk5⟩
        clear cO hXr hnx
        go_wp2
        go_roundw
        case rel => exact ⟨j + 1, by omega, hKi.out _ hk5, by rw [HNx.out]; exact hW5, hKb.out _ hk5⟩
        case measure =>
          have := HM.out
          simp only [World.iterPos, hKi.out _ hk5] at this ⊢
          omega
      · go_wp2
        go_roundw
        case rel => exact ⟨j + 1, by omega, hKi.out _ (Kept.refl _ _), by rw [HNx.out]; exact (List.append_nil pre).symm ▸ HW1.out, hb1⟩
        case measure =>
          have := HM.out
          simp only [World.iterPos, hKi.out _ (Kept.refl _ _)] at this ⊢
          omega
      · go_wp2
        go_roundw
        case rel => exact ⟨j + 1, by omega, hKi.out _ (Kept.refl _ _), by rw [HNx.out]; exact (List.append_nil pre).symm ▸ HW1.out, hb1⟩
        case measure =>
          have := HM.out
          simp only [World.iterPos, hKi.out _ (Kept.refl _ _)] at this ⊢
          omega
      · have cO := wordsHeader_any p (p + 2) pre he w3 HW1.out (fun wx hk => (hAt.out wx hk).hdr) Hln.out hFit.out.refs
        unfold HdrM.v at cO
        have x8 := hXr.cell (i := 8) rfl
        have x9 := hXr.cell (i := 9) rfl
        have x10 := hXr.cell (i := 10) rfl
        have x11 := hXr.cell (i := 11) rfl
        go_wp2_with (fail)
        refine cO.mono ?_
        rintro e w5 ⟨rfl, hW5, hk5⟩
        clear cO hXr hnx
        go_wp2
        go_roundw
        case rel => exact ⟨j + 1, by omega, hKi.out _ hk5, by rw [HNx.out]; exact hW5, hKb.out _ hk5⟩
        case measure =>
          have := HM.out
          simp only [World.iterPos, hKi.out _ hk5] at this ⊢
          omega
      · have hlc : pre.length + ((refWords (rd ce.hdr.refs)).length + ce.votes.length) ≤ 1000000000 := by
          have := Hln.out
          rw [show (fieldWords (MsgM.d ⟨k, dg, vi, tg, ba, he, ce, bl, q⟩) 99) = refWords (rd ce.hdr.refs) ++ ofWord voteB (idH9 ce.hdr.d) ce.votes from rfl, List.length_append, ofWord_length] at this
          exact this
        have cO := wordsHeader_any p (p + 2) pre ce.hdr w3 HW1.out (fun wx hk => (hAt.out wx hk).cert.hdr) (by omega) hFit.out.crefs
        unfold HdrM.v at cO
        have x12 := hXr.cell (i := 12) rfl
        have x13 := hXr.cell (i := 13) rfl
        have x14 := hXr.cell (i := 14) rfl
        have x15 := hXr.cell (i := 15) rfl
        go_wp2_with fail
        refine cO.mono ?_
        rintro e w5 ⟨rfl, hW5, hk5⟩
        have hX5 := HXp.out _ (hKb.out _ hk5)
        obtain ⟨wd, hwd⟩ : ∃ z, z = idH9 ce.hdr.d := ⟨_, rfl⟩
        have cI : Hid (∀ w6, Below w5.heap.size w5 w6 → Calls Tryz.prog 17 #[ce.hdr.v] w6 fun e w7 => e = .returned (.string wd) ∧ Below w6.heap.size w6 w7) := fun w6 h6 => by
          rw [hwd]
          have hk6 := hk5.trans (Kept.of_below h6)
          exact hdrId_any ce.hdr w6 (hAt.out _ hk6).cert.hdr (hFit.out.cert Hin.out).1 (hFit.out.cert Hin.out).2 (hGp.out _ (hKb.out _ hk6))
        have cA : Hid (∀ w6, Below w5.heap.size w5 w6 → Calls Tryz.prog 16 #[.pointer (some ⟨p, 0, none⟩), .string ⟨#[118, 111, 116, 101]⟩, .string wd, .slice ce.va ce.votes.length ce.vc] w6 fun e w7 => e = .returned (.tuple #[]) ∧ WAt w7 p (p + 2) (pre ++ fieldWords (MsgM.d ⟨k, dg, vi, tg, ba, he, ce, bl, q⟩) 99) ∧ Kept (WS p (p + 2)) w3 w7) := fun w6 h6 => by
          have hk6 := hk5.trans (Kept.of_below h6)
          refine (wordsAdd_any p (p + 2) (pre ++ refWords (rd ce.hdr.refs)) voteB wd ce.va ce.vc ce.votes w6 (hW5.below h6) (hAt.out _ hk6).cert.votes (fun _ w7 h7 => (hAt.out _ (hk6.trans h7)).cert.votes) (by rw [List.length_append]; omega)).mono ?_
          rintro e w7 ⟨rfl, hw, hk⟩
          refine ⟨rfl, ?_, hk6.trans hk⟩
          rw [show (fieldWords (MsgM.d ⟨k, dg, vi, tg, ba, he, ce, bl, q⟩) 99) = refWords (rd ce.hdr.refs) ++ ofWord voteB (idH9 ce.hdr.d) ce.votes from rfl, ← hwd, ← List.append_assoc]
          exact hw
        unfold HdrM.v at cI
        have z12 := hX5.cell (i := 12) rfl
        have z13 := hX5.cell (i := 13) rfl
        have z14 := hX5.cell (i := 14) rfl
        have z15 := hX5.cell (i := 15) rfl
        have z16 := hX5.cell (i := 16) rfl
        clear hwd cO hW5 hXr x12 x13 x14 x15 hlc hnx
        go_wp2_with fail
        go_region_law (first
          | (go_simp; go_at_call 17; refine (cI.out _ ((Below.refl _ w5).drew)).mono ?_; rintro e w6 ⟨rfl, hb6⟩; have hb7 : Below w5.heap.size w5 w6 := ((Below.refl _ w5).drew).trans hb6; have hX6 := hX5.below hb7 hX5.lt; have u12 := hX6.cell (i := 12) rfl; have u13 := hX6.cell (i := 13) rfl; have u14 := hX6.cell (i := 14) rfl; have u15 := hX6.cell (i := 15) rfl; have u16 := hX6.cell (i := 16) rfl)
          | (go_simp; go_at_call 16; refine (cA.out w6 hb7).mono ?_; rintro e w7 ⟨rfl, hW5, hk5⟩))
        all_goals
          clear cI cA hX5 hX6 z12 z13 z14 z15 z16
          go_wp2
          go_roundw
          case rel => exact ⟨j + 1, by omega, hKi.out _ hk5, by rw [HNx.out]; exact hW5, hKb.out _ hk5⟩
          case measure =>
            have := HM.out
            simp only [World.iterPos, hKi.out _ hk5] at this ⊢
            omega
      · have cO := wordsQc_any p (p + 2) pre bl.qc w3 HW1.out (fun wx hk => (hAt.out wx hk).blk.qc) (by have := Hln.out; rw [show (fieldWords (MsgM.d ⟨k, dg, vi, tg, ba, he, ce, bl, q⟩) 107) = qcWords bl.qc.d from rfl] at this; unfold qcWords at this; rw [ofWord_length] at this; exact this) (hFit.out.blk Hin.out).2.2
        unfold QcM.v at cO
        have x18 := hXr.cell (i := 18) rfl
        have x19 := hXr.cell (i := 19) rfl
        have x20 := hXr.cell (i := 20) rfl
        go_wp2_with (fail)
        refine cO.mono ?_
        rintro e w5 ⟨rfl, hW5, hk5⟩
        clear cO hXr hnx
        go_wp2
        go_roundw
        case rel => exact ⟨j + 1, by omega, hKi.out _ hk5, by rw [HNx.out]; exact hW5, hKb.out _ hk5⟩
        case measure =>
          have := HM.out
          simp only [World.iterPos, hKi.out _ hk5] at this ⊢
          omega
      · have cO := wordsQc_any p (p + 2) pre q w3 HW1.out (fun wx hk => (hAt.out wx hk).qc) (by have := Hln.out; rw [show (fieldWords (MsgM.d ⟨k, dg, vi, tg, ba, he, ce, bl, q⟩) 113) = qcWords q.d from rfl] at this; unfold qcWords at this; rw [ofWord_length] at this; exact this) (hFit.out.qc Hin.out).2.2
        unfold QcM.v at cO
        have x22 := hXr.cell (i := 22) rfl
        have x23 := hXr.cell (i := 23) rfl
        have x24 := hXr.cell (i := 24) rfl
        go_wp2_with (fail)
        refine cO.mono ?_
        rintro e w5 ⟨rfl, hW5, hk5⟩
        clear cO hXr hnx
        go_wp2
        go_roundw
        case rel => exact ⟨j + 1, by omega, hKi.out _ hk5, by rw [HNx.out]; exact hW5, hKb.out _ hk5⟩
        case measure =>
          have := HM.out
          simp only [World.iterPos, hKi.out _ hk5] at this ⊢
          omega
    · have hnx : ∀ ty, (Instr.next (.pointer (some ⟨p + 1, 0, none⟩)) true ty).run Tryz.prog wr = _ := fun ty => Lib.run_next_end_at wr (p + 1) own j ty hit hj
      rw [List.take_of_length_le (by omega), ← HO2.out] at hW
      obtain ⟨_, _, qv, hPq, hQ⟩ := hW
      obtain ⟨ao9, cap9, rfl, hn9, hRow⟩ := hQ.form
      have c0 := hPq.cell (i := 0) rfl
      have hbF : Below w.heap.size w wr := hB2.trans (hb.mono (by omega))
      clear hPq hQ hb
      go_wp2
      go_ret
      exact ⟨ao9, cap9, rfl, hRow, hbF⟩
end Go.Proofs.YtaoiejgbbmjpkaaGreatDoor

/- A right message's words: they are few, and how many there are. -/
namespace Go.Proofs.YtaoiejgbbmjpkaaGreatDoor
open Go.RowKit
set_option linter.unusedVariables false

theorem refWords_few : ∀ (l : List RefD), (∀ r ∈ l, tagsOk r.acks) → (refWords l).length ≤ 7 * l.length
  | [], _ => by simp [refWords]
  | r :: l, h => by
    have ih := refWords_few l (fun x hx => h x (by simp [hx]))
    have h1 := (h r (by simp)).2
    have e : refWords (r :: l) = ofWord ackB r.digest r.acks ++ refWords l := rfl
    rw [e, List.length_append, ofWord_length, List.length_cons]
    omega

theorem hdr_few {h : HdrD} (hp : h.Plain) : (refWords h.refs).length ≤ 28 := by
  have h1 := refWords_few h.refs (fun r hr => (hp.2.2 r hr).2)
  have h2 := hp.1.2.2.2.1
  omega

theorem kind1_only {k : Int} (h : 98 ∈ fieldsK k) : k = 1 := by
  have hk := kind_cases (k := k) (fun e => by rw [e] at h; cases h)
  rcases hk with rfl | rfl | rfl | rfl | rfl | rfl | rfl | rfl | rfl | rfl | rfl <;> first | rfl | exact absurd h (by simp [fieldsK])

/-- A right message's headers have few Refs. -/
theorem right_refs {m : MsgD} (h : chkM m = 0) : m.header.refs.length ≤ 4 ∧ m.cert.header.refs.length ≤ 4 := by
  obtain ⟨hne, hb, h98, hok⟩ := chkM_parts h
  by_cases h9 : 98 ∈ fieldsK m.kind
  · have hk := kind1_only h9
    obtain ⟨_, _, _, _, b4, b5, _, _⟩ := hb
    rw [hk] at b4 b5
    have n4 : m.header.Nil := b4.resolve_left (by decide)
    have n5 : m.cert.Nil := b5.resolve_left (by decide)
    have := n4.2.2.1
    have := n5.1.2.2.1
    omega
  · exact ⟨(hok h9).hdr.1.2.2.2.1, (hok h9).cert.1.1.2.2.2.1⟩

theorem words_fit (x : MsgM) (h : chkM x.d = 0) : WordsFit x := by
  obtain ⟨hne, hb, h98, hok⟩ := chkM_parts h
  have ok : ∀ c, c ∈ fieldsK x.kind → c ≠ 98 → x.d.Ok := fun c hc hn => hok (batch_alone hc hn)
  have hr := right_refs h
  have e1 : x.d.header.refs.length = x.hdr.refs.length := rd_length _
  have e2 : x.d.cert.header.refs.length = x.cert.hdr.refs.length := rd_length _
  refine ⟨fun c hc => ?_, by omega, by omega, fun hc => ?_, fun hc => ?_, fun hc => ?_, fun hc => ?_⟩
  · have hcl := (fieldsK_letters x.kind).2 c hc
    simp only [letters, List.mem_cons, List.not_mem_nil, or_false] at hcl
    rcases hcl with rfl | rfl | rfl | rfl | rfl | rfl | rfl | rfl
    · exact Nat.zero_le _
    · show (ownWords x.d).length ≤ _
      rw [own_len x hc]
      omega
    · exact Nat.zero_le _
    · exact Nat.zero_le _
    · have := hdr_few (ok _ hc (by decide)).hdr
      show (refWords x.d.header.refs).length ≤ _
      omega
    · have hp := (ok _ hc (by decide)).cert
      have := hdr_few hp.1
      have h2 := hp.2.2
      show (refWords x.d.cert.header.refs ++ ofWord voteB (idH9 x.d.cert.header) x.d.cert.votes).length ≤ _
      rw [List.length_append, ofWord_length]
      omega
    · have hp := (ok _ hc (by decide)).blk hc
      have h2 := hp.2.1.2.2.2
      show (ofWord agreeB _ x.d.block.qc.votes).length ≤ _
      rw [ofWord_length]
      omega
    · have hp := (ok _ hc (by decide)).qc hc
      have h2 := hp.2.2.2
      show (ofWord agreeB _ x.d.qc.votes).length ≤ _
      rw [ofWord_length]
      omega
  · have : x.digest.size = 32 := (ok _ hc (by decide)).dig hc
    omega
  · have hp := (ok _ hc (by decide)).cert
    have h1 := encH_fit (hdr_plain_fit hp.1)
    have e : (encH x.cert.hdr.d).length = (encH x.d.cert.header).length := rfl
    exact ⟨(right_field h 99 hc : x.cert.Fit).1, by omega⟩
  · have hp := (ok _ hc (by decide)).blk hc
    have h1 := right_len h 107 hc
    have h2 : (encK x.blk.d).length ≤ (fieldB x.d 107).length := by
      show _ ≤ (txt (encK x.blk.d)).length
      unfold txt
      rw [List.length_append]
      omega
    have h3 : x.blk.qc.block.size = 32 := hp.2.1.2.1
    exact ⟨right_field h 107 hc, by omega, by omega⟩
  · have hp := (ok _ hc (by decide)).qc hc
    have h1 := encQ_right (qc_plain_fit hp) hp.2.1
    have h3 : x.qc.block.size = 32 := hp.2.1
    have e : (encQ x.qc.d).length = (encQ x.d.qc).length := rfl
    exact ⟨right_field h 113 hc, by omega, by omega⟩

/-- How many tags stand in a message. -/
def tagsIn (m : MsgD) : Nat := m.cert.votes.length + m.block.qc.votes.length + m.qc.votes.length + (m.header.refs.map (·.acks.length)).sum + (m.cert.header.refs.map (·.acks.length)).sum + (if m.tag.mac.size = 0 then 0 else 1)
end Go.Proofs.YtaoiejgbbmjpkaaGreatDoor

/- The words of a message's tags as the reference lists them. -/
namespace Go.Proofs.YtaoiejgbbmjpkaaGreatDoor
open Go.RowKit
set_option linter.unusedVariables false

/-- The words behind those of the header's tags, kind by kind. -/
def tailW (m : MsgD) : List WordD :=
  if m.kind = 2 then ofWord ackB m.digest [m.tag] else if m.kind = 4 then ofWord voteB m.digest [m.tag] else if m.kind = 5 then ofWord voteB (idH9 m.cert.header) m.cert.votes
  else if m.kind = 6 then ofWord agreeB (wordB m.block.qc.view m.block.qc.block) m.block.qc.votes ++ ofWord proposeB (idK m.block) [m.tag]
  else if m.kind = 7 then ofWord agreeB (wordB m.view m.digest) [m.tag] else if m.kind = 8 then ofWord agreeB (wordB m.qc.view m.qc.block) m.qc.votes ++ ofWord newviewB (nvB m.view m.qc) [m.tag] else []

theorem nil_refs {m : MsgD} (h : chkM m = 0) (hk : 104 ∉ fieldsK m.kind) : m.header.refs = [] := by
  obtain ⟨_, hb, _, _⟩ := chkM_parts h
  have := (hb.2.2.2.2.1).resolve_left hk
  exact List.eq_nil_of_length_eq_zero this.2.2.1

/-- The reference's words are the program's. -/
theorem wordsR_eq {m : MsgD} (h : chkM m = 0) : wordsM m = refWords (if m.kind = 5 then m.cert.header.refs else m.header.refs) ++ tailW m := by
  obtain ⟨hne, _, _, _⟩ := chkM_parts h
  have hr := nil_refs h
  unfold wordsM
  rw [if_pos h]
  obtain ⟨k, dg, vi, tg, ba, he, ce, bl, q⟩ := m
  have hk := kind_cases (k := k) hne
  clear h hne
  rcases hk with rfl | rfl | rfl | rfl | rfl | rfl | rfl | rfl | rfl | rfl | rfl
  case inr.inr.inl => exact (List.append_nil _).symm ▸ (List.append_nil _)
  case inr.inr.inr.inr.inl => exact List.append_nil _
  all_goals
    have hn : he.refs = [] := hr (by simp [fieldsK])
    show _ = refWords he.refs ++ _
    rw [hn]
    rfl

/-- What the reference asks of a right message's parts. -/
structure RefFit (x : MsgM) : Prop where
  refs : x.hdr.refs.length ≤ 4
  crefs : x.cert.hdr.refs.length ≤ 4
  rw_ : (refWords (rd x.hdr.refs)).length ≤ 28
  crw : (refWords (rd x.cert.hdr.refs)).length ≤ 28
  dig : 100 ∈ fieldsK x.kind → x.digest.size ≤ 140737488351232
  cert : 99 ∈ fieldsK x.kind → x.cert.hdr.Fit ∧ (encH x.cert.hdr.d).length ≤ 1073741824 ∧ x.cert.votes.length ≤ 7
  blk : 107 ∈ fieldsK x.kind → x.blk.Enc ∧ (encK x.blk.d).length ≤ 1073741824 ∧ x.blk.qc.block.size ≤ 140737488351232 ∧ x.blk.qc.votes.length ≤ 7
  qc : 113 ∈ fieldsK x.kind → x.qc.Enc ∧ (encQ x.qc.d).length ≤ 140737488351232 ∧ x.qc.block.size ≤ 140737488351232 ∧ x.qc.votes.length ≤ 7

theorem ref_fit (x : MsgM) (h : chkM x.d = 0) : RefFit x := by
  obtain ⟨hne, hb, h98, hok⟩ := chkM_parts h
  have ok : ∀ c, c ∈ fieldsK x.kind → c ≠ 98 → x.d.Ok := fun c hc hn => hok (batch_alone hc hn)
  have hr := right_refs h
  have e1 : x.d.header.refs.length = x.hdr.refs.length := rd_length _
  have e2 : x.d.cert.header.refs.length = x.cert.hdr.refs.length := rd_length _
  have hw : (refWords x.d.header.refs).length ≤ 28 ∧ (refWords x.d.cert.header.refs).length ≤ 28 := by
    by_cases h9 : 98 ∈ fieldsK x.d.kind
    · have hk := kind1_only h9
      obtain ⟨_, _, _, _, b4, b5, _, _⟩ := hb
      rw [hk] at b4 b5
      have n4 : x.d.header.Nil := b4.resolve_left (by decide)
      have n5 : x.d.cert.Nil := b5.resolve_left (by decide)
      have l4 := List.eq_nil_of_length_eq_zero n4.2.2.1
      have l5 := List.eq_nil_of_length_eq_zero n5.1.2.2.1
      rw [l4, l5]
      exact ⟨Nat.zero_le _, Nat.zero_le _⟩
    · exact ⟨hdr_few (hok h9).hdr, hdr_few (hok h9).cert.1⟩
  refine ⟨by omega, by omega, hw.1, hw.2, fun hc => ?_, fun hc => ?_, fun hc => ?_, fun hc => ?_⟩
  · have : x.digest.size = 32 := (ok _ hc (by decide)).dig hc
    omega
  · have hp := (ok _ hc (by decide)).cert
    have h1 := encH_fit (hdr_plain_fit hp.1)
    have e : (encH x.cert.hdr.d).length = (encH x.d.cert.header).length := rfl
    exact ⟨(right_field h 99 hc : x.cert.Fit).1, by omega, hp.2.2⟩
  · have hp := (ok _ hc (by decide)).blk hc
    have h1 := right_len h 107 hc
    have h2 : (encK x.blk.d).length ≤ (fieldB x.d 107).length := by
      show _ ≤ (txt (encK x.blk.d)).length
      unfold txt
      rw [List.length_append]
      omega
    have h3 : x.blk.qc.block.size = 32 := hp.2.1.2.1
    exact ⟨right_field h 107 hc, by omega, by omega, hp.2.1.2.2.2⟩
  · have hp := (ok _ hc (by decide)).qc hc
    have h1 := encQ_right (qc_plain_fit hp) hp.2.1
    have h3 : x.qc.block.size = 32 := hp.2.1
    have e : (encQ x.qc.d).length = (encQ x.d.qc).length := rfl
    exact ⟨right_field h 113 hc, by omega, by omega, hp.2.2.2⟩
end Go.Proofs.YtaoiejgbbmjpkaaGreatDoor

/- What tuskref09.words does: a list of words goes on. -/
namespace Go.Proofs.YtaoiejgbbmjpkaaGreatDoor
open Go.RowKit
set_option linter.unusedVariables false

theorem infoWordR : (Tryz.prog.info? 48).map (fun i => (i.zero, i.size, i.bytes)) = some (some (.agg #[.int .i64 0, .string ⟨#[]⟩, .string ⟨#[]⟩, .string ⟨#[]⟩]), 4, 56) := by kernel_rfl

theorem new_wordR (w : World) (x : WordD) : ∀ j u, (wordK.c x)[j]? = some u → (w.alloc (.cells #[.int .i64 x.t.who, .string x.t.mac, .string x.kind, .string x.word] 48)).cell? ((⟨w.heap.size, 0, none⟩ : Addr).add j) = some u := by
  intro j u hu
  rw [Go.WideShapes.add_plain, Nat.zero_add]
  exact (Arr.new w 48 [.int .i64 x.t.who, .string x.t.mac, .string x.kind, .string x.word]).cell hu

set_option maxRecDepth 100000 in
set_option maxHeartbeats 1000000 in
theorem refWordsAdd_any (B : Nat) (v : Value) (l : List WordD) (kind word : ByteArray) (ao : Option Addr) (cap : Nat) (ts : List TagD) (w : World) (h : KQ wordK 48 w B v l) (hBs : B ≤ w.heap.size) (hA : ∀ w1, Kept (fun k => B ≤ k) w w1 → RowAt tagK w1 ao ts) (hn : l.length + ts.length ≤ 1000000000) :
    Calls Tryz.prog 25 #[v, .slice ao ts.length cap, .string kind, .string word] w fun e w' => ∃ v', e = .returned v' ∧ KQ wordK 48 w' B v' (l ++ ofWord kind word ts) ∧ Kept (fun k => B ≤ k) w w' := by
  obtain ⟨i0, hi, hz0, hz1, hz2⟩ := info_parts infoWordR
  go_enter Tryz.func25, Tryz.ntmps25
  go_wp2
  go_loopw [0, 9] (fun v0 v9 wr => ∃ i : Nat, i ≤ ts.length ∧ v9 = .int .i64 (i : Int) ∧ KQ wordK 48 wr B v0 (l ++ ofWord kind word (ts.take i)) ∧ Kept (fun k => B ≤ k) w wr) (fun _ v _ => ts.length - (intOf v).toNat)
  case atStart => exact ⟨0, Nat.zero_le _, rfl, by simpa [ofWord] using h, Kept.refl _ _⟩
  case round =>
    obtain ⟨i, hil, rfl, hQ, hk⟩ := hrel
    by_cases hlt : i < ts.length
    · obtain ⟨t, ht⟩ : ∃ t, ts[i]? = some t := ⟨ts[i], List.getElem?_eq_getElem hlt⟩
      obtain ⟨b, off, hao, hbl, y0, y1⟩ := (hA wr hk).tag ht
      subst hao
      have hms := ofWord_succ kind word ts i t ht
      have hml : (l ++ ofWord kind word (ts.take i)).length = l.length + i := by rw [List.length_append, ofWord_length, List.length_take]; omega
      have Hms : Hid (l ++ ofWord kind word (ts.take (i + 1)) = (l ++ ofWord kind word (ts.take i)) ++ [⟨t, kind, word⟩]) := by show _ = _; rw [hms, List.append_assoc]
      obtain ⟨ms, hmse⟩ : ∃ z, z = l ++ ofWord kind word (ts.take i) := ⟨_, rfl⟩
      rw [← hmse] at hQ hml Hms
      clear hms hmse ht
      have hbA := belowNew wr (.cells #[.int .i64 t.who, .string t.mac, .string kind, .string word] 48)
      have hQ3 := hQ.below hbA
      have hN1 := new_wordR wr ⟨t, kind, word⟩
      have hN3 : B ≤ (wr.alloc (.cells #[.int .i64 t.who, .string t.mac, .string kind, .string word] 48)).heap.size := Nat.le_trans (Nat.le_trans hBs hk.size) hbA.size
      have hm1 : ms.length + 1 ≤ maxLen := by rw [hml]; unfold maxLen; omega
      have hm2 : (ms.length + 1) * 56 ≤ 140737488355328 := by rw [hml]; omega
      have hkA : Kept (fun k => B ≤ k) w _ := hk.trans (Kept.of_below hbA)
      clear hml
      go_wp2_with (refine wpList_push (K := wordK) (by rfl) _ _ 44 (by rfl) B 48 i0 _ 56 Tryz.underlying44 hi hz0 hz1 hz2 rfl _ ms (by rfl) hQ3 ⟨t, kind, word⟩ trivial (fun _ h => h.elim) ⟨wr.heap.size, 0, none⟩ 1 (by rfl) hN1 hm1 hm2 hN3 ?_; intro ao8 cap8 w8 hQ8 hk8)
      have hkF := hkA.trans (hk8.mono (fun k _ hk => (hQ3.lt k hk).1))
      clear hk8 hkA hm1 hm2 hN1 hN3 hQ3 hbA hQ y0 y1 hk
      first
        | go_wp2
        | skip
      go_roundw
      case rel => exact ⟨i + 1, by omega, by go_num, by rw [Hms.out]; exact hQ8, hkF⟩
      case measure => simp [intOf]; omega
    · obtain rfl : i = ts.length := by omega
      rw [List.take_length] at hQ
      go_wp2
      go_ret
      exact ⟨_, rfl, hQ, hk⟩
end Go.Proofs.YtaoiejgbbmjpkaaGreatDoor

/- What NewSealer, Waits, copied and Add do. -/
namespace Go.Proofs.YtaoiejgbbmjpkaaGreatDoor
open Go.RowKit
set_option linter.unusedVariables false

/-- A new sealer. -/
def Seal.new (size wait : Nat) : Seal TxM := ⟨size, wait, [], 0, 0⟩

theorem SlAt.new (T : TypeId) (w : World) (au : Int) (size wait : Nat) : SlAt T (w.alloc (.cells #[.int .i64 au, .int .i64 (size : Int), .int .i64 (wait : Int), .slice none 0 0, .int .i64 0, .int .i64 0] T)) w.heap.size w.heap.size (.slice none 0 0) au (Seal.new size wait) :=
  ⟨Arr.new w T _, QRow.nil _ _ _ _ _, (fun x hx => by cases hx), (fun x hx => by cases hx), Nat.le_refl _, by simp [Value.ownBlock], by simp [Value.ownBlock], by simp [Value.ownBlock]⟩

/-- What adding answers. -/
def addE (s : Seal TxM) (d : TxD) : Nat := if checkL d ≠ 0 then checkL d else if 4 * s.size ≤ s.l.length then 4 else 0

/-- One more, if it is right and there is room. -/
def Seal.put (s : Seal TxM) (x : TxM) : Seal TxM := if addE s x.d = 0 then { s with l := s.l ++ [x] } else s

/-- Behind Add. -/
def Added (T : TypeId) (w : World) (base p : Nat) (q : Value) (au : Int) (s : Seal TxM) (d : TxD) (own : Bool) (e : Ending) (w' : World) : Prop :=
  e = .returned (.int .i64 (addE s d : Int)) ∧ ∃ x q', x.d = d ∧ SlAt T w' base p q' au (s.put x) ∧ Kept (SlB p q) w w' ∧ (∀ k, SlB p q' k → SlB p q k ∨ w.heap.size ≤ k)

/-- Behind Add, where the very one that was given is kept. -/
def AddedX (T : TypeId) (w : World) (base p : Nat) (q : Value) (au : Int) (s : Seal TxM) (x : TxM) (e : Ending) (w' : World) : Prop :=
  e = .returned (.int .i64 (addE s x.d : Int)) ∧ ∃ q', SlAt T w' base p q' au (s.put x) ∧ Kept (SlB p q) w w' ∧ (∀ k, SlB p q' k → SlB p q k ∨ w.heap.size ≤ k)
end Go.Proofs.YtaoiejgbbmjpkaaGreatDoor

/- What cut and Tick do. -/
namespace Go.Proofs.YtaoiejgbbmjpkaaGreatDoor
open Go.RowKit
set_option linter.unusedVariables false

theorem TxsAt.take {w : World} {ao : Option Addr} {l : List TxM} (h : TxsAt w ao l) (n : Nat) : TxsAt w ao (l.take n) := by
  intro i x hx
  exact h i x (by
    rw [List.getElem?_take] at hx
    split at hx
    · exact hx
    · cases hx)

theorem TxsAt.kept {S : Nat → Prop} {w w' : World} {ao : Option Addr} {l : List TxM} (h : TxsAt w ao l) (hk : Kept S w w') (hb : ∀ b off, ao = some ⟨b, off, none⟩ → ¬ S b) (ho : ∀ x ∈ l, x.Off S) : TxsAt w' ao l := by
  intro i x hx
  obtain ⟨⟨b, off, h1, h2, h3⟩, h4⟩ := h i x hx
  exact ⟨⟨b, off, h1, Nat.lt_of_lt_of_le h2 hk.size, fun j v hv => by rw [hk.cell (p := ⟨b, off + i * 9 + j, none⟩) h2 (hb b off h1)]; exact h3 j v hv⟩, h4.kept hk (ho x (List.mem_of_getElem? hx))⟩

/-- Behind Tick: what is handed back, and the sealer. -/
def Ticked (T : TypeId) (w : World) (base p : Nat) (q : Value) (au : Int) (s : Seal TxM) (e : Ending) (w' : World) : Prop :=
  ∃ fo fc q', e = .returned (.tuple #[batV (if s.seals = true then au else 0) (if s.seals = true then (s.number : Int) + 1 else 0) fo s.out.length fc, .bool s.seals]) ∧ (fo = none → fc = 0) ∧ TxsAt w' fo s.out ∧ SlAt T w' base p q' au s.tick ∧ Kept (fun k => k = p) w w' ∧ (∀ k, q'.ownBlock = some k → q.ownBlock = some k ∨ w.heap.size ≤ k)

theorem infoBat : (Tryz.prog.info? 26).map (·.size) = some 3 := by kernel_rfl

/-- No batch. -/
def zeroB : List Value := [.int .i64 0, .int .i64 0, .slice none 0 0]

theorem TxsAt.set3 {w : World} {ao : Option Addr} {l : List TxM} (h : TxsAt w ao l) {g : Nat} (hb : ∀ b off, ao = some ⟨b, off, none⟩ → b ≠ g) (ho : ∀ x ∈ l, x.Off (fun k => k = g)) (v0 v1 v2 : Value) : TxsAt (Proofs.YtaoiejgbbmjpkaaGreatDoor.set3 w g v0 v1 v2) ao l :=
  ((h.kept (Kept.setCell _ ⟨g, 0, none⟩ v0) (fun b o e k => hb b o e k) ho).kept (Kept.setCell _ ⟨g, 1, none⟩ v1) (fun b o e k => hb b o e k) ho).kept (Kept.setCell _ ⟨g, 2, none⟩ v2) (fun b o e k => hb b o e k) ho
end Go.Proofs.YtaoiejgbbmjpkaaGreatDoor

/- What must does, and the reader's number, text and keys. -/
namespace Go.Proofs.YtaoiejgbbmjpkaaGreatDoor
open Go.RowKit
set_option linter.unusedVariables false

/-- The error er, thrown. -/
def thrown (er : Nat) : List PanicEntry := [{ v := .iface 50 (.int .i64 (er : Int)), recovered := false }]

/-- A reader's block, a result's, a transaction's that is being read; rows of the call's own. -/
structure RdSt (W : World) (base rb zb tb top : Nat) (T : TypeId) (R : List (Option Addr × List ByteArray)) (w : World) (rcs cs : List Value) : Prop where
  rd : Arr w rb T rcs
  res : Arr w zb 86 zeroC
  tx : Arr w tb 86 cs
  d1 : rb ≠ zb
  d2 : rb ≠ tb
  d3 : zb ≠ tb
  t1 : rb < top
  t2 : zb < top
  t3 : tb < top
  b1 : base ≤ rb
  b2 : base ≤ zb
  b3 : base ≤ tb
  tw : top ≤ w.heap.size
  rows : ∀ p ∈ R, OwnStrs top w p.1 p.2
  bel : Below base W w

theorem RdSt.row {W : World} {base rb zb tb top : Nat} {T : TypeId} {R : List (Option Addr × List ByteArray)} {w : World} {rcs cs : List Value} (h : RdSt W base rb zb tb top T R w rcs cs) {a : Option Addr} {ss : List ByteArray} (hr : OwnStrs top w a ss) : RdSt W base rb zb tb top T ((a, ss) :: R) w rcs cs :=
  ⟨h.rd, h.res, h.tx, h.d1, h.d2, h.d3, h.t1, h.t2, h.t3, h.b1, h.b2, h.b3, h.tw, fun p hp => by
    rw [List.mem_cons] at hp
    rcases hp with rfl | hp
    · exact hr
    · exact h.rows p hp, h.bel⟩
end Go.Proofs.YtaoiejgbbmjpkaaGreatDoor

/- A row of transactions of the call's own, that is appended to. -/
namespace Go.Proofs.YtaoiejgbbmjpkaaGreatDoor
open Go.RowKit
set_option linter.unusedVariables false

/-- q is a row of the call's own that holds l. -/
structure TxQ (w : World) (base : Nat) (q : Value) (l : List TxM) : Prop where
  row : QRow w base 86 9 q l.length (flatX l)
  at_ : ∀ x ∈ l, x.At w
  off : ∀ x ∈ l, x.Off (fun k => q.ownBlock = some k)
  lt : ∀ k, q.ownBlock = some k → base ≤ k ∧ k < w.heap.size
  nil : ∀ n cap, q = .slice none n cap → cap = 0

theorem TxQ.empty (w : World) (base : Nat) : TxQ w base (.slice none 0 0) [] :=
  ⟨QRow.nil _ _ _ _ _, (fun x hx => by cases hx), (fun x hx => by cases hx), (fun k hk => by simp [Value.ownBlock] at hk), fun n cap e => by simp at e; exact e.2.symm⟩

theorem TxQ.kept {S : Nat → Prop} {w w' : World} {base : Nat} {q : Value} {l : List TxM} (h : TxQ w base q l) (hk : Kept S w w') (hq : ∀ k, q.ownBlock = some k → ¬ S k) (ho : ∀ x ∈ l, x.Off S) : TxQ w' base q l :=
  ⟨h.row.kept hk hq, fun x hx => (h.at_ x hx).kept hk (ho x hx), h.off, fun k hq => ⟨(h.lt k hq).1, Nat.lt_of_lt_of_le (h.lt k hq).2 hk.size⟩, h.nil⟩

theorem TxQ.below {w w' : World} {base : Nat} {q : Value} {l : List TxM} (h : TxQ w base q l) (hb : Below w.heap.size w w') : TxQ w' base q l :=
  h.kept (Kept.of_below (S := fun _ => False) hb) (fun _ _ h => h) (fun x _ => ⟨fun _ _ _ _ h => h, fun _ _ _ _ h => h⟩)

theorem TxQ.form {w : World} {base : Nat} {q : Value} {l : List TxM} (h : TxQ w base q l) : ∃ ao cap, q = .slice ao l.length cap ∧ (ao = none → cap = 0) ∧ TxsAt w ao l := by
  obtain ⟨ao, cap, rfl, _, _⟩ := h.row.form
  exact ⟨ao, cap, rfl, fun e => h.nil _ _ (by rw [e]), h.row.txs rfl h.at_⟩

/-- More is appended. -/
theorem TxQ.push {w w' : World} {base : Nat} {q q' : Value} {l m : List TxM} (h : TxQ w base q l) (hm : ∀ x ∈ m, x.At w) (hmo : ∀ x ∈ m, x.Off (fun k => q.ownBlock = some k)) (h0 : 0 < m.length)
    (hrow : QRow w' base 86 9 q' (l.length + m.length) (flatX l ++ flatX m)) (hgr : w.grownBy w' q.ownBlock) (hfr : ∀ g, q'.ownBlock = some g → q.ownBlock = some g ∨ w.heap.size ≤ g) : TxQ w' base q' (l ++ m) := by
  have k6 := Kept.of_grown hgr
  refine ⟨by rw [List.length_append, flatX_append]; exact hrow, ?_, ?_, ?_, ?_⟩
  · intro x hx
    rw [List.mem_append] at hx
    rcases hx with hx | hx
    · exact (h.at_ x hx).kept k6 (h.off x hx)
    · exact (hm x hx).kept k6 (hmo x hx)
  · intro x hx
    rw [List.mem_append] at hx
    rcases hx with hx | hx
    · exact (h.at_ x hx).off_grow (h.off x hx) hfr
    · exact (hm x hx).off_grow (hmo x hx) hfr
  · intro k hk
    rcases hrow.lt with hl | ⟨g, hg, hb, hl⟩
    · omega
    · rw [hk] at hg
      simp at hg
      subst hg
      exact ⟨hb, hl⟩
  · intro n cap e
    rcases hrow.2 with ⟨ao, hv, hn⟩ | ⟨g, pre, post, c, hv, _⟩
    · omega
    · rw [hv] at e
      cases e

/-- Lists in new memory keep off what is older. -/
theorem off_own {x : TxM} {b : Nat} {w : World} (h1 : OwnStrs b w x.ra x.d.rs) (h2 : OwnStrs b w x.wa x.d.ws) {S : Nat → Prop} (hS : ∀ k, S k → k < b) : x.Off S := by
  refine ⟨fun bb off e hl hk => ?_, fun bb off e hl hk => ?_⟩
  · obtain ⟨b', off', e', h3, _⟩ := h1 0 hl
    rw [e] at e'
    simp at e'
    have := hS bb hk
    omega
  · obtain ⟨b', off', e', h3, _⟩ := h2 0 hl
    rw [e] at e'
    simp at e'
    have := hS bb hk
    omega

theorem infoTx4 : (Tryz.prog.info? 86).map (fun i => (i.zero, i.size, i.bytes)) = some (some (.agg #[.int .i64 0, .string ⟨#[]⟩, .string ⟨#[]⟩, .int .u64 0, .int .u64 0, .string ⟨#[]⟩, .string ⟨#[]⟩, .slice none 0 0, .slice none 0 0]), 9, 136) := by kernel_rfl

theorem c_one (x : TxM) : ∀ u ∈ x.c, u.oneCell' = true := by
  have := flatX_one [x]
  simpa [flatX] using this

theorem flatX_single (x : TxM) : flatX [x] = x.c := by simp [flatX]

theorem new_c (w : World) (x : TxM) : ∀ j u, x.c[j]? = some u → (w.alloc (.cells x.c.toArray 86)).cell? ((⟨w.heap.size, 0, none⟩ : Addr).add j) = some u := by
  intro j u hu
  rw [Go.WideShapes.add_plain, Nat.zero_add]
  exact (Arr.new w 86 x.c).cell hu
end Go.Proofs.YtaoiejgbbmjpkaaGreatDoor
