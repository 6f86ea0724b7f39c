/- Texts as one: BatEncode, MsgEncField, MsgEncode, MsgWordsFn, MsgWordsMath. -/
import Derived.Test.YtaoiejgbbmjpkaaGreatDoorCk08
import Derived.Test.YtaoiejgbbmjpkaaGreatDoorCk06
import Derived.Deep.AppendLies
import Derived.Lib.QuietBelow
import Derived.BigQuiet
import Derived.Test.YtaoiejgbbmjpkaaGreatDoorCk14
import Derived.Test.YtaoiejgbbmjpkaaGreatDoorCk11
/- What batch.Encode does; nothing old in memory is turned. -/
namespace Go.Proofs.YtaoiejgbbmjpkaaGreatDoor
open Go.RowKit Go.Sort
set_option linter.unusedVariables false

/-- A batch's bytes, or none. -/
def encBB (b : BatD) : ByteArray := if checkB b = 0 then ⟨(encBat b).toArray⟩ else ⟨#[]⟩

/-- The members' bytes. -/
def memB (l : List TxM) : List ByteArray := (dl l).map (fun d => ⟨(encL d).toArray⟩)

theorem memB_length (l : List TxM) : (memB l).length = l.length := by simp [memB, dl]

theorem bl_memB (l : List TxM) : bl (memB l) = (dl l).map encL := by simp [bl, memB]

theorem memB_succ (l : List TxM) (k : Nat) (x : TxM) (hx : l[k]? = some x) : memB (l.take (k + 1)) = memB (l.take k) ++ [⟨(encL x.d).toArray⟩] := by
  have hk := (List.getElem?_eq_some_iff.1 hx).1
  have he := (List.getElem?_eq_some_iff.1 hx).2
  rw [List.take_succ_eq_append_getElem hk, he]
  simp [memB, dl]

theorem own_below' {B : Nat} {e : TypeId} {k : Nat} {v : Value} {n : Nat} {xs : List Value} {w w' : World} (h : w.ownsRow B e k v n xs) (hb : Below w.heap.size w w') : w'.ownsRow B e k v n xs := by
  refine ⟨h.1, h.2.imp id ?_⟩
  rintro ⟨g, cap, cur, hv, h1, hg, h2⟩
  refine ⟨g, cap, cur, hv, h1, ?_, h2⟩
  rw [hb.block g ((Array.getElem?_eq_some_iff.1 hg).1), hg]

theorem own_form' {w : World} {B : Nat} {e : TypeId} {k : Nat} {v : Value} {n : Nat} {xs : List Value} (h : w.ownsRow B e k v n xs) : ∃ ao cap, v = .slice ao n cap ∧ (ao = none → cap = 0) := by
  rcases h.2 with ⟨hv, hn⟩ | ⟨g, cap, cur, hv, _⟩
  · exact ⟨none, 0, by rw [hv, hn], fun _ => rfl⟩
  · exact ⟨_, cap, hv, fun e => by cases e⟩

set_option maxRecDepth 100000 in
set_option maxHeartbeats 4000000 in
theorem batEncode_any (a n : Int) (ao : Option Addr) (l : List TxM) (cap : Nat) (w : World) (hA : TxsAt w ao l) :
    Calls Tryz.prog 83 #[batV a n ao l.length cap] w fun e w' => e = .returned (.tuple #[.string (encBB ⟨a, n, dl l⟩), .int .i64 (checkB ⟨a, n, dl l⟩ : Int)]) ∧ Below w.heap.size w w' := by
  have hX : Arr _ _ _ (batC a n ao l.length cap) := Arr.new w 26 (batC a n ao l.length cap)
  have hB := belowNew w (.cells (batC a n ao l.length cap).toArray 26)
  have cC := fun w1 (h : TxsAt w1 ao l) => batCheck_any a n ao l cap w1 h
  have hA0 := hA.below hB
  unfold batV at cC ⊢
  by_cases hz : checkB ⟨a, n, dl l⟩ ≠ 0
  · have H : Hid (encBB ⟨a, n, dl l⟩ = ⟨#[]⟩) := (if_neg hz : _ = _)
    generalize checkB ⟨a, n, dl l⟩ = er at cC hz ⊢
    have hz2 : ((er : Int) != 0) = true := by rw [bne_iff_ne]; omega
    go_enter Tryz.func83, Tryz.ntmps83
    go_wp2_with fail
    refine (cC _ hA0).mono ?_
    rintro e w1 ⟨rfl, hb1⟩
    have hB1 := hB.trans (hb1.mono hB.size)
    clear hb1 hX hB hA0 cC
    go_wp2
    go_ret2
    exact ⟨by rw [H.out]; rfl, hB1⟩
  · have hz' : checkB ⟨a, n, dl l⟩ = 0 := by omega
    obtain ⟨z1, z2, z3, z4, z5, z6, z7⟩ := checkB_zero hz'
    have hlen := encBat_len hz'
    simp only [dl_length] at z5 z6
    have H : Hid (encBB ⟨a, n, dl l⟩ = ⟨(encBat ⟨a, n, dl l⟩).toArray⟩) := (if_pos hz' : _ = _)
    rw [hz'] at cC ⊢
    have hright : ∀ x ∈ l, checkL x.d = 0 := fun x hx => z7 x.d (List.mem_map.2 ⟨x, hx, rfl⟩)
    obtain ⟨i0, hi, hz0, hz1, hz2⟩ := info_parts infoString
    clear z7
    go_enter Tryz.func83, Tryz.ntmps83
    go_wp2_with fail
    refine (cC _ hA0).mono ?_
    rintro e w1 ⟨rfl, hb1⟩
    have hB1 := hB.trans (hb1.mono hB.size)
    have hX1 := hX.below hb1 hX.lt
    clear hb1 hX hB hA0 cC
    have x2 := hX1.cell (i := 2) rfl
    go_wp2
    go_loopw [5, 7, 8, 9, 18] (fun v5 v7 v8 v9 v18 wr => ∃ k : Nat, k ≤ l.length ∧ v18 = .int .i64 (k : Int) ∧ wr.ownsRow (w.heap.size + 1) 9 1 v5 k ((bl (memB (l.take k))).map strVal) ∧ Arr wr w.heap.size 26 (batC a n ao l.length cap) ∧ Below w.heap.size w wr) (fun _ _ _ _ v _ => l.length - (intOf v).toNat)
    case atStart => exact ⟨0, Nat.zero_le _, rfl, World.ownsRow_nil _ _ _ _, hX1, hB1⟩
    case round =>
      obtain ⟨k, hk, rfl, hown, hX2, hb⟩ := hrel
      clear hX1 hB1 x2
      by_cases hlt : k < l.length
      · obtain ⟨x, hx⟩ : ∃ x, l[k]? = some x := ⟨l[k], List.getElem?_eq_getElem hlt⟩
        obtain ⟨b, off, rfl, hbl, y0, y1, y2, y3, y4, y5, y6, y7, y8⟩ := (hA.below hb).cells hx
        have hAt := (hA k x hx).2.below hb
        have cE := fun w1 (h : TxAt w1 x.d x.ra x.wa) => encode_yes x.d x.ra x.rc x.wa x.wc w1 h (hright x (List.mem_of_getElem? hx))
        have hms := memB_succ l k x hx
        clear hx
        have hAt2 := hAt.below (belowNew wr (.cells x.c.toArray 86))
        have hb2 := hb.alloc hb.size (.cells x.c.toArray 86)
        have hX3 := hX2.alloc (.cells x.c.toArray 86)
        have hown2 := hown.alloc (.cells x.c.toArray 86)
        obtain ⟨bb, hbb⟩ : ∃ q, q = (⟨(encL x.d).toArray⟩ : ByteArray) := ⟨_, rfl⟩
        rw [← hbb] at cE hms
        clear hbb
        go_wp2_with fail
        refine (cE _ hAt2.at_).mono ?_
        rintro e w2 ⟨rfl, hb3⟩
        have hb4 := hb2.trans (hb3.mono hb2.size)
        have hX4 := hX3.below hb3 hX3.lt
        have hown4 := own_below' hown2 hb3
        clear hb2 hb3 hAt2 hAt cE y0 y1 y2 y3 y4 y5 y6 y7 y8 hX3 hX2 hb hown hown2
        obtain ⟨ao5, c5, rfl, hn5⟩ := own_form' hown4
        have hsz4 : w.heap.size + 1 ≤ w2.heap.size := hX4.lt
        go_wp2_with (at_builtin; refine wpList_append_own _ rfl _ _ 28 rfl (w.heap.size + 1) 9 i0 (.string ⟨#[]⟩) 1 16 Tryz.underlying28 hi hz0 hz1 hz2 rfl (by decide) _ _ _ rfl (hown4.alloc _) ⟨w2.heap.size, 0, none⟩ 1 1 [.string bb] rfl rfl ?c1 ?c2 ?c3 ?c4 ?c5 ?_)
        case c1 =>
          intro i u hj
          match i, hj with
          | 0, hj => simp at hj; subst hj; simp [Addr.add]
        case c2 => intro u hu; simp at hu; subst hu; rfl
        case c3 => unfold maxLen; omega
        case c4 => omega
        case c5 => simp; omega
        · intro v' w3 hown' hgrow _
          have hb5 : Below w.heap.size w w3 := (hb4.alloc hb4.size _).grown hgrow (by simp; omega) (fun q hq => Nat.le_trans (Nat.le_succ _) (hown4.lt q hq).1)
          have hX5 : Arr w3 w.heap.size 26 (batC a n (some ⟨b, off, none⟩) l.length cap) := (hX4.alloc _).kept (Kept.of_grown hgrow) (fun e => by have := (hown4.lt _ e).1; omega)
          have hown2 : w3.ownsRow (w.heap.size + 1) 9 1 v' (k + 1) ((bl (memB (l.take (k + 1)))).map strVal) := by
            rw [hms]
            simpa [bl, strVal] using hown'
          clear hown' hgrow hown4 hb4 hX4
          go_wp2
          go_roundw
          case rel => exact ⟨k + 1, by omega, by go_num, hown2, hX5, hb5⟩
          case measure => simp [intOf]; omega
      · obtain rfl : k = l.length := by omega
        rw [List.take_length] at hown
        obtain ⟨ao5, c5, rfl, hn5⟩ := own_form' hown
        have hstr : StrsAt wr ao5 (memB l) := (own_far hown (memB_length l).symm).at
        have hlst : Hid ((lst (bl (memB l))).length ≤ 33000) := by
          show _ ≤ _
          rw [bl_memB]
          have := hlen
          unfold encBat at this
          simp only [List.length_append] at this
          omega
        have E : Hid (encBat ⟨a, n, dl l⟩ = goInt a ++ goInt n ++ lst (bl (memB l))) := by show _ = _; rw [bl_memB]; rfl
        have x0 := hX2.cell (i := 0) rfl
        have x1 := hX2.cell (i := 1) rfl
        obtain ⟨ba, hba⟩ : ∃ q, Hid (q = (⟨(goInt a).toArray⟩ : ByteArray)) := ⟨_, rfl⟩
        obtain ⟨bn, hbn⟩ : ∃ q, Hid (q = (⟨(goInt n).toArray⟩ : ByteArray)) := ⟨_, rfl⟩
        obtain ⟨bm, hbm⟩ : ∃ q, Hid (q = (⟨(lst (bl (memB l))).toArray⟩ : ByteArray)) := ⟨_, rfl⟩
        have k1 : ∀ d os, Calls Tryz.prog 38 #[.int .i64 a] (grow (redrawn wr d) os) fun e w'' => e = .returned (.string ba) ∧ ∃ p : Regrown, w'' = grow (redrawn wr p.d) p.os := fun d os => Calls.regrown_of (by rw [hba.out]; exact int_any a _)
        have k2 : ∀ d os, Calls Tryz.prog 38 #[.int .i64 n] (grow (redrawn wr d) os) fun e w'' => e = .returned (.string bn) ∧ ∃ p : Regrown, w'' = grow (redrawn wr p.d) p.os := fun d os => Calls.regrown_of (by rw [hbn.out]; exact int_any n _)
        have k3 : ∀ d os, Calls Tryz.prog 73 #[.slice ao5 l.length c5] (grow (redrawn wr d) os) fun e w'' => e = .returned (.string bm) ∧ ∃ p : Regrown, w'' = grow (redrawn wr p.d) p.os := fun d os => Calls.regrown_of (by
          have h := list_any ao5 c5 (memB l) (grow (redrawn wr d) os) (hstr.below (below_regrown wr d os)) (by have := hlst.out; omega) (by rw [memB_length]; omega)
          rw [memB_length, ← hbm.out] at h
          exact h)
        have sa : ba.size ≤ 9 := by rw [hba.out, size_mk]; exact goInt_length a
        have sn : bn.size ≤ 9 := by rw [hbn.out, size_mk]; exact goInt_length n
        have sm : bm.size ≤ 33000 := by rw [hbm.out, size_mk]; exact hlst.out
        have C0 := cell_regrown x0
        have C1 := cell_regrown x1
        have hbs : Hid (ba ++ bn ++ bm = encBB ⟨a, n, dl l⟩) := by
          show _ = _
          rw [H.out, E.out, hba.out, hbn.out, hbm.out]
          apply ByteArray.ext
          simp
        clear x0 x1 E hlst hstr hown
        go_wp2_with fail
        refine wp_region_quiet_below (by kernel_rfl) (by kernel_rfl) ?_
        iterate 2 (go_big_quiet_step (fail))
        go_big_quiet_step (exact k1 _ _)
        iterate 2 (go_big_quiet_step (fail))
        go_big_quiet_step (exact k2 _ _)
        iterate 2 (go_big_quiet_step (fail))
        go_big_quiet_step (exact k3 _ _)
        iterate 3 (go_big_quiet_step (fail))
        refine wpQuiet_nil ?_
        rintro w' ⟨p, rfl⟩
        have hb' := below_regrown wr p.d p.os
        have hBz := hb.trans (hb'.mono hb.size)
        generalize grow (redrawn wr p.d) p.os = w7 at hBz ⊢
        clear k1 k2 k3 C0 C1
        go_wp2
        go_ret2
        exact ⟨by rw [← hbs.out]; rfl, hBz⟩
end Go.Proofs.YtaoiejgbbmjpkaaGreatDoor

/- What package msg's encodeField does, letter by letter; nothing old in memory is turned. -/
namespace Go.Proofs.YtaoiejgbbmjpkaaGreatDoor
open Go.RowKit
set_option linter.unusedVariables false

theorem tagOne9 (w : World) (t : TagD) : RowAt tagK (w.alloc (.cells #[.int .i64 t.who, .string t.mac] 23)) (some ⟨w.heap.size, 0, none⟩) [t] := by
  have hX := Arr.new w 23 [.int .i64 t.who, .string t.mac]
  refine ⟨fun i x hx => ?_, fun _ _ => trivial⟩
  have hi : i = 0 := by
    have := (List.getElem?_eq_some_iff.1 hx).1
    simp at this
    exact this
  subst hi
  have hx' : t = x := by simpa using hx
  subst hx'
  refine ⟨w.heap.size, 0, rfl, by rw [alloc_size]; omega, fun j v hv => ?_⟩
  rw [show 0 + 0 * tagK.n + j = j by omega]
  exact hX.cell hv

theorem cert_plain_fit {x : CertM} (h : x.d.Plain) : x.Fit :=
  ⟨hdrFit_of (hdr_plain_fit h.1), by have : x.votes.length ≤ 7 := h.2.2; omega, fun t ht => by have := (h.2.1 t ht).2.2; omega, by have := tagsB_fit8 (fun t ht => (h.2.1 t ht).fit) h.2.2; show (tagsB x.votes).length ≤ _; have e : (tagsB x.d.votes).length ≤ 2200 := this; exact Nat.le_trans e (by decide)⟩

theorem qc_plain_fit {x : QcD} (h : x.Plain) : x.Fit := ⟨h.1.1, h.1.2, by rw [h.2.1]; decide, h.2.2.2, fun t ht => (h.2.2.1 t ht).fit⟩

theorem blk_plain_fit {x : BlkD} (h : x.Plain) : x.Fit := ⟨h.1.1, h.1.2, qc_plain_fit h.2.1, by have := encQ_right (qc_plain_fit h.2.1) h.2.1.2.1; omega, h.2.2.1, fun c hc => by rw [h.2.2.2 c hc]; decide⟩

/-- What encodeField asks of the field. -/
def FieldM (x : MsgM) (c : UInt8) : Prop :=
  if c = 118 then True else if c = 116 then tagOk x.tag else if c = 100 then x.digest.size ≤ 65536 else if c = 98 then checkB x.bat.d = 0 else if c = 104 then x.hdr.Fit else if c = 99 then x.cert.Fit else if c = 107 then x.blk.Enc else x.qc.Enc

theorem right_field {x : MsgM} (h : chkM x.d = 0) : ∀ c ∈ fieldsK x.kind, FieldM x c := by
  intro c hc
  obtain ⟨hne, hb, h98, hok⟩ := chkM_parts h
  have hcl := (fieldsK_letters x.kind).2 c hc
  simp only [letters, List.mem_cons, List.not_mem_nil, or_false] at hcl
  have ok : c ≠ 98 → x.d.Ok := fun hn => hok (batch_alone hc hn)
  rcases hcl with rfl | rfl | rfl | rfl | rfl | rfl | rfl | rfl
  · exact trivial
  · exact (ok (by decide)).tag hc
  · have : x.digest.size = 32 := (ok (by decide)).dig hc
    show x.digest.size ≤ 65536
    omega
  · exact h98 hc
  · exact hdrFit_of (hdr_plain_fit (ok (by decide)).hdr)
  · exact cert_plain_fit (ok (by decide)).cert
  · exact blkEnc_of (blk_plain_fit ((ok (by decide)).blk hc))
  · exact qcEnc_of (qc_plain_fit ((ok (by decide)).qc hc))

set_option maxRecDepth 100000 in
set_option maxHeartbeats 4000000 in
theorem encodeField_d (k : Int) (dg : ByteArray) (vi : Int) (tg : TagD) (ba : BatM) (he : HdrM) (ce : CertM) (bl : BlkM) (q : QcM) (w : World) (hA : MsgM.At w ⟨k, dg, vi, tg, ba, he, ce, bl, q⟩) (hf : dg.size ≤ 65536) :
    Calls Tryz.prog 60 #[MsgM.v ⟨k, dg, vi, tg, ba, he, ce, bl, q⟩, .int .i32 100] w fun e w' => e = .returned (.string ⟨(txt dg.data.toList).toArray⟩) ∧ Below w.heap.size w w' := by
  have hX := Arr.new w 39 [.int .i64 k, .string dg, .int .i64 vi, .int .i64 tg.who, .string tg.mac, .int .i64 ba.author, .int .i64 ba.number, .slice ba.ta ba.txs.length ba.tc, .int .i64 he.author, .int .i64 he.round, .slice he.ra he.refs.length he.rc, .slice he.pa he.parents.length he.pc, .int .i64 ce.hdr.author, .int .i64 ce.hdr.round, .slice ce.hdr.ra ce.hdr.refs.length ce.hdr.rc, .slice ce.hdr.pa ce.hdr.parents.length ce.hdr.pc, .slice ce.va ce.votes.length ce.vc, .int .i64 bl.view, .int .i64 bl.qc.view, .string bl.qc.block, .slice bl.qc.va bl.qc.votes.length bl.qc.vc, .slice bl.ca bl.certs.length bl.cc, .int .i64 q.view, .string q.block, .slice q.va q.votes.length q.vc]
  have hB := belowNew w (.cells [.int .i64 k, .string dg, .int .i64 vi, .int .i64 tg.who, .string tg.mac, .int .i64 ba.author, .int .i64 ba.number, .slice ba.ta ba.txs.length ba.tc, .int .i64 he.author, .int .i64 he.round, .slice he.ra he.refs.length he.rc, .slice he.pa he.parents.length he.pc, .int .i64 ce.hdr.author, .int .i64 ce.hdr.round, .slice ce.hdr.ra ce.hdr.refs.length ce.hdr.rc, .slice ce.hdr.pa ce.hdr.parents.length ce.hdr.pc, .slice ce.va ce.votes.length ce.vc, .int .i64 bl.view, .int .i64 bl.qc.view, .string bl.qc.block, .slice bl.qc.va bl.qc.votes.length bl.qc.vc, .slice bl.ca bl.certs.length bl.cc, .int .i64 q.view, .string q.block, .slice q.va q.votes.length q.vc].toArray 39)
  have hM := hA.below hB
  unfold MsgM.v MsgM.c
  simp only
  obtain ⟨w1, hw1⟩ : ∃ q', w.alloc (.cells [.int .i64 k, .string dg, .int .i64 vi, .int .i64 tg.who, .string tg.mac, .int .i64 ba.author, .int .i64 ba.number, .slice ba.ta ba.txs.length ba.tc, .int .i64 he.author, .int .i64 he.round, .slice he.ra he.refs.length he.rc, .slice he.pa he.parents.length he.pc, .int .i64 ce.hdr.author, .int .i64 ce.hdr.round, .slice ce.hdr.ra ce.hdr.refs.length ce.hdr.rc, .slice ce.hdr.pa ce.hdr.parents.length ce.hdr.pc, .slice ce.va ce.votes.length ce.vc, .int .i64 bl.view, .int .i64 bl.qc.view, .string bl.qc.block, .slice bl.qc.va bl.qc.votes.length bl.qc.vc, .slice bl.ca bl.certs.length bl.cc, .int .i64 q.view, .string q.block, .slice q.va q.votes.length q.vc].toArray 39) = q' := ⟨_, rfl⟩
  rw [hw1] at hX hB hM
  clear hA
  obtain ⟨out, hout⟩ : ∃ o, Hid (o = (⟨(txt dg.data.toList).toArray⟩ : ByteArray)) := ⟨_, rfl⟩
  rw [← hout.out]
  have x1 := hX.cell (i := 1) rfl
  have c1 : ∀ w1, Calls Tryz.prog 70 #[.string dg] w1 fun e w' => e = .returned (.string out) ∧ Below w1.heap.size w1 w' := fun w1 => by
    rw [hout.out]
    exact text_any dg w1 (by omega)
  clear hout
  go_enter Tryz.func60, Tryz.ntmps60
  go_wp2_with fail
  refine (c1 _).mono ?_
  rintro e w2 ⟨rfl, hb⟩
  have hB2 := hB.trans (hb.mono hB.size)
  clear hB hb
  have hB := hB2
  clear hB2
  clear hX hM hw1 x1
  go_wp2
  go_ret
  exact ⟨rfl, hB⟩

set_option maxRecDepth 100000 in
set_option maxHeartbeats 4000000 in
theorem encodeField_v (k : Int) (dg : ByteArray) (vi : Int) (tg : TagD) (ba : BatM) (he : HdrM) (ce : CertM) (bl : BlkM) (q : QcM) (w : World) (hA : MsgM.At w ⟨k, dg, vi, tg, ba, he, ce, bl, q⟩) :
    Calls Tryz.prog 60 #[MsgM.v ⟨k, dg, vi, tg, ba, he, ce, bl, q⟩, .int .i32 118] w fun e w' => e = .returned (.string ⟨(goInt vi).toArray⟩) ∧ Below w.heap.size w w' := by
  have hX := Arr.new w 39 [.int .i64 k, .string dg, .int .i64 vi, .int .i64 tg.who, .string tg.mac, .int .i64 ba.author, .int .i64 ba.number, .slice ba.ta ba.txs.length ba.tc, .int .i64 he.author, .int .i64 he.round, .slice he.ra he.refs.length he.rc, .slice he.pa he.parents.length he.pc, .int .i64 ce.hdr.author, .int .i64 ce.hdr.round, .slice ce.hdr.ra ce.hdr.refs.length ce.hdr.rc, .slice ce.hdr.pa ce.hdr.parents.length ce.hdr.pc, .slice ce.va ce.votes.length ce.vc, .int .i64 bl.view, .int .i64 bl.qc.view, .string bl.qc.block, .slice bl.qc.va bl.qc.votes.length bl.qc.vc, .slice bl.ca bl.certs.length bl.cc, .int .i64 q.view, .string q.block, .slice q.va q.votes.length q.vc]
  have hB := belowNew w (.cells [.int .i64 k, .string dg, .int .i64 vi, .int .i64 tg.who, .string tg.mac, .int .i64 ba.author, .int .i64 ba.number, .slice ba.ta ba.txs.length ba.tc, .int .i64 he.author, .int .i64 he.round, .slice he.ra he.refs.length he.rc, .slice he.pa he.parents.length he.pc, .int .i64 ce.hdr.author, .int .i64 ce.hdr.round, .slice ce.hdr.ra ce.hdr.refs.length ce.hdr.rc, .slice ce.hdr.pa ce.hdr.parents.length ce.hdr.pc, .slice ce.va ce.votes.length ce.vc, .int .i64 bl.view, .int .i64 bl.qc.view, .string bl.qc.block, .slice bl.qc.va bl.qc.votes.length bl.qc.vc, .slice bl.ca bl.certs.length bl.cc, .int .i64 q.view, .string q.block, .slice q.va q.votes.length q.vc].toArray 39)
  have hM := hA.below hB
  unfold MsgM.v MsgM.c
  simp only
  obtain ⟨w1, hw1⟩ : ∃ q', w.alloc (.cells [.int .i64 k, .string dg, .int .i64 vi, .int .i64 tg.who, .string tg.mac, .int .i64 ba.author, .int .i64 ba.number, .slice ba.ta ba.txs.length ba.tc, .int .i64 he.author, .int .i64 he.round, .slice he.ra he.refs.length he.rc, .slice he.pa he.parents.length he.pc, .int .i64 ce.hdr.author, .int .i64 ce.hdr.round, .slice ce.hdr.ra ce.hdr.refs.length ce.hdr.rc, .slice ce.hdr.pa ce.hdr.parents.length ce.hdr.pc, .slice ce.va ce.votes.length ce.vc, .int .i64 bl.view, .int .i64 bl.qc.view, .string bl.qc.block, .slice bl.qc.va bl.qc.votes.length bl.qc.vc, .slice bl.ca bl.certs.length bl.cc, .int .i64 q.view, .string q.block, .slice q.va q.votes.length q.vc].toArray 39) = q' := ⟨_, rfl⟩
  rw [hw1] at hX hB hM
  clear hA
  obtain ⟨out, hout⟩ : ∃ o, Hid (o = (⟨(goInt vi).toArray⟩ : ByteArray)) := ⟨_, rfl⟩
  rw [← hout.out]
  have x2 := hX.cell (i := 2) rfl
  have c1 : ∀ w1, Calls Tryz.prog 38 #[.int .i64 vi] w1 fun e w' => e = .returned (.string out) ∧ Below w1.heap.size w1 w' := fun w1 => by
    rw [hout.out]
    exact int_any vi w1
  clear hout
  go_enter Tryz.func60, Tryz.ntmps60
  go_wp2_with fail
  refine (c1 _).mono ?_
  rintro e w2 ⟨rfl, hb⟩
  have hB2 := hB.trans (hb.mono hB.size)
  clear hB hb
  have hB := hB2
  clear hB2
  clear hX hM hw1 x2
  go_wp2
  go_ret
  exact ⟨rfl, hB⟩

set_option maxRecDepth 100000 in
set_option maxHeartbeats 4000000 in
theorem encodeField_h (k : Int) (dg : ByteArray) (vi : Int) (tg : TagD) (ba : BatM) (he : HdrM) (ce : CertM) (bl : BlkM) (q : QcM) (w : World) (hA : MsgM.At w ⟨k, dg, vi, tg, ba, he, ce, bl, q⟩) (hf : he.Fit) :
    Calls Tryz.prog 60 #[MsgM.v ⟨k, dg, vi, tg, ba, he, ce, bl, q⟩, .int .i32 104] w fun e w' => e = .returned (.string ⟨(txt (encH he.d)).toArray⟩) ∧ Below w.heap.size w w' := by
  have hX := Arr.new w 39 [.int .i64 k, .string dg, .int .i64 vi, .int .i64 tg.who, .string tg.mac, .int .i64 ba.author, .int .i64 ba.number, .slice ba.ta ba.txs.length ba.tc, .int .i64 he.author, .int .i64 he.round, .slice he.ra he.refs.length he.rc, .slice he.pa he.parents.length he.pc, .int .i64 ce.hdr.author, .int .i64 ce.hdr.round, .slice ce.hdr.ra ce.hdr.refs.length ce.hdr.rc, .slice ce.hdr.pa ce.hdr.parents.length ce.hdr.pc, .slice ce.va ce.votes.length ce.vc, .int .i64 bl.view, .int .i64 bl.qc.view, .string bl.qc.block, .slice bl.qc.va bl.qc.votes.length bl.qc.vc, .slice bl.ca bl.certs.length bl.cc, .int .i64 q.view, .string q.block, .slice q.va q.votes.length q.vc]
  have hB := belowNew w (.cells [.int .i64 k, .string dg, .int .i64 vi, .int .i64 tg.who, .string tg.mac, .int .i64 ba.author, .int .i64 ba.number, .slice ba.ta ba.txs.length ba.tc, .int .i64 he.author, .int .i64 he.round, .slice he.ra he.refs.length he.rc, .slice he.pa he.parents.length he.pc, .int .i64 ce.hdr.author, .int .i64 ce.hdr.round, .slice ce.hdr.ra ce.hdr.refs.length ce.hdr.rc, .slice ce.hdr.pa ce.hdr.parents.length ce.hdr.pc, .slice ce.va ce.votes.length ce.vc, .int .i64 bl.view, .int .i64 bl.qc.view, .string bl.qc.block, .slice bl.qc.va bl.qc.votes.length bl.qc.vc, .slice bl.ca bl.certs.length bl.cc, .int .i64 q.view, .string q.block, .slice q.va q.votes.length q.vc].toArray 39)
  have hM := hA.below hB
  unfold MsgM.v MsgM.c
  simp only
  obtain ⟨w1, hw1⟩ : ∃ q', w.alloc (.cells [.int .i64 k, .string dg, .int .i64 vi, .int .i64 tg.who, .string tg.mac, .int .i64 ba.author, .int .i64 ba.number, .slice ba.ta ba.txs.length ba.tc, .int .i64 he.author, .int .i64 he.round, .slice he.ra he.refs.length he.rc, .slice he.pa he.parents.length he.pc, .int .i64 ce.hdr.author, .int .i64 ce.hdr.round, .slice ce.hdr.ra ce.hdr.refs.length ce.hdr.rc, .slice ce.hdr.pa ce.hdr.parents.length ce.hdr.pc, .slice ce.va ce.votes.length ce.vc, .int .i64 bl.view, .int .i64 bl.qc.view, .string bl.qc.block, .slice bl.qc.va bl.qc.votes.length bl.qc.vc, .slice bl.ca bl.certs.length bl.cc, .int .i64 q.view, .string q.block, .slice q.va q.votes.length q.vc].toArray 39) = q' := ⟨_, rfl⟩
  rw [hw1] at hX hB hM
  clear hA
  obtain ⟨out, hout⟩ : ∃ o, Hid (o = (⟨(txt (encH he.d)).toArray⟩ : ByteArray)) := ⟨_, rfl⟩
  rw [← hout.out]
  have x8 := hX.cell (i := 8) rfl
  have x9 := hX.cell (i := 9) rfl
  have x10 := hX.cell (i := 10) rfl
  have x11 := hX.cell (i := 11) rfl
  obtain ⟨eb, heb⟩ : ∃ o, Hid (o = (⟨(encH he.d).toArray⟩ : ByteArray)) := ⟨_, rfl⟩
  have c1 : Calls Tryz.prog 41 #[.agg #[.int .i64 he.author, .int .i64 he.round, .slice he.ra he.refs.length he.rc, .slice he.pa he.parents.length he.pc]] w1 fun e w' => e = .returned (.string eb) ∧ Below w1.heap.size w1 w' := by
    rw [heb.out]
    exact hdrEncode_any he w1 hM.hdr hf
  have c2 : ∀ w1, Calls Tryz.prog 70 #[.string eb] w1 fun e w' => e = .returned (.string out) ∧ Below w1.heap.size w1 w' := fun w1 => by
    have := text_any eb w1 (by rw [heb.out, size_mk]; have := hf.len; omega)
    rw [show eb.data.toList = encH he.d by rw [heb.out]] at this
    rw [hout.out]
    exact this
  clear hout heb
  go_enter Tryz.func60, Tryz.ntmps60
  go_wp2_with fail
  refine (c1).mono ?_
  rintro e w2 ⟨rfl, hb⟩
  have hB2 := hB.trans (hb.mono hB.size)
  clear hB hb
  have hB := hB2
  clear hB2
  clear hX hM hw1 x8 x9 x10 x11
  go_wp2_with fail
  refine (c2 _).mono ?_
  rintro e w3 ⟨rfl, hb⟩
  have hB2 := hB.trans (hb.mono hB.size)
  clear hB hb
  have hB := hB2
  clear hB2
  go_wp2
  go_ret
  exact ⟨rfl, hB⟩

set_option maxRecDepth 100000 in
set_option maxHeartbeats 4000000 in
theorem encodeField_c (k : Int) (dg : ByteArray) (vi : Int) (tg : TagD) (ba : BatM) (he : HdrM) (ce : CertM) (bl : BlkM) (q : QcM) (w : World) (hA : MsgM.At w ⟨k, dg, vi, tg, ba, he, ce, bl, q⟩) (hf : ce.Fit) :
    Calls Tryz.prog 60 #[MsgM.v ⟨k, dg, vi, tg, ba, he, ce, bl, q⟩, .int .i32 99] w fun e w' => e = .returned (.string ⟨(txt (encC ce.d)).toArray⟩) ∧ Below w.heap.size w w' := by
  have hX := Arr.new w 39 [.int .i64 k, .string dg, .int .i64 vi, .int .i64 tg.who, .string tg.mac, .int .i64 ba.author, .int .i64 ba.number, .slice ba.ta ba.txs.length ba.tc, .int .i64 he.author, .int .i64 he.round, .slice he.ra he.refs.length he.rc, .slice he.pa he.parents.length he.pc, .int .i64 ce.hdr.author, .int .i64 ce.hdr.round, .slice ce.hdr.ra ce.hdr.refs.length ce.hdr.rc, .slice ce.hdr.pa ce.hdr.parents.length ce.hdr.pc, .slice ce.va ce.votes.length ce.vc, .int .i64 bl.view, .int .i64 bl.qc.view, .string bl.qc.block, .slice bl.qc.va bl.qc.votes.length bl.qc.vc, .slice bl.ca bl.certs.length bl.cc, .int .i64 q.view, .string q.block, .slice q.va q.votes.length q.vc]
  have hB := belowNew w (.cells [.int .i64 k, .string dg, .int .i64 vi, .int .i64 tg.who, .string tg.mac, .int .i64 ba.author, .int .i64 ba.number, .slice ba.ta ba.txs.length ba.tc, .int .i64 he.author, .int .i64 he.round, .slice he.ra he.refs.length he.rc, .slice he.pa he.parents.length he.pc, .int .i64 ce.hdr.author, .int .i64 ce.hdr.round, .slice ce.hdr.ra ce.hdr.refs.length ce.hdr.rc, .slice ce.hdr.pa ce.hdr.parents.length ce.hdr.pc, .slice ce.va ce.votes.length ce.vc, .int .i64 bl.view, .int .i64 bl.qc.view, .string bl.qc.block, .slice bl.qc.va bl.qc.votes.length bl.qc.vc, .slice bl.ca bl.certs.length bl.cc, .int .i64 q.view, .string q.block, .slice q.va q.votes.length q.vc].toArray 39)
  have hM := hA.below hB
  unfold MsgM.v MsgM.c
  simp only
  obtain ⟨w1, hw1⟩ : ∃ q', w.alloc (.cells [.int .i64 k, .string dg, .int .i64 vi, .int .i64 tg.who, .string tg.mac, .int .i64 ba.author, .int .i64 ba.number, .slice ba.ta ba.txs.length ba.tc, .int .i64 he.author, .int .i64 he.round, .slice he.ra he.refs.length he.rc, .slice he.pa he.parents.length he.pc, .int .i64 ce.hdr.author, .int .i64 ce.hdr.round, .slice ce.hdr.ra ce.hdr.refs.length ce.hdr.rc, .slice ce.hdr.pa ce.hdr.parents.length ce.hdr.pc, .slice ce.va ce.votes.length ce.vc, .int .i64 bl.view, .int .i64 bl.qc.view, .string bl.qc.block, .slice bl.qc.va bl.qc.votes.length bl.qc.vc, .slice bl.ca bl.certs.length bl.cc, .int .i64 q.view, .string q.block, .slice q.va q.votes.length q.vc].toArray 39) = q' := ⟨_, rfl⟩
  rw [hw1] at hX hB hM
  clear hA
  obtain ⟨out, hout⟩ : ∃ o, Hid (o = (⟨(txt (encC ce.d)).toArray⟩ : ByteArray)) := ⟨_, rfl⟩
  rw [← hout.out]
  have x12 := hX.cell (i := 12) rfl
  have x13 := hX.cell (i := 13) rfl
  have x14 := hX.cell (i := 14) rfl
  have x15 := hX.cell (i := 15) rfl
  have x16 := hX.cell (i := 16) rfl
  obtain ⟨eb, heb⟩ : ∃ o, Hid (o = (⟨(encC ce.d).toArray⟩ : ByteArray)) := ⟨_, rfl⟩
  have c1 : Calls Tryz.prog 84 #[.agg #[.int .i64 ce.hdr.author, .int .i64 ce.hdr.round, .slice ce.hdr.ra ce.hdr.refs.length ce.hdr.rc, .slice ce.hdr.pa ce.hdr.parents.length ce.hdr.pc, .slice ce.va ce.votes.length ce.vc]] w1 fun e w' => e = .returned (.string eb) ∧ Below w1.heap.size w1 w' := by
    rw [heb.out]
    exact certEncode_any ce w1 hM.cert hf
  have c2 : ∀ w1, Calls Tryz.prog 70 #[.string eb] w1 fun e w' => e = .returned (.string out) ∧ Below w1.heap.size w1 w' := fun w1 => by
    have := text_any eb w1 (by rw [heb.out, size_mk]; have h1 := hf.hdr.len; have h2 := hf.len; have h3 := txt_len_le (encH ce.hdr.d); have e : (encC ce.d).length = (txt (encH ce.hdr.d)).length + (tagsB ce.votes).length := List.length_append; omega)
    rw [show eb.data.toList = encC ce.d by rw [heb.out]] at this
    rw [hout.out]
    exact this
  clear hout heb
  go_enter Tryz.func60, Tryz.ntmps60
  go_wp2_with fail
  refine (c1).mono ?_
  rintro e w2 ⟨rfl, hb⟩
  have hB2 := hB.trans (hb.mono hB.size)
  clear hB hb
  have hB := hB2
  clear hB2
  clear hX hM hw1 x12 x13 x14 x15 x16
  go_wp2_with fail
  refine (c2 _).mono ?_
  rintro e w3 ⟨rfl, hb⟩
  have hB2 := hB.trans (hb.mono hB.size)
  clear hB hb
  have hB := hB2
  clear hB2
  go_wp2
  go_ret
  exact ⟨rfl, hB⟩

set_option maxRecDepth 100000 in
set_option maxHeartbeats 4000000 in
theorem encodeField_k (k : Int) (dg : ByteArray) (vi : Int) (tg : TagD) (ba : BatM) (he : HdrM) (ce : CertM) (bl : BlkM) (q : QcM) (w : World) (hA : MsgM.At w ⟨k, dg, vi, tg, ba, he, ce, bl, q⟩) (hf : bl.Enc) :
    Calls Tryz.prog 60 #[MsgM.v ⟨k, dg, vi, tg, ba, he, ce, bl, q⟩, .int .i32 107] w fun e w' => e = .returned (.string ⟨(txt (encK bl.d)).toArray⟩) ∧ Below w.heap.size w w' := by
  have hX := Arr.new w 39 [.int .i64 k, .string dg, .int .i64 vi, .int .i64 tg.who, .string tg.mac, .int .i64 ba.author, .int .i64 ba.number, .slice ba.ta ba.txs.length ba.tc, .int .i64 he.author, .int .i64 he.round, .slice he.ra he.refs.length he.rc, .slice he.pa he.parents.length he.pc, .int .i64 ce.hdr.author, .int .i64 ce.hdr.round, .slice ce.hdr.ra ce.hdr.refs.length ce.hdr.rc, .slice ce.hdr.pa ce.hdr.parents.length ce.hdr.pc, .slice ce.va ce.votes.length ce.vc, .int .i64 bl.view, .int .i64 bl.qc.view, .string bl.qc.block, .slice bl.qc.va bl.qc.votes.length bl.qc.vc, .slice bl.ca bl.certs.length bl.cc, .int .i64 q.view, .string q.block, .slice q.va q.votes.length q.vc]
  have hB := belowNew w (.cells [.int .i64 k, .string dg, .int .i64 vi, .int .i64 tg.who, .string tg.mac, .int .i64 ba.author, .int .i64 ba.number, .slice ba.ta ba.txs.length ba.tc, .int .i64 he.author, .int .i64 he.round, .slice he.ra he.refs.length he.rc, .slice he.pa he.parents.length he.pc, .int .i64 ce.hdr.author, .int .i64 ce.hdr.round, .slice ce.hdr.ra ce.hdr.refs.length ce.hdr.rc, .slice ce.hdr.pa ce.hdr.parents.length ce.hdr.pc, .slice ce.va ce.votes.length ce.vc, .int .i64 bl.view, .int .i64 bl.qc.view, .string bl.qc.block, .slice bl.qc.va bl.qc.votes.length bl.qc.vc, .slice bl.ca bl.certs.length bl.cc, .int .i64 q.view, .string q.block, .slice q.va q.votes.length q.vc].toArray 39)
  have hM := hA.below hB
  unfold MsgM.v MsgM.c
  simp only
  obtain ⟨w1, hw1⟩ : ∃ q', w.alloc (.cells [.int .i64 k, .string dg, .int .i64 vi, .int .i64 tg.who, .string tg.mac, .int .i64 ba.author, .int .i64 ba.number, .slice ba.ta ba.txs.length ba.tc, .int .i64 he.author, .int .i64 he.round, .slice he.ra he.refs.length he.rc, .slice he.pa he.parents.length he.pc, .int .i64 ce.hdr.author, .int .i64 ce.hdr.round, .slice ce.hdr.ra ce.hdr.refs.length ce.hdr.rc, .slice ce.hdr.pa ce.hdr.parents.length ce.hdr.pc, .slice ce.va ce.votes.length ce.vc, .int .i64 bl.view, .int .i64 bl.qc.view, .string bl.qc.block, .slice bl.qc.va bl.qc.votes.length bl.qc.vc, .slice bl.ca bl.certs.length bl.cc, .int .i64 q.view, .string q.block, .slice q.va q.votes.length q.vc].toArray 39) = q' := ⟨_, rfl⟩
  rw [hw1] at hX hB hM
  clear hA
  obtain ⟨out, hout⟩ : ∃ o, Hid (o = (⟨(txt (encK bl.d)).toArray⟩ : ByteArray)) := ⟨_, rfl⟩
  rw [← hout.out]
  have x17 := hX.cell (i := 17) rfl
  have x18 := hX.cell (i := 18) rfl
  have x19 := hX.cell (i := 19) rfl
  have x20 := hX.cell (i := 20) rfl
  have x21 := hX.cell (i := 21) rfl
  obtain ⟨eb, heb⟩ : ∃ o, Hid (o = (⟨(encK bl.d).toArray⟩ : ByteArray)) := ⟨_, rfl⟩
  have c1 : Calls Tryz.prog 69 #[.agg #[.int .i64 bl.view, .int .i64 bl.qc.view, .string bl.qc.block, .slice bl.qc.va bl.qc.votes.length bl.qc.vc, .slice bl.ca bl.certs.length bl.cc]] w1 fun e w' => e = .returned (.string eb) ∧ Below w1.heap.size w1 w' := by
    rw [heb.out]
    exact blkEncode_any bl w1 hM.blk hf
  have c2 : ∀ w1, Calls Tryz.prog 70 #[.string eb] w1 fun e w' => e = .returned (.string out) ∧ Below w1.heap.size w1 w' := fun w1 => by
    have := text_any eb w1 (by rw [heb.out, size_mk]; have h1 := encQ_len bl.qc hf.qc; have h2 := hf.len; have h3 := txt_len_le (encQ bl.qc.d); have h4 := goInt_length bl.view; have e : (encK bl.d).length = (goInt bl.view ++ txt (encQ bl.qc.d)).length + (lst (Go.Proofs.YtaoiejgbbmjpkaaGreatDoor.bl bl.certs)).length := List.length_append; rw [List.length_append] at e; omega)
    rw [show eb.data.toList = encK bl.d by rw [heb.out]] at this
    rw [hout.out]
    exact this
  clear hout heb
  go_enter Tryz.func60, Tryz.ntmps60
  go_wp2_with fail
  refine (c1).mono ?_
  rintro e w2 ⟨rfl, hb⟩
  have hB2 := hB.trans (hb.mono hB.size)
  clear hB hb
  have hB := hB2
  clear hB2
  clear hX hM hw1 x17 x18 x19 x20 x21
  go_wp2_with fail
  refine (c2 _).mono ?_
  rintro e w3 ⟨rfl, hb⟩
  have hB2 := hB.trans (hb.mono hB.size)
  clear hB hb
  have hB := hB2
  clear hB2
  go_wp2
  go_ret
  exact ⟨rfl, hB⟩

set_option maxRecDepth 100000 in
set_option maxHeartbeats 4000000 in
theorem encodeField_q (k : Int) (dg : ByteArray) (vi : Int) (tg : TagD) (ba : BatM) (he : HdrM) (ce : CertM) (bl : BlkM) (q : QcM) (w : World) (hA : MsgM.At w ⟨k, dg, vi, tg, ba, he, ce, bl, q⟩) (hf : q.Enc) :
    Calls Tryz.prog 60 #[MsgM.v ⟨k, dg, vi, tg, ba, he, ce, bl, q⟩, .int .i32 113] w fun e w' => e = .returned (.string ⟨(txt (encQ q.d)).toArray⟩) ∧ Below w.heap.size w w' := by
  have hX := Arr.new w 39 [.int .i64 k, .string dg, .int .i64 vi, .int .i64 tg.who, .string tg.mac, .int .i64 ba.author, .int .i64 ba.number, .slice ba.ta ba.txs.length ba.tc, .int .i64 he.author, .int .i64 he.round, .slice he.ra he.refs.length he.rc, .slice he.pa he.parents.length he.pc, .int .i64 ce.hdr.author, .int .i64 ce.hdr.round, .slice ce.hdr.ra ce.hdr.refs.length ce.hdr.rc, .slice ce.hdr.pa ce.hdr.parents.length ce.hdr.pc, .slice ce.va ce.votes.length ce.vc, .int .i64 bl.view, .int .i64 bl.qc.view, .string bl.qc.block, .slice bl.qc.va bl.qc.votes.length bl.qc.vc, .slice bl.ca bl.certs.length bl.cc, .int .i64 q.view, .string q.block, .slice q.va q.votes.length q.vc]
  have hB := belowNew w (.cells [.int .i64 k, .string dg, .int .i64 vi, .int .i64 tg.who, .string tg.mac, .int .i64 ba.author, .int .i64 ba.number, .slice ba.ta ba.txs.length ba.tc, .int .i64 he.author, .int .i64 he.round, .slice he.ra he.refs.length he.rc, .slice he.pa he.parents.length he.pc, .int .i64 ce.hdr.author, .int .i64 ce.hdr.round, .slice ce.hdr.ra ce.hdr.refs.length ce.hdr.rc, .slice ce.hdr.pa ce.hdr.parents.length ce.hdr.pc, .slice ce.va ce.votes.length ce.vc, .int .i64 bl.view, .int .i64 bl.qc.view, .string bl.qc.block, .slice bl.qc.va bl.qc.votes.length bl.qc.vc, .slice bl.ca bl.certs.length bl.cc, .int .i64 q.view, .string q.block, .slice q.va q.votes.length q.vc].toArray 39)
  have hM := hA.below hB
  unfold MsgM.v MsgM.c
  simp only
  obtain ⟨w1, hw1⟩ : ∃ q', w.alloc (.cells [.int .i64 k, .string dg, .int .i64 vi, .int .i64 tg.who, .string tg.mac, .int .i64 ba.author, .int .i64 ba.number, .slice ba.ta ba.txs.length ba.tc, .int .i64 he.author, .int .i64 he.round, .slice he.ra he.refs.length he.rc, .slice he.pa he.parents.length he.pc, .int .i64 ce.hdr.author, .int .i64 ce.hdr.round, .slice ce.hdr.ra ce.hdr.refs.length ce.hdr.rc, .slice ce.hdr.pa ce.hdr.parents.length ce.hdr.pc, .slice ce.va ce.votes.length ce.vc, .int .i64 bl.view, .int .i64 bl.qc.view, .string bl.qc.block, .slice bl.qc.va bl.qc.votes.length bl.qc.vc, .slice bl.ca bl.certs.length bl.cc, .int .i64 q.view, .string q.block, .slice q.va q.votes.length q.vc].toArray 39) = q' := ⟨_, rfl⟩
  rw [hw1] at hX hB hM
  clear hA
  obtain ⟨out, hout⟩ : ∃ o, Hid (o = (⟨(txt (encQ q.d)).toArray⟩ : ByteArray)) := ⟨_, rfl⟩
  rw [← hout.out]
  have x22 := hX.cell (i := 22) rfl
  have x23 := hX.cell (i := 23) rfl
  have x24 := hX.cell (i := 24) rfl
  obtain ⟨eb, heb⟩ : ∃ o, Hid (o = (⟨(encQ q.d).toArray⟩ : ByteArray)) := ⟨_, rfl⟩
  have c1 : Calls Tryz.prog 39 #[.agg #[.int .i64 q.view, .string q.block, .slice q.va q.votes.length q.vc]] w1 fun e w' => e = .returned (.string eb) ∧ Below w1.heap.size w1 w' := by
    rw [heb.out]
    exact encodeQc_any q w1 hM.qc hf
  have c2 : ∀ w1, Calls Tryz.prog 70 #[.string eb] w1 fun e w' => e = .returned (.string out) ∧ Below w1.heap.size w1 w' := fun w1 => by
    have := text_any eb w1 (by rw [heb.out, size_mk]; have h1 := encQ_len q hf; omega)
    rw [show eb.data.toList = encQ q.d by rw [heb.out]] at this
    rw [hout.out]
    exact this
  clear hout heb
  go_enter Tryz.func60, Tryz.ntmps60
  go_wp2_with fail
  refine (c1).mono ?_
  rintro e w2 ⟨rfl, hb⟩
  have hB2 := hB.trans (hb.mono hB.size)
  clear hB hb
  have hB := hB2
  clear hB2
  clear hX hM hw1 x22 x23 x24
  go_wp2_with fail
  refine (c2 _).mono ?_
  rintro e w3 ⟨rfl, hb⟩
  have hB2 := hB.trans (hb.mono hB.size)
  clear hB hb
  have hB := hB2
  clear hB2
  go_wp2
  go_ret
  exact ⟨rfl, hB⟩

set_option maxRecDepth 100000 in
set_option maxHeartbeats 4000000 in
theorem encodeField_b (k : Int) (dg : ByteArray) (vi : Int) (tg : TagD) (ba : BatM) (he : HdrM) (ce : CertM) (bl : BlkM) (q : QcM) (w : World) (hA : MsgM.At w ⟨k, dg, vi, tg, ba, he, ce, bl, q⟩) (hf : checkB ba.d = 0) :
    Calls Tryz.prog 60 #[MsgM.v ⟨k, dg, vi, tg, ba, he, ce, bl, q⟩, .int .i32 98] w fun e w' => e = .returned (.string ⟨(txt (encBat ba.d)).toArray⟩) ∧ Below w.heap.size w w' := by
  have hX := Arr.new w 39 [.int .i64 k, .string dg, .int .i64 vi, .int .i64 tg.who, .string tg.mac, .int .i64 ba.author, .int .i64 ba.number, .slice ba.ta ba.txs.length ba.tc, .int .i64 he.author, .int .i64 he.round, .slice he.ra he.refs.length he.rc, .slice he.pa he.parents.length he.pc, .int .i64 ce.hdr.author, .int .i64 ce.hdr.round, .slice ce.hdr.ra ce.hdr.refs.length ce.hdr.rc, .slice ce.hdr.pa ce.hdr.parents.length ce.hdr.pc, .slice ce.va ce.votes.length ce.vc, .int .i64 bl.view, .int .i64 bl.qc.view, .string bl.qc.block, .slice bl.qc.va bl.qc.votes.length bl.qc.vc, .slice bl.ca bl.certs.length bl.cc, .int .i64 q.view, .string q.block, .slice q.va q.votes.length q.vc]
  have hB := belowNew w (.cells [.int .i64 k, .string dg, .int .i64 vi, .int .i64 tg.who, .string tg.mac, .int .i64 ba.author, .int .i64 ba.number, .slice ba.ta ba.txs.length ba.tc, .int .i64 he.author, .int .i64 he.round, .slice he.ra he.refs.length he.rc, .slice he.pa he.parents.length he.pc, .int .i64 ce.hdr.author, .int .i64 ce.hdr.round, .slice ce.hdr.ra ce.hdr.refs.length ce.hdr.rc, .slice ce.hdr.pa ce.hdr.parents.length ce.hdr.pc, .slice ce.va ce.votes.length ce.vc, .int .i64 bl.view, .int .i64 bl.qc.view, .string bl.qc.block, .slice bl.qc.va bl.qc.votes.length bl.qc.vc, .slice bl.ca bl.certs.length bl.cc, .int .i64 q.view, .string q.block, .slice q.va q.votes.length q.vc].toArray 39)
  have hM := hA.below hB
  unfold MsgM.v MsgM.c
  simp only
  obtain ⟨w1, hw1⟩ : ∃ q', w.alloc (.cells [.int .i64 k, .string dg, .int .i64 vi, .int .i64 tg.who, .string tg.mac, .int .i64 ba.author, .int .i64 ba.number, .slice ba.ta ba.txs.length ba.tc, .int .i64 he.author, .int .i64 he.round, .slice he.ra he.refs.length he.rc, .slice he.pa he.parents.length he.pc, .int .i64 ce.hdr.author, .int .i64 ce.hdr.round, .slice ce.hdr.ra ce.hdr.refs.length ce.hdr.rc, .slice ce.hdr.pa ce.hdr.parents.length ce.hdr.pc, .slice ce.va ce.votes.length ce.vc, .int .i64 bl.view, .int .i64 bl.qc.view, .string bl.qc.block, .slice bl.qc.va bl.qc.votes.length bl.qc.vc, .slice bl.ca bl.certs.length bl.cc, .int .i64 q.view, .string q.block, .slice q.va q.votes.length q.vc].toArray 39) = q' := ⟨_, rfl⟩
  rw [hw1] at hX hB hM
  clear hA
  obtain ⟨out, hout⟩ : ∃ o, Hid (o = (⟨(txt (encBat ba.d)).toArray⟩ : ByteArray)) := ⟨_, rfl⟩
  rw [← hout.out]
  have x5 := hX.cell (i := 5) rfl
  have x6 := hX.cell (i := 6) rfl
  have x7 := hX.cell (i := 7) rfl
  have hlen := encBat_len hf
  obtain ⟨eb, heb⟩ : ∃ o, Hid (o = (⟨(encBat ba.d).toArray⟩ : ByteArray)) := ⟨_, rfl⟩
  have c1 : Calls Tryz.prog 83 #[.agg #[.int .i64 ba.author, .int .i64 ba.number, .slice ba.ta ba.txs.length ba.tc]] w1 fun e w' => e = .returned (.tuple #[.string eb, .int .i64 0]) ∧ Below w1.heap.size w1 w' := by
    have := batEncode_any ba.author ba.number ba.ta ba.txs ba.tc w1 hM.bat.txs.txs
    have e1 : encBB ba.d = ⟨(encBat ba.d).toArray⟩ := if_pos hf
    have e2 : checkB ⟨ba.author, ba.number, dl ba.txs⟩ = 0 := hf
    rw [e2] at this
    rw [heb.out, ← e1]
    exact this
  have c2 : ∀ w1, Calls Tryz.prog 70 #[.string eb] w1 fun e w' => e = .returned (.string out) ∧ Below w1.heap.size w1 w' := fun w1 => by
    have := text_any eb w1 (by rw [heb.out, size_mk]; omega)
    rw [show eb.data.toList = encBat ba.d by rw [heb.out]] at this
    rw [hout.out]
    exact this
  clear hout heb hlen
  go_enter Tryz.func60, Tryz.ntmps60
  go_wp2_with fail
  refine (c1).mono ?_
  rintro e w2 ⟨rfl, hb⟩
  have hB2 := hB.trans (hb.mono hB.size)
  clear hB hb
  have hB := hB2
  clear hB2
  clear hX hM hw1 x5 x6 x7
  go_wp2_with fail
  refine (c2 _).mono ?_
  rintro e w3 ⟨rfl, hb⟩
  have hB2 := hB.trans (hb.mono hB.size)
  clear hB hb
  have hB := hB2
  clear hB2
  go_wp2
  go_ret
  exact ⟨rfl, hB⟩

set_option maxRecDepth 100000 in
set_option maxHeartbeats 4000000 in
theorem encodeField_t (k : Int) (dg : ByteArray) (vi : Int) (tg : TagD) (ba : BatM) (he : HdrM) (ce : CertM) (bl : BlkM) (q : QcM) (w : World) (hf : tagOk tg) :
    Calls Tryz.prog 60 #[MsgM.v ⟨k, dg, vi, tg, ba, he, ce, bl, q⟩, .int .i32 116] w fun e w' => e = .returned (.string ⟨(tagsB [tg]).toArray⟩) ∧ Below w.heap.size w w' := by
  have hX := Arr.new w 39 [.int .i64 k, .string dg, .int .i64 vi, .int .i64 tg.who, .string tg.mac, .int .i64 ba.author, .int .i64 ba.number, .slice ba.ta ba.txs.length ba.tc, .int .i64 he.author, .int .i64 he.round, .slice he.ra he.refs.length he.rc, .slice he.pa he.parents.length he.pc, .int .i64 ce.hdr.author, .int .i64 ce.hdr.round, .slice ce.hdr.ra ce.hdr.refs.length ce.hdr.rc, .slice ce.hdr.pa ce.hdr.parents.length ce.hdr.pc, .slice ce.va ce.votes.length ce.vc, .int .i64 bl.view, .int .i64 bl.qc.view, .string bl.qc.block, .slice bl.qc.va bl.qc.votes.length bl.qc.vc, .slice bl.ca bl.certs.length bl.cc, .int .i64 q.view, .string q.block, .slice q.va q.votes.length q.vc]
  have hB := belowNew w (.cells [.int .i64 k, .string dg, .int .i64 vi, .int .i64 tg.who, .string tg.mac, .int .i64 ba.author, .int .i64 ba.number, .slice ba.ta ba.txs.length ba.tc, .int .i64 he.author, .int .i64 he.round, .slice he.ra he.refs.length he.rc, .slice he.pa he.parents.length he.pc, .int .i64 ce.hdr.author, .int .i64 ce.hdr.round, .slice ce.hdr.ra ce.hdr.refs.length ce.hdr.rc, .slice ce.hdr.pa ce.hdr.parents.length ce.hdr.pc, .slice ce.va ce.votes.length ce.vc, .int .i64 bl.view, .int .i64 bl.qc.view, .string bl.qc.block, .slice bl.qc.va bl.qc.votes.length bl.qc.vc, .slice bl.ca bl.certs.length bl.cc, .int .i64 q.view, .string q.block, .slice q.va q.votes.length q.vc].toArray 39)
  unfold MsgM.v MsgM.c
  simp only
  obtain ⟨w1, hw1⟩ : ∃ q', w.alloc (.cells [.int .i64 k, .string dg, .int .i64 vi, .int .i64 tg.who, .string tg.mac, .int .i64 ba.author, .int .i64 ba.number, .slice ba.ta ba.txs.length ba.tc, .int .i64 he.author, .int .i64 he.round, .slice he.ra he.refs.length he.rc, .slice he.pa he.parents.length he.pc, .int .i64 ce.hdr.author, .int .i64 ce.hdr.round, .slice ce.hdr.ra ce.hdr.refs.length ce.hdr.rc, .slice ce.hdr.pa ce.hdr.parents.length ce.hdr.pc, .slice ce.va ce.votes.length ce.vc, .int .i64 bl.view, .int .i64 bl.qc.view, .string bl.qc.block, .slice bl.qc.va bl.qc.votes.length bl.qc.vc, .slice bl.ca bl.certs.length bl.cc, .int .i64 q.view, .string q.block, .slice q.va q.votes.length q.vc].toArray 39) = q' := ⟨_, rfl⟩
  rw [hw1] at hX hB
  have hO := tagOne9 w1 tg
  have hB1 := hB.alloc hB.size (.cells #[.int .i64 tg.who, .string tg.mac] 23)
  have c1 := tags_any (some ⟨w1.heap.size, 0, none⟩) 1 [tg] _ hO (by simp) (fun t ht => by rw [List.mem_singleton.1 ht, hf.2.2]; decide) (by have := tagsB_fit8 (l := [tg]) (fun t ht => by rw [List.mem_singleton.1 ht]; exact hf.fit) (by simp); omega)
  obtain ⟨out, hout⟩ : ∃ o, Hid (o = (⟨(tagsB [tg]).toArray⟩ : ByteArray)) := ⟨_, rfl⟩
  rw [← hout.out] at c1 ⊢
  clear hout hO hf
  have x3 := hX.cell (i := 3) rfl
  have x4 := hX.cell (i := 4) rfl
  go_enter Tryz.func60, Tryz.ntmps60
  go_wp2_with fail
  refine c1.mono ?_
  rintro e w2 ⟨rfl, hb⟩
  have hB2 := hB1.trans (hb.mono hB1.size)
  clear hB hB1 hb hX x3 x4 c1 hw1
  go_wp2
  go_ret
  exact ⟨rfl, hB2⟩

theorem encodeField_any (x : MsgM) (c : UInt8) (hc : c ∈ letters) (w : World) (hA : x.At w) (hf : FieldM x c) :
    Calls Tryz.prog 60 #[x.v, .int .i32 (c.toNat : Int)] w fun e w' => e = .returned (.string ⟨(fieldB x.d c).toArray⟩) ∧ Below w.heap.size w w' := by
  obtain ⟨k, dg, vi, tg, ba, he, ce, bl, q⟩ := x
  simp only [letters, List.mem_cons, List.not_mem_nil, or_false] at hc
  rcases hc with rfl | rfl | rfl | rfl | rfl | rfl | rfl | rfl
  · exact encodeField_v k dg vi tg ba he ce bl q w hA
  · exact encodeField_t k dg vi tg ba he ce bl q w hf
  · exact encodeField_d k dg vi tg ba he ce bl q w hA hf
  · exact encodeField_b k dg vi tg ba he ce bl q w hA hf
  · exact encodeField_h k dg vi tg ba he ce bl q w hA hf
  · exact encodeField_c k dg vi tg ba he ce bl q w hA hf
  · exact encodeField_k k dg vi tg ba he ce bl q w hA hf
  · exact encodeField_q k dg vi tg ba he ce bl q w hA hf
end Go.Proofs.YtaoiejgbbmjpkaaGreatDoor

/- What package msg's Encode does; nothing old in memory is turned. -/
namespace Go.Proofs.YtaoiejgbbmjpkaaGreatDoor
open Go.RowKit
set_option linter.unusedVariables false

/-- A message's bytes, if it is right. -/
def encMB (m : MsgD) : ByteArray := if chkM m = 0 then ⟨(encM m).toArray⟩ else ⟨#[]⟩

theorem builder_iter {T e : TypeId} {B b : Nat} {bs : List Value} {w : World} (h : Lib.IsBuilder T e B b bs w) {k : Nat} {s : ByteArray} {pos : Nat} (hk : w.heap[k]? = some (.stringIter s pos)) (pos' : Nat) : Lib.IsBuilder T e B b bs (w.iterAt k s pos') := by
  have one : ∀ {p : Value}, Lib.BuilderAt T e B b p bs w → Lib.BuilderAt T e B b p bs (w.iterAt k s pos') := by
    intro p h
    obtain ⟨hB, v, hb, hown, hne⟩ := h
    have hkb : b ≠ k := by
      intro e1
      rw [e1, hk] at hb
      cases hb
    refine ⟨hB, v, (Lib.iterAt_other w k b s pos' hkb).trans hb, ⟨hown.1, ?_⟩, hne⟩
    rcases hown.2 with hn | ⟨g, cap, cur, hv, hbg, hg, rest⟩
    · exact .inl hn
    · have hkg : g ≠ k := by
        intro e1
        rw [e1, hk] at hg
        cases hg
      exact .inr ⟨g, cap, cur, hv, hbg, (Lib.iterAt_other w k g s pos' hkg).trans hg, rest⟩
  rcases h with h | h
  · exact Or.inl (one h)
  · exact Or.inr (one h)

/-- An iterator's block is apart from a Builder. -/
theorem builder_off {T e : TypeId} {B b : Nat} {bs : List Value} {w : World} (h : Lib.IsBuilder T e B b bs w) {k : Nat} {s : ByteArray} {pos : Nat} (hk : w.heap[k]? = some (.stringIter s pos)) : BldOff w b k := by
  have one : ∀ {p : Value}, Lib.BuilderAt T e B b p bs w → BldOff w b k := by
    intro p h
    obtain ⟨hB, v, hb, hown, hne⟩ := h
    refine ⟨fun e1 => (by rw [← e1, hk] at hb; cases hb), fun p' v' T' he hv => ?_⟩
    rw [hb] at he
    simp at he
    have e2 := he.1.2
    rw [← e2] at hv
    rcases hown.2 with ⟨hn, _⟩ | ⟨g, cap, cur, hv', hbg, hg, rest⟩
    · rw [hn] at hv
      simp [Value.ownBlock] at hv
    · rw [hv'] at hv
      simp [Value.ownBlock] at hv
      rw [hv, hk] at hg
      cases hg
  rcases h with h | h
  · exact one h
  · exact one h

theorem BldSt.iter {W w : World} {xb bb : Nat} {T : TypeId} {cs : List Value} {l : List UInt8} (h : BldSt W xb bb T cs w l) {k : Nat} {s : ByteArray} {pos : Nat} (hk : w.heap[k]? = some (.stringIter s pos)) (hW : W.heap.size ≤ k) (pos' : Nat) : BldSt W xb bb T cs (w.iterAt k s pos') l := by
  have hx : xb ≠ k := by
    intro e1
    have hb := h.box
    unfold Arr at hb
    rw [e1, hk] at hb
    cases hb
  exact ⟨(Lib.iterAt_other w k xb s pos' hx).trans h.box, h.ord, builder_iter h.bld hk pos', Lib.below_iterAt h.bel hW s pos', h.low, by rw [Lib.iterAt_size]; exact h.has⟩

theorem flat_le9 {f : UInt8 → List UInt8} {n : Nat} : ∀ (cs : List UInt8), (∀ c ∈ cs, (f c).length ≤ n) → (cs.flatMap f).length ≤ n * cs.length
  | [], _ => by simp
  | c :: cs, h => by
    have ih := flat_le9 cs (fun x hx => h x (by simp [hx]))
    have h1 := h c (by simp)
    rw [List.flatMap_cons, List.length_append, List.length_cons, Nat.mul_add, Nat.mul_one]
    omega

theorem fieldsK_len (k : Int) : (fieldsK k).length ≤ 3 := by
  by_cases h : fieldsK k = []
  · rw [h]; simp
  · rcases kind_cases h with rfl | rfl | rfl | rfl | rfl | rfl | rfl | rfl | rfl | rfl | rfl <;> decide

/-- A right message's fields are short. -/
theorem right_len {m : MsgD} (h : chkM m = 0) : ∀ c ∈ fieldsK m.kind, (fieldB m c).length ≤ 1100000 := by
  intro c hc
  obtain ⟨hne, hb, h98, hok⟩ := chkM_parts h
  have hcl := (fieldsK_letters m.kind).2 c hc
  simp only [letters, List.mem_cons, List.not_mem_nil, or_false] at hcl
  have ok : c ≠ 98 → m.Ok := fun hn => hok (batch_alone hc hn)
  rcases hcl with rfl | rfl | rfl | rfl | rfl | rfl | rfl | rfl
  · show (goInt m.view).length ≤ _
    have := goInt_length m.view
    omega
  · show (tagsB [m.tag]).length ≤ _
    have := tagsB_fit8 (l := [m.tag]) (fun t ht => by rw [List.mem_singleton.1 ht]; exact ((ok (by decide)).tag hc).fit) (by simp)
    omega
  · show (txt m.digest.data.toList).length ≤ _
    have h1 : m.digest.size = 32 := (ok (by decide)).dig hc
    have h2 := txt_len_le m.digest.data.toList
    have h3 : m.digest.data.toList.length = m.digest.size := by simp
    omega
  · show (txt (encBat m.batch)).length ≤ _
    have h1 := encBat_len (h98 hc)
    have h2 := txt_len_le (encBat m.batch)
    omega
  · show (txt (encH m.header)).length ≤ _
    have h1 := encH_fit (hdr_plain_fit (ok (by decide)).hdr)
    have h2 := txt_len_le (encH m.header)
    omega
  · show (txt (encC m.cert)).length ≤ _
    have hp := (ok (by decide)).cert
    have h1 := encH_fit (hdr_plain_fit hp.1)
    have h2 := txt_len_le (encC m.cert)
    have h3 := txt_len_le (encH m.cert.header)
    have h4 := tagsB_fit8 (fun t ht => (hp.2.1 t ht).fit) hp.2.2
    have e : (encC m.cert).length = (txt (encH m.cert.header)).length + (tagsB m.cert.votes).length := List.length_append
    omega
  · show (txt (encK m.block)).length ≤ _
    have hp := (ok (by decide)).blk hc
    have h1 := encQ_right (qc_plain_fit hp.2.1) hp.2.1.2.1
    have h2 := txt_len_le (encK m.block)
    have h3 := txt_len_le (encQ m.block.qc)
    have h4 := lst_strs8 40 (fun c hc => by rw [hp.2.2.2 c hc]; exact Nat.le_refl _)
    have h5 := goInt_length m.block.view
    have h6 : (40 + 9) * m.block.certs.length ≤ (40 + 9) * 8 := Nat.mul_le_mul_left _ hp.2.2.1
    have e : (encK m.block).length = (goInt m.block.view ++ txt (encQ m.block.qc)).length + (lst (bl m.block.certs)).length := List.length_append
    rw [List.length_append] at e
    omega
  · show (txt (encQ m.qc)).length ≤ _
    have hp := (ok (by decide)).qc hc
    have h1 := encQ_right (qc_plain_fit hp) hp.2.1
    have h2 := txt_len_le (encQ m.qc)
    omega

theorem encM_len {m : MsgD} (h : chkM m = 0) : (encM m).length ≤ 3300009 := by
  have h1 := flat_le9 (fieldsK m.kind) (right_len h)
  have h2 := fieldsK_len m.kind
  have h3 := goInt_length m.kind
  have h4 : 1100000 * (fieldsK m.kind).length ≤ 1100000 * 3 := Nat.mul_le_mul_left _ h2
  rw [encM, List.length_append]
  omega

set_option maxRecDepth 100000 in
set_option maxHeartbeats 8000000 in
theorem msgEncode_any (x : MsgM) (w : World) (hA : x.At w) (hn : x.Num) :
    Calls Tryz.prog 31 #[x.v] w fun e w' => e = .returned (.tuple #[.string (encMB x.d), .int .i64 (chkM x.d : Int)]) ∧ Below w.heap.size w w' := by
  obtain ⟨k, dg, vi, tg, ba, he, ce, bl, q⟩ := x
  have hX := Arr.new w 39 [.int .i64 k, .string dg, .int .i64 vi, .int .i64 tg.who, .string tg.mac, .int .i64 ba.author, .int .i64 ba.number, .slice ba.ta ba.txs.length ba.tc, .int .i64 he.author, .int .i64 he.round, .slice he.ra he.refs.length he.rc, .slice he.pa he.parents.length he.pc, .int .i64 ce.hdr.author, .int .i64 ce.hdr.round, .slice ce.hdr.ra ce.hdr.refs.length ce.hdr.rc, .slice ce.hdr.pa ce.hdr.parents.length ce.hdr.pc, .slice ce.va ce.votes.length ce.vc, .int .i64 bl.view, .int .i64 bl.qc.view, .string bl.qc.block, .slice bl.qc.va bl.qc.votes.length bl.qc.vc, .slice bl.ca bl.certs.length bl.cc, .int .i64 q.view, .string q.block, .slice q.va q.votes.length q.vc]
  have hB := belowNew w (.cells [.int .i64 k, .string dg, .int .i64 vi, .int .i64 tg.who, .string tg.mac, .int .i64 ba.author, .int .i64 ba.number, .slice ba.ta ba.txs.length ba.tc, .int .i64 he.author, .int .i64 he.round, .slice he.ra he.refs.length he.rc, .slice he.pa he.parents.length he.pc, .int .i64 ce.hdr.author, .int .i64 ce.hdr.round, .slice ce.hdr.ra ce.hdr.refs.length ce.hdr.rc, .slice ce.hdr.pa ce.hdr.parents.length ce.hdr.pc, .slice ce.va ce.votes.length ce.vc, .int .i64 bl.view, .int .i64 bl.qc.view, .string bl.qc.block, .slice bl.qc.va bl.qc.votes.length bl.qc.vc, .slice bl.ca bl.certs.length bl.cc, .int .i64 q.view, .string q.block, .slice q.va q.votes.length q.vc].toArray 39)
  have cC := fun w1 h1 => msgCheck_any ⟨k, dg, vi, tg, ba, he, ce, bl, q⟩ w1 h1 hn
  have HF : Hid (chkM (MsgM.d ⟨k, dg, vi, tg, ba, he, ce, bl, q⟩) = 0 → ∀ c ∈ fieldsK k, FieldM ⟨k, dg, vi, tg, ba, he, ce, bl, q⟩ c) := fun h => right_field (x := ⟨k, dg, vi, tg, ba, he, ce, bl, q⟩) h
  have HL : Hid (chkM (MsgM.d ⟨k, dg, vi, tg, ba, he, ce, bl, q⟩) = 0 → ∀ c ∈ fieldsK k, (fieldB (MsgM.d ⟨k, dg, vi, tg, ba, he, ce, bl, q⟩) c).length ≤ 1100000) := fun h => right_len h
  have cE := fun c hc w1 h1 hf => encodeField_any ⟨k, dg, vi, tg, ba, he, ce, bl, q⟩ c hc w1 h1 hf
  obtain ⟨er, her⟩ : ∃ n : Nat, n = chkM (MsgM.d ⟨k, dg, vi, tg, ba, he, ce, bl, q⟩) := ⟨_, rfl⟩
  obtain ⟨out, hout⟩ : ∃ o, o = encMB (MsgM.d ⟨k, dg, vi, tg, ba, he, ce, bl, q⟩) := ⟨_, rfl⟩
  have HE : Hid (out = if er = 0 then ⟨(encM (MsgM.d ⟨k, dg, vi, tg, ba, he, ce, bl, q⟩)).toArray⟩ else ⟨#[]⟩) := by
    show _ = _
    rw [hout, her]
    rfl
  have HN : Hid (er = 0 → fieldsK k ≠ []) := fun h => (chkM_parts (her ▸ h)).1
  rw [← her] at HF HL cC ⊢
  rw [← hout]
  have HA : Hid (MsgM.At w ⟨k, dg, vi, tg, ba, he, ce, bl, q⟩) := hA
  have HM : Hid (encM (MsgM.d ⟨k, dg, vi, tg, ba, he, ce, bl, q⟩) = goInt k ++ (fieldsK k).flatMap (fieldB (MsgM.d ⟨k, dg, vi, tg, ba, he, ce, bl, q⟩))) := rfl
  unfold MsgM.v MsgM.c at cC cE ⊢
  simp only at cC cE ⊢
  obtain ⟨w1, hw1⟩ : ∃ q', w.alloc (.cells [.int .i64 k, .string dg, .int .i64 vi, .int .i64 tg.who, .string tg.mac, .int .i64 ba.author, .int .i64 ba.number, .slice ba.ta ba.txs.length ba.tc, .int .i64 he.author, .int .i64 he.round, .slice he.ra he.refs.length he.rc, .slice he.pa he.parents.length he.pc, .int .i64 ce.hdr.author, .int .i64 ce.hdr.round, .slice ce.hdr.ra ce.hdr.refs.length ce.hdr.rc, .slice ce.hdr.pa ce.hdr.parents.length ce.hdr.pc, .slice ce.va ce.votes.length ce.vc, .int .i64 bl.view, .int .i64 bl.qc.view, .string bl.qc.block, .slice bl.qc.va bl.qc.votes.length bl.qc.vc, .slice bl.ca bl.certs.length bl.cc, .int .i64 q.view, .string q.block, .slice q.va q.votes.length q.vc].toArray 39) = q' := ⟨_, rfl⟩
  rw [hw1] at hX hB
  have cC1 := cC w1 (hA.below hB)
  clear her hout hA cC hn
  go_enter Tryz.func31, Tryz.ntmps31
  go_wp2_with (refine wpList_load_row (by rfl) 39 _ (by rfl) w.heap.size (by rfl) 39 _ (0, 0) _ hX Tryz.underlying39 (by rfl) infoMsg9 ?_)
  refine cC1.mono ?_
  rintro e w2 ⟨rfl, hb2⟩
  have hX2 := hX.below hb2 hX.lt
  have hB2 := hB.trans (hb2.mono hB.size)
  clear hX hB hb2 cC1 hw1
  by_cases hz : er = 0
  case neg =>
    have ho : Hid (out = ⟨#[]⟩) := by
      show _ = _
      rw [HE.out, if_neg hz]
    have hz' : ((er : Int) != 0) = true := by rw [bne_iff_ne]; omega
    clear HE HF HL hz hX2 cE
    go_wp2
    go_ret2
    exact ⟨by rw [ho.out]; rfl, hB2⟩
  subst hz
  have ho : Hid (out = ⟨(goInt k ++ (fieldsK k).flatMap (fieldB (MsgM.d ⟨k, dg, vi, tg, ba, he, ce, bl, q⟩))).toArray⟩) := by
    show _ = _
    rw [HE.out, if_pos rfl, HM.out]
  have hfm : Hid (∀ c ∈ fieldsK k, FieldM ⟨k, dg, vi, tg, ba, he, ce, bl, q⟩ c) := HF.out rfl
  have hfl : Hid (∀ c ∈ fieldsK k, (fieldB (MsgM.d ⟨k, dg, vi, tg, ba, he, ce, bl, q⟩) c).length ≤ 1100000) := HL.out rfl
  clear HE HF HL HM
  have st0 := BldSt.new hX2 hB2
  obtain ⟨bb, hbb⟩ : ∃ n, w2.heap.size = n := ⟨_, rfl⟩
  rw [hbb] at st0
  obtain ⟨w3, hw3⟩ : ∃ q', w2.alloc (.cells #[.pointer none, .slice none 0 0] 99) = q' := ⟨_, rfl⟩
  rw [hw3] at st0
  clear hX2 hB2
  obtain ⟨ib, hib⟩ : ∃ l : List UInt8, l = goInt k := ⟨_, rfl⟩
  have cI : ∀ w1, Calls Tryz.prog 38 #[.int .i64 k] w1 fun e w' => e = .returned (.string ⟨ib.toArray⟩) ∧ Below w1.heap.size w1 w' := fun w1 => by
    rw [hib]
    exact int_any k w1
  have hil : ib.length ≤ 9 := by rw [hib]; exact goInt_length k
  have Hib : Hid (ib ≠ []) := by
    show _ ≠ _
    rw [hib]
    have hk := kind_cases (HN.out rfl)
    obtain ⟨n, rfl⟩ := Int.eq_ofNat_of_zero_le (show 0 ≤ k by omega)
    exact goInt_ne n (by omega)
  rw [← hib] at ho
  clear hib
  have c0 := st0.box.cell (i := 0) rfl
  go_wp2_with fail
  refine (cI _).mono ?_
  rintro e w4 ⟨rfl, hb4⟩
  have st1 := st0.call hb4
  clear st0 hb4 c0 cI hw3 hbb
  go_wp2_with fail
  refine (st1.write ib (by simp; omega)).mono ?_
  rintro e w5 ⟨rfl, st2⟩
  clear st1
  rw [List.nil_append] at st2
  have c0 := st2.box.cell (i := 0) rfl
  have cL := letters_any k
  have hkl : (fieldsS k).data.toList = fieldsK k := rfl
  obtain ⟨own, hown⟩ : ∃ o, o = fieldsS k := ⟨_, rfl⟩
  rw [← hown] at cL hkl
  have HO : Hid (own = fieldsS k) := hown
  clear hown
  go_wp2_with fail
  refine (cL _).mono ?_
  rintro e w6 ⟨rfl, hw6⟩
  rw [← hw6] at st2
  clear hw6 c0 cL
  have st3 : BldSt w w.heap.size bb 39 [.int .i64 k, .string dg, .int .i64 vi, .int .i64 tg.who, .string tg.mac, .int .i64 ba.author, .int .i64 ba.number, .slice ba.ta ba.txs.length ba.tc, .int .i64 he.author, .int .i64 he.round, .slice he.ra he.refs.length he.rc, .slice he.pa he.parents.length he.pc, .int .i64 ce.hdr.author, .int .i64 ce.hdr.round, .slice ce.hdr.ra ce.hdr.refs.length ce.hdr.rc, .slice ce.hdr.pa ce.hdr.parents.length ce.hdr.pc, .slice ce.va ce.votes.length ce.vc, .int .i64 bl.view, .int .i64 bl.qc.view, .string bl.qc.block, .slice bl.qc.va bl.qc.votes.length bl.qc.vc, .slice bl.ca bl.certs.length bl.cc, .int .i64 q.view, .string q.block, .slice q.va q.votes.length q.vc] (w6.alloc (.stringIter own 0)) ib := st2.call (belowNew w6 (.stringIter own 0))
  have hIt : (w6.alloc (.stringIter own 0)).heap[w6.heap.size]? = some (.stringIter own 0) := World.iter_heap w6 own 0
  obtain ⟨B, hBd⟩ : ∃ B, w6.heap.size = B := ⟨_, rfl⟩
  rw [hBd] at hIt
  have hWB : w.heap.size ≤ B := by rw [← hBd]; exact st2.bel.size
  have hos : own.size = (fieldsK k).length := by rw [← hkl]; rfl
  clear st2
  go_wp2
  go_loopw [7] (fun v7 wr => ∃ i : Nat, i ≤ own.size ∧ wr.heap[B]? = some (.stringIter own i) ∧ BldSt w w.heap.size bb 39 [.int .i64 k, .string dg, .int .i64 vi, .int .i64 tg.who, .string tg.mac, .int .i64 ba.author, .int .i64 ba.number, .slice ba.ta ba.txs.length ba.tc, .int .i64 he.author, .int .i64 he.round, .slice he.ra he.refs.length he.rc, .slice he.pa he.parents.length he.pc, .int .i64 ce.hdr.author, .int .i64 ce.hdr.round, .slice ce.hdr.ra ce.hdr.refs.length ce.hdr.rc, .slice ce.hdr.pa ce.hdr.parents.length ce.hdr.pc, .slice ce.va ce.votes.length ce.vc, .int .i64 bl.view, .int .i64 bl.qc.view, .string bl.qc.block, .slice bl.qc.va bl.qc.votes.length bl.qc.vc, .slice bl.ca bl.certs.length bl.cc, .int .i64 q.view, .string q.block, .slice q.va q.votes.length q.vc] wr (ib ++ ((fieldsK k).take i).flatMap (fieldB (MsgM.d ⟨k, dg, vi, tg, ba, he, ce, bl, q⟩)))) (fun _ wr => own.size - wr.iterPos B)
  case atStart => exact ⟨0, Nat.zero_le _, hIt, by rw [List.take_zero, List.flatMap_nil, List.append_nil]; exact st3⟩
  case round =>
    clear st3 hIt
    obtain ⟨j, hj8, hit, st⟩ := hrel
    by_cases hj : j < own.size
    · have hjl : j < (fieldsK k).length := by omega
      have hel : own[j] = (fieldsK k)[j] := by
        have hown := HO.out
        subst hown
        rfl
      have hin : own[j] ∈ fieldsK k := by rw [hel]; exact List.getElem_mem hjl
      have hmem : own[j] ∈ letters := (fieldsK_letters k).2 _ hin
      have hasc : (own[j]).toNat < 128 := by
        have : ∀ c ∈ letters, c.toNat < 128 := by decide
        exact this _ hmem
      have hnx : ∀ ty, (Instr.next (.pointer (some ⟨B, 0, none⟩)) true ty).run Tryz.prog wr = _ := fun ty => Lib.run_next_ascii_at wr B own j ty hit hj hasc
      have hit2 := Lib.iterAt_heap wr B own j (j + 1) hit
      have st1 := st.iter hit hWB (j + 1)
      have HM : Hid (own.size - (j + 1) < own.size - World.iterPos wr B) := by
        show _ < _
        simp only [World.iterPos, hit]
        omega
      have hlen : ((fieldsK k).take j).length ≤ 3 := by
        have := fieldsK_len k
        rw [List.length_take]
        omega
      have hfl1 := flat_le9 ((fieldsK k).take j) (fun c hc => hfl.out c (List.mem_of_mem_take hc))
      have hfl2 : 1100000 * ((fieldsK k).take j).length ≤ 1100000 * 3 := Nat.mul_le_mul_left _ hlen
      have hfl3 := hfl.out own[j] hin
      have hfl4 : Hid ((ib ++ ((fieldsK k).take j).flatMap (fieldB (MsgM.d ⟨k, dg, vi, tg, ba, he, ce, bl, q⟩))).length + (fieldB (MsgM.d ⟨k, dg, vi, tg, ba, he, ce, bl, q⟩) own[j]).length ≤ 140737488355328) := by
        show _ ≤ _
        rw [List.length_append]
        omega
      have hNx : Hid ((ib ++ ((fieldsK k).take j).flatMap (fieldB (MsgM.d ⟨k, dg, vi, tg, ba, he, ce, bl, q⟩))) ++ fieldB (MsgM.d ⟨k, dg, vi, tg, ba, he, ce, bl, q⟩) own[j] = ib ++ ((fieldsK k).take (j + 1)).flatMap (fieldB (MsgM.d ⟨k, dg, vi, tg, ba, he, ce, bl, q⟩))) := by
        show _ = _
        rw [List.take_succ_eq_append_getElem hjl, List.flatMap_append, List.append_assoc, hel]
        simp
      have cE1 := fun w1 h1 => cE own[j] hmem w1 h1 (hfm.out own[j] hin)
      obtain ⟨c, hcd⟩ : ∃ c, c = own[j] := ⟨_, rfl⟩
      rw [← hcd] at hnx cE1 hfl4 hNx
      obtain ⟨fb, hfb⟩ : ∃ l, l = fieldB (MsgM.d ⟨k, dg, vi, tg, ba, he, ce, bl, q⟩) c := ⟨_, rfl⟩
      rw [← hfb] at cE1 hfl4 hNx
      obtain ⟨pre, hpre⟩ : ∃ l, l = ib ++ ((fieldsK k).take j).flatMap (fieldB (MsgM.d ⟨k, dg, vi, tg, ba, he, ce, bl, q⟩)) := ⟨_, rfl⟩
      rw [← hpre] at hfl4 hNx st1
      clear hasc hit hel hcd hfb hpre hfl1 hfl2 hfl3 hlen hin hmem st
      obtain ⟨w3, hw3⟩ : ∃ q', wr.iterAt B own (j + 1) = q' := ⟨_, rfl⟩
      rw [hw3] at hit2 st1 hnx
      have hlt3 : B < w3.heap.size := (Array.getElem?_eq_some_iff.1 hit2).1
      have hAt : MsgM.At w3 ⟨k, dg, vi, tg, ba, he, ce, bl, q⟩ := HA.out.below st1.bel
      have hXr := st1.box
      clear hw3
      go_wp2_with (refine wpList_load_row (by rfl) 39 _ (by rfl) w.heap.size (by rfl) 39 _ (0, 0) _ hXr Tryz.underlying39 (by rfl) infoMsg9 ?_)
      refine (cE1 _ hAt).mono ?_
      rintro e w5 ⟨rfl, hb5⟩
      have st2 := st1.call hb5
      have hit5 : w5.heap[B]? = some (.stringIter own (j + 1)) := by rw [hb5.block _ hlt3]; exact hit2
      have hlt5 : B < w5.heap.size := (Array.getElem?_eq_some_iff.1 hit5).1
      have hoff := builder_off st2.bld hit5
      clear cE1 hb5 hit2 hnx hAt st1 hXr
      go_wp2_with fail
      refine (st2.writeF fb hfl4.out).mono ?_
      rintro e w7 ⟨rfl, st3, hz7, hk7⟩
      have hit7 : w7.heap[B]? = some (.stringIter own (j + 1)) := by rw [hk7 B hlt5 hoff]; exact hit5
      rw [hNx.out] at st3
      clear st2 hz7 hk7 hit5 hoff
      go_wp2
      go_roundw
      case rel => exact ⟨j + 1, by omega, hit7, st3⟩
      case measure =>
        have := HM.out
        simp only [World.iterPos, hit7] at this ⊢
        omega
    · have hnx : ∀ ty, (Instr.next (.pointer (some ⟨B, 0, none⟩)) true ty).run Tryz.prog wr = _ := fun ty => Lib.run_next_end_at wr B own j ty hit hj
      rw [List.take_of_length_le (by omega)] at st
      obtain ⟨fin, hfin⟩ : ∃ l, l = ib ++ (fieldsK k).flatMap (fieldB (MsgM.d ⟨k, dg, vi, tg, ba, he, ce, bl, q⟩)) := ⟨_, rfl⟩
      rw [← hfin] at st ho
      have hne : fin ≠ [] := by
        rw [hfin]
        intro e
        exact Hib.out (List.append_eq_nil_iff.1 e).1
      have cS := st.read hne
      clear hfin hne st
      go_wp2_with fail
      refine cS.mono ?_
      rintro e w7 ⟨rfl, hb7⟩
      clear cS hnx
      go_wp2
      go_ret2
      exact ⟨by rw [ho.out]; rfl, hb7⟩
end Go.Proofs.YtaoiejgbbmjpkaaGreatDoor

/- What msg.Words does: the words of all tags in a message; nothing old in memory is turned. (Laid by gen_msgwords.py.) -/
namespace Go.Proofs.YtaoiejgbbmjpkaaGreatDoor
open Go.RowKit
set_option linter.unusedVariables false

/-- The words of the tags in a field. -/
def fieldWords (m : MsgD) (c : UInt8) : List WordD :=
  if c = 116 then ownWords m else if c = 104 then refWords m.header.refs else if c = 99 then refWords m.cert.header.refs ++ ofWord voteB (idH9 m.cert.header) m.cert.votes
  else if c = 107 then qcWords m.block.qc else if c = 113 then qcWords m.qc else []

/-- The words of all tags in a message. -/
def wordsM (m : MsgD) : List WordD := if chkM m = 0 then (fieldsK m.kind).flatMap (fieldWords m) else []

/-- A right message's parts are not too great for their words. -/
structure WordsFit (x : MsgM) : Prop where
  len : ∀ c ∈ fieldsK x.kind, (fieldWords x.d c).length ≤ 100000000
  refs : x.hdr.refs.length ≤ 1000000000
  crefs : x.cert.hdr.refs.length ≤ 1000000000
  dig : 100 ∈ fieldsK x.kind → x.digest.size ≤ 140737488351232
  cert : 99 ∈ fieldsK x.kind → x.cert.hdr.Fit ∧ (encH x.cert.hdr.d).length ≤ 140737488351232
  blk : 107 ∈ fieldsK x.kind → x.blk.Enc ∧ (encK x.blk.d).length ≤ 140737488351232 ∧ x.blk.qc.block.size ≤ 140737488351232
  qc : 113 ∈ fieldsK x.kind → x.qc.Enc ∧ (encQ x.qc.d).length ≤ 140737488351232 ∧ x.qc.block.size ≤ 140737488351232

theorem Kept.iterAt (w : World) (k : Nat) (s : ByteArray) (pos : Nat) : Kept (fun j => j = k) w (w.iterAt k s pos) :=
  ⟨rfl, rfl, rfl, Nat.le_of_eq (Lib.iterAt_size w k s pos).symm, fun j _ hn => Lib.iterAt_other w k j s pos hn⟩

theorem WAt.iter {w : World} {p B : Nat} {l : List WordD} (h : WAt w p B l) {k : Nat} (hk : k < B) (hp : k ≠ p) (s : ByteArray) (pos : Nat) : WAt (w.iterAt k s pos) p B l := by
  obtain ⟨h1, h2, q, hX, hQ⟩ := h
  have kk := Kept.iterAt w k s pos
  exact ⟨h1, Nat.le_trans h2 kk.size, q, hX.kept kk (fun e => hp e.symm), hQ.kept kk (fun j hj e => by have := (hQ.lt j hj).1; have e' : j = k := e; omega) (fun _ _ _ h => h.elim)⟩

theorem own_any9 (p B : Nat) (l : List WordD) (x : MsgM) (w : World) (h : WAt w p B l) (hn : l.length + 1 ≤ 1000000000) (hA : ∀ w1, Kept (WS p B) w w1 → x.At w1) (hF : WordsFit x) (ht : 116 ∈ fieldsK x.kind) (hG : Mx.Glob w) :
    Calls Tryz.prog 14 #[.pointer (some ⟨p, 0, none⟩), x.v] w fun e w' => e = .returned (.tuple #[]) ∧ WAt w' p B (l ++ ownWords x.d) ∧ Kept (WS p B) w w' := by
  obtain ⟨k, dg, vi, tg, ba, he, ce, bl, q⟩ := x
  have hk := kind_cases (k := k) (fun e => by rw [show (MsgM.mk k dg vi tg ba he ce bl q).kind = k from rfl, e] at ht; cases ht)
  have hk : k = 1 ∨ k = 2 ∨ k = 3 ∨ k = 4 ∨ k = 5 ∨ k = 6 ∨ k = 7 ∨ k = 8 ∨ k = 9 ∨ k = 10 ∨ k = 11 := by omega
  rcases hk with rfl | rfl | rfl | rfl | rfl | rfl | rfl | rfl | rfl | rfl | rfl
  · exact absurd ht (by show ¬ 116 ∈ fieldsK 1; decide)
  · exact wown2_any p B l dg vi tg ba he ce bl q w h hn
  · exact absurd ht (by show ¬ 116 ∈ fieldsK 3; decide)
  · exact wown4_any p B l dg vi tg ba he ce bl q w h hn
  · exact absurd ht (by show ¬ 116 ∈ fieldsK 5; decide)
  · have hb := hF.blk (by show 107 ∈ fieldsK 6; decide)
    exact wown6_any p B l dg vi tg ba he ce bl q w h hn (fun w1 h1 => (hA w1 h1).blk) hb.1 hb.2.1 hG
  · exact wown7_any p B l dg vi tg ba he ce bl q w h hn (hF.dig (by show 100 ∈ fieldsK 7; decide))
  · have hb := hF.qc (by show 113 ∈ fieldsK 8; decide)
    exact wown8_any p B l dg vi tg ba he ce bl q w h hn (fun w1 h1 => (hA w1 h1).qc) hb.1 hb.2.1
  · exact absurd ht (by show ¬ 116 ∈ fieldsK 9; decide)
  · exact absurd ht (by show ¬ 116 ∈ fieldsK 10; decide)
  · exact absurd ht (by show ¬ 116 ∈ fieldsK 11; decide)

theorem flat_leW {f : UInt8 → List WordD} {n : Nat} : ∀ (cs : List UInt8), (∀ c ∈ cs, (f c).length ≤ n) → (cs.flatMap f).length ≤ n * cs.length
  | [], _ => by simp
  | c :: cs, h => by
    have ih := flat_leW cs (fun x hx => h x (by simp [hx]))
    have h1 := h c (by simp)
    rw [List.flatMap_cons, List.length_append, List.length_cons, Nat.mul_add, Nat.mul_one]
    omega

theorem own_len (x : MsgM) (ht : 116 ∈ fieldsK x.kind) : (ownWords x.d).length = 1 := by
  obtain ⟨k, dg, vi, tg, ba, he, ce, bl, q⟩ := x
  have hk := kind_cases (k := k) (fun e => by rw [show (MsgM.mk k dg vi tg ba he ce bl q).kind = k from rfl, e] at ht; cases ht)
  rcases hk with rfl | rfl | rfl | rfl | rfl | rfl | rfl | rfl | rfl | rfl | rfl <;> first | rfl | exact absurd ht (by simp [fieldsK])

set_option maxRecDepth 100000 in
set_option maxHeartbeats 4000000 in
theorem msgWords_any (x : MsgM) (w : World) (hA : x.At w) (hn : x.Num) (hF : chkM x.d = 0 → WordsFit x) (hG : Mx.Glob w) :
    Calls Tryz.prog 6 #[x.v] w fun e w' => ∃ ao cap, e = .returned (.slice ao (wordsM x.d).length cap) ∧ RowAt wordK w' ao (wordsM x.d) ∧ Below w.heap.size w w' := by
  obtain ⟨k, dg, vi, tg, ba, he, ce, bl, q⟩ := x
  have hX := Arr.new w 39 [.int .i64 k, .string dg, .int .i64 vi, .int .i64 tg.who, .string tg.mac, .int .i64 ba.author, .int .i64 ba.number, .slice ba.ta ba.txs.length ba.tc, .int .i64 he.author, .int .i64 he.round, .slice he.ra he.refs.length he.rc, .slice he.pa he.parents.length he.pc, .int .i64 ce.hdr.author, .int .i64 ce.hdr.round, .slice ce.hdr.ra ce.hdr.refs.length ce.hdr.rc, .slice ce.hdr.pa ce.hdr.parents.length ce.hdr.pc, .slice ce.va ce.votes.length ce.vc, .int .i64 bl.view, .int .i64 bl.qc.view, .string bl.qc.block, .slice bl.qc.va bl.qc.votes.length bl.qc.vc, .slice bl.ca bl.certs.length bl.cc, .int .i64 q.view, .string q.block, .slice q.va q.votes.length q.vc]
  have hB := belowNew w (.cells [.int .i64 k, .string dg, .int .i64 vi, .int .i64 tg.who, .string tg.mac, .int .i64 ba.author, .int .i64 ba.number, .slice ba.ta ba.txs.length ba.tc, .int .i64 he.author, .int .i64 he.round, .slice he.ra he.refs.length he.rc, .slice he.pa he.parents.length he.pc, .int .i64 ce.hdr.author, .int .i64 ce.hdr.round, .slice ce.hdr.ra ce.hdr.refs.length ce.hdr.rc, .slice ce.hdr.pa ce.hdr.parents.length ce.hdr.pc, .slice ce.va ce.votes.length ce.vc, .int .i64 bl.view, .int .i64 bl.qc.view, .string bl.qc.block, .slice bl.qc.va bl.qc.votes.length bl.qc.vc, .slice bl.ca bl.certs.length bl.cc, .int .i64 q.view, .string q.block, .slice q.va q.votes.length q.vc].toArray 39)
  have cC := fun w1 h1 => msgCheck_any ⟨k, dg, vi, tg, ba, he, ce, bl, q⟩ w1 h1 hn
  obtain ⟨er, her⟩ : ∃ n : Nat, n = chkM (MsgM.d ⟨k, dg, vi, tg, ba, he, ce, bl, q⟩) := ⟨_, rfl⟩
  have HW : Hid (wordsM (MsgM.d ⟨k, dg, vi, tg, ba, he, ce, bl, q⟩) = if er = 0 then (fieldsK k).flatMap (fieldWords (MsgM.d ⟨k, dg, vi, tg, ba, he, ce, bl, q⟩)) else []) := by
    show _ = _
    rw [her]
    rfl
  rw [← her] at cC hF
  obtain ⟨ws, hws⟩ : ∃ l, l = wordsM (MsgM.d ⟨k, dg, vi, tg, ba, he, ce, bl, q⟩) := ⟨_, rfl⟩
  rw [← hws] at HW ⊢
  have HF : Hid (er = 0 → WordsFit ⟨k, dg, vi, tg, ba, he, ce, bl, q⟩) := hF
  have HA : Hid (MsgM.At w ⟨k, dg, vi, tg, ba, he, ce, bl, q⟩) := hA
  have HG : Hid (Mx.Glob w) := hG
  unfold MsgM.v MsgM.c at cC ⊢
  simp only at cC ⊢
  obtain ⟨w1, hw1⟩ : ∃ q', w.alloc (.cells [.int .i64 k, .string dg, .int .i64 vi, .int .i64 tg.who, .string tg.mac, .int .i64 ba.author, .int .i64 ba.number, .slice ba.ta ba.txs.length ba.tc, .int .i64 he.author, .int .i64 he.round, .slice he.ra he.refs.length he.rc, .slice he.pa he.parents.length he.pc, .int .i64 ce.hdr.author, .int .i64 ce.hdr.round, .slice ce.hdr.ra ce.hdr.refs.length ce.hdr.rc, .slice ce.hdr.pa ce.hdr.parents.length ce.hdr.pc, .slice ce.va ce.votes.length ce.vc, .int .i64 bl.view, .int .i64 bl.qc.view, .string bl.qc.block, .slice bl.qc.va bl.qc.votes.length bl.qc.vc, .slice bl.ca bl.certs.length bl.cc, .int .i64 q.view, .string q.block, .slice q.va q.votes.length q.vc].toArray 39) = q' := ⟨_, rfl⟩
  rw [hw1] at hX hB
  have cC1 := cC w1 (hA.below hB)
  clear her hws hA cC hn hF hG
  go_enter Tryz.func6, Tryz.ntmps6
  go_wp2_with (refine wpList_load_row (by rfl) 39 _ (by rfl) w.heap.size (by rfl) 39 _ (0, 0) _ hX Tryz.underlying39 (by rfl) infoMsg9 ?_)
  refine cC1.mono ?_
  rintro e w2 ⟨rfl, hb2⟩
  have hX2 := hX.below hb2 hX.lt
  have hB2 := hB.trans (hb2.mono hB.size)
  clear hX hB hb2 cC1 hw1
  by_cases hz : er = 0
  case neg =>
    have ho : Hid (ws = []) := by
      show _ = _
      rw [HW.out, if_neg hz]
    have hz' : ((er : Int) != 0) = true := by rw [bne_iff_ne]; omega
    clear HW HF hz hX2
    go_wp2
    go_ret
    exact ⟨none, 0, by rw [ho.out]; rfl, by rw [ho.out]; exact nil_row _ _, hB2⟩
  subst hz
  have HO2 : Hid (ws = (fieldsK k).flatMap (fieldWords (MsgM.d ⟨k, dg, vi, tg, ba, he, ce, bl, q⟩))) := by
    show _ = _
    rw [HW.out, if_pos rfl]
  have hFit : Hid (WordsFit ⟨k, dg, vi, tg, ba, he, ce, bl, q⟩) := HF.out rfl
  clear HW HF
  obtain ⟨p, hp⟩ : ∃ n, w2.heap.size = n := ⟨_, rfl⟩
  have hgp : w.heap.size < p := by rw [← hp]; exact hX2.lt
  have hbP := belowNew w2 (.cells #[.slice none 0 0] 57)
  have hP := Arr.new w2 57 [.slice none 0 0]
  have hX3 := hX2.below hbP hX2.lt
  rw [hp] at hbP hP
  have hs3 : (w2.alloc (.cells #[.slice none 0 0] 57)).heap.size = p + 1 := by rw [alloc_size, hp]
  obtain ⟨w3, hw3⟩ : ∃ q', w2.alloc (.cells #[.slice none 0 0] 57) = q' := ⟨_, rfl⟩
  rw [hw3] at hbP hP hX3 hs3
  have x0 := hX3.cell (i := 0) rfl
  have cL := letters_any k
  have hkl : (fieldsS k).data.toList = fieldsK k := rfl
  obtain ⟨own, hown⟩ : ∃ o, o = fieldsS k := ⟨_, rfl⟩
  rw [← hown] at cL hkl
  have HO : Hid (own = fieldsS k) := hown
  clear hown
  go_wp2_with fail
  refine (cL _).mono ?_
  rintro e w6 ⟨rfl, hw6⟩
  rw [← hw6] at hbP hP hX3 hs3
  clear hw6 cL x0 hw3
  have hIt : (w6.alloc (.stringIter own 0)).heap[w6.heap.size]? = some (.stringIter own 0) := World.iter_heap w6 own 0
  have hs7 : (w6.alloc (.stringIter own 0)).heap.size = p + 2 := by rw [alloc_size, hs3]
  have hbI := belowNew w6 (.stringIter own 0)
  have hPI := hP.below hbI hP.lt
  have hb7 : Below p w2 (w6.alloc (.stringIter own 0)) := hbP.trans (hbI.mono (by omega))
  rw [hs3] at hIt
  have hW0 : WAt (w6.alloc (.stringIter own 0)) p (p + 2) [] := ⟨by omega, by omega, _, hPI, KQ.empty _ _ _ _⟩
  have hos : own.size = (fieldsK k).length := by rw [← hkl]; rfl
  have hX2p : ∀ wr, Below p w2 wr → Arr wr w.heap.size 39 [.int .i64 k, .string dg, .int .i64 vi, .int .i64 tg.who, .string tg.mac, .int .i64 ba.author, .int .i64 ba.number, .slice ba.ta ba.txs.length ba.tc, .int .i64 he.author, .int .i64 he.round, .slice he.ra he.refs.length he.rc, .slice he.pa he.parents.length he.pc, .int .i64 ce.hdr.author, .int .i64 ce.hdr.round, .slice ce.hdr.ra ce.hdr.refs.length ce.hdr.rc, .slice ce.hdr.pa ce.hdr.parents.length ce.hdr.pc, .slice ce.va ce.votes.length ce.vc, .int .i64 bl.view, .int .i64 bl.qc.view, .string bl.qc.block, .slice bl.qc.va bl.qc.votes.length bl.qc.vc, .slice bl.ca bl.certs.length bl.cc, .int .i64 q.view, .string q.block, .slice q.va q.votes.length q.vc] := fun wr hb => hX2.below hb hgp
  have hAp : Hid (∀ wr, Below p w2 wr → MsgM.At wr ⟨k, dg, vi, tg, ba, he, ce, bl, q⟩) := fun wr hb => (HA.out.below hB2).below (by rw [hp]; exact hb)
  have hGp : Hid (∀ wr, Below p w2 wr → Mx.Glob wr) := fun wr hb => (HG.out.below hB2).below (by rw [hp]; exact hb)
  clear hX3 hP hbP hbI hPI hX2
  go_wp2
  go_loopw [5] (fun v5 wr => ∃ j : Nat, j ≤ own.size ∧ wr.heap[p + 1]? = some (.stringIter own j) ∧ WAt wr p (p + 2) (((fieldsK k).take j).flatMap (fieldWords (MsgM.d ⟨k, dg, vi, tg, ba, he, ce, bl, q⟩))) ∧ Below p w2 wr) (fun _ wr => own.size - wr.iterPos (p + 1))
  case atStart => exact ⟨0, Nat.zero_le _, hIt, by rw [List.take_zero, List.flatMap_nil]; exact hW0, hb7⟩
  case round =>
    clear hW0 hIt hb7
    obtain ⟨j, hj8, hit, hW, hb⟩ := hrel
    by_cases hj : j < own.size
    · have hjl : j < (fieldsK k).length := by omega
      have hel : own[j] = (fieldsK k)[j] := by
        have hown := HO.out
        subst hown
        rfl
      have hin : own[j] ∈ fieldsK k := by rw [hel]; exact List.getElem_mem hjl
      have hmem : own[j] ∈ letters := (fieldsK_letters k).2 _ hin
      have hasc : (own[j]).toNat < 128 := by
        have : ∀ c ∈ letters, c.toNat < 128 := by decide
        exact this _ hmem
      have hnx : ∀ ty, (Instr.next (.pointer (some ⟨p + 1, 0, none⟩)) true ty).run Tryz.prog wr = _ := fun ty => Lib.run_next_ascii_at wr (p + 1) own j ty hit hj hasc
      have hit2 := Lib.iterAt_heap wr (p + 1) own j (j + 1) hit
      have hW1 := hW.iter (k := p + 1) (by omega) (by omega) own (j + 1)
      have hb1 := Lib.below_iterAt hb (k := p + 1) (by omega) own (j + 1)
      have HM : Hid (own.size - (j + 1) < own.size - World.iterPos wr (p + 1)) := by
        show _ < _
        simp only [World.iterPos, hit]
        omega
      have hlen : ((fieldsK k).take j).length ≤ 3 := by
        have := fieldsK_len k
        rw [List.length_take]
        omega
      have hfl1 := flat_leW ((fieldsK k).take j) (fun c hc => hFit.out.len c (List.mem_of_mem_take hc))
      have hfl2 : 100000000 * ((fieldsK k).take j).length ≤ 100000000 * 3 := Nat.mul_le_mul_left _ hlen
      have hfl3 : (fieldWords (MsgM.d ⟨k, dg, vi, tg, ba, he, ce, bl, q⟩) own[j]).length ≤ 100000000 := hFit.out.len own[j] hin
      have hNx : ((fieldsK k).take j).flatMap (fieldWords (MsgM.d ⟨k, dg, vi, tg, ba, he, ce, bl, q⟩)) ++ fieldWords (MsgM.d ⟨k, dg, vi, tg, ba, he, ce, bl, q⟩) own[j] = ((fieldsK k).take (j + 1)).flatMap (fieldWords (MsgM.d ⟨k, dg, vi, tg, ba, he, ce, bl, q⟩)) := by
        rw [List.take_succ_eq_append_getElem hjl, List.flatMap_append, hel]
        simp
      obtain ⟨c, hcd⟩ : ∃ c, c = own[j] := ⟨_, rfl⟩
      rw [← hcd] at hnx hNx hfl3 hmem hin
      obtain ⟨pre, hpre⟩ : ∃ l, l = ((fieldsK k).take j).flatMap (fieldWords (MsgM.d ⟨k, dg, vi, tg, ba, he, ce, bl, q⟩)) := ⟨_, rfl⟩
      rw [← hpre] at hNx hW1 hfl1
      have Hln : Hid (pre.length + (fieldWords (MsgM.d ⟨k, dg, vi, tg, ba, he, ce, bl, q⟩) c).length ≤ 1000000000) := by show _ ≤ _; omega
      have HNx : Hid (((fieldsK k).take (j + 1)).flatMap (fieldWords (MsgM.d ⟨k, dg, vi, tg, ba, he, ce, bl, q⟩)) = pre ++ fieldWords (MsgM.d ⟨k, dg, vi, tg, ba, he, ce, bl, q⟩) c) := hNx.symm
      have Hin : Hid (c ∈ fieldsK k) := hin
      clear hasc hit hel hcd hpre hfl1 hfl2 hfl3 hlen hin hW hNx hb
      obtain ⟨w3, hw3⟩ : ∃ q', wr.iterAt (p + 1) own (j + 1) = q' := ⟨_, rfl⟩
      rw [hw3] at hit2 hW1 hnx hb1
      have hlt3 : p + 1 < w3.heap.size := (Array.getElem?_eq_some_iff.1 hit2).1
      have hKb : Hid (∀ wx, Kept (WS p (p + 2)) w3 wx → Below p w2 wx) := fun wx hk => hb1.trans (hk.below (by omega) (fun i hi => by rcases hi with rfl | h <;> omega))
      have hKi : Hid (∀ wx, Kept (WS p (p + 2)) w3 wx → wx.heap[p + 1]? = some (.stringIter own (j + 1))) := fun wx hk => by
        rw [hk.block (p + 1) hlt3 (fun h => by rcases h with h | h <;> omega)]
        exact hit2
      have hAt : Hid (∀ wx, Kept (WS p (p + 2)) w3 wx → MsgM.At wx ⟨k, dg, vi, tg, ba, he, ce, bl, q⟩) := fun wx hk => hAp.out _ (hKb.out wx hk)
      have hXr := hX2p _ hb1
      have HW1 : Hid (WAt w3 p (p + 2) pre) := hW1
      have HXp : Hid (∀ wr, Below p w2 wr → Arr wr w.heap.size 39 [.int .i64 k, .string dg, .int .i64 vi, .int .i64 tg.who, .string tg.mac, .int .i64 ba.author, .int .i64 ba.number, .slice ba.ta ba.txs.length ba.tc, .int .i64 he.author, .int .i64 he.round, .slice he.ra he.refs.length he.rc, .slice he.pa he.parents.length he.pc, .int .i64 ce.hdr.author, .int .i64 ce.hdr.round, .slice ce.hdr.ra ce.hdr.refs.length ce.hdr.rc, .slice ce.hdr.pa ce.hdr.parents.length ce.hdr.pc, .slice ce.va ce.votes.length ce.vc, .int .i64 bl.view, .int .i64 bl.qc.view, .string bl.qc.block, .slice bl.qc.va bl.qc.votes.length bl.qc.vc, .slice bl.ca bl.certs.length bl.cc, .int .i64 q.view, .string q.block, .slice q.va q.votes.length q.vc]) := hX2p
      clear hw3 hit2 hW1 hX2p
      simp only [letters, List.mem_cons, List.not_mem_nil, or_false] at hmem
      rcases hmem with rfl | rfl | rfl | rfl | rfl | rfl | rfl | rfl
      · go_wp2
        go_roundw
        case rel => exact ⟨j + 1, by omega, hKi.out _ (Kept.refl _ _), by rw [HNx.out]; exact (List.append_nil pre).symm ▸ HW1.out, hb1⟩
        case measure =>
          have := HM.out
          simp only [World.iterPos, hKi.out _ (Kept.refl _ _)] at this ⊢
          omega
      · have cO := own_any9 p (p + 2) pre ⟨k, dg, vi, tg, ba, he, ce, bl, q⟩ w3 HW1.out (by have := Hln.out; have e := own_len ⟨k, dg, vi, tg, ba, he, ce, bl, q⟩ Hin.out; rw [show (fieldWords (MsgM.d ⟨k, dg, vi, tg, ba, he, ce, bl, q⟩) 116) = ownWords (MsgM.d ⟨k, dg, vi, tg, ba, he, ce, bl, q⟩) from rfl, e] at this; exact this) hAt.out hFit.out Hin.out (hGp.out _ hb1)
        unfold MsgM.v MsgM.c at cO
        simp only at cO
        go_wp2_with (refine wpList_load_row (by rfl) 39 _ (by rfl) w.heap.size (by rfl) 39 _ (0, 0) _ hXr Tryz.underlying39 (by rfl) infoMsg9 ?_)
        refine cO.mono ?_
        rintro e w5 ⟨rfl, hW5, hk5⟩
        clear cO hXr hnx
        go_wp2
        go_roundw
        case rel => exact ⟨j + 1, by omega, hKi.out _ hk5, by rw [HNx.out]; exact hW5, hKb.out _ hk5⟩
        case measure =>
          have := HM.out
          simp only [World.iterPos, hKi.out _ hk5] at this ⊢
          omega
      · go_wp2
        go_roundw
        case rel => exact ⟨j + 1, by omega, hKi.out _ (Kept.refl _ _), by rw [HNx.out]; exact (List.append_nil pre).symm ▸ HW1.out, hb1⟩
        case measure =>
          have := HM.out
          simp only [World.iterPos, hKi.out _ (Kept.refl _ _)] at this ⊢
          omega
      · go_wp2
        go_roundw
        case rel => exact ⟨j + 1, by omega, hKi.out _ (Kept.refl _ _), by rw [HNx.out]; exact (List.append_nil pre).symm ▸ HW1.out, hb1⟩
        case measure =>
          have := HM.out
          simp only [World.iterPos, hKi.out _ (Kept.refl _ _)] at this ⊢
          omega
      · have cO := wordsHeader_any p (p + 2) pre he w3 HW1.out (fun wx hk => (hAt.out wx hk).hdr) Hln.out hFit.out.refs
        unfold HdrM.v at cO
        have x8 := hXr.cell (i := 8) rfl
        have x9 := hXr.cell (i := 9) rfl
        have x10 := hXr.cell (i := 10) rfl
        have x11 := hXr.cell (i := 11) rfl
        go_wp2_with (fail)
        refine cO.mono ?_
        rintro e w5 ⟨rfl, hW5, hk5⟩
        clear cO hXr hnx
        go_wp2
        go_roundw
        case rel => exact ⟨j + 1, by omega, hKi.out _ hk5, by rw [HNx.out]; exact hW5, hKb.out _ hk5⟩
        case measure =>
          have := HM.out
          simp only [World.iterPos, hKi.out _ hk5] at this ⊢
          omega
      · have hlc : pre.length + ((refWords (rd ce.hdr.refs)).length + ce.votes.length) ≤ 1000000000 := by
          have := Hln.out
          rw [show (fieldWords (MsgM.d ⟨k, dg, vi, tg, ba, he, ce, bl, q⟩) 99) = refWords (rd ce.hdr.refs) ++ ofWord voteB (idH9 ce.hdr.d) ce.votes from rfl, List.length_append, ofWord_length] at this
          exact this
        have cO := wordsHeader_any p (p + 2) pre ce.hdr w3 HW1.out (fun wx hk => (hAt.out wx hk).cert.hdr) (by omega) hFit.out.crefs
        unfold HdrM.v at cO
        have x12 := hXr.cell (i := 12) rfl
        have x13 := hXr.cell (i := 13) rfl
        have x14 := hXr.cell (i := 14) rfl
        have x15 := hXr.cell (i := 15) rfl
        go_wp2_with fail
        refine cO.mono ?_
        rintro e w5 ⟨rfl, hW5, hk5⟩
        have hX5 := HXp.out _ (hKb.out _ hk5)
        obtain ⟨wd, hwd⟩ : ∃ z, z = idH9 ce.hdr.d := ⟨_, rfl⟩
        have cI : Hid (∀ w6, Below w5.heap.size w5 w6 → Calls Tryz.prog 17 #[ce.hdr.v] w6 fun e w7 => e = .returned (.string wd) ∧ Below w6.heap.size w6 w7) := fun w6 h6 => by
          rw [hwd]
          have hk6 := hk5.trans (Kept.of_below h6)
          exact hdrId_any ce.hdr w6 (hAt.out _ hk6).cert.hdr (hFit.out.cert Hin.out).1 (hFit.out.cert Hin.out).2 (hGp.out _ (hKb.out _ hk6))
        have cA : Hid (∀ w6, Below w5.heap.size w5 w6 → Calls Tryz.prog 16 #[.pointer (some ⟨p, 0, none⟩), .string ⟨#[118, 111, 116, 101]⟩, .string wd, .slice ce.va ce.votes.length ce.vc] w6 fun e w7 => e = .returned (.tuple #[]) ∧ WAt w7 p (p + 2) (pre ++ fieldWords (MsgM.d ⟨k, dg, vi, tg, ba, he, ce, bl, q⟩) 99) ∧ Kept (WS p (p + 2)) w3 w7) := fun w6 h6 => by
          have hk6 := hk5.trans (Kept.of_below h6)
          refine (wordsAdd_any p (p + 2) (pre ++ refWords (rd ce.hdr.refs)) voteB wd ce.va ce.vc ce.votes w6 (hW5.below h6) (hAt.out _ hk6).cert.votes (fun _ w7 h7 => (hAt.out _ (hk6.trans h7)).cert.votes) (by rw [List.length_append]; omega)).mono ?_
          rintro e w7 ⟨rfl, hw, hk⟩
          refine ⟨rfl, ?_, hk6.trans hk⟩
          rw [show (fieldWords (MsgM.d ⟨k, dg, vi, tg, ba, he, ce, bl, q⟩) 99) = refWords (rd ce.hdr.refs) ++ ofWord voteB (idH9 ce.hdr.d) ce.votes from rfl, ← hwd, ← List.append_assoc]
          exact hw
        unfold HdrM.v at cI
        have z12 := hX5.cell (i := 12) rfl
        have z13 := hX5.cell (i := 13) rfl
        have z14 := hX5.cell (i := 14) rfl
        have z15 := hX5.cell (i := 15) rfl
        have z16 := hX5.cell (i := 16) rfl
        clear hwd cO hW5 hXr x12 x13 x14 x15 hlc hnx
        go_wp2_with fail
        go_region_law (first
          | (go_simp; go_at_call 17; refine (cI.out _ ((Below.refl _ w5).drew)).mono ?_; rintro e w6 ⟨rfl, hb6⟩; have hb7 : Below w5.heap.size w5 w6 := ((Below.refl _ w5).drew).trans hb6; have hX6 := hX5.below hb7 hX5.lt; have u12 := hX6.cell (i := 12) rfl; have u13 := hX6.cell (i := 13) rfl; have u14 := hX6.cell (i := 14) rfl; have u15 := hX6.cell (i := 15) rfl; have u16 := hX6.cell (i := 16) rfl)
          | (go_simp; go_at_call 16; refine (cA.out w6 hb7).mono ?_; rintro e w7 ⟨rfl, hW5, hk5⟩))
        all_goals
          clear cI cA hX5 hX6 z12 z13 z14 z15 z16
          go_wp2
          go_roundw
          case rel => exact ⟨j + 1, by omega, hKi.out _ hk5, by rw [HNx.out]; exact hW5, hKb.out _ hk5⟩
          case measure =>
            have := HM.out
            simp only [World.iterPos, hKi.out _ hk5] at this ⊢
            omega
      · have cO := wordsQc_any p (p + 2) pre bl.qc w3 HW1.out (fun wx hk => (hAt.out wx hk).blk.qc) (by have := Hln.out; rw [show (fieldWords (MsgM.d ⟨k, dg, vi, tg, ba, he, ce, bl, q⟩) 107) = qcWords bl.qc.d from rfl] at this; unfold qcWords at this; rw [ofWord_length] at this; exact this) (hFit.out.blk Hin.out).2.2
        unfold QcM.v at cO
        have x18 := hXr.cell (i := 18) rfl
        have x19 := hXr.cell (i := 19) rfl
        have x20 := hXr.cell (i := 20) rfl
        go_wp2_with (fail)
        refine cO.mono ?_
        rintro e w5 ⟨rfl, hW5, hk5⟩
        clear cO hXr hnx
        go_wp2
        go_roundw
        case rel => exact ⟨j + 1, by omega, hKi.out _ hk5, by rw [HNx.out]; exact hW5, hKb.out _ hk5⟩
        case measure =>
          have := HM.out
          simp only [World.iterPos, hKi.out _ hk5] at this ⊢
          omega
      · have cO := wordsQc_any p (p + 2) pre q w3 HW1.out (fun wx hk => (hAt.out wx hk).qc) (by have := Hln.out; rw [show (fieldWords (MsgM.d ⟨k, dg, vi, tg, ba, he, ce, bl, q⟩) 113) = qcWords q.d from rfl] at this; unfold qcWords at this; rw [ofWord_length] at this; exact this) (hFit.out.qc Hin.out).2.2
        unfold QcM.v at cO
        have x22 := hXr.cell (i := 22) rfl
        have x23 := hXr.cell (i := 23) rfl
        have x24 := hXr.cell (i := 24) rfl
        go_wp2_with (fail)
        refine cO.mono ?_
        rintro e w5 ⟨rfl, hW5, hk5⟩
        clear cO hXr hnx
        go_wp2
        go_roundw
        case rel => exact ⟨j + 1, by omega, hKi.out _ hk5, by rw [HNx.out]; exact hW5, hKb.out _ hk5⟩
        case measure =>
          have := HM.out
          simp only [World.iterPos, hKi.out _ hk5] at this ⊢
          omega
    · have hnx : ∀ ty, (Instr.next (.pointer (some ⟨p + 1, 0, none⟩)) true ty).run Tryz.prog wr = _ := fun ty => Lib.run_next_end_at wr (p + 1) own j ty hit hj
      rw [List.take_of_length_le (by omega), ← HO2.out] at hW
      obtain ⟨_, _, qv, hPq, hQ⟩ := hW
      obtain ⟨ao9, cap9, rfl, hn9, hRow⟩ := hQ.form
      have c0 := hPq.cell (i := 0) rfl
      have hbF : Below w.heap.size w wr := hB2.trans (hb.mono (by omega))
      clear hPq hQ hb
      go_wp2
      go_ret
      exact ⟨ao9, cap9, rfl, hRow, hbF⟩
end Go.Proofs.YtaoiejgbbmjpkaaGreatDoor

/- A right message's words: they are few, and how many there are. -/
namespace Go.Proofs.YtaoiejgbbmjpkaaGreatDoor
open Go.RowKit
set_option linter.unusedVariables false

theorem refWords_few : ∀ (l : List RefD), (∀ r ∈ l, tagsOk r.acks) → (refWords l).length ≤ 7 * l.length
  | [], _ => by simp [refWords]
  | r :: l, h => by
    have ih := refWords_few l (fun x hx => h x (by simp [hx]))
    have h1 := (h r (by simp)).2
    have e : refWords (r :: l) = ofWord ackB r.digest r.acks ++ refWords l := rfl
    rw [e, List.length_append, ofWord_length, List.length_cons]
    omega

theorem hdr_few {h : HdrD} (hp : h.Plain) : (refWords h.refs).length ≤ 28 := by
  have h1 := refWords_few h.refs (fun r hr => (hp.2.2 r hr).2)
  have h2 := hp.1.2.2.2.1
  omega

theorem kind1_only {k : Int} (h : 98 ∈ fieldsK k) : k = 1 := by
  have hk := kind_cases (k := k) (fun e => by rw [e] at h; cases h)
  rcases hk with rfl | rfl | rfl | rfl | rfl | rfl | rfl | rfl | rfl | rfl | rfl <;> first | rfl | exact absurd h (by simp [fieldsK])

/-- A right message's headers have few Refs. -/
theorem right_refs {m : MsgD} (h : chkM m = 0) : m.header.refs.length ≤ 4 ∧ m.cert.header.refs.length ≤ 4 := by
  obtain ⟨hne, hb, h98, hok⟩ := chkM_parts h
  by_cases h9 : 98 ∈ fieldsK m.kind
  · have hk := kind1_only h9
    obtain ⟨_, _, _, _, b4, b5, _, _⟩ := hb
    rw [hk] at b4 b5
    have n4 : m.header.Nil := b4.resolve_left (by decide)
    have n5 : m.cert.Nil := b5.resolve_left (by decide)
    have := n4.2.2.1
    have := n5.1.2.2.1
    omega
  · exact ⟨(hok h9).hdr.1.2.2.2.1, (hok h9).cert.1.1.2.2.2.1⟩

theorem words_fit (x : MsgM) (h : chkM x.d = 0) : WordsFit x := by
  obtain ⟨hne, hb, h98, hok⟩ := chkM_parts h
  have ok : ∀ c, c ∈ fieldsK x.kind → c ≠ 98 → x.d.Ok := fun c hc hn => hok (batch_alone hc hn)
  have hr := right_refs h
  have e1 : x.d.header.refs.length = x.hdr.refs.length := rd_length _
  have e2 : x.d.cert.header.refs.length = x.cert.hdr.refs.length := rd_length _
  refine ⟨fun c hc => ?_, by omega, by omega, fun hc => ?_, fun hc => ?_, fun hc => ?_, fun hc => ?_⟩
  · have hcl := (fieldsK_letters x.kind).2 c hc
    simp only [letters, List.mem_cons, List.not_mem_nil, or_false] at hcl
    rcases hcl with rfl | rfl | rfl | rfl | rfl | rfl | rfl | rfl
    · exact Nat.zero_le _
    · show (ownWords x.d).length ≤ _
      rw [own_len x hc]
      omega
    · exact Nat.zero_le _
    · exact Nat.zero_le _
    · have := hdr_few (ok _ hc (by decide)).hdr
      show (refWords x.d.header.refs).length ≤ _
      omega
    · have hp := (ok _ hc (by decide)).cert
      have := hdr_few hp.1
      have h2 := hp.2.2
      show (refWords x.d.cert.header.refs ++ ofWord voteB (idH9 x.d.cert.header) x.d.cert.votes).length ≤ _
      rw [List.length_append, ofWord_length]
      omega
    · have hp := (ok _ hc (by decide)).blk hc
      have h2 := hp.2.1.2.2.2
      show (ofWord agreeB _ x.d.block.qc.votes).length ≤ _
      rw [ofWord_length]
      omega
    · have hp := (ok _ hc (by decide)).qc hc
      have h2 := hp.2.2.2
      show (ofWord agreeB _ x.d.qc.votes).length ≤ _
      rw [ofWord_length]
      omega
  · have : x.digest.size = 32 := (ok _ hc (by decide)).dig hc
    omega
  · have hp := (ok _ hc (by decide)).cert
    have h1 := encH_fit (hdr_plain_fit hp.1)
    have e : (encH x.cert.hdr.d).length = (encH x.d.cert.header).length := rfl
    exact ⟨(right_field h 99 hc : x.cert.Fit).1, by omega⟩
  · have hp := (ok _ hc (by decide)).blk hc
    have h1 := right_len h 107 hc
    have h2 : (encK x.blk.d).length ≤ (fieldB x.d 107).length := by
      show _ ≤ (txt (encK x.blk.d)).length
      unfold txt
      rw [List.length_append]
      omega
    have h3 : x.blk.qc.block.size = 32 := hp.2.1.2.1
    exact ⟨right_field h 107 hc, by omega, by omega⟩
  · have hp := (ok _ hc (by decide)).qc hc
    have h1 := encQ_right (qc_plain_fit hp) hp.2.1
    have h3 : x.qc.block.size = 32 := hp.2.1
    have e : (encQ x.qc.d).length = (encQ x.d.qc).length := rfl
    exact ⟨right_field h 113 hc, by omega, by omega⟩

/-- How many tags stand in a message. -/
def tagsIn (m : MsgD) : Nat := m.cert.votes.length + m.block.qc.votes.length + m.qc.votes.length + (m.header.refs.map (·.acks.length)).sum + (m.cert.header.refs.map (·.acks.length)).sum + (if m.tag.mac.size = 0 then 0 else 1)

theorem refWords_sum : ∀ (l : List RefD), (refWords l).length = (l.map (·.acks.length)).sum
  | [] => rfl
  | r :: l => by
    have e : refWords (r :: l) = ofWord ackB r.digest r.acks ++ refWords l := rfl
    rw [e, List.length_append, ofWord_length, refWords_sum l, List.map_cons, List.sum_cons]

theorem words_count (m : MsgD) (h : chkM m = 0) : (wordsM m).length = tagsIn m := by
  obtain ⟨hne, hb, h98, hok⟩ := chkM_parts h
  have ok : ∀ c, c ∈ fieldsK m.kind → c ≠ 98 → m.Ok := fun c hc hn => hok (batch_alone hc hn)
  obtain ⟨k, dg, vi, tg, ba, he, ce, bl, q⟩ := m
  have hk := kind_cases (k := k) hne
  unfold wordsM
  rw [if_pos h]
  obtain ⟨_, _, bt, _, bh, bc, bk, bq⟩ := hb
  simp only at bt bh bc bk bq
  unfold tagsIn
  simp only [← refWords_sum]
  obtain ⟨n, hn⟩ : ∃ n, n = if tg.mac.size = 0 then 0 else 1 := ⟨_, rfl⟩
  rw [← hn]
  have T : 116 ∈ fieldsK k → n = 1 := fun hc => by
    have h2 : tg.mac.size = 16 := ((ok 116 hc (by decide)).tag hc).2.2
    rw [hn, if_neg (by omega)]
  have nt : tg.Nil → n = 0 := fun h2 => by rw [hn, if_pos h2.2]
  have nh : he.Nil → (refWords he.refs).length = 0 := fun n => by rw [List.eq_nil_of_length_eq_zero n.2.2.1]; rfl
  have nc : ce.Nil → (refWords ce.header.refs).length = 0 ∧ ce.votes.length = 0 := fun n => ⟨by rw [List.eq_nil_of_length_eq_zero n.1.2.2.1]; rfl, n.2⟩
  have nk : bl.Nil → bl.qc.votes.length = 0 := fun n => n.2.1.2.2
  have nq : q.Nil → q.votes.length = 0 := fun n => n.2.2
  replace bt : 116 ∈ fieldsK k ∨ n = 0 := bt.imp id nt
  replace bh : 104 ∈ fieldsK k ∨ (refWords he.refs).length = 0 := bh.imp id nh
  replace bc : 99 ∈ fieldsK k ∨ (refWords ce.header.refs).length = 0 ∧ ce.votes.length = 0 := bc.imp id nc
  replace bk : 107 ∈ fieldsK k ∨ bl.qc.votes.length = 0 := bk.imp id nk
  replace bq : 113 ∈ fieldsK k ∨ q.votes.length = 0 := bq.imp id nq
  clear nh nc nk nq nt hn ok h h98 hok hne
  generalize hA : (refWords he.refs).length = A at *
  generalize hB : (refWords ce.header.refs).length = B at *
  generalize hC : ce.votes.length = C at *
  generalize hD : bl.qc.votes.length = D at *
  generalize hE : q.votes.length = E at *
  rcases hk with rfl | rfl | rfl | rfl | rfl | rfl | rfl | rfl | rfl | rfl | rfl <;>
    simp [fieldsK] at bt bh bc bk bq T <;>
    simp [fieldsK, fieldWords, ownWords, qcWords, ofWord_length, hA, hB, hC, hD, hE] <;> omega
end Go.Proofs.YtaoiejgbbmjpkaaGreatDoor
