/- Texts as one: RefDagAdd, RefDagAll, DagTwo, OpRows, HdrPlain. -/
import Derived.Test.YtmjkbdgcnoenbaaGreatDoorDd18
import Derived.Test.YtmjkbdgcnoenbaaGreatDoorDd10
import Derived.Test.YtmjkbdgcnoenbaaGreatDoorDd17
import Derived.Test.YtmjkbdgcnoenbaaGreatDoorDd02
import Derived.Deep.QuietTactic
import Derived.BigQuiet
/- What the document's Add does. -/
namespace Go.Proofs.YtmjkbdgcnoenbaaGreatDoor
open Go Go.RowKit Go.Sort
set_option linter.unusedVariables false

theorem KQ.joinedF {α : Type} {K : Kind α} {T : TypeId} {w : World} {B : Nat} {ao : Option Addr} {N cap : Nat} {LT LD lo : List α} {x : α} (hA : ∀ x ∈ lo, K.At w x) (hF : ∀ x ∈ lo, ∀ b, K.foot x b → b < B) (h : w.ownsRow B T K.n (.slice ao N cap) N ([] ++ flatK K LT ++ flatK K [x] ++ flatK K LD)) (hl : lo = LT ++ x :: LD) (hN : N = lo.length) : KQ K T w B (.slice ao N cap) lo := by
 have e : [] ++ flatK K LT ++ flatK K [x] ++ flatK K LD = flatK K lo := by
  rw [hl, List.nil_append, ← flatK_append, ← flatK_append, List.append_assoc]
  rfl
 rw [e] at h
 subst hN
 refine ⟨QRow.of_own h, hA, fun x hx b hb e => by have := (h.lt b e).1; have := hF x hx b hb; omega, fun k hk => ⟨(h.lt k hk).1, (h.lt k hk).2⟩, ?_⟩
 intro n c he
 rcases h.2 with ⟨hv, _⟩ | ⟨g, c', cur, hv, _⟩
 ·rw [hv] at he
  simp at he
  omega
 ·rw [hv] at he
  cases he

theorem rowOne14 (w : World) (x : RowM) (hA : x.c.At w) : RowAt rowK (w.alloc (.cells #[.string x.id, .int .i64 x.c.hdr.author, .int .i64 x.c.hdr.round, .slice x.c.hdr.ra x.c.hdr.refs.length x.c.hdr.rc, .slice x.c.hdr.pa x.c.hdr.parents.length x.c.hdr.pc, .slice x.c.va x.c.votes.length x.c.vc] 124)) (some ⟨w.heap.size, 0, none⟩) [x] :=
 rowOne (K := rowK) (by rw [alloc_size]; omega) (fun j u hu => (Arr.new w 124 (rowK.c x)).cell hu) (hA.below (belowNew w _))

def rowAtM (rs : List RowM) (id : ByteArray) : Nat := (rs.takeWhile (fun y => Op.bytesLess y.id.toList id.toList)).length

theorem rowAtM_le (l : List RowM) (id : ByteArray) : rowAtM l id ≤ l.length := by
 unfold rowAtM
 exact (List.takeWhile_sublist _).length_le

theorem rowAtM_step {l : List RowM} {id : ByteArray} {i : Nat} {x : RowM} (hx : l[i]? = some x) (hi : i ≤ rowAtM l id) : i < rowAtM l id ↔ Op.bytesLess x.id.toList id.toList = true := takeWhile_stop l i x hx hi

theorem rowAtM_d (rs : List RowM) (id : ByteArray) : rowAtC (rs.map RowM.d) id = rowAtM rs id := by
 unfold rowAtC rowAtM
 rw [List.takeWhile_map, List.length_map]
 rfl

def insM (rs : List RowM) (x : RowM) : List RowM := rs.take (rowAtM rs x.id) ++ x :: rs.drop (rowAtM rs x.id)

theorem insM_d (rs : List RowM) (x : RowM) : (insM rs x).map RowM.d = insC (rs.map RowM.d) x.d := by
 unfold insM insC
 rw [List.map_append, List.map_cons, List.map_take, List.map_drop]
 show _ = List.take (rowAtC (rs.map RowM.d) x.id) _ ++ _ :: List.drop (rowAtC (rs.map RowM.d) x.id) _
 rw [rowAtM_d]

theorem sameM_succ {rs : List RowM} {i : Nat} {x : RowM} (hx : rs[i]? = some x) (h : HdrD) : sameP ((rs.map RowM.d).take (i + 1)) h = (sameP ((rs.map RowM.d).take i) h || (x.c.hdr.author == h.author && x.c.hdr.round == h.round)) := by
 unfold sameP
 rw [List.take_add_one, List.getElem?_map, hx, List.any_append]
 simp
 rfl

structure RAst (w : World) (c : CertM) (hb : Nat) (wx : World) : Prop where
 X : Arr wx w.heap.size 48 c.c
 H : Arr wx hb 33 c.hdr.c
 b : Below w.heap.size w wx

theorem RAst.below {w : World} {c : CertM} {hb : Nat} {wx wy : World} (h : RAst w c hb wx) (hbl : Below wx.heap.size wx wy) : RAst w c hb wy :=
 ⟨h.X.below hbl h.X.lt, h.H.below hbl h.H.lt, h.b.trans (hbl.mono h.b.size)⟩

def GotAdd14 (W : World) (ks : List ByteArray) (f : Nat) (c : CertM) (gb : Nat) (ql qv : Value) (rt : Nat) (me : Int) (rs : List RowM) (vs : List VoteD) (low own : Int) (e : Ending) (w : World) : Prop :=
 ∃ AE, AE = addE (chkC ks f c.d) (3 * f + 1) ⟨rs.map RowM.d, vs, low, own⟩ c.hdr.d (idB c.hdr.d) ∧ e = .returned (.int .i64 (AE : Int)) ∧ ∃ ql', RDg w gb ql' qv rt me (if AE = 0 then insM rs ⟨idB c.hdr.d, c⟩ else rs) vs low own ∧ (∀ k, GFoot gb ql' qv k → GFoot gb ql qv k ∨ W.heap.size ≤ k) ∧ Kept (GFoot gb ql qv) W w

set_option maxRecDepth 100000 in
set_option maxHeartbeats 8000000 in
theorem refAdd14_any (f : Nat) (ks : List ByteArray) (c : CertM) (gb : Nat) (ql qv : Value) (rt : Nat) (me : Int) (rs : List RowM) (vs : List VoteD) (low own : Int) (w : World) (h : RDg w gb ql qv rt me rs vs low own) (hT : TEnv w rt f ks) (hA : c.At w) (hfit : c.hdr.Fit) (hlen : (encH c.hdr.d).length ≤ 1073741824) (hvl : c.votes.length ≤ 1000) (hx : ∀ b, c.foot b → ¬ GFoot gb ql qv b) (hrl : rs.length < 1000) :
  Calls Tryz.prog 21 #[.pointer (some ⟨gb, 0, none⟩), c.v] w fun e w' => GotAdd14 w ks f c gb ql qv rt me rs vs low own e w' := by
 have hx' := hx
 obtain ⟨CK, hCK⟩ : ∃ z, Hid (chkC ks f c.d = z) := ⟨_, rfl⟩
 obtain ⟨IV, hIV⟩ : ∃ z, Hid (idB c.hdr.d = z) := ⟨_, rfl⟩
 obtain ⟨PE, hPE⟩ : ∃ z, Hid (parE ⟨rs.map RowM.d, vs, low, own⟩ c.hdr.d = z) := ⟨_, rfl⟩
 obtain ⟨SB, hSB⟩ : ∃ z, Hid (sameP (rs.map RowM.d) c.hdr.d = z) := ⟨_, rfl⟩
 obtain ⟨N, hN⟩ : ∃ z, Hid (3 * f + 1 = z) := ⟨_, rfl⟩
 have hN7 : N ≤ 7 := by have := hN.out; have := hT.f2; omega
 obtain ⟨gm, hgm⟩ : ∃ z, Hid (gotM rs IV = z) := ⟨_, rfl⟩
 obtain ⟨AE, hAE⟩ : ∃ z, Hid (addE (chkC ks f c.d) (3 * f + 1) ⟨rs.map RowM.d, vs, low, own⟩ c.hdr.d (idB c.hdr.d) = z) := ⟨_, rfl⟩
 have hAE2 : Hid (AE = if CK ≠ 0 then CK else if c.hdr.round < low then 11 else if gm.isSome = true then 13 else if PE ≠ 0 then PE else if SB = true then 15 else if 32 * N ≤ rs.length then 4 else 0) := by
  show AE = _
  rw [← hAE.out]
  unfold addE
  rw [hCK.out, hIV.out, hPE.out]
  simp only [hSB.out, hN.out, gotM_some, hgm.out, List.length_map]
  rfl
 have hfin : Hid (∀ (e : Ending) (w' : World) (ql' : Value), e = .returned (.int .i64 (AE : Int)) → RDg w' gb ql' qv rt me (if AE = 0 then insM rs ⟨IV, c⟩ else rs) vs low own → (∀ k, GFoot gb ql' qv k → GFoot gb ql qv k ∨ w.heap.size ≤ k) → Kept (GFoot gb ql qv) w w' → GotAdd14 w ks f c gb ql qv rt me rs vs low own e w') := fun e w' ql' h1 h2 h3 h4 =>
  ⟨AE, hAE.out.symm, h1, ql', by rw [hIV.out]; exact h2, h3, h4⟩
 generalize GotAdd14 w ks f c gb ql qv rt me rs vs low own = GOT at hfin ⊢
 have hno : Hid (∀ (w' : World), AE ≠ 0 → Below w.heap.size w w' → GOT (.returned (.int .i64 (AE : Int))) w') := fun w' h1 h2 => hfin.out _ w' ql rfl (by rw [if_neg h1]; exact h.below h2) (fun k hk => Or.inl hk) (Kept.of_below h2)
 clear hAE
 have hX := Arr.new w 48 c.c
 have hB := belowNew w (.cells c.c.toArray 48)
 unfold CertM.c at hX hB
 unfold CertM.v
 go_enter Tryz.func21, Tryz.ntmps21
 go_upto_region 1 with fail
 obtain ⟨w2, hw2⟩ : ∃ z, w.alloc (.cells #[.int .i64 c.hdr.author, .int .i64 c.hdr.round, .slice c.hdr.ra c.hdr.refs.length c.hdr.rc, .slice c.hdr.pa c.hdr.parents.length c.hdr.pc, .slice c.va c.votes.length c.vc] 48) = z := ⟨_, rfl⟩
 have hX : Arr (w.alloc (.cells #[.int .i64 c.hdr.author, .int .i64 c.hdr.round, .slice c.hdr.ra c.hdr.refs.length c.hdr.rc, .slice c.hdr.pa c.hdr.parents.length c.hdr.pc, .slice c.va c.votes.length c.vc] 48)) w.heap.size 48 [.int .i64 c.hdr.author, .int .i64 c.hdr.round, .slice c.hdr.ra c.hdr.refs.length c.hdr.rc, .slice c.hdr.pa c.hdr.parents.length c.hdr.pc, .slice c.va c.votes.length c.vc] := hX
 have hB : Below w.heap.size w (w.alloc (.cells #[.int .i64 c.hdr.author, .int .i64 c.hdr.round, .slice c.hdr.ra c.hdr.refs.length c.hdr.rc, .slice c.hdr.pa c.hdr.parents.length c.hdr.pc, .slice c.va c.votes.length c.vc] 48)) := hB
 rw [hw2] at hX hB ⊢
 clear hw2
 have bl := fun d os => below_regrown w2 d os
 have hAx := hA.below hB
 have k1 : ∀ d os, Calls Tryz.prog 61 #[.pointer (some ⟨rt, 0, none⟩), .agg #[.int .i64 c.hdr.author, .int .i64 c.hdr.round, .slice c.hdr.ra c.hdr.refs.length c.hdr.rc, .slice c.hdr.pa c.hdr.parents.length c.hdr.pc, .slice c.va c.votes.length c.vc]] (grow (redrawn w2 d) os) fun e w'' => e = .returned (.int .i64 (CK : Int)) ∧ ∃ p : Regrown, w'' = grow (redrawn w2 p.d) p.os := fun d os => Calls.regrown_of (by
  have hR := (hT.below hB).below (bl d os)
  have h1 := refCertCheck_any rt f ks c _ hR.T hR.f2 hR.kl hR.k32 (hAx.below (bl d os)) (fun r hr => by have := hfit.acks r hr; unfold maxLen; omega) (by have := hfit.p; unfold maxLen; omega) (by unfold maxLen; omega) hfit hlen hR.G
  rw [hCK.out] at h1
  exact h1)
 have h2 := h.below hB
 have p0 := cell_regrown (h2.box.cell (i := 0) rfl)
 have A0 := cell_regrown (hX.cell (i := 0) rfl)
 have A1 := cell_regrown (hX.cell (i := 1) rfl)
 have A2 := cell_regrown (hX.cell (i := 2) rfl)
 have A3 := cell_regrown (hX.cell (i := 3) rfl)
 have A4 := cell_regrown (hX.cell (i := 4) rfl)
 refine wp_region_quiet_below (by kernel_rfl) (by kernel_rfl) ?_
 iterate 5 (go_big_quiet_step (fail))
 go_big_quiet_step (exact k1 _ _)
 iterate 1 (go_big_quiet_step (fail))
 refine wpQuiet_nil ?_
 rintro w' ⟨p, rfl⟩
 have hX3 := hX.below (bl p.d p.os) hX.lt
 have hB3 := hB.trans ((bl p.d p.os).mono hB.size)
 generalize grow (redrawn w2 p.d) p.os = w3 at hX3 hB3 ⊢
 clear k1 p0 A0 A1 A2 A3 A4 bl hAx hX hB h2
 by_cases hc0 : CK = 0
 ·subst hc0
  have hAE3 : Hid (AE = if c.hdr.round < low then 11 else if gm.isSome = true then 13 else if PE ≠ 0 then PE else if SB = true then 15 else if 32 * N ≤ rs.length then 4 else 0) := by show AE = _; rw [hAE2.out, if_neg (by simp)]
  have hck := (chkC_hdr hCK.out).1
  have hrg := chkH_range hck
  have hrg1 : 1 ≤ c.hdr.round := hrg.2.2.1
  have hrg2 : c.hdr.round ≤ 4611686018427387903 := hrg.2.2.2
  have hpl : c.hdr.parents.length ≤ 3 * f + 1 := chkH_par hck
  clear hck hrg hAE2
  have x0 := hX3.cell (i := 0) rfl
  have x1 := hX3.cell (i := 1) rfl
  have x2 := hX3.cell (i := 2) rfl
  have x3 := hX3.cell (i := 3) rfl
  have hbn := belowNew w3 (.cells #[.int .i64 c.hdr.author, .int .i64 c.hdr.round, .slice c.hdr.ra c.hdr.refs.length c.hdr.rc, .slice c.hdr.pa c.hdr.parents.length c.hdr.pc] 33)
  have hH4 := Arr.new w3 33 [.int .i64 c.hdr.author, .int .i64 c.hdr.round, .slice c.hdr.ra c.hdr.refs.length c.hdr.rc, .slice c.hdr.pa c.hdr.parents.length c.hdr.pc]
  have hS4 : RAst w c w3.heap.size (w3.alloc (.cells #[.int .i64 c.hdr.author, .int .i64 c.hdr.round, .slice c.hdr.ra c.hdr.refs.length c.hdr.rc, .slice c.hdr.pa c.hdr.parents.length c.hdr.pc] 33)) := ⟨hX3.below hbn hX3.lt, hH4, hB3.trans (hbn.mono hB3.size)⟩
  go_upto_region 5 with fail
  obtain ⟨hb, hhb⟩ : ∃ z, Hid (w3.heap.size = z) := ⟨_, rfl⟩
  have hbx : Hid (w.heap.size < hb) := by show _ < _; rw [← hhb.out]; exact hX3.lt
  obtain ⟨w4, hw4⟩ : ∃ z, w3.alloc (.cells #[.int .i64 c.hdr.author, .int .i64 c.hdr.round, .slice c.hdr.ra c.hdr.refs.length c.hdr.rc, .slice c.hdr.pa c.hdr.parents.length c.hdr.pc] 33) = z := ⟨_, rfl⟩
  rw [hw4] at hS4 ⊢
  rw [hhb.out] at hS4 ⊢
  clear hw4 x0 x1 x2 x3 hbn hH4 hX3 hB3
  have cI := refHdrId_any c.hdr w4 (hA.below hS4.b).hdr hfit hlen
  have hid' : Mx.bytes (Mx.sumL (encH c.hdr.d)) = IV := hIV.out
  rw [hid'] at cI
  unfold HdrM.v at cI
  clear hid'
  have x0 := hS4.H.cell (i := 0) rfl
  have x1 := hS4.H.cell (i := 1) rfl
  have x2 := hS4.H.cell (i := 2) rfl
  have x3 := hS4.H.cell (i := 3) rfl
  go_wp2_with fail
  refine cI.mono ?_
  rintro e w5 ⟨rfl, hb5⟩
  have hS5 := hS4.below hb5
  clear cI x0 x1 x2 x3 hS4 hb5
  have cG := refGet14_any IV gb ql qv rt me rs vs low own w5 (h.below hS5.b)
  rw [hgm.out] at cG
  obtain ⟨cm, hcm⟩ : ∃ z, Hid (certM gm = z) := ⟨_, rfl⟩
  rw [hcm.out] at cG
  obtain ⟨gs, hgs⟩ : ∃ z, Hid (gm.isSome = z) := ⟨_, rfl⟩
  rw [hgs.out] at cG hAE3
  unfold CertM.v at cG
  go_wp2_with fail
  refine cG.mono ?_
  rintro e w6 ⟨rfl, hb6⟩
  have hbc := belowNew w6 (.cells #[.int .i64 cm.hdr.author, .int .i64 cm.hdr.round, .slice cm.hdr.ra cm.hdr.refs.length cm.hdr.rc, .slice cm.hdr.pa cm.hdr.parents.length cm.hdr.pc, .slice cm.va cm.votes.length cm.vc] 48)
  have hS7 := (hS5.below hb6).below hbc
  clear cG hS5 hb6 hbc
  go_upto_region 7 with fail
  obtain ⟨w7, hw7⟩ : ∃ z, w6.alloc (.cells #[.int .i64 cm.hdr.author, .int .i64 cm.hdr.round, .slice cm.hdr.ra cm.hdr.refs.length cm.hdr.rc, .slice cm.hdr.pa cm.hdr.parents.length cm.hdr.pc, .slice cm.va cm.votes.length cm.vc] 48) = z := ⟨_, rfl⟩
  rw [hw7] at hS7 ⊢
  clear hw7
  have x1 := hS7.H.cell (i := 1) rfl
  have c4 := (h.below hS7.b).box.cell (i := 4) rfl
  by_cases hlo : c.hdr.round < low
  ·have hV : Hid (AE = 11) := by show AE = 11; rw [hAE3.out, if_pos hlo]
   go_quiet (fail)
   have hF := hno.out _ (by rw [hV.out]; decide) (hS7.below (below_drewN (Below.refl _ w7) nq)).b
   rw [hV.out] at hF
   clear x1 c4 hno hfin hAE3
   go_wp2
   exact hF
  have hAE4 : Hid (AE = if gs = true then 13 else if PE ≠ 0 then PE else if SB = true then 15 else if 32 * N ≤ rs.length then 4 else 0) := by show AE = _; rw [hAE3.out, if_neg hlo]
  clear hAE3
  go_quiet (fail)
  have hS8 := hS7.below (below_drewN (Below.refl _ w7) nq)
  generalize w7.drewN nq = w8 at hS8 ⊢
  clear x1 c4 hS7 hlo
  cases gs with
  | true =>
   have hV : Hid (AE = 13) := by show AE = 13; rw [hAE4.out, if_pos rfl]
   have hF := hno.out _ (by rw [hV.out]; decide) hS8.b
   rw [hV.out] at hF
   clear hno hfin hAE4
   go_wp2
   exact hF
  | false =>
  have hAE5 : Hid (AE = if PE ≠ 0 then PE else if SB = true then 15 else if 32 * N ≤ rs.length then 4 else 0) := by show AE = _; rw [hAE4.out, if_neg (by decide)]
  clear hAE4
  have hf2 := hT.f2
  have cP := refParents14_any c.hdr gb ql qv rt me rs vs low own w8 (h.below hS8.b) (hA.below hS8.b).hdr (by omega) hrg1 hrg2
  rw [hPE.out] at cP
  unfold HdrM.v at cP
  have x0 := hS8.H.cell (i := 0) rfl
  have x1 := hS8.H.cell (i := 1) rfl
  have x2 := hS8.H.cell (i := 2) rfl
  have x3 := hS8.H.cell (i := 3) rfl
  go_wp2_with fail
  refine cP.mono ?_
  rintro e w9 ⟨rfl, hb9⟩
  have hS9 := hS8.below hb9
  clear cP x0 x1 x2 x3 hS8 hb9
  by_cases hp0 : PE = 0
  ·subst hp0
   have hAE6 : Hid (AE = if SB = true then 15 else if 32 * N ≤ rs.length then 4 else 0) := by show AE = _; rw [hAE5.out, if_neg (by simp)]
   clear hAE5
   obtain ⟨ao, cap, hql, hnil, hRow0⟩ := h.row.form
   subst hql
   have hRow9 := hRow0.below hS9.b
   go_wp2_with fail
   go_loopw [10] (fun v10 wr => ∃ i : Nat, i ≤ rs.length ∧ v10 = .int .i64 (i : Int) ∧ Hid (sameP ((rs.map RowM.d).take i) c.hdr.d = false) ∧ Below w9.heap.size w9 wr) (fun v _ => rs.length - (intOf v).toNat)
   case atStart => exact ⟨0, Nat.zero_le _, rfl, (rfl : _ = _), Below.refl _ _⟩
   case round =>
    obtain ⟨i, hil, rfl, hsa, hbr⟩ := hrel
    have hSr := hS9.below hbr
    have hgr := h.below hSr.b
    have c2 := hgr.box.cell (i := 2) rfl
    by_cases hlt : i < rs.length
    ·have g1 : (i : Int) < (rs.length : Int) := by omega
     obtain ⟨x, hxi⟩ : ∃ x, rs[i]? = some x := ⟨_, List.getElem?_eq_getElem hlt⟩
     obtain ⟨b, off, hao, hbl, y0, y1, y2, y3, y4, y5⟩ := (hRow9.below hbr).rowc hxi
     subst hao
     have x0 := hSr.H.cell (i := 0) rfl
     have x1 := hSr.H.cell (i := 1) rfl
     have hsu := sameM_succ hxi c.hdr.d
     rw [hsa.out, Bool.false_or] at hsu
     have hxm := List.mem_of_getElem? hxi
     clear hxi hsa
     go_upto_region 17 with fail
     have hda : c.hdr.d.author = c.hdr.author := rfl
     have hdr : c.hdr.d.round = c.hdr.round := rfl
     rw [hda, hdr] at hsu
     clear hda hdr
     cases hea : (x.c.hdr.author == c.hdr.author) with
     | false =>
      rw [hea, Bool.false_and] at hsu
      have hsu' : Hid _ := hsu
      clear hsu
      go_quiet (fail)
      have hbN := hbr.trans ((below_drewN (Below.refl wr.heap.size wr) nq).mono hbr.size)
      clear y0 y1 y2 y3 y4 y5 x0 x1 c2 hSr hgr hbr
      go_wp2
      go_roundw
      case rel => exact ⟨i + 1, by omega, by go_num, hsu', hbN⟩
      case measure => simp [intOf]; omega
     | true =>
      cases her : (x.c.hdr.round == c.hdr.round) with
      | false =>
       rw [hea, her, Bool.and_false] at hsu
       have hsu' : Hid _ := hsu
       clear hsu
       go_quiet (fail)
       have hbN := hbr.trans ((below_drewN (Below.refl wr.heap.size wr) nq).mono hbr.size)
       clear y0 y1 y2 y3 y4 y5 x0 x1 c2 hSr hgr hbr
       go_wp2
       go_roundw
       case rel => exact ⟨i + 1, by omega, by go_num, hsu', hbN⟩
       case measure => simp [intOf]; omega
      | true =>
       have hV : Hid (AE = 15) := by
        show AE = 15
        rw [hAE6.out, if_pos]
        rw [← hSB.out]
        exact List.any_eq_true.2 ⟨x.d, List.mem_map_of_mem hxm, by show (x.c.hdr.author == c.hdr.author && x.c.hdr.round == c.hdr.round) = true; rw [hea, her]; rfl⟩
       clear hsu
       go_quiet (fail)
       have hF := hno.out _ (by rw [hV.out]; decide) (hSr.below (below_drewN (Below.refl _ wr) nq)).b
       rw [hV.out] at hF
       clear y0 y1 y2 y3 y4 y5 x0 x1 c2 hSr hgr hbr hno hfin hAE6
       go_wp2
       exact hF
    ·obtain rfl : i = rs.length := by omega
     have g1 : ¬ ((rs.length : Nat) : Int) < (rs.length : Int) := by omega
     have hAE7 : Hid (AE = if 32 * N ≤ rs.length then 4 else 0) := by
      show AE = _
      rw [hAE6.out, if_neg]
      have h1 := hsa.out
      rw [show rs.length = (rs.map RowM.d).length from (List.length_map _).symm, List.take_length, hSB.out] at h1
      rw [h1]
      decide
     clear hAE6 hsa
     have c0 := hgr.box.cell (i := 0) rfl
     have cN' := fun m => Mx.refN_any rt f ks (wr.drewN m) ((hT.below hSr.b).below (below_drewN (Below.refl _ wr) m)).T hT.f2
     rw [hN.out] at cN'
     have hwN : IntKind.i64.wrap (32 * (N : Int)) = 32 * (N : Int) := by rw [wrap_i64P]; exact Mx.wrap64_small _ (by omega) (by omega)
     go_upto_region 19 with fail
     by_cases hfu : 32 * N ≤ rs.length
     ·have hV : Hid (AE = 4) := by show AE = 4; rw [hAE7.out, if_pos hfu]
      have g2 : (32 * (N : Int)) ≤ (rs.length : Int) := by omega
      go_quiet (exact Calls.quiet_of_same (cN' _))
      have hF := hno.out _ (by rw [hV.out]; decide) (hSr.below (below_drewN (Below.refl _ wr) nq)).b
      rw [hV.out] at hF
      clear c0 c2 hSr hgr hbr hno hfin hAE7 cN'
      go_wp2
      exact hF
     ·have hV : Hid (AE = 0) := by show AE = 0; rw [hAE7.out, if_neg hfu]
      have g2 : ¬ (32 * (N : Int)) ≤ (rs.length : Int) := by omega
      go_quiet (exact Calls.quiet_of_same (cN' _))
      have hSq := hSr.below (below_drewN (Below.refl _ wr) nq)
      generalize wr.drewN nq = wq at hSq ⊢
      clear c0 c2 hSr hgr hbr hno hAE7 cN' hwN g2 hfu
      have hgq := h.below hSq.b
      have hRow := hRow0.below hSq.b
      have c2 := hgq.box.cell (i := 2) rfl
      obtain ⟨i0, z0, hi0, hz0, hz1, hz2, hz3⟩ := rowInfo14
      obtain ⟨lo, hlo⟩ : ∃ z, Hid (insM rs ⟨IV, c⟩ = z) := ⟨_, rfl⟩
      have hcf : ∀ b, c.foot b → b < w.heap.size := fun b hf => Kind.lt certK hA hf
      have hlm : ∀ x ∈ lo, x ∈ rs ∨ x = ⟨IV, c⟩ := fun x hx => by
       rw [← hlo.out] at hx
       unfold insM at hx
       rcases List.mem_append.1 hx with hx | hx
       ·exact Or.inl (List.mem_of_mem_take hx)
       ·rcases List.mem_cons.1 hx with rfl | hx
        ·exact Or.inr rfl
        ·exact Or.inl (List.mem_of_mem_drop hx)
      have hfl : ∀ x ∈ lo, ∀ b, rowK.foot x b → b < w.heap.size := fun x hx b hf => by
       rcases hlm x hx with e | rfl
       ·exact Kind.lt certK (h.row.at_ x e) hf
       ·exact hcf b hf
      have hal : ∀ U, Below w.heap.size w U → ∀ x ∈ lo, rowK.At U x := fun U hU x hx => by
       rcases hlm x hx with e | rfl
       ·exact rowK.below (h.row.at_ x e) hU
       ·exact hA.below hU
      have hol : ∀ x ∈ lo, ∀ b, x.c.foot b → b ≠ gb ∧ qv.ownBlock ≠ some b := fun x hx b hf => by
       rcases hlm x hx with e | rfl
       ·exact h.off x e b hf
       ·exact ⟨fun e => hx' b hf (Or.inl e), fun e => hx' b hf (Or.inr (Or.inr e))⟩
      have hfn := hfin.out
      rw [hV.out] at hfn
      simp only [if_true, hlo.out] at hfn
      have hfn' : Hid _ := hfn
      clear hfn hfin
      go_wp2_with fail
      go_loopw [11] (fun v11 wr => ∃ i : Nat, i ≤ rowAtM rs IV ∧ v11 = .int .i64 (i : Int) ∧ wr = wq) (fun v _ => rowAtM rs IV - (intOf v).toNat)
      case atStart => exact ⟨0, Nat.zero_le _, rfl, rfl⟩
      case round =>
       obtain ⟨i, hia, rfl, hwr⟩ := hrel
       have hpl' := rowAtM_le rs IV
       have hnT : Hid (ao = none → cap = 0) := hnil
       clear hnil
       rcases (by by_cases h : i < rs.length; exact Or.inl h; exact Or.inr h : i < rs.length ∨ ¬ i < rs.length) with hlt | hlt
       focus
        have g1 : (i : Int) < (rs.length : Int) := by omega
        obtain ⟨x, hxi⟩ : ∃ x, rs[i]? = some x := ⟨_, List.getElem?_eq_getElem hlt⟩
        have hst := rowAtM_step hxi hia
        obtain ⟨b, off, hao, hbl, y0, _⟩ := hRow.rowc hxi
        subst hwr
        clear hxi
        rcases Bool.eq_false_or_eq_true (Op.bytesLess x.id.toList IV.toList) with hls | hls
        ·have hlt2 := hst.2 hls
         subst hao
         go_wp2
         go_roundw
         case rel => exact ⟨i + 1, by omega, by go_num, trivial⟩
         case measure => simp [intOf]; omega
        have Hip : Hid (i = rowAtM rs IV) := by
         have : ¬ i < rowAtM rs IV := fun h => by rw [hst.1 h] at hls; cases hls
         show i = _
         omega
        subst hao
        have hlc : rs.length ≤ cap := by obtain ⟨_, _, _, _, _, _, h9⟩ := hgq.row.spot (by omega); exact h9
        clear hst hia
        have hci : (cap = i) = False := by simp; omega
        have hrD : ∀ U, Below wr.heap.size wr U → RowAt rowK U (some ⟨b, off + i * 6, none⟩) (rs.drop i) := fun U hb => (hRow.below hb).dropG i
        have hnD : Hid (some (⟨b, off + i * 6, none⟩ : Addr) = none → cap - i = 0) := fun h => by cases h
       rotate_left 1
       focus
        have g1 : ¬ (i : Int) < (rs.length : Int) := by omega
        have Hip : Hid (i = rowAtM rs IV) := by show i = _; omega
        subst hwr
        clear hia
        have hil2 : i = rs.length := by have := Hip.out; omega
        obtain (hl0 | ⟨ad, hao, hl0, hap⟩) : (rs = [] ∧ ao = none) ∨ ∃ ad, ao = some ad ∧ rs.length ≤ cap ∧ (cap = i ∨ ∃ b off, ad = ⟨b, off, none⟩) := by
         rcases (by cases rs with | nil => exact Or.inl rfl | cons z r => exact Or.inr (Nat.succ_pos _) : rs = [] ∨ 0 < rs.length) with hl0 | hl0
         ·cases ao with
          | none => exact Or.inl ⟨hl0, rfl⟩
          | some ad =>
           refine Or.inr ⟨ad, rfl, by rw [hl0]; exact Nat.zero_le _, ?_⟩
           rcases hgq.row.row.2 with ⟨ao', hv, _⟩ | ⟨g, pre, post, cap', hv, _⟩
           ·simp only [Value.slice.injEq] at hv
            exact Or.inl (by rw [hil2, hl0]; exact hv.2.2)
           ·simp only [Value.slice.injEq, Option.some.injEq] at hv
            exact Or.inr ⟨g, _, hv.1⟩
         ·obtain ⟨b, off, h8, _, _, _, h9⟩ := hgq.row.spot hl0
          exact Or.inr ⟨_, h8, h9, Or.inr ⟨b, off, rfl⟩⟩
        focus
         obtain ⟨hl0, hao⟩ := hl0
         have hc0 := hnT.out hao
         subst hao
         have hci := eq_true (show cap = i by rw [hc0, hil2, hl0]; rfl)
         have hrD : ∀ U, Below wr.heap.size wr U → RowAt rowK U none (rs.drop i) := fun U _ => by rw [hl0, List.drop_nil]; exact nil_row _ _
         have hnD : Hid ((none : Option Addr) = none → cap - i = 0) := fun _ => by omega
         have hlc : rs.length ≤ cap := by rw [hl0]; exact Nat.zero_le _
         clear hc0 hl0 hil2
        rotate_left 1
        have hlc := hl0
        subst hao
        rcases (by by_cases hcp : cap = i; exact Or.inl hcp; exact Or.inr hcp : cap = i ∨ ¬ cap = i) with hcp | hcp
        focus
         have hci := eq_true hcp
         have hdn : rs.drop i = [] := List.drop_of_length_le (by omega)
         have hrD : ∀ U, Below wr.heap.size wr U → RowAt rowK U (some ad) (rs.drop i) := fun U _ => by rw [hdn]; exact nil_row _ _
         have hnD : Hid (some ad = none → cap - i = 0) := fun h => by cases h
         clear hdn hcp hil2 hl0 hap
        rotate_left 1
        obtain ⟨b, off, had⟩ : ∃ b off, ad = ⟨b, off, none⟩ := by
         rcases hap with e | e
         ·exact absurd e hcp
         ·exact e
        subst had
        have hci := eq_false hcp
        have hrD : ∀ U, Below wr.heap.size wr U → RowAt rowK U (some ⟨b, off + i * 6, none⟩) (rs.drop i) := fun U hb => (hRow.below hb).dropG i
        have hnD : Hid (some (⟨b, off + i * 6, none⟩ : Addr) = none → cap - i = 0) := fun h => by cases h
        clear hcp hil2 hl0 hap
       all_goals
        have hc := fun w' (hb : Below wr.heap.size wr w') => (show w'.cell? ⟨gb, 2, none⟩ = _ ∧ w'.cell? ⟨w.heap.size, 0, none⟩ = some (.int .i64 c.hdr.author) ∧ w'.cell? ⟨w.heap.size, 1, none⟩ = some (.int .i64 c.hdr.round) ∧ w'.cell? ⟨w.heap.size, 2, none⟩ = some (.slice c.hdr.ra c.hdr.refs.length c.hdr.rc) ∧ w'.cell? ⟨w.heap.size, 3, none⟩ = some (.slice c.hdr.pa c.hdr.parents.length c.hdr.pc) ∧ w'.cell? ⟨w.heap.size, 4, none⟩ = some (.slice c.va c.votes.length c.vc) from ⟨(hgq.box.below hb hgq.box.lt).cell (i := 2) rfl, (hSq.below hb).X.cell (i := 0) rfl, (hSq.below hb).X.cell (i := 1) rfl, (hSq.below hb).X.cell (i := 2) rfl, (hSq.below hb).X.cell (i := 3) rfl, (hSq.below hb).X.cell (i := 4) rfl⟩)
        have hbox := hgq.box
        have hcA : ∀ U, Below wr.heap.size wr U → c.At U := fun U hb => hA.below (hSq.b.trans (hb.mono hSq.b.size))
        have hfx : ∀ y : RowM, y ∈ [(⟨IV, c⟩ : RowM)] → ∀ k, rowK.foot y k → k < wr.heap.size := fun y hy k hf => by
         rw [List.mem_singleton.1 hy] at hf
         exact Nat.lt_of_lt_of_le (hcf k hf) hSq.b.size
        have j3 : (0 : Int) ≤ (i : Int) := by omega
        have j4 : (i : Int) ≤ (cap : Int) := by have := Hip.out; omega
        have j5 : (i : Int) ≤ (rs.length : Int) := by have := Hip.out; omega
        have hTl : (rs.take i).length = i := by rw [List.length_take]; have := Hip.out; omega
        have hDl : (rs.drop i).length = rs.length - i := List.length_drop
        have hN3 : Hid (i + 1 + (rs.length - i) = rs.length + 1) := by show i + 1 + (rs.length - i) = rs.length + 1; have := Hip.out; omega
        have hrT := fun U (hb : Below wr.heap.size wr U) => (hRow.below hb).take i
        have m1 : i ≤ maxLen := by have := Hip.out; unfold maxLen; omega
        have m2 : i * 104 ≤ 140737488355328 := by have := Hip.out; omega
        have m3 : i + 1 ≤ maxLen := by have := Hip.out; unfold maxLen; omega
        have m4 : (i + 1) * 104 ≤ 140737488355328 := by have := Hip.out; omega
        have m5 : rs.length + 1 ≤ maxLen := by unfold maxLen; omega
        have m6 : (rs.length + 1) * 104 ≤ 140737488355328 := by omega
        have HL : Hid (lo = rs.take i ++ ⟨IV, c⟩ :: rs.drop i) := by show lo = _; rw [← hlo.out]; unfold insM; show List.take (rowAtM rs IV) rs ++ _ :: List.drop (rowAtM rs IV) rs = _; rw [← Hip.out]
        have HN : Hid (rs.length + 1 = lo.length) := by
         show rs.length + 1 = lo.length
         rw [HL.out, List.length_append, List.length_cons, hTl, hDl]
         have := Hip.out
         omega
        have hbd : Below wr.heap.size wr wr.drew := below_drewN (Below.refl _ wr) 1
        go_wp2_with fail
        refine wp_region_K (fun w' => Below wr.heap.size wr w') 23 (by kernel_rfl) ?_
        generalize wr.drew = w5 at hbd ⊢
        refine wpAnyK_takeD (i := 0) (v := ?_) (some 117) rfl rfl (by kernel_rfl) (by kernel_rfl) (by kernel_rfl) (by kernel_rfl) (by decide) (fun _ _ _ h => h) (by assumption) (Or.inl ⟨by rfl, ?_⟩) ?_
        rotate_left 1
        ·intro w' hSw
         obtain ⟨cF, a0, a1, a2, a3, a4⟩ := hc w' hSw
         go_simp
         first | done | with_reducible rfl
        simp only [Act.put, List.setIfInBounds_toArray, List.set_cons_zero, List.set_cons_succ]
        refine wpAnyK_takeD (i := 2) (v := ?_) (some 119) rfl rfl (by kernel_rfl) (by kernel_rfl) (by kernel_rfl) (by kernel_rfl) (by decide) (fun _ _ _ h => h) (by assumption) (Or.inl ⟨by rfl, ?_⟩) ?_
        rotate_left 1
        ·intro w' hSw
         obtain ⟨cF, a0, a1, a2, a3, a4⟩ := hc w' hSw
         go_simp
         first | done | with_reducible rfl
        simp only [Act.put, List.setIfInBounds_toArray, List.set_cons_zero, List.set_cons_succ]
        refine wpAnyK_takeD (i := 3) (v := ?_) (some 120) rfl rfl (by kernel_rfl) (by kernel_rfl) (by kernel_rfl) (by kernel_rfl) (by decide) (fun _ _ _ h => h) (by assumption) (Or.inl ⟨by rfl, ?_⟩) ?_
        rotate_left 1
        ·intro w' hSw
         obtain ⟨cF, a0, a1, a2, a3, a4⟩ := hc w' hSw
         go_simp
         first | done | with_reducible rfl
        simp only [Act.put, List.setIfInBounds_toArray, List.set_cons_zero, List.set_cons_succ]
        refine wpAnyK_takeD (i := 4) (v := ?_) (some 121) rfl rfl (by kernel_rfl) (by kernel_rfl) (by kernel_rfl) (by kernel_rfl) (by decide) (fun _ _ _ h => h) (by assumption) (Or.inl ⟨by rfl, ?_⟩) ?_
        rotate_left 1
        ·intro w' hSw
         obtain ⟨cF, a0, a1, a2, a3, a4⟩ := hc w' hSw
         go_simp
         first | done | with_reducible rfl
        simp only [Act.put, List.setIfInBounds_toArray, List.set_cons_zero, List.set_cons_succ]
        refine wpAnyK_takeD (i := 5) (v := ?_) (some 122) rfl rfl (by kernel_rfl) (by kernel_rfl) (by kernel_rfl) (by kernel_rfl) (by decide) (fun _ _ _ h => h) (by assumption) (Or.inl ⟨by rfl, ?_⟩) ?_
        rotate_left 1
        ·intro w' hSw
         obtain ⟨cF, a0, a1, a2, a3, a4⟩ := hc w' hSw
         go_simp
         first | done | with_reducible rfl
        simp only [Act.put, List.setIfInBounds_toArray, List.set_cons_zero, List.set_cons_succ]
        refine wpAnyK_takeD (i := 6) (v := ?_) (some 123) rfl rfl (by kernel_rfl) (by kernel_rfl) (by kernel_rfl) (by kernel_rfl) (by decide) (fun _ _ _ h => h) (by assumption) (Or.inl ⟨by rfl, ?_⟩) ?_
        rotate_left 1
        ·intro w' hSw
         obtain ⟨cF, a0, a1, a2, a3, a4⟩ := hc w' hSw
         go_simp
         first | done | with_reducible rfl
        simp only [Act.put, List.setIfInBounds_toArray, List.set_cons_zero, List.set_cons_succ]
        refine wpAnyK_takeD (i := 7) (v := ?_) (some 124) rfl rfl (by kernel_rfl) (by kernel_rfl) (by kernel_rfl) (by kernel_rfl) (by decide) (fun _ _ _ h => h) (by assumption) (Or.inl ⟨by rfl, ?_⟩) ?_
        rotate_left 1
        ·intro w' hSw
         obtain ⟨cF, a0, a1, a2, a3, a4⟩ := hc w' hSw
         go_simp
         first | done | with_reducible rfl
        simp only [Act.put, List.setIfInBounds_toArray, List.set_cons_zero, List.set_cons_succ]
        refine wpAnyK_takeD (i := 9) (v := ?_) (some 126) rfl rfl (by kernel_rfl) (by kernel_rfl) (by kernel_rfl) (by kernel_rfl) (by decide) (fun _ _ _ h => h) (by assumption) (Or.inl ⟨by rfl, ?_⟩) ?_
        rotate_left 1
        ·intro w' hSw
         obtain ⟨cF, a0, a1, a2, a3, a4⟩ := hc w' hSw
         go_simp
         first | done | with_reducible rfl
        simp only [Act.put, List.setIfInBounds_toArray, List.set_cons_zero, List.set_cons_succ]
        refine wpAnyK_takeD (i := 10) (v := ?_) (some 127) rfl rfl (by kernel_rfl) (by kernel_rfl) (by kernel_rfl) (by kernel_rfl) (by decide) (fun _ _ _ h => h) (by assumption) (Or.inl ⟨by rfl, ?_⟩) ?_
        rotate_left 1
        ·intro w' hSw
         obtain ⟨cF, a0, a1, a2, a3, a4⟩ := hc w' hSw
         go_simp
         first | done | with_reducible rfl
        simp only [Act.put, List.setIfInBounds_toArray, List.set_cons_zero, List.set_cons_succ]
        refine wpAnyK_takeD (i := 11) (v := ?_) (some 128) rfl rfl (by kernel_rfl) (by kernel_rfl) (by kernel_rfl) (by kernel_rfl) (by decide) (fun _ _ _ h => h) (by assumption) (Or.inl ⟨by rfl, ?_⟩) ?_
        rotate_left 1
        ·intro w' hSw
         obtain ⟨cF, a0, a1, a2, a3, a4⟩ := hc w' hSw
         go_simp
         first | done | with_reducible rfl
        simp only [Act.put, List.setIfInBounds_toArray, List.set_cons_zero, List.set_cons_succ]
        refine wpAnyK_takeD (i := 14) (v := ?_) (some 131) rfl rfl (by kernel_rfl) (by kernel_rfl) (by kernel_rfl) (by kernel_rfl) (by decide) (fun _ _ _ h => h) (by assumption) (Or.inl ⟨by rfl, ?_⟩) ?_
        rotate_left 1
        ·intro w' hSw
         obtain ⟨cF, a0, a1, a2, a3, a4⟩ := hc w' hSw
         go_simp
         first | done | with_reducible rfl
        simp only [Act.put, List.setIfInBounds_toArray, List.set_cons_zero, List.set_cons_succ]
        refine wpAnyK_takeD (i := 15) (v := ?_) (some 132) rfl rfl (by kernel_rfl) (by kernel_rfl) (by kernel_rfl) (by kernel_rfl) (by decide) (fun _ _ _ h => h) (by assumption) (Or.inl ⟨by rfl, ?_⟩) ?_
        rotate_left 1
        ·intro w' hSw
         obtain ⟨cF, a0, a1, a2, a3, a4⟩ := hc w' hSw
         go_simp
         first | done | with_reducible rfl
        simp only [Act.put, List.setIfInBounds_toArray, List.set_cons_zero, List.set_cons_succ]
        refine wpAnyK_takeD (i := 16) (v := ?_) (some 133) rfl rfl (by kernel_rfl) (by kernel_rfl) (by kernel_rfl) (by kernel_rfl) (by decide) (fun _ _ _ h => h) (by assumption) (Or.inl ⟨by rfl, ?_⟩) ?_
        rotate_left 1
        ·intro w' hSw
         obtain ⟨cF, a0, a1, a2, a3, a4⟩ := hc w' hSw
         go_simp
         first | done | with_reducible rfl
        simp only [Act.put, List.setIfInBounds_toArray, List.set_cons_zero, List.set_cons_succ]
        refine wpAnyK_takeD (i := 17) (v := ?_) (some 134) rfl rfl (by kernel_rfl) (by kernel_rfl) (by kernel_rfl) (by kernel_rfl) (by decide) (fun _ _ _ h => h) (by assumption) (Or.inl ⟨by rfl, ?_⟩) ?_
        rotate_left 1
        ·intro w' hSw
         obtain ⟨cF, a0, a1, a2, a3, a4⟩ := hc w' hSw
         go_simp
         first | done | with_reducible rfl
        simp only [Act.put, List.setIfInBounds_toArray, List.set_cons_zero, List.set_cons_succ]
        refine wpAnyK_takeD (i := 18) (v := ?_) (some 135) rfl rfl (by kernel_rfl) (by kernel_rfl) (by kernel_rfl) (by kernel_rfl) (by decide) (fun _ _ _ h => h) (by assumption) (Or.inl ⟨by rfl, ?_⟩) ?_
        rotate_left 1
        ·intro w' hSw
         obtain ⟨cF, a0, a1, a2, a3, a4⟩ := hc w' hSw
         go_simp
         first | done | with_reducible rfl
        simp only [Act.put, List.setIfInBounds_toArray, List.set_cons_zero, List.set_cons_succ]
        refine wpAnyK_takeD (i := 19) (v := ?_) (some 136) rfl rfl (by kernel_rfl) (by kernel_rfl) (by kernel_rfl) (by kernel_rfl) (by decide) (fun _ _ _ h => h) (by assumption) (Or.inl ⟨by rfl, ?_⟩) ?_
        rotate_left 1
        ·intro w' hSw
         obtain ⟨cF, a0, a1, a2, a3, a4⟩ := hc w' hSw
         go_simp
         first | done | with_reducible rfl
        simp only [Act.put, List.setIfInBounds_toArray, List.set_cons_zero, List.set_cons_succ]
        refine wpAnyK_ready (rs := [1, 12]) (by kernel_rfl) (by simp) ?_
        refine AllReadyK.cons rfl (fun K' hK => ?_) ?_
        ·go_simp
         have bw6 := hbd.trans ((belowNew w5 (.cells #[] 124)).mono hbd.size)
         have hOw6 : (w5.alloc (.cells #[] 124)).ownsRow wr.heap.size 124 rowK.n (.slice (some ⟨w5.heap.size, 0, none⟩) 0 0) 0 [] := World.ownsRow_made w5 #[] 0 hbd.size (by unfold maxLen; omega) (by simp)
         have hsw6 : w5.heap.size < (w5.alloc (.cells #[] 124)).heap.size := by rw [alloc_size]; omega
         obtain ⟨w6, hww6⟩ : ∃ q, w5.alloc (.cells #[] 124) = q := ⟨_, rfl⟩
         rw [hww6] at bw6 hOw6 hsw6 ⊢
         refine hK.out _ _ (fun _ => bw6) ?_
         clear hK K' hww6
         refine wpAnyK_ready (rs := [8, 12]) (by kernel_rfl) (by simp) ?_
         refine AllReadyK.consD (some 125) rfl rfl (fun K' hK => ?_) ?_
         ·refine step_ownR (K := rowK) w6 (by rfl) _ _ 104 (by rfl) wr.heap.size 124 i0 _ 104 Tryz.underlying104 hi0 hz0 hz1 hz2 hz3 _ _ _ _ _ (by rfl) hOw6 _ _ _ hTl (Nat.zero_add _) (by rfl) (hrT _ bw6) (fun e => hnT.out (by first | exact e | trivial)) m1 m2 bw6.size ?_
          intro aw7 cw7 w7 hOw7 hkw7
          have bw7 := bw6.trans (Kept.below hkw7 bw6.size (fun k hk => (hOw6.lt k hk).1))
          refine hK.out _ _ (fun _ => bw7) ?_
          clear hK K' hkw7
          simp only [Act.put, List.setIfInBounds_toArray, List.set_cons_zero, List.set_cons_succ]
          refine wpAnyK_ready (rs := [12]) (by kernel_rfl) (by simp) ?_
          refine AllReadyK.cons rfl (fun K' hK => ?_) ?_
          ·go_simp
           have bw8 := bw7.trans ((belowNew w7 (.cells #[.string IV, .int .i64 c.hdr.author, .int .i64 c.hdr.round, .slice c.hdr.ra c.hdr.refs.length c.hdr.rc, .slice c.hdr.pa c.hdr.parents.length c.hdr.pc, .slice c.va c.votes.length c.vc] 124)).mono bw7.size)
           have hRw8 := rowOne14 w7 ⟨IV, c⟩ (hcA _ bw7)
           have hsw8 : w7.heap.size < (w7.alloc (.cells #[.string IV, .int .i64 c.hdr.author, .int .i64 c.hdr.round, .slice c.hdr.ra c.hdr.refs.length c.hdr.rc, .slice c.hdr.pa c.hdr.parents.length c.hdr.pc, .slice c.va c.votes.length c.vc] 124)).heap.size := by rw [alloc_size]; omega
           have hOw8 := own_belowT hOw7 (belowNew w7 (.cells #[.string IV, .int .i64 c.hdr.author, .int .i64 c.hdr.round, .slice c.hdr.ra c.hdr.refs.length c.hdr.rc, .slice c.hdr.pa c.hdr.parents.length c.hdr.pc, .slice c.va c.votes.length c.vc] 124))
           obtain ⟨w8, hww8⟩ : ∃ q, w7.alloc (.cells #[.string IV, .int .i64 c.hdr.author, .int .i64 c.hdr.round, .slice c.hdr.ra c.hdr.refs.length c.hdr.rc, .slice c.hdr.pa c.hdr.parents.length c.hdr.pc, .slice c.va c.votes.length c.vc] 124) = q := ⟨_, rfl⟩
           rw [hww8] at bw8 hRw8 hsw8 hOw8 ⊢
           refine hK.out _ _ (fun _ => bw8) ?_
           clear hK K' hww8
           refine wpAnyK_ready (rs := [13]) (by kernel_rfl) (by simp) ?_
           refine AllReadyK.consD (some 130) rfl rfl (fun K' hK => ?_) ?_
           ·refine step_ownR (K := rowK) w8 (by rfl) _ _ 104 (by rfl) wr.heap.size 124 i0 _ 104 Tryz.underlying104 hi0 hz0 hz1 hz2 hz3 _ _ _ _ _ (by rfl) hOw8 _ _ _ rfl rfl (by rfl) hRw8 (fun h => by cases h) m3 m4 bw8.size ?_
            intro aw9 cw9 w9 hOw9 hkw9
            have bw9 := bw8.trans (Kept.below hkw9 bw8.size (fun k hk => (hOw8.lt k hk).1))
            refine hK.out _ _ (fun _ => bw9) ?_
            clear hK K' hkw9
            simp only [Act.put, List.setIfInBounds_toArray, List.set_cons_zero, List.set_cons_succ]
            refine wpAnyK_ready (rs := [20]) (by kernel_rfl) (by simp) ?_
            refine AllReadyK.consD (some 137) rfl rfl (fun K' hK => ?_) ?_
            ·refine step_ownR (K := rowK) w9 (by rfl) _ _ 104 (by rfl) wr.heap.size 124 i0 _ 104 Tryz.underlying104 hi0 hz0 hz1 hz2 hz3 _ _ _ _ _ (by rfl) hOw9 _ _ _ hDl hN3.out (by rfl) (hrD _ bw9) (fun e => hnD.out (by first | exact e | trivial)) m5 m6 bw9.size ?_
             intro aw10 cw10 w10 hOw10 hkw10
             have bw10 := bw9.trans (Kept.below hkw10 bw9.size (fun k hk => (hOw9.lt k hk).1))
             refine hK.out _ _ (fun _ => bw10) ?_
             clear hK K' hkw10
             simp only [Act.put, List.setIfInBounds_toArray, List.set_cons_zero, List.set_cons_succ]
             refine wpAnyK_ready (rs := [21]) (by kernel_rfl) (by simp) ?_
             refine AllReadyK.cons rfl (fun K' hK => ?_) AllReadyK.nil
             go_simp
             refine hK.out _ _ (fun _ => bw10) ?_
             clear hK K'
             refine wpAnyK_ready (rs := [22]) (by kernel_rfl) (by simp) ?_
             refine AllReadyK.cons rfl (fun K' hK => ?_) AllReadyK.nil
             go_simp
             refine hK.out _ _ (fun _ => bw10) ?_
             clear hK K'
             refine wpAnyK_ready (rs := [23]) (by kernel_rfl) (by simp) ?_
             refine AllReadyK.cons rfl (fun K' hK => ?_) AllReadyK.nil
             have cF := (hc _ bw10).1
             have fF := (hbox.below bw10 hbox.lt).frozen 2
             go_simp
             have hq := KQ.joinedF (K := rowK) (T := 124) (lo := lo) (hal _ (hSq.b.trans (bw10.mono hSq.b.size))) (fun y hy b' hf => Nat.lt_of_lt_of_le (hfl y hy b' hf) hSq.b.size) hOw10 HL.out HN.out
             obtain ⟨hF, hfr, hkF⟩ := hgq.newRow bw10 hq (by have := HN.out; omega) hol
             have hkk := (Kept.of_below (S := GFoot gb _ qv) hSq.b).trans hkF
             have fin := hfn'.out (.returned (.int .i64 ((0 : Nat) : Int))) _ _ rfl hF (fun k hk => (hfr k hk).imp (fun e => e) (fun e => Nat.le_trans hSq.b.size e)) hkk
             refine hK.out _ _ (fun h => absurd rfl h) ?_
             clear hK K'
             refine wpAnyK_done (by kernel_rfl) ?_ _
             go_wp2
             exact fin
            exact AllReadyK.nil
           exact AllReadyK.nil
          exact AllReadyK.nil
         refine AllReadyK.cons rfl (fun K' hK => ?_) ?_
         ·go_simp
          have bw11 := bw6.trans ((belowNew w6 (.cells #[.string IV, .int .i64 c.hdr.author, .int .i64 c.hdr.round, .slice c.hdr.ra c.hdr.refs.length c.hdr.rc, .slice c.hdr.pa c.hdr.parents.length c.hdr.pc, .slice c.va c.votes.length c.vc] 124)).mono bw6.size)
          have hRw11 := rowOne14 w6 ⟨IV, c⟩ (hcA _ bw6)
          have hsw11 : w6.heap.size < (w6.alloc (.cells #[.string IV, .int .i64 c.hdr.author, .int .i64 c.hdr.round, .slice c.hdr.ra c.hdr.refs.length c.hdr.rc, .slice c.hdr.pa c.hdr.parents.length c.hdr.pc, .slice c.va c.votes.length c.vc] 124)).heap.size := by rw [alloc_size]; omega
          have hOw11 := own_belowT hOw6 (belowNew w6 (.cells #[.string IV, .int .i64 c.hdr.author, .int .i64 c.hdr.round, .slice c.hdr.ra c.hdr.refs.length c.hdr.rc, .slice c.hdr.pa c.hdr.parents.length c.hdr.pc, .slice c.va c.votes.length c.vc] 124))
          obtain ⟨w11, hww11⟩ : ∃ q, w6.alloc (.cells #[.string IV, .int .i64 c.hdr.author, .int .i64 c.hdr.round, .slice c.hdr.ra c.hdr.refs.length c.hdr.rc, .slice c.hdr.pa c.hdr.parents.length c.hdr.pc, .slice c.va c.votes.length c.vc] 124) = q := ⟨_, rfl⟩
          rw [hww11] at bw11 hRw11 hsw11 hOw11 ⊢
          refine hK.out _ _ (fun _ => bw11) ?_
          clear hK K' hww11
          refine wpAnyK_ready (rs := [8]) (by kernel_rfl) (by simp) ?_
          refine AllReadyK.consD (some 125) rfl rfl (fun K' hK => ?_) ?_
          ·refine step_ownR (K := rowK) w11 (by rfl) _ _ 104 (by rfl) wr.heap.size 124 i0 _ 104 Tryz.underlying104 hi0 hz0 hz1 hz2 hz3 _ _ _ _ _ (by rfl) hOw11 _ _ _ hTl (Nat.zero_add _) (by rfl) (hrT _ bw11) (fun e => hnT.out (by first | exact e | trivial)) m1 m2 bw11.size ?_
           intro aw12 cw12 w12 hOw12 hkw12
           have bw12 := bw11.trans (Kept.below hkw12 bw11.size (fun k hk => (hOw11.lt k hk).1))
           have hRw12 := hRw11.kept hkw12 (fun k hk e => by
            rcases hk with ⟨_, off', e'⟩ | ⟨_, _, f'⟩
            ·simp at e'
             simp [Value.ownBlock] at e
             omega
            ·have h7 := hfx _ (by assumption) _ f'; have h8 := (hOw11.lt k e).1; omega)
           refine hK.out _ _ (fun _ => bw12) ?_
           clear hK K' hkw12
           simp only [Act.put, List.setIfInBounds_toArray, List.set_cons_zero, List.set_cons_succ]
           refine wpAnyK_ready (rs := [13]) (by kernel_rfl) (by simp) ?_
           refine AllReadyK.consD (some 130) rfl rfl (fun K' hK => ?_) ?_
           ·refine step_ownR (K := rowK) w12 (by rfl) _ _ 104 (by rfl) wr.heap.size 124 i0 _ 104 Tryz.underlying104 hi0 hz0 hz1 hz2 hz3 _ _ _ _ _ (by rfl) hOw12 _ _ _ rfl rfl (by rfl) hRw12 (fun h => by cases h) m3 m4 bw12.size ?_
            intro aw13 cw13 w13 hOw13 hkw13
            have bw13 := bw12.trans (Kept.below hkw13 bw12.size (fun k hk => (hOw12.lt k hk).1))
            refine hK.out _ _ (fun _ => bw13) ?_
            clear hK K' hkw13
            simp only [Act.put, List.setIfInBounds_toArray, List.set_cons_zero, List.set_cons_succ]
            refine wpAnyK_ready (rs := [20]) (by kernel_rfl) (by simp) ?_
            refine AllReadyK.consD (some 137) rfl rfl (fun K' hK => ?_) ?_
            ·refine step_ownR (K := rowK) w13 (by rfl) _ _ 104 (by rfl) wr.heap.size 124 i0 _ 104 Tryz.underlying104 hi0 hz0 hz1 hz2 hz3 _ _ _ _ _ (by rfl) hOw13 _ _ _ hDl hN3.out (by rfl) (hrD _ bw13) (fun e => hnD.out (by first | exact e | trivial)) m5 m6 bw13.size ?_
             intro aw14 cw14 w14 hOw14 hkw14
             have bw14 := bw13.trans (Kept.below hkw14 bw13.size (fun k hk => (hOw13.lt k hk).1))
             refine hK.out _ _ (fun _ => bw14) ?_
             clear hK K' hkw14
             simp only [Act.put, List.setIfInBounds_toArray, List.set_cons_zero, List.set_cons_succ]
             refine wpAnyK_ready (rs := [21]) (by kernel_rfl) (by simp) ?_
             refine AllReadyK.cons rfl (fun K' hK => ?_) AllReadyK.nil
             go_simp
             refine hK.out _ _ (fun _ => bw14) ?_
             clear hK K'
             refine wpAnyK_ready (rs := [22]) (by kernel_rfl) (by simp) ?_
             refine AllReadyK.cons rfl (fun K' hK => ?_) AllReadyK.nil
             go_simp
             refine hK.out _ _ (fun _ => bw14) ?_
             clear hK K'
             refine wpAnyK_ready (rs := [23]) (by kernel_rfl) (by simp) ?_
             refine AllReadyK.cons rfl (fun K' hK => ?_) AllReadyK.nil
             have cF := (hc _ bw14).1
             have fF := (hbox.below bw14 hbox.lt).frozen 2
             go_simp
             have hq := KQ.joinedF (K := rowK) (T := 124) (lo := lo) (hal _ (hSq.b.trans (bw14.mono hSq.b.size))) (fun y hy b' hf => Nat.lt_of_lt_of_le (hfl y hy b' hf) hSq.b.size) hOw14 HL.out HN.out
             obtain ⟨hF, hfr, hkF⟩ := hgq.newRow bw14 hq (by have := HN.out; omega) hol
             have hkk := (Kept.of_below (S := GFoot gb _ qv) hSq.b).trans hkF
             have fin := hfn'.out (.returned (.int .i64 ((0 : Nat) : Int))) _ _ rfl hF (fun k hk => (hfr k hk).imp (fun e => e) (fun e => Nat.le_trans hSq.b.size e)) hkk
             refine hK.out _ _ (fun h => absurd rfl h) ?_
             clear hK K'
             refine wpAnyK_done (by kernel_rfl) ?_ _
             go_wp2
             exact fin
            exact AllReadyK.nil
           exact AllReadyK.nil
          exact AllReadyK.nil
         exact AllReadyK.nil
        refine AllReadyK.cons rfl (fun K' hK => ?_) ?_
        ·go_simp
         have bw15 := hbd.trans ((belowNew w5 (.cells #[.string IV, .int .i64 c.hdr.author, .int .i64 c.hdr.round, .slice c.hdr.ra c.hdr.refs.length c.hdr.rc, .slice c.hdr.pa c.hdr.parents.length c.hdr.pc, .slice c.va c.votes.length c.vc] 124)).mono hbd.size)
         have hRw15 := rowOne14 w5 ⟨IV, c⟩ (hcA _ hbd)
         have hsw15 : w5.heap.size < (w5.alloc (.cells #[.string IV, .int .i64 c.hdr.author, .int .i64 c.hdr.round, .slice c.hdr.ra c.hdr.refs.length c.hdr.rc, .slice c.hdr.pa c.hdr.parents.length c.hdr.pc, .slice c.va c.votes.length c.vc] 124)).heap.size := by rw [alloc_size]; omega
         obtain ⟨w15, hww15⟩ : ∃ q, w5.alloc (.cells #[.string IV, .int .i64 c.hdr.author, .int .i64 c.hdr.round, .slice c.hdr.ra c.hdr.refs.length c.hdr.rc, .slice c.hdr.pa c.hdr.parents.length c.hdr.pc, .slice c.va c.votes.length c.vc] 124) = q := ⟨_, rfl⟩
         rw [hww15] at bw15 hRw15 hsw15 ⊢
         refine hK.out _ _ (fun _ => bw15) ?_
         clear hK K' hww15
         refine wpAnyK_ready (rs := [1]) (by kernel_rfl) (by simp) ?_
         refine AllReadyK.cons rfl (fun K' hK => ?_) ?_
         ·go_simp
          have bw16 := bw15.trans ((belowNew w15 (.cells #[] 124)).mono bw15.size)
          have hOw16 : (w15.alloc (.cells #[] 124)).ownsRow wr.heap.size 124 rowK.n (.slice (some ⟨w15.heap.size, 0, none⟩) 0 0) 0 [] := World.ownsRow_made w15 #[] 0 bw15.size (by unfold maxLen; omega) (by simp)
          have hsw16 : w15.heap.size < (w15.alloc (.cells #[] 124)).heap.size := by rw [alloc_size]; omega
          have hRw16 := hRw15.below (belowNew w15 (.cells #[] 124))
          obtain ⟨w16, hww16⟩ : ∃ q, w15.alloc (.cells #[] 124) = q := ⟨_, rfl⟩
          rw [hww16] at bw16 hOw16 hsw16 hRw16 ⊢
          refine hK.out _ _ (fun _ => bw16) ?_
          clear hK K' hww16
          refine wpAnyK_ready (rs := [8]) (by kernel_rfl) (by simp) ?_
          refine AllReadyK.consD (some 125) rfl rfl (fun K' hK => ?_) ?_
          ·refine step_ownR (K := rowK) w16 (by rfl) _ _ 104 (by rfl) wr.heap.size 124 i0 _ 104 Tryz.underlying104 hi0 hz0 hz1 hz2 hz3 _ _ _ _ _ (by rfl) hOw16 _ _ _ hTl (Nat.zero_add _) (by rfl) (hrT _ bw16) (fun e => hnT.out (by first | exact e | trivial)) m1 m2 bw16.size ?_
           intro aw17 cw17 w17 hOw17 hkw17
           have bw17 := bw16.trans (Kept.below hkw17 bw16.size (fun k hk => (hOw16.lt k hk).1))
           have hRw17 := hRw16.kept hkw17 (fun k hk e => by
            rcases hk with ⟨_, off', e'⟩ | ⟨_, _, f'⟩
            ·simp at e'
             simp [Value.ownBlock] at e
             omega
            ·have h7 := hfx _ (by assumption) _ f'; have h8 := (hOw16.lt k e).1; omega)
           refine hK.out _ _ (fun _ => bw17) ?_
           clear hK K' hkw17
           simp only [Act.put, List.setIfInBounds_toArray, List.set_cons_zero, List.set_cons_succ]
           refine wpAnyK_ready (rs := [13]) (by kernel_rfl) (by simp) ?_
           refine AllReadyK.consD (some 130) rfl rfl (fun K' hK => ?_) ?_
           ·refine step_ownR (K := rowK) w17 (by rfl) _ _ 104 (by rfl) wr.heap.size 124 i0 _ 104 Tryz.underlying104 hi0 hz0 hz1 hz2 hz3 _ _ _ _ _ (by rfl) hOw17 _ _ _ rfl rfl (by rfl) hRw17 (fun h => by cases h) m3 m4 bw17.size ?_
            intro aw18 cw18 w18 hOw18 hkw18
            have bw18 := bw17.trans (Kept.below hkw18 bw17.size (fun k hk => (hOw17.lt k hk).1))
            refine hK.out _ _ (fun _ => bw18) ?_
            clear hK K' hkw18
            simp only [Act.put, List.setIfInBounds_toArray, List.set_cons_zero, List.set_cons_succ]
            refine wpAnyK_ready (rs := [20]) (by kernel_rfl) (by simp) ?_
            refine AllReadyK.consD (some 137) rfl rfl (fun K' hK => ?_) ?_
            ·refine step_ownR (K := rowK) w18 (by rfl) _ _ 104 (by rfl) wr.heap.size 124 i0 _ 104 Tryz.underlying104 hi0 hz0 hz1 hz2 hz3 _ _ _ _ _ (by rfl) hOw18 _ _ _ hDl hN3.out (by rfl) (hrD _ bw18) (fun e => hnD.out (by first | exact e | trivial)) m5 m6 bw18.size ?_
             intro aw19 cw19 w19 hOw19 hkw19
             have bw19 := bw18.trans (Kept.below hkw19 bw18.size (fun k hk => (hOw18.lt k hk).1))
             refine hK.out _ _ (fun _ => bw19) ?_
             clear hK K' hkw19
             simp only [Act.put, List.setIfInBounds_toArray, List.set_cons_zero, List.set_cons_succ]
             refine wpAnyK_ready (rs := [21]) (by kernel_rfl) (by simp) ?_
             refine AllReadyK.cons rfl (fun K' hK => ?_) AllReadyK.nil
             go_simp
             refine hK.out _ _ (fun _ => bw19) ?_
             clear hK K'
             refine wpAnyK_ready (rs := [22]) (by kernel_rfl) (by simp) ?_
             refine AllReadyK.cons rfl (fun K' hK => ?_) AllReadyK.nil
             go_simp
             refine hK.out _ _ (fun _ => bw19) ?_
             clear hK K'
             refine wpAnyK_ready (rs := [23]) (by kernel_rfl) (by simp) ?_
             refine AllReadyK.cons rfl (fun K' hK => ?_) AllReadyK.nil
             have cF := (hc _ bw19).1
             have fF := (hbox.below bw19 hbox.lt).frozen 2
             go_simp
             have hq := KQ.joinedF (K := rowK) (T := 124) (lo := lo) (hal _ (hSq.b.trans (bw19.mono hSq.b.size))) (fun y hy b' hf => Nat.lt_of_lt_of_le (hfl y hy b' hf) hSq.b.size) hOw19 HL.out HN.out
             obtain ⟨hF, hfr, hkF⟩ := hgq.newRow bw19 hq (by have := HN.out; omega) hol
             have hkk := (Kept.of_below (S := GFoot gb _ qv) hSq.b).trans hkF
             have fin := hfn'.out (.returned (.int .i64 ((0 : Nat) : Int))) _ _ rfl hF (fun k hk => (hfr k hk).imp (fun e => e) (fun e => Nat.le_trans hSq.b.size e)) hkk
             refine hK.out _ _ (fun h => absurd rfl h) ?_
             clear hK K'
             refine wpAnyK_done (by kernel_rfl) ?_ _
             go_wp2
             exact fin
            exact AllReadyK.nil
           exact AllReadyK.nil
          exact AllReadyK.nil
         exact AllReadyK.nil
        exact AllReadyK.nil
  ·have hp1 : ¬ (PE : Int) = 0 := by omega
   have hV : Hid (AE = PE) := by show AE = PE; rw [hAE5.out, if_pos hp0]
   have hF := hno.out _ (by rw [hV.out]; exact hp0) hS9.b
   rw [hV.out] at hF
   clear hno hfin hAE5
   go_wp2
   exact hF
 ·have hc1 : ¬ (CK : Int) = 0 := by omega
  have hV : Hid (AE = CK) := by show AE = CK; rw [hAE2.out, if_pos hc0]
  have hF := hno.out _ (by rw [hV.out]; exact hc0) hB3
  rw [hV.out] at hF
  clear hno hfin hAE2
  go_wp2
  exact hF
end Go.Proofs.YtmjkbdgcnoenbaaGreatDoor

/- The document's dag as the blocks that it writes and those that it reads besides: each act in that form. -/
namespace Go.Proofs.YtmjkbdgcnoenbaaGreatDoor
open Go Go.RowKit
set_option linter.unusedVariables false

structure RG (w : World) (gb : Nat) (S R : Nat → Prop) (rt : Nat) (me : Int) (d : DagD) : Prop where
 at_ : ∃ ql qv rs, d.L = rs.map RowM.d ∧ (∀ k, S k ↔ GFoot gb ql qv k) ∧ (∀ k, R k ↔ ∃ x ∈ rs, x.c.foot k) ∧ RDg w gb ql qv rt me rs d.V d.low d.own

section
variable {w w' : World} {gb : Nat} {S R S' : Nat → Prop} {rt : Nat} {me : Int} {d : DagD}

theorem RG.kept (h : RG w gb S R rt me d) (hk : Kept S' w w') (hS : ∀ k, S k → ¬ S' k) (hR : ∀ k, R k → ¬ S' k) : RG w' gb S R rt me d := by
 obtain ⟨ql, qv, rs, h1, h2, h3, h4⟩ := h
 exact ⟨ql, qv, rs, h1, h2, h3, h4.kept hk (fun k e => hS k ((h2 k).2 e)) (fun x hx b hf => hR b ((h3 b).2 ⟨x, hx, hf⟩))⟩

theorem RG.below (h : RG w gb S R rt me d) (hb : Below w.heap.size w w') : RG w' gb S R rt me d := by
 obtain ⟨ql, qv, rs, h1, h2, h3, h4⟩ := h
 exact ⟨ql, qv, rs, h1, h2, h3, h4.below hb⟩

theorem RG.lt (h : RG w gb S R rt me d) {k : Nat} (hk : S k) : gb ≤ k ∧ k < w.heap.size := by
 obtain ⟨ql, qv, rs, h1, h2, h3, h4⟩ := h
 exact h4.lt ((h2 k).1 hk)

theorem RG.ltR (h : RG w gb S R rt me d) {k : Nat} (hk : R k) : k < w.heap.size ∧ ¬ S k := by
 obtain ⟨ql, qv, rs, h1, h2, h3, h4⟩ := h
 obtain ⟨x, hx, hf⟩ := (h3 k).1 hk
 refine ⟨Kind.lt certK (h4.row.at_ x hx) hf, fun e => ?_⟩
 rcases (h2 k).1 e with e | e | e
 ·exact (h4.off x hx k hf).1 e
 ·exact h4.row.off x hx k hf e
 ·exact (h4.off x hx k hf).2 e

theorem RG.new (h : Arr w gb 107 [.pointer (some ⟨rt, 0, none⟩), .int .i64 me, .slice none 0 0, .slice none 0 0, .int .i64 1, .int .i64 0]) : RG w gb (fun k => k = gb) (fun _ => False) rt me dag0 := by
 refine ⟨.slice none 0 0, .slice none 0 0, [], rfl, fun k => ⟨Or.inl, ?_⟩, fun k => ⟨fun e => e.elim, ?_⟩, ⟨h, KQ.empty _ _ _ _, KQ.empty _ _ _ _, by decide, by decide, (fun k e => by cases e), (fun x hx => by cases hx)⟩⟩
 ·rintro (e | e | e)
  ·exact e
  ·cases e
  ·cases e
 ·rintro ⟨x, hx, _⟩
  cases hx

theorem rgMissing_any (x : HdrM) (h : RG w gb S R rt me d) (hA : x.At w) (hp : x.parents.length ≤ 1000000) :
  Calls Tryz.prog 15 #[.pointer (some ⟨gb, 0, none⟩), x.v] w fun e w' => ∃ v, e = .returned v ∧ KQ strK 9 w' w.heap.size v (missD d x.d) ∧ Below w.heap.size w w' := by
 obtain ⟨ql, qv, rs, h1, h2, h3, h4⟩ := h
 have := refMissing14_any x gb ql qv rt me rs d.V d.low d.own w h4 hA hp
 rw [← h1] at this
 exact this

theorem rgIds_any (round : Int) (h : RG w gb S R rt me d) :
  Calls Tryz.prog 35 #[.pointer (some ⟨gb, 0, none⟩), .int .i64 round] w fun e w' => ∃ v, e = .returned v ∧ KQ strK 9 w' w.heap.size v (idsC d.L round) ∧ Below w.heap.size w w' := by
 obtain ⟨ql, qv, rs, h1, h2, h3, h4⟩ := h
 have := refIds14_any round gb ql qv rt me rs d.V d.low d.own w h4
 rw [← h1] at this
 exact this

theorem rgRound_any {f : Nat} {ks : List ByteArray} (h : RG w gb S R rt me d) (hT : TEnv w rt f ks) :
  Calls Tryz.prog 33 #[.pointer (some ⟨gb, 0, none⟩)] w fun e w' => e = .returned (.int .i64 (roundC (2 * f + 1) d.L)) ∧ Below w.heap.size w w' := by
 obtain ⟨ql, qv, rs, h1, h2, h3, h4⟩ := h
 have := refRound14_any f ks gb ql qv rt me rs d.V d.low d.own w h4 hT
 rw [← h1] at this
 exact this

theorem rgGet_any (id : ByteArray) (h : RG w gb S R rt me d) :
  Calls Tryz.prog 30 #[.pointer (some ⟨gb, 0, none⟩), .string id] w fun e w' => ∃ c : CertM, e = .returned (.tuple #[c.v, .bool (getC d.L id).isSome]) ∧ c.d = (match getC d.L id with | some x => x.c | none => ⟨⟨0, 0, [], []⟩, []⟩) ∧ c.At w' ∧ (∀ b, c.foot b → R b) ∧ Below w.heap.size w w' := by
 obtain ⟨ql, qv, rs, h1, h2, h3, h4⟩ := h
 refine (refGet14_any id gb ql qv rt me rs d.V d.low d.own w h4).mono ?_
 rintro e w' ⟨rfl, hb⟩
 have hg := gotM_d rs id
 rw [← h1] at hg
 rw [hg]
 refine ⟨certM (gotM rs id), by simp, ?_, ?_, ?_, hb⟩
 ·cases gotM rs id <;> rfl
 ·cases hm : gotM rs id with
  | none => exact cert0_at _
  | some x => exact (h4.row.at_ x (List.mem_of_find?_eq_some hm)).below hb
 ·intro b hf
  cases hm : gotM rs id with
  | none =>
   rw [hm] at hf
   exact (hf.elim (fun h => h.elim (fun h => (nil_foot h).elim) (fun h => (nil_foot h).elim)) (fun h => (nil_foot h).elim))
  | some x =>
   rw [hm] at hf
   exact (h3 b).2 ⟨x, List.mem_of_find?_eq_some hm, hf⟩

theorem rgLow_any (round : Int) (h : RG w gb S R rt me d) :
  Calls Tryz.prog 27 #[.pointer (some ⟨gb, 0, none⟩), .int .i64 round] w fun e w' => e = .returned (.int .i64 (lowN d round : Int)) ∧ ∃ S' R', RG w' gb S' R' rt me (lowD d round) ∧ FreshS w S S' ∧ (∀ k, R' k → R k) ∧ Kept S w w' := by
 obtain ⟨ql, qv, rs, h1, h2, h3, h4⟩ := h
 refine (refLet14_any round gb ql qv rt me rs d.V d.low d.own w h4).mono ?_
 rintro e w' ⟨rfl, ql', qv', h5, h6, h7⟩
 have hk := keepM_d rs round
 have hl : (keepM rs round).length ≤ rs.length := List.length_filter_le _ _
 have hll : d.L.length = rs.length := by rw [h1, List.length_map]
 have hkl : (keepC d.L round).length = (keepM rs round).length := by rw [h1, ← hk, List.length_map]
 refine ⟨?_, GFoot gb ql' qv', (fun k => ∃ x ∈ (if round ≤ d.low then rs else keepM rs round), x.c.foot k), ⟨ql', qv', (if round ≤ d.low then rs else keepM rs round), ?_, fun k => Iff.rfl, fun k => Iff.rfl, ?_⟩, fun k hk => (h6 k hk).imp (fun e => (h2 k).2 e) (fun e => e), fun k hk => ?_, h7.mono (fun k _ e => (h2 k).2 e)⟩
 ·unfold lowN
  split
  ·rfl
  ·rw [hll, hkl]
   congr 2
   omega
 ·unfold lowD
  split
  ·exact h1
  ·show keepC d.L round = _
   rw [h1, hk]
 ·unfold lowD
  split at h5
  ·next hc => simp only [if_pos hc] at h5 ⊢; exact h5
  ·next hc => simp only [if_neg hc] at h5 ⊢; exact h5
 ·obtain ⟨x, hx, hf⟩ := hk
  refine (h3 k).2 ⟨x, ?_, hf⟩
  split at hx
  ·exact hx
  ·exact (List.mem_filter.1 hx).1

theorem rgNext_any {f : Nat} {ks : List ByteArray} (h : RG w gb S R rt me d) (hT : TEnv w rt f ks) (hr : roundC (2 * f + 1) d.L ≤ 4611686018427387903) :
  Calls Tryz.prog 24 #[.pointer (some ⟨gb, 0, none⟩), .slice none 0 0] w fun e w' => ∃ x : HdrM, e = .returned (.tuple #[x.v, .bool (nextOk (2 * f + 1) d)]) ∧ x.d = nextH (2 * f + 1) me d [] ∧ x.At w' ∧ (∀ b, x.foot b → w.heap.size ≤ b) ∧ RG w' gb S R rt me (nextD (2 * f + 1) d) ∧ Kept S w w' := by
 obtain ⟨ql, qv, rs, h1, h2, h3, h4⟩ := h
 refine (refNext14_any f ks gb ql qv rt me rs d.V d.low d.own w h4 hT (by rw [← h1]; exact hr)).mono ?_
 rintro e w' ⟨x, h5, h6, h7, h8, h9, hk⟩
 rw [← h1] at h5 h6 h9
 have hd : (⟨d.L, d.V, d.low, d.own⟩ : DagD) = d := rfl
 refine ⟨x, h5, h6, h7, h8, ⟨ql, qv, rs, ?_, h2, h3, ?_⟩, hk.mono (fun k _ e => (h2 k).2 e)⟩
 ·rw [nextD_L]; exact h1
 ·have e1 : (nextD (2 * f + 1) d).V = d.V := by unfold nextD; split <;> rfl
  rw [nextD_low, e1]
  exact h9

theorem rgVote_any {f mn : Nat} {ks : List ByteArray} {V : World} (x : HdrM) (h : RG w gb S R rt (mn : Int) d) (hTV : TEnv V rt f ks) (hVw : Below V.heap.size V w) (hVg : V.heap.size ≤ gb) (hmn : mn < 3 * f + 1) (hA : x.At w) (hfit : x.Fit) (hlen : (encH x.d).length ≤ 1073741824) (hx : ∀ b, x.foot b → ¬ S b) (hv : d.V.length < 1000) :
  Calls Tryz.prog 17 #[.pointer (some ⟨gb, 0, none⟩), x.v] w fun e w' => e = .returned (.tuple #[.agg #[.int .i64 (voteT ks mn (voteE (chkA ks f x.d) d x.d (idB x.d)) (idB x.d)).who, .string (voteT ks mn (voteE (chkA ks f x.d) d x.d (idB x.d)) (idB x.d)).mac], .int .i64 (voteE (chkA ks f x.d) d x.d (idB x.d) : Int)]) ∧ ∃ S', RG w' gb S' R rt (mn : Int) (voteD (chkA ks f x.d) d x.d (idB x.d)) ∧ FreshS w S S' ∧ Kept S w w' := by
 obtain ⟨ql, qv, rs, h1, h2, h3, h4⟩ := h
 refine (refVote14_any f mn ks x gb ql qv rt rs d.V d.low d.own w h4 V hTV hVw hVg hmn hA hfit hlen (fun b hb e => hx b hb ((h2 b).2 e)) hv).mono ?_
 rintro e w' ⟨VE, hE, h5, qv', h6, h7, hk⟩
 rw [← h1] at hE h6
 subst hE
 refine ⟨h5, GFoot gb ql qv', ⟨ql, qv', rs, ?_, fun k => Iff.rfl, h3, ?_⟩, fun k hk => (h7 k hk).imp (fun e => (h2 k).2 e) (fun e => e), hk.mono (fun k _ e => (h2 k).2 e)⟩
 ·have e1 : (voteD (chkA ks f x.d) d x.d (idB x.d)).L = d.L := by unfold voteD; split <;> rfl
  rw [e1]; exact h1
 ·have e2 : (voteD (chkA ks f x.d) d x.d (idB x.d)).low = d.low := by unfold voteD; split <;> rfl
  have e3 : (voteD (chkA ks f x.d) d x.d (idB x.d)).own = d.own := by unfold voteD; split <;> rfl
  rw [e2, e3]
  exact h6

theorem rgAdd_any {f : Nat} {ks : List ByteArray} (c : CertM) (h : RG w gb S R rt me d) (hT : TEnv w rt f ks) (hA : c.At w) (hfit : c.hdr.Fit) (hlen : (encH c.hdr.d).length ≤ 1073741824) (hvl : c.votes.length ≤ 1000) (hx : ∀ b, c.foot b → ¬ S b) (hl : d.L.length < 1000) :
  Calls Tryz.prog 21 #[.pointer (some ⟨gb, 0, none⟩), c.v] w fun e w' => e = .returned (.int .i64 (addE (chkC ks f c.d) (3 * f + 1) d c.hdr.d (idB c.hdr.d) : Int)) ∧ ∃ S' R', RG w' gb S' R' rt me (addD (chkC ks f c.d) (3 * f + 1) d c.d (idB c.hdr.d)) ∧ FreshS w S S' ∧ (∀ k, R' k → R k ∨ c.foot k) ∧ Kept S w w' := by
 obtain ⟨ql, qv, rs, h1, h2, h3, h4⟩ := h
 refine (refAdd14_any f ks c gb ql qv rt me rs d.V d.low d.own w h4 hT hA hfit hlen hvl (fun b hb e => hx b hb ((h2 b).2 e)) (by rw [← List.length_map (f := RowM.d), ← h1]; exact hl)).mono ?_
 rintro e w' ⟨AE, hE, h5, ql', h6, h7, hk⟩
 rw [← h1] at hE
 subst hE
 refine ⟨h5, GFoot gb ql' qv, (fun k => ∃ x ∈ (if addE (chkC ks f c.d) (3 * f + 1) d c.hdr.d (idB c.hdr.d) = 0 then insM rs ⟨idB c.hdr.d, c⟩ else rs), x.c.foot k), ⟨ql', qv, _, ?_, fun k => Iff.rfl, fun k => Iff.rfl, ?_⟩, fun k hk => (h7 k hk).imp (fun e => (h2 k).2 e) (fun e => e), fun k hk => ?_, hk.mono (fun k _ e => (h2 k).2 e)⟩
 ·have e0 : (⟨d.L, d.V, d.low, d.own⟩ : DagD) = d := rfl
  unfold addD
  have e1 : c.d.header = c.hdr.d := rfl
  rw [e1]
  split
  ·show insC d.L _ = _
   rw [insM_d, ← h1]
   rfl
  ·exact h1
 ·have e2 : (addD (chkC ks f c.d) (3 * f + 1) d c.d (idB c.hdr.d)).V = d.V := by unfold addD; split <;> rfl
  have e3 : (addD (chkC ks f c.d) (3 * f + 1) d c.d (idB c.hdr.d)).own = d.own := by unfold addD; split <;> rfl
  rw [e2, e3, addD_low]
  exact h6
 ·obtain ⟨x, hx', hf⟩ := hk
  split at hx'
  ·unfold insM at hx'
   rcases List.mem_append.1 hx' with hx' | hx'
   ·exact Or.inl ((h3 k).2 ⟨x, List.mem_of_mem_take hx', hf⟩)
   ·rcases List.mem_cons.1 hx' with rfl | hx'
    ·exact Or.inr hf
    ·exact Or.inl ((h3 k).2 ⟨x, List.mem_of_mem_drop hx', hf⟩)
  ·exact Or.inl ((h3 k).2 ⟨x, hx', hf⟩)
end
end Go.Proofs.YtmjkbdgcnoenbaaGreatDoor

/- The program's dag, the maker and the document's dag side by side. -/
namespace Go.Proofs.YtmjkbdgcnoenbaaGreatDoor
open Go Go.RowKit
set_option linter.unusedVariables false

structure D2 (V : World) (n tb rt db pb gb me : Nat) (SD SP SG RR : Nat → Prop) (d dg : DagD) (ids : List (List ByteArray)) (w : World) : Prop where
 a : D1 V n tb rt db pb me SD SP d ids w
 g : RG w gb SG RR rt (me : Int) dg
 glt : ∀ k, SG k → V.heap.size ≤ k
 off : ∀ k, SG k → ¬ SD k ∧ ¬ SP k
 roff : ∀ k, RR k → ¬ SD k ∧ ¬ SP k

section
variable {V w w' : World} {n tb rt db pb gb me : Nat} {SD SP SG RR SD' SP' SG' RR' T : Nat → Prop} {d d' dg dg' : DagD} {ids ids' : List (List ByteArray)}

theorem D2.below (h : D2 V n tb rt db pb gb me SD SP SG RR d dg ids w) (hb : Below w.heap.size w w') : D2 V n tb rt db pb gb me SD SP SG RR d dg ids w' :=
 ⟨h.a.below hb, h.g.below hb, h.glt, h.off, h.roff⟩

theorem D2.kept (h : D2 V n tb rt db pb gb me SD SP SG RR d dg ids w) (hk : Kept T w w') (hT : ∀ k, T k → V.heap.size ≤ k ∧ ¬ SD k ∧ ¬ SP k ∧ ¬ SG k ∧ ¬ RR k) : D2 V n tb rt db pb gb me SD SP SG RR d dg ids w' :=
 ⟨h.a.kept hk (fun k e => ⟨(hT k e).1, (hT k e).2.1, (hT k e).2.2.1⟩), h.g.kept hk (fun k e e' => (hT k e').2.2.2.1 e) (fun k e e' => (hT k e').2.2.2.2 e), h.glt, h.off, h.roff⟩

theorem D2.old (h : D2 V n tb rt db pb gb me SD SP SG RR d dg ids w) {b : Nat} (hb : b < V.heap.size ∨ w.heap.size ≤ b) : ¬ SD b ∧ ¬ SP b ∧ ¬ SG b := by
 obtain ⟨h1, h2⟩ := h.a.old hb
 refine ⟨h1, h2, fun e => ?_⟩
 have h3 := h.glt b e
 have h4 := (h.g.lt e).2
 omega

theorem D2.new (h : D2 V n tb rt db pb gb me SD SP SG RR d dg ids w) {b : Nat} (hb : w.heap.size ≤ b) : ¬ SD b ∧ ¬ SP b ∧ ¬ SG b ∧ ¬ RR b := by
 obtain ⟨h1, h2, h3⟩ := h.old (Or.inr hb)
 exact ⟨h1, h2, h3, fun e => by have := (h.g.ltR e).1; omega⟩

theorem D2.prog (h : D2 V n tb rt db pb gb me SD SP SG RR d dg ids w) (hA : D1 V n tb rt db pb me SD' SP' d' ids' w') (hf : ∀ k, SD' k → ¬ SG k ∧ ¬ RR k) (hp : ∀ k, SP' k → ¬ SG k ∧ ¬ RR k) (hk : Kept T w w') (hT : ∀ k, T k → SD k ∨ SP k) : D2 V n tb rt db pb gb me SD' SP' SG RR d' dg ids' w' :=
 ⟨hA, h.g.kept hk (fun k e e' => (hT k e').elim (h.off k e).1 (h.off k e).2) (fun k e e' => (hT k e').elim (h.roff k e).1 (h.roff k e).2), h.glt, fun k e => ⟨fun e' => (hf k e').1 e, fun e' => (hp k e').1 e⟩, fun k e => ⟨fun e' => (hf k e').2 e, fun e' => (hp k e').2 e⟩⟩

theorem D2.refr (h : D2 V n tb rt db pb gb me SD SP SG RR d dg ids w) (hB : RG w' gb SG' RR' rt (me : Int) dg') (hf : FreshS w SG SG') (hr : ∀ k, RR' k → ¬ SD k ∧ ¬ SP k) (hk : Kept SG w w') : D2 V n tb rt db pb gb me SD SP SG' RR' d dg' ids w' := by
 refine ⟨h.a.kept hk (fun k e => ⟨h.glt k e, (h.off k e).1, (h.off k e).2⟩), hB, fun k e => ?_, fun k e => ?_, hr⟩
 ·rcases hf k e with e | e
  ·exact h.glt k e
  ·exact Nat.le_trans h.a.bel.size e
 ·rcases hf k e with e | e
  ·exact h.off k e
  ·exact h.a.old (Or.inr e)

theorem D2.fresh (h : D2 V n tb rt db pb gb me SD SP SG RR d dg ids w) (hf : FreshS w SD SD') : ∀ k, SD' k → ¬ SG k ∧ ¬ RR k := fun k e => by
 rcases hf k e with e | e
 ·exact ⟨fun e' => (h.off k e').1 e, fun e' => (h.roff k e').1 e⟩
 ·exact (h.new e).2.2

theorem D2.freshP (h : D2 V n tb rt db pb gb me SD SP SG RR d dg ids w) (hf : FreshS w SP SP') : ∀ k, SP' k → ¬ SG k ∧ ¬ RR k := fun k e => by
 rcases hf k e with e | e
 ·exact ⟨fun e' => (h.off k e').2 e, fun e' => (h.roff k e').2 e⟩
 ·exact (h.new e).2.2

theorem D2.same (h : D2 V n tb rt db pb gb me SD SP SG RR d dg ids w) : (∀ k, SD k → ¬ SG k ∧ ¬ RR k) ∧ ∀ k, SP k → ¬ SG k ∧ ¬ RR k :=
 ⟨fun k e => ⟨fun e' => (h.off k e').1 e, fun e' => (h.roff k e').1 e⟩, fun k e => ⟨fun e' => (h.off k e').2 e, fun e' => (h.roff k e').2 e⟩⟩

theorem GotBoth.d2 {W : World} {S : Nat → Prop} (h : GotBoth W V n me tb rt db gb pb S w) : D2 V n tb rt db pb gb me S (fun k => k = pb) (fun k => k = gb) (fun _ => False) dag0 dag0 [] w :=
 ⟨h.d1, RG.new h.g, fun k e => by have e' : k = gb := e; have := h.glt; omega, fun k e => ⟨fun e2 => by have e' : k = gb := e; have := (h.dlt k e2).2; omega, fun e2 => by have e' : k = gb := e; have e3 : k = pb := e2; have := h.glt; omega⟩, fun k e => e.elim⟩
end
end Go.Proofs.YtmjkbdgcnoenbaaGreatDoor

/- Rows of acts. -/
namespace Go.Proofs.YtmjkbdgcnoenbaaGreatDoor
open Go Go.RowKit
set_option linter.unusedVariables false

def opK : Kind OpM where
 n := 10
 c := OpM.c
 foot o b := o.wild.foot b ∨ rowFoot boolK o.va o.votes b
 At w o := o.wild.At w ∧ RowAt boolK w o.va o.votes
 pos := by decide
 len _ := rfl
 one x u hu := by
  simp only [OpM.c, List.mem_cons, List.not_mem_nil, or_false] at hu
  rcases hu with rfl | rfl | rfl | rfl | rfl | rfl | rfl | rfl | rfl | rfl <;> rfl
 lt h hf := hf.elim (fun q => Kind.lt hdrK h.1 q) h.2.lt
 keep h hk := ⟨Kind.keep hdrK h.1 (fun b hb => hk b (Or.inl hb)), h.2.keep (fun b hb => hk b (Or.inr hb))⟩

theorem RowAt.op {w : World} {ao : Option Addr} {l : List OpM} (h : RowAt opK w ao l) {i : Nat} {o : OpM} (ho : l[i]? = some o) :
  ∃ b off, ao = some ⟨b, off, none⟩ ∧ b < w.heap.size ∧ w.cell? ⟨b, off + i * 10, none⟩ = some (.int .i64 o.kind) ∧ w.cell? ⟨b, off + i * 10 + 1, none⟩ = some (.int .i64 o.author) ∧ w.cell? ⟨b, off + i * 10 + 2, none⟩ = some (.int .i64 o.back) ∧ w.cell? ⟨b, off + i * 10 + 3, none⟩ = some (.int .i64 o.odd) ∧ w.cell? ⟨b, off + i * 10 + 4, none⟩ = some (.slice o.va o.votes.length o.vc) ∧ w.cell? ⟨b, off + i * 10 + 5, none⟩ = some (.int .i64 o.round)
   ∧ w.cell? ⟨b, off + i * 10 + 6, none⟩ = some (.int .i64 o.wild.author) ∧ w.cell? ⟨b, off + i * 10 + 7, none⟩ = some (.int .i64 o.wild.round) ∧ w.cell? ⟨b, off + i * 10 + 8, none⟩ = some (.slice o.wild.ra o.wild.refs.length o.wild.rc) ∧ w.cell? ⟨b, off + i * 10 + 9, none⟩ = some (.slice o.wild.pa o.wild.parents.length o.wild.pc) := by
 obtain ⟨b, off, h1, h2, h3⟩ := h.cell i o ho
 exact ⟨b, off, h1, h2, h3 0 _ rfl, h3 1 _ rfl, h3 2 _ rfl, h3 3 _ rfl, h3 4 _ rfl, h3 5 _ rfl, h3 6 _ rfl, h3 7 _ rfl, h3 8 _ rfl, h3 9 _ rfl⟩
end Go.Proofs.YtmjkbdgcnoenbaaGreatDoor

/- What tusklaw06.Great, PlainTags and Plain do; nothing in memory is turned. -/
namespace Go.Proofs.YtmjkbdgcnoenbaaGreatDoor
open Go.RowKit
set_option linter.unusedVariables false

def GotBool (P : Prop) (e : Ending) : Prop := ∃ p : Bool, e = .returned (.bool p) ∧ (p = true ↔ P)
end Go.Proofs.YtmjkbdgcnoenbaaGreatDoor
