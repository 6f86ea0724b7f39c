/- Texts as one: RefDagPar, RefDagNext, RefHdrCheck, RefDagVote, RefCertEncode, RefCert. -/
import Derived.Test.YtmjkbdgcnoenbaaGreatDoorDd17
import Derived.Test.YtmjkbdgcnoenbaaGreatDoorDd09
import Derived.Test.YtmjkbdgcnoenbaaGreatDoorDd10
import Derived.Test.YtmjkbdgcnoenbaaGreatDoorDd11
import Derived.Test.YtmjkbdgcnoenbaaGreatDoorDd06
import Derived.Test.YtmjkbdgcnoenbaaGreatDoorDd08
import Derived.Lib.QuietBelow
import Derived.Deep.QuietTactic
import Derived.BigQuiet
import Derived.Deep.DeepCutAuto
import Derived.Test.YtmjkbdgcnoenbaaGreatDoorDd13
/- What the document's parents and Next do. -/
namespace Go.Proofs.YtmjkbdgcnoenbaaGreatDoor
open Go Go.RowKit
set_option linter.unusedVariables false

theorem certM_round (rs : List RowM) (id : ByteArray) : (certM (gotM rs id)).hdr.round = gotRd (getC (rs.map RowM.d) id) := by
 rw [gotM_d]
 unfold certM gotRd
 cases gotM rs id <;> rfl

set_option maxRecDepth 100000 in
set_option maxHeartbeats 4000000 in
theorem refParents14_any (x : HdrM) (gb : Nat) (ql qv : Value) (rt : Nat) (me : Int) (rs : List RowM) (vs : List VoteD) (low own : Int) (w : World) (h : RDg w gb ql qv rt me rs vs low own) (hA : x.At w) (hp : x.parents.length ≤ 1000000) (hr1 : 1 ≤ x.round) (hr2 : x.round ≤ 4611686018427387903) :
  Calls Tryz.prog 55 #[.pointer (some ⟨gb, 0, none⟩), x.v] w fun e w' => e = .returned (.int .i64 (parE ⟨rs.map RowM.d, vs, low, own⟩ x.d : Int)) ∧ Below w.heap.size w w' := by
 have cM := fun w1 h1 h2 => refMissing14_any x gb ql qv rt me rs vs low own w1 h1 h2 hp
 obtain ⟨ML, hML⟩ : ∃ z, Hid (missD ⟨rs.map RowM.d, vs, low, own⟩ x.d = z) := ⟨_, rfl⟩
 rw [hML.out] at cM
 obtain ⟨PE, hPE⟩ : ∃ z, Hid (parE ⟨rs.map RowM.d, vs, low, own⟩ x.d = z) := ⟨_, rfl⟩
 have hPE2 : Hid (PE = if ML ≠ [] then 14 else if low < x.round ∧ (x.parents.any (fun p => decide ((certM (gotM rs p)).hdr.round ≠ x.round - 1))) = true then 9 else 0) := by
  show PE = _
  rw [← hPE.out]
  unfold parE oddP
  rw [hML.out]
  simp only [certM_round]
  rfl
 rw [hPE.out]
 have hbx := belowNew w (.cells x.c.toArray 33)
 have hX := Arr.new w 33 x.c
 have h1 := h.below hbx
 have hA1 := hA.below hbx
 obtain ⟨xa, xr, xra, xrs, xrc, xpa, ps, xpc⟩ := x
 have hp : ps.length ≤ 1000000 := hp
 have hr1 : 1 ≤ xr := hr1
 have hr2 : xr ≤ 4611686018427387903 := hr2
 have hPE2 : Hid (PE = if ML ≠ [] then 14 else if low < xr ∧ (ps.any (fun p => decide ((certM (gotM rs p)).hdr.round ≠ xr - 1))) = true then 9 else 0) := hPE2
 have hpr1 := hA1.ps
 unfold HdrM.v at cM ⊢
 unfold HdrM.c at hbx hX h1 hA1 hpr1
 simp only at cM hbx hX h1 hA1 hpr1 ⊢
 have x0 := hX.cell (i := 0) rfl
 have x1 := hX.cell (i := 1) rfl
 have x2 := hX.cell (i := 2) rfl
 have x3 := hX.cell (i := 3) rfl
 go_enter Tryz.func55, Tryz.ntmps55
 go_wp2_with fail
 refine (cM _ h1 hA1).mono ?_
 rintro e w2 ⟨v, rfl, hQ, hb2⟩
 obtain ⟨va, vc, rfl, _, _⟩ := hQ.form
 have hX2 := hX.below hb2 hX.lt
 have h2 := h1.below hb2
 have hpr2 : RowAt strK w2 xpa ps := RowAt.below hpr1 hb2
 have hB2 := hbx.trans (hb2.mono hbx.size)
 clear cM x0 x1 x2 x3 hX h1 hA1 hpr1 hb2 hbx hQ hA hPE
 rcases (by cases ML with | nil => exact Or.inl rfl | cons z r => exact Or.inr (by simp) : ML = [] ∨ ML ≠ []) with hm | hm
 ·subst hm
  have hPE3 : Hid (PE = if low < xr ∧ (ps.any (fun p => decide ((certM (gotM rs p)).hdr.round ≠ xr - 1))) = true then 9 else 0) := by show PE = _; rw [hPE2.out, if_neg (by simp)]
  clear hPE2 hML
  have cG := fun id w1 h1 => refGet14_any id gb ql qv rt me rs vs low own w1 h1
  have hxw : IntKind.i64.wrap (xr - 1) = xr - 1 := by rw [wrap_i64P]; exact Mx.wrap64_small _ (by omega) (by omega)
  go_wp2_with fail
  go_loopw [5, 6, 7] (fun v5 _ _ wr => ∃ i : Nat, i ≤ ps.length ∧ v5 = .int .i64 (i : Int) ∧ Hid (low < xr → ∀ p ∈ ps.take i, (certM (gotM rs p)).hdr.round = xr - 1) ∧ (low < xr ∨ i = 0) ∧ Below w2.heap.size w2 wr) (fun v _ _ _ => ps.length - (intOf v).toNat)
  case atStart => exact ⟨0, Nat.zero_le _, rfl, (fun _ p hp => by simp at hp), Or.inr rfl, Below.refl _ _⟩
  case round =>
   obtain ⟨i, hi, rfl, hok, hlo, hb⟩ := hrel
   have hr := h2.below hb
   have hXr := hX2.below hb hX2.lt
   have c4 := hr.box.cell (i := 4) rfl
   have x1 := hXr.cell (i := 1) rfl
   have x3 := hXr.cell (i := 3) rfl
   go_upto_region 4 with fail
   by_cases hil : i < ps.length
   ·have gd : decide (i < ps.length) = true := decide_eq_true hil
    have g1 : (i : Int) < (ps.length : Int) := by omega
    by_cases hlw : low < xr
    ·obtain ⟨p, hpi⟩ : ∃ p, ps[i]? = some p := ⟨_, List.getElem?_eq_getElem hil⟩
     have gl : decide (low < xr) = true := decide_eq_true hlw
     go_quiet (fail)
     have hbq := hb.trans ((below_drewN (Below.refl wr.heap.size wr) nq).mono hb.size)
     generalize wr.drewN nq = w3 at hbq ⊢
     clear c4 x1 x3 hr hXr hb
     have hX3 := hX2.below hbq hX2.lt
     have x3 := hX3.cell (i := 3) rfl
     obtain ⟨b, off, hpa, hbl, y0⟩ := (hpr2.below hbq).strs i hil
     rw [(List.getElem?_eq_some_iff.1 hpi).2] at y0
     subst hpa
     have cGp := cG p w3 (h2.below hbq)
     obtain ⟨cm, hcm⟩ : ∃ z, Hid (certM (gotM rs p) = z) := ⟨_, rfl⟩
     obtain ⟨bs, hbs⟩ : ∃ z, Hid ((gotM rs p).isSome = z) := ⟨_, rfl⟩
     rw [hcm.out, hbs.out] at cGp
     unfold CertM.v at cGp
     go_wp2_with fail
     refine cGp.mono ?_
     rintro e w4 ⟨rfl, hb4⟩
     have hbc := belowNew w4 (.cells #[.int .i64 cm.hdr.author, .int .i64 cm.hdr.round, .slice cm.hdr.ra cm.hdr.refs.length cm.hdr.rc, .slice cm.hdr.pa cm.hdr.parents.length cm.hdr.pc, .slice cm.va cm.votes.length cm.vc] 48)
     have hC5 := Arr.new w4 48 [.int .i64 cm.hdr.author, .int .i64 cm.hdr.round, .slice cm.hdr.ra cm.hdr.refs.length cm.hdr.rc, .slice cm.hdr.pa cm.hdr.parents.length cm.hdr.pc, .slice cm.va cm.votes.length cm.vc]
     have hX5 := (hX3.below hb4 hX3.lt).below hbc (hX3.below hb4 hX3.lt).lt
     have hb5 := hbq.trans ((hb4.trans (hbc.mono hb4.size)).mono hbq.size)
     have q1 := hC5.cell (i := 1) rfl
     have z1 := hX5.cell (i := 1) rfl
     clear cGp x3 y0 hX3 hb4 hbc hbq
     by_cases hod : cm.hdr.round = xr - 1
     ·have hok' : Hid (low < xr → ∀ p ∈ ps.take (i + 1), (certM (gotM rs p)).hdr.round = xr - 1) := fun hl q hq => by
       rw [List.take_add_one, hpi] at hq
       rcases List.mem_append.1 hq with hq | hq
       ·exact hok.out hl q hq
       ·simp at hq
        rw [hq, hcm.out]
        exact hod
      have gn : (cm.hdr.round != xr - 1) = false := by simp [hod]
      have hod' : Hid _ := hod
      clear hod hpi hok
      go_wp2
      go_roundw
      case rel => exact ⟨i + 1, by omega, by go_num, hok', Or.inl hlw, hb5⟩
      case measure => simp [intOf]; omega
     ·have hPF : Hid (PE = 9) := by
       show PE = 9
       rw [hPE3.out, if_pos ⟨hlw, List.any_eq_true.2 ⟨p, List.mem_of_getElem? hpi, by rw [hcm.out]; simpa using hod⟩⟩]
      have gn : (cm.hdr.round != xr - 1) = true := by simp [hod]
      have hbF := hB2.trans (hb5.mono hB2.size)
      clear hpi hok
      go_wp2
      go_ret
      exact ⟨by rw [hPF.out]; rfl, hbF⟩
    ·have gl : decide (low < xr) = false := decide_eq_false hlw
     have hPF : Hid (PE = 0) := by show PE = 0; rw [hPE3.out, if_neg (fun e => hlw e.1)]
     go_quiet (fail)
     have hbF := hB2.trans ((hb.trans ((below_drewN (Below.refl wr.heap.size wr) nq).mono hb.size)).mono hB2.size)
     clear c4 x1 x3 hr hXr hb
     go_wp2
     go_ret
     exact ⟨by rw [hPF.out]; rfl, hbF⟩
   ·have gd : decide (i < ps.length) = false := decide_eq_false hil
    have g1 : ¬ (i : Int) < (ps.length : Int) := by omega
    have hPF : Hid (PE = 0) := by
     show PE = 0
     rw [hPE3.out, if_neg]
     rintro ⟨hl, ha⟩
     obtain ⟨p, hp', he⟩ := List.any_eq_true.1 ha
     have := hok.out hl p (by rw [List.take_of_length_le (by omega)]; exact hp')
     simp [this] at he
    go_quiet (fail)
    have hbF := hB2.trans ((hb.trans ((below_drewN (Below.refl wr.heap.size wr) nq).mono hb.size)).mono hB2.size)
    clear c4 x1 x3 hr hXr hb
    go_wp2
    go_ret
    exact ⟨by rw [hPF.out]; rfl, hbF⟩
 ·have hPF : Hid (PE = 14) := by show PE = 14; rw [hPE2.out, if_pos hm]
  have g1 : (0 : Int) < (ML.length : Int) := by have := List.length_pos_iff.2 hm; omega
  have g1' : 0 < ML.length := List.length_pos_iff.2 hm
  clear hPE2 hML
  go_wp2
  go_ret
  exact ⟨by rw [hPF.out]; rfl, hB2⟩
end Go.Proofs.YtmjkbdgcnoenbaaGreatDoor

/- What the document's Next does. -/
namespace Go.Proofs.YtmjkbdgcnoenbaaGreatDoor
open Go Go.RowKit
set_option linter.unusedVariables false

theorem results_hdr_tmpR {fn : Func} {p u : Tmp} (h : fn.results = #[.cell p 33, .tmp u]) (tmps : Array Value) (w : World) (g : Nat) (x : HdrM)
  (hp : tmps.getD p undef = .pointer (some ⟨g, 0, none⟩)) (hg : Arr w g 33 x.c) (v : Value) (hv : tmps.getD u undef = v) :
  (results fn tmps).run Tryz.prog w = .ok (.tuple #[x.v, v]) w := by
 rw [results_cell_tmp h, hp, hv]
 have hl := run_loadVar_row w g 33 33 x.c.toArray (0, 0) _ hg Tryz.underlying33 rfl infoHdr6
 simp [asAddr, hl, HdrM.v, HdrM.c, Result.andThen]

def GotNext (W : World) (f : Nat) (gb : Nat) (ql qv : Value) (rt : Nat) (me : Int) (rs : List RowM) (vs : List VoteD) (low own : Int) (e : Ending) (w : World) : Prop :=
 ∃ x : HdrM, e = .returned (.tuple #[x.v, .bool (nextOk (2 * f + 1) ⟨rs.map RowM.d, vs, low, own⟩)]) ∧ x.d = nextH (2 * f + 1) me ⟨rs.map RowM.d, vs, low, own⟩ [] ∧ x.At w ∧ (∀ b, x.foot b → W.heap.size ≤ b) ∧ RDg w gb ql qv rt me rs vs low (nextD (2 * f + 1) ⟨rs.map RowM.d, vs, low, own⟩).own ∧ Kept (GFoot gb ql qv) W w

set_option maxRecDepth 100000 in
set_option maxHeartbeats 4000000 in
theorem refNext14_any (f : Nat) (ks : List ByteArray) (gb : Nat) (ql qv : Value) (rt : Nat) (me : Int) (rs : List RowM) (vs : List VoteD) (low own : Int) (w : World) (h : RDg w gb ql qv rt me rs vs low own) (hT : TEnv w rt f ks) (hr : roundC (2 * f + 1) (rs.map RowM.d) ≤ 4611686018427387903) :
  Calls Tryz.prog 24 #[.pointer (some ⟨gb, 0, none⟩), .slice none 0 0] w fun e w' => GotNext w f gb ql qv rt me rs vs low own e w' := by
 have h0 := roundC_ge0 (2 * f + 1) (rs.map RowM.d)
 obtain ⟨R, hR⟩ : ∃ z, Hid (roundC (2 * f + 1) (rs.map RowM.d) = z) := ⟨_, rfl⟩
 obtain ⟨NO, hNO⟩ : ∃ z, Hid (nextOk (2 * f + 1) ⟨rs.map RowM.d, vs, low, own⟩ = z) := ⟨_, rfl⟩
 have hNO2 : Hid (NO = decide (own < R + 1 ∧ low ≤ R + 1)) := by show NO = _; rw [← hNO.out, ← hR.out]; rfl
 have hH : Hid (nextH (2 * f + 1) me ⟨rs.map RowM.d, vs, low, own⟩ [] = if NO = true then ⟨me, R + 1, [], idsC (rs.map RowM.d) R⟩ else ⟨0, 0, [], []⟩) := by
  show _ = _
  unfold nextH
  rw [hNO.out, ← hR.out]
 have hOw : Hid ((nextD (2 * f + 1) ⟨rs.map RowM.d, vs, low, own⟩).own = if NO = true then R + 1 else own) := by
  show _ = _
  unfold nextD
  rw [hNO.out, ← hR.out]
  split <;> rfl
 rw [hR.out] at hr h0
 have hfin : Hid (∀ (e : Ending) (w' : World) (x : HdrM), e = .returned (.tuple #[x.v, .bool NO]) → x.d = (if NO = true then ⟨me, R + 1, [], idsC (rs.map RowM.d) R⟩ else ⟨0, 0, [], []⟩) → x.At w' → (∀ b, x.foot b → w.heap.size ≤ b) → RDg w' gb ql qv rt me rs vs low (if NO = true then R + 1 else own) → Kept (GFoot gb ql qv) w w' → GotNext w f gb ql qv rt me rs vs low own e w') := fun e w' x h1 h2 h3 h4 h5 h6 =>
  ⟨x, by rw [hNO.out]; exact h1, by rw [hH.out]; exact h2, h3, h4, by rw [hOw.out]; exact h5, h6⟩
 generalize GotNext w f gb ql qv rt me rs vs low own = GOT at hfin ⊢
 have cR := fun w1 h1 h2 => refRound14_any f ks gb ql qv rt me rs vs low own w1 h1 h2
 rw [hR.out] at cR
 have cI := fun w1 (o : Int) h1 => refIds14_any R gb ql qv rt me rs vs low o w1 h1
 obtain ⟨XL, hXL⟩ : ∃ z, Hid (idsC (rs.map RowM.d) R = z) := ⟨_, rfl⟩
 rw [hXL.out] at cI hfin
 have hbz := belowNew w (.cells #[.int .i64 0, .int .i64 0, .slice none 0 0, .slice none 0 0] 33)
 have hZ := Arr.new w 33 [.int .i64 0, .int .i64 0, .slice none 0 0, .slice none 0 0]
 have h1 := h.below hbz
 have hT1 := hT.below hbz
 have hw1 : IntKind.i64.wrap (R + 1) = R + 1 := by rw [wrap_i64P]; exact Mx.wrap64_small _ (by omega) (by omega)
 go_enter Tryz.func24, Tryz.ntmps24
 go_wp2_with fail
 refine (cR _ h1 hT1).mono ?_
 rintro e w2 ⟨rfl, hb2⟩
 have hZ2 := hZ.below hb2 hZ.lt
 have h2 := h1.below hb2
 have hB2 := hbz.trans (hb2.mono hbz.size)
 have hgl := h.box.lt
 clear cR h1 hT1 hZ hbz hb2
 have c4 := h2.box.cell (i := 4) rfl
 have c5 := h2.box.cell (i := 5) rfl
 have f5 := h2.box.frozen 5
 by_cases hok : own < R + 1 ∧ low ≤ R + 1
 ·obtain rfl : NO = true := by rw [hNO2.out]; exact decide_eq_true hok
  have g1 : ¬ (R + 1 ≤ own) := by omega
  have g2 : ¬ (R + 1 < low) := by omega
  simp only [if_true] at hfin
  have h3 := h2.setOwn (R + 1)
  have hZ3 := hZ2.other (p := ⟨gb, 5, none⟩) (by show w.heap.size ≠ gb; omega) (.int .i64 (R + 1))
  have hk3 : Kept (GFoot gb ql qv) w (w2.setCell ⟨gb, 5, none⟩ (.int .i64 (R + 1))) := (Kept.of_below hB2).set (p := ⟨gb, 5, none⟩) (Or.inl rfl) _
  have hs3 : w.heap.size ≤ w2.heap.size := hB2.size
  go_upto_region 5 with fail
  obtain ⟨w3, hw3⟩ : ∃ z, w2.setCell ⟨gb, 5, none⟩ (.int .i64 (R + 1)) = z := ⟨_, rfl⟩
  have hs4 : w3.heap.size = w2.heap.size := by rw [← hw3, setCell_size]
  rw [hw3] at h3 hZ3 hk3 ⊢
  clear hw3 c4 c5 f5 h2 hZ2 hB2
  have hkp : ∀ U, Kept (fun k => k = w.heap.size) w3 U → U.cell? ⟨gb, 1, none⟩ = some (.int .i64 me) := fun U hU => (h3.box.kept hU (by omega)).cell (i := 1) rfl
  have bd : Below w3.heap.size w3 w3.drew := below_drewN (Below.refl _ w3) 1
  have kd' : Kept (fun k => k = w.heap.size) w3 w3.drew := Kept.of_below bd
  have hS0 := hkp _ kd'
  have h3d := h3.below bd
  go_region_held3 (fun w' => w'.cell? ⟨gb, 1, none⟩ = some (.int .i64 me)) (exact hkp _ (by assumption))
   (first
   | (go_at_call 35; refine (cI _ _ h3d).mono ?_; rintro e wI ⟨v, rfl, hQI, bI0⟩; have bI : Below w3.heap.size w3 wI := bd.trans bI0; have kI : Kept (fun k => k = w.heap.size) w3 wI := Kept.of_below bI; obtain ⟨ia, ic, rfl, hin, hiR⟩ := hQI.form; have hZI := hZ3.below bI hZ3.lt; have z0 := hZI.cell (i := 0) rfl; have z1 := hZI.cell (i := 1) rfl; have z2 := hZI.cell (i := 2) rfl; have z3 := hZI.cell (i := 3) rfl; have q0 := hZI.frozen 0; have q1 := hZI.frozen 1; have q2 := hZI.frozen 2; have q3 := hZI.frozen 3; have kG := kI.trans (kept_set4 wI w.heap.size (.int .i64 me) (.int .i64 (R + 1)) (.slice none 0 0) (.slice ia XL.length ic))))
  all_goals
   have hzl := hZ3.lt
   have k4 := kept_set4 wI w.heap.size (.int .i64 me) (.int .i64 (R + 1)) (.slice none 0 0) (.slice ia XL.length ic)
   have hZF := hZI.set4 (.int .i64 me) (.int .i64 (R + 1)) (.slice none 0 0) (.slice ia XL.length ic)
   have hfo : ∀ b, rowFoot strK ia XL b → w3.heap.size ≤ b := fun b hf => by
    obtain ⟨_, o3, e3⟩ := strs_foot hf
    exact (hQI.lt b (by rw [e3]; rfl)).1
   have h4 := (h3.below bI).kept k4 (fun k hk e => by
    have e' : k = w.heap.size := e
    rcases hk with e1 | e1 | e1
    ·omega
    ·have := (h.row.lt k e1).2; omega
    ·have := (h.vot.lt k e1).2; omega) (fun x hx b hf e => by have e' : b = w.heap.size := e; have := Kind.lt certK (h.row.at_ x hx) hf; omega)
   have hiF := hiR.kept k4 (fun b hf e => by have := hfo b hf; have e' : b = w.heap.size := e; omega)
   have hkF := (hk3.transOr (Kept.of_below (S := fun _ => False) bI) (fun _ h => h.elim)).transOr k4 (fun j e => Or.inr (by have e' : j = w.heap.size := e; omega))
   have fin := hfin.out (.returned (.tuple #[HdrM.v ⟨me, R + 1, none, [], 0, ia, XL, ic⟩, .bool true])) _ ⟨me, R + 1, none, [], 0, ia, XL, ic⟩ rfl rfl ⟨nil_row _ _, fun _ => rfl, hiF, hin⟩ (fun b hf => hf.elim (fun hf => (nil_foot hf).elim) (fun hf => by have := hfo b hf; omega)) h4 hkF
   have hZF : Arr _ w.heap.size 33 (HdrM.c ⟨me, R + 1, none, [], 0, ia, XL, ic⟩) := hZF
   unfold set4 at hZF fin
   clear hkp hS0 kd' cI k4 hiF h4 hkF kG
   try go_wp2
   refine bodyPost_ret (v := .tuple #[HdrM.v ⟨me, R + 1, none, [], 0, ia, XL, ic⟩, .bool true]) (results_hdr_tmpR rfl _ _ w.heap.size ⟨me, R + 1, none, [], 0, ia, XL, ic⟩ rfl hZF _ rfl) rfl ?_
   exact fin
 ·obtain rfl : NO = false := by rw [hNO2.out]; exact decide_eq_false hok
  simp only [Bool.false_eq_true, if_false] at hfin
  have z0 := hZ2.cell (i := 0) rfl
  have z1 := hZ2.cell (i := 1) rfl
  have z2 := hZ2.cell (i := 2) rfl
  have z3 := hZ2.cell (i := 3) rfl
  have q0 := hZ2.frozen 0
  have q1 := hZ2.frozen 1
  have q2 := hZ2.frozen 2
  have q3 := hZ2.frozen 3
  have k4 := kept_set4 w2 w.heap.size (.int .i64 0) (.int .i64 0) (.slice none 0 0) (.slice none 0 0)
  have hZF := hZ2.set4 (.int .i64 0) (.int .i64 0) (.slice none 0 0) (.slice none 0 0)
  have h4 := h2.kept k4 (fun k hk e => by
   have e' : k = w.heap.size := e
   rcases hk with e1 | e1 | e1
   ·omega
   ·have := (h.row.lt k e1).2; omega
   ·have := (h.vot.lt k e1).2; omega) (fun x hx b hf e => by have e' : b = w.heap.size := e; have := Kind.lt certK (h.row.at_ x hx) hf; omega)
  have hkF := (Kept.of_below (S := GFoot gb ql qv) hB2).transOr k4 (fun j e => Or.inr (by have e' : j = w.heap.size := e; omega))
  have fin := hfin.out (.returned (.tuple #[HdrM.v ⟨0, 0, none, [], 0, none, [], 0⟩, .bool false])) _ ⟨0, 0, none, [], 0, none, [], 0⟩ rfl rfl ⟨nil_row _ _, fun _ => rfl, nil_row _ _, fun _ => rfl⟩ (fun b hf => hf.elim (fun hf => (nil_foot hf).elim) (fun hf => (nil_foot hf).elim)) h4 hkF
  have fin0 := hfin.out (.returned (.tuple #[HdrM.v ⟨0, 0, none, [], 0, none, [], 0⟩, .bool false])) _ ⟨0, 0, none, [], 0, none, [], 0⟩ rfl rfl ⟨nil_row _ _, fun _ => rfl, nil_row _ _, fun _ => rfl⟩ (fun b hf => hf.elim (fun hf => (nil_foot hf).elim) (fun hf => (nil_foot hf).elim)) h2 (Kept.of_below hB2)
  have hZF : Arr _ w.heap.size 33 (HdrM.c ⟨0, 0, none, [], 0, none, [], 0⟩) := hZF
  have hZ0 : Arr w2 w.heap.size 33 (HdrM.c ⟨0, 0, none, [], 0, none, [], 0⟩) := hZ2
  unfold set4 at hZF fin
  clear k4 h4 hkF hZ2
  rcases (by by_cases hq : R + 1 ≤ own; exact Or.inl hq; exact Or.inr ⟨hq, by omega⟩ : R + 1 ≤ own ∨ (¬ R + 1 ≤ own ∧ R + 1 < low)) with hq | ⟨hq, hq2⟩
  all_goals
   go_wp2
   first
    | (refine bodyPost_ret (v := .tuple #[HdrM.v ⟨0, 0, none, [], 0, none, [], 0⟩, .bool false]) (results_hdr_tmpR rfl _ _ w.heap.size ⟨0, 0, none, [], 0, none, [], 0⟩ rfl hZ0 _ rfl) rfl ?_; exact fin0)
    | (refine bodyPost_ret (v := .tuple #[HdrM.v ⟨0, 0, none, [], 0, none, [], 0⟩, .bool false]) (results_hdr_tmpR rfl _ _ w.heap.size ⟨0, 0, none, [], 0, none, [], 0⟩ rfl hZF _ rfl) rfl ?_; exact fin)
end Go.Proofs.YtmjkbdgcnoenbaaGreatDoor

/- What tuskref06.Rising and tuskref06.Check do; nothing old in memory is turned. -/
namespace Go.Proofs.YtmjkbdgcnoenbaaGreatDoor
open Go.RowKit Go.Sort
set_option linter.unusedVariables false

def lastD (a : ByteArray) : List ByteArray → ByteArray
 | [] => a
 | x :: l => lastD x l

theorem lastD_snoc : ∀ (l : List ByteArray) (a k : ByteArray), lastD a (l ++ [k]) = k
 | [], _, _ => rfl
 | x :: l, a, k => lastD_snoc l x k

theorem risP_snoc : ∀ (l : List ByteArray) (a k : ByteArray), risP a l = 0 → risP a (l ++ [k]) = digE k (lastD a l)
 | [], a, k, _ => by
  rw [List.nil_append, risP, lastD]
  by_cases h : digE k a ≠ 0
  ·rw [if_pos h]
  ·rw [if_neg h, risP]; omega
 | x :: l, a, k, h => by
  rw [risP] at h
  by_cases hd : digE x a ≠ 0
  ·rw [if_pos hd] at h; omega
  ·rw [if_neg hd] at h
   rw [List.cons_append, risP, if_neg hd, lastD]
   exact risP_snoc l x k h

def aheadOf (l : List ByteArray) (i : Nat) : ByteArray := if i = 0 then ⟨#[]⟩ else l.getD (i - 1) ⟨#[]⟩

set_option maxRecDepth 100000 in
set_option maxHeartbeats 1000000 in
theorem refRising_any (ao : Option Addr) (cap : Nat) (l : List ByteArray) (w : World) (hA : RowAt strK w ao l) (hn : l.length ≤ maxLen) :
  Calls Tryz.prog 70 #[.slice ao l.length cap] w fun e w' => e = .returned (.int .i64 (risP ⟨#[]⟩ l : Int)) ∧ Below w.heap.size w w' := by
 obtain ⟨res, hres⟩ : ∃ z, Hid (z = risP ⟨#[]⟩ l) := ⟨_, rfl⟩
 rw [← hres.out]
 unfold maxLen at hn
 go_enter Tryz.func70, Tryz.ntmps70
 go_wp2
 go_loopw [3] (fun v3 wr => ∃ i : Nat, i ≤ l.length ∧ v3 = .int .i64 (i : Int) ∧ Below w.heap.size w wr ∧ Hid (res = risP (aheadOf l i) (l.drop i))) (fun v _ => l.length - (intOf v).toNat)
 case atStart => exact ⟨0, Nat.zero_le _, rfl, Below.refl _ _, hres⟩
 case round =>
  obtain ⟨i, hil, rfl, hb, HR⟩ := hrel
  by_cases hlt : i < l.length
  ·obtain ⟨b, off, rfl, hbl, hc⟩ := (hA.below hb).strs i hlt
   have hnx := risP_next (a := aheadOf l i) (List.getElem?_eq_getElem hlt)
   have HR2 := HR.out.trans hnx
   have hnext : aheadOf l (i + 1) = l[i] := by
    unfold aheadOf
    rw [if_neg (by omega), Nat.add_sub_cancel]
    simp [List.getD, hlt]
   rw [← hnext] at HR2
   clear hnx HR
   have hcp : 0 < i → (wr.cell? ⟨b, off + (i - 1), none⟩ = some (.string (aheadOf l i)) ∧ ((i : Int) - 1 = ((i - 1 : Nat) : Int))) := by
    intro h0
    obtain ⟨b', off', e, hbl', hc'⟩ := (hA.below hb).strs (i - 1) (by omega)
    simp at e
    obtain ⟨rfl, rfl⟩ := e
    refine ⟨?_, by omega⟩
    rw [hc']
    unfold aheadOf
    rw [if_neg (by omega)]
    simp [List.getD, (show i - 1 < l.length by omega)]
   have ha0 : i = 0 → aheadOf l i = ⟨#[]⟩ := fun h => if_pos h
   obtain ⟨k, hk⟩ : ∃ k, k = l[i] := ⟨_, rfl⟩
   rw [hnext, ← hk] at HR2
   rw [← hk] at hc hnext
   obtain ⟨pa, hpa⟩ : ∃ q, q = aheadOf l i := ⟨_, rfl⟩
   rw [← hpa] at HR2 hcp ha0
   clear hk hpa
   have Hnext : Hid (aheadOf l (i + 1) = k) := hnext
   clear hnext
   by_cases hs : k.size ≠ 32
   ·have hd : digE k pa = 3 := if_pos hs
    rw [hd, if_pos (by decide)] at HR2
    have HF : Hid (res = 3) := HR2
    have hne : ((k.size : Int) != 32) = true := by rw [bne_iff_ne]; omega
    clear HR2 hd hcp ha0
    go_wp2
    go_ret
    exact ⟨by rw [HF.out]; rfl, hb⟩
   have hse : ((k.size : Int) != 32) = false := by rw [bne_eq_false_iff_eq]; omega
   by_cases h0 : i = 0
   ·have hpe := ha0 h0
    subst h0
    have hd : digE k pa = 0 := by unfold digE; rw [if_neg hs, if_neg (by rw [hpe, leB_nil (by omega)]; simp)]
    rw [hd, if_neg (by simp)] at HR2
    have HF : Hid (res = risP (aheadOf l (0 + 1)) (l.drop (0 + 1))) := by rw [Hnext.out]; exact HR2
    rw [Nat.add_zero] at hc
    clear HR2 hd hcp ha0 hpe hs
    go_wp2_with fail
    go_big_quiet (fail)
    have hb2 := below_drewN hb nq
    clear hb hc
    generalize wr.drewN nq = w1 at *
    go_wp2
    go_roundw
    case rel => exact ⟨0 + 1, by omega, by go_num, hb2, HF⟩
    case measure => simp [intOf]; omega
   ·obtain ⟨hc1, hi1⟩ := hcp (by omega)
    have hi0 : (0 : Int) < (i : Int) := by omega
    have hi2 : i - 1 < l.length := by omega
    have dn : decide (0 < i) = true := decide_eq_true (by omega)
    clear hcp ha0
    obtain ⟨i1, hi1e⟩ : ∃ q, q = i - 1 := ⟨_, rfl⟩
    rw [← hi1e] at hc1 hi1 hi2
    cases hl : leB k pa with
    | true =>
     have hd : digE k pa = 9 := by unfold digE; rw [if_neg hs, if_pos hl]
     rw [hd, if_pos (by decide)] at HR2
     have HF : Hid (res = 9) := HR2
     have hl' : (Op.bytesLess k.toList pa.toList || k.toList == pa.toList) = true := hl
     clear HR2 hd hl hi1e hs
     go_wp2_with fail
     go_big_quiet (fail)
     have hb2 := below_drewN hb nq
     clear hb hc hc1
     generalize wr.drewN nq = w1 at *
     go_wp2
     go_ret
     exact ⟨by rw [HF.out]; rfl, hb2⟩
    | false =>
     have hd : digE k pa = 0 := by unfold digE; rw [if_neg hs, if_neg (by rw [hl]; simp)]
     rw [hd, if_neg (by simp)] at HR2
     have HF : Hid (res = risP (aheadOf l (i + 1)) (l.drop (i + 1))) := by rw [Hnext.out]; exact HR2
     have hl' : (Op.bytesLess k.toList pa.toList || k.toList == pa.toList) = false := hl
     clear HR2 hd hl hi1e hs
     go_wp2_with fail
     go_big_quiet (fail)
     have hb2 := below_drewN hb nq
     clear hb hc hc1
     generalize wr.drewN nq = w1 at *
     go_wp2
     go_roundw
     case rel => exact ⟨i + 1, by omega, by go_num, hb2, HF⟩
     case measure => simp [intOf]; omega
  ·have HF : Hid (res = 0) := by
    have := HR.out
    rw [List.drop_eq_nil_of_le (by omega), risP] at this
    exact this
   clear HR
   go_wp2
   go_ret
   exact ⟨by rw [HF.out]; rfl, hb⟩

def digs (l : List RefM) : List ByteArray := l.map RefM.digest

theorem digs_take_succ (l : List RefM) (k : Nat) (x : RefM) (h : l[k]? = some x) : digs (l.take (k + 1)) = digs (l.take k) ++ [x.digest] := by
 have hk := (List.getElem?_eq_some_iff.1 h).1
 have he := (List.getElem?_eq_some_iff.1 h).2
 rw [List.take_succ_eq_append_getElem hk, he]
 simp [digs]

set_option maxRecDepth 100000 in
set_option maxHeartbeats 4000000 in
theorem refHdrCheck_any (tb f : Nat) (ks : List ByteArray) (x : HdrM) (w : World) (hT : Mx.TabAt w tb f ks) (hf : f ≤ 2) (hkl : ks.length = 3 * f + 1) (hks : ∀ k ∈ ks, k.size ≤ 32) (hA : x.At w) (hlm : ∀ r ∈ x.refs, r.acks.length ≤ maxLen) (hpm : x.parents.length ≤ maxLen) (hG : Mx.Glob w) :
  Calls Tryz.prog 41 #[.pointer (some ⟨tb, 0, none⟩), x.v] w fun e w' => e = .returned (.int .i64 (chkH (3 * f + 1) (2 * f + 1) (enT ks f) x.d : Int)) ∧ Below w.heap.size w w' := by
 obtain ⟨au, ro, ra, rs, rc, pa, ps, pc⟩ := x
 have hA1 : RowAt refK w ra rs := hA.refs
 have hA2 : RowAt strK w pa ps := hA.ps
 obtain ⟨i0, hi, hz0, hz1, hz2⟩ := info_parts infoString
 have hX := Arr.new w 33 [.int .i64 au, .int .i64 ro, .slice ra rs.length rc, .slice pa ps.length pc]
 have hB := belowNew w (.cells #[.int .i64 au, .int .i64 ro, .slice ra rs.length rc, .slice pa ps.length pc] 33)
 obtain ⟨res, hres⟩ : ∃ z, Hid (z = chkH (3 * f + 1) (2 * f + 1) (enT ks f) (HdrM.d ⟨au, ro, ra, rs, rc, pa, ps, pc⟩)) := ⟨_, rfl⟩
 rw [← hres.out]
 have HR : Hid (res = if au < 0 ∨ ((3 * f + 1 : Nat) : Int) ≤ au ∨ ro < 1 ∨ 4611686018427387903 < ro then 2 else if 4 < rs.length then 8 else if refP (enT ks f) ⟨#[]⟩ (rd rs) ≠ 0 then refP (enT ks f) ⟨#[]⟩ (rd rs) else if risP ⟨#[]⟩ ps ≠ 0 then risP ⟨#[]⟩ ps else countE (3 * f + 1) (2 * f + 1) ro ps.length) := by
  have := hres.out
  simp only [chkH, HdrM.d, rd_length] at this
  exact this
 have hlm' : ∀ r ∈ rs, r.acks.length ≤ maxLen := hlm
 have hpm' : ps.length ≤ maxLen := hpm
 have hT1 := hT.below hB
 have hG1 := hG.below hB
 unfold HdrM.v
 simp only
 obtain ⟨w0, hw0⟩ : ∃ q, w.alloc (.cells #[.int .i64 au, .int .i64 ro, .slice ra rs.length rc, .slice pa ps.length pc] 33) = q := ⟨_, rfl⟩
 rw [hw0] at hX hB hT1 hG1
 have x0 := hX.cell (i := 0) rfl
 have x1 := hX.cell (i := 1) rfl
 obtain ⟨nn, hnn⟩ : ∃ z, Hid (z = 3 * f + 1) := ⟨_, rfl⟩
 obtain ⟨nd, hnd⟩ : ∃ z, Hid (z = 2 * f + 1) := ⟨_, rfl⟩
 have cN : ∀ (v : World) (hv : Mx.TabAt v tb f ks), ∀ m, Calls Tryz.prog 43 #[.pointer (some ⟨tb, 0, none⟩)] (v.drewN m) fun e w' => e = .returned (.int .i64 (nn : Int)) ∧ w' = v.drewN m := fun v hv m => by
  rw [hnn.out]
  exact Mx.refN_any tb f ks _ (hv.below (below_drewN (Below.refl _ _) m)) hf
 have cD : ∀ (v : World) (hv : Mx.TabAt v tb f ks), ∀ m, Calls Tryz.prog 45 #[.pointer (some ⟨tb, 0, none⟩)] (v.drewN m) fun e w' => e = .returned (.int .i64 (nd : Int)) ∧ w' = v.drewN m := fun v hv m => by
  rw [hnd.out]
  exact Mx.refNeed_any tb f ks _ (hv.below (below_drewN (Below.refl _ _) m)) hf
 have cN1 := cN w0 hT1
 have hTw : Hid (Mx.TabAt w tb f ks) := hT
 have hGw : Hid (Mx.Glob w) := hG
 have hkl' : Hid (ks.length = 3 * f + 1) := hkl
 clear hA hlm hpm hT hG hres hkl
 go_enter Tryz.func41, Tryz.ntmps41
 go_wp2_with fail
 by_cases h1 : au < 0
 ·have HF : Hid (res = 2) := HR.out.trans (if_pos (Or.inl h1))
  clear HR
  go_big_quiet (fail)
  have hBF := below_drewN hB nq
  clear hX hB hT1 hG1 x0 x1
  go_wp2
  go_ret
  exact ⟨by rw [HF.out]; rfl, hBF⟩
 have d1 : decide (au < 0) = false := decide_eq_false h1
 by_cases h2 : (nn : Int) ≤ au
 ·have HF : Hid (res = 2) := HR.out.trans (if_pos (Or.inr (Or.inl (by rw [← hnn.out]; exact h2))))
  clear HR
  go_big_quiet (exact Calls.quiet_of_same (cN1 _))
  have hBF := below_drewN hB nq
  clear hX hB hT1 hG1 x0 x1
  go_wp2
  go_ret
  exact ⟨by rw [HF.out]; rfl, hBF⟩
 have d2 : decide ((nn : Int) ≤ au) = false := decide_eq_false h2
 by_cases h3 : ro < 1
 ·have HF : Hid (res = 2) := HR.out.trans (if_pos (Or.inr (Or.inr (Or.inl h3))))
  clear HR
  go_big_quiet (exact Calls.quiet_of_same (cN1 _))
  have hBF := below_drewN hB nq
  clear hX hB hT1 hG1 x0 x1
  go_wp2
  go_ret
  exact ⟨by rw [HF.out]; rfl, hBF⟩
 have d3 : decide (ro < 1) = false := decide_eq_false h3
 by_cases h4 : 4611686018427387903 < ro
 ·have HF : Hid (res = 2) := HR.out.trans (if_pos (Or.inr (Or.inr (Or.inr h4))))
  clear HR
  go_big_quiet (exact Calls.quiet_of_same (cN1 _))
  have hBF := below_drewN hB nq
  clear hX hB hT1 hG1 x0 x1
  go_wp2
  go_ret
  exact ⟨by rw [HF.out]; rfl, hBF⟩
 have d4 : decide (4611686018427387903 < ro) = false := decide_eq_false h4
 have HR2 := HR.out.trans (if_neg (fun h => h.elim h1 (fun h => h.elim (fun h => h2 (by rw [hnn.out]; exact h)) (fun h => h.elim h3 h4))))
 replace HR : Hid (res = _) := HR2
 clear HR2
 go_big_quiet (exact Calls.quiet_of_same (cN1 _))
 have hbq := below_drewN (Below.refl w0.heap.size w0) nq
 have hX2 := hX.below hbq hX.lt
 have hB2 := hB.trans (hbq.mono hB.size)
 generalize w0.drewN nq = w1 at *
 clear hX hB hT1 hG1 x0 x1 hbq cN1
 have x2 := hX2.cell (i := 2) rfl
 by_cases h5 : 4 < rs.length
 ·have h5' : (4 : Int) < (rs.length : Int) := by omega
  have HF : Hid (res = 8) := HR.out.trans (if_pos h5)
  clear HR
  go_wp2
  go_ret
  exact ⟨by rw [HF.out]; rfl, hB2⟩
 have h5' : ¬ (4 : Int) < (rs.length : Int) := by omega
 have HR2 := HR.out.trans (if_neg h5)
 replace HR : Hid (res = _) := HR2
 clear HR2
 have hbz := hB2.size
 have hxl := hX2.lt
 go_wp2
 go_loopw [5, 6, 7] (fun v5 v6 v7 wr => ∃ (i : Nat), i ≤ rs.length ∧ v6 = .int .i64 (i : Int) ∧ KQ strK 9 wr (w.heap.size + 1) v5 (digs (rs.take i)) ∧ Arr wr w.heap.size 33 [.int .i64 au, .int .i64 ro, .slice ra rs.length rc, .slice pa ps.length pc] ∧ Below w.heap.size w wr ∧ Hid (risP ⟨#[]⟩ (digs (rs.take i)) = 0 ∧ refP (enT ks f) ⟨#[]⟩ (rd rs) = refP (enT ks f) (lastD ⟨#[]⟩ (digs (rs.take i))) (rd (rs.drop i)))) (fun _ v _ _ => rs.length - (intOf v).toNat)
 case atStart => exact ⟨0, Nat.zero_le _, rfl, KQ.empty _ _ _ _, hX2, hB2, ⟨rfl, rfl⟩⟩
 case round =>
  clear hX2 hB2 x2 hbz hxl
  obtain ⟨i, hil, rfl, hq, hX, hb, HI⟩ := hrel
  have x2 := hX.cell (i := 2) rfl
  by_cases hlt : i < rs.length
  ·obtain ⟨r, hr⟩ : ∃ r, rs[i]? = some r := ⟨rs[i], List.getElem?_eq_getElem hlt⟩
   obtain ⟨b, off, rfl, hbl, y0, y1⟩ := (hA1.below hb).ref hr
   have hml := hlm' r (List.mem_of_getElem? hr)
   have HMem : Hid (r ∈ rs) := List.mem_of_getElem? hr
   have hds := digs_take_succ rs i r hr
   have hnx := HI.out.2.trans (refP_next hr)
   have hrs := risP_snoc _ _ r.digest HI.out.1
   rw [← hds] at hrs
   have Hnx : Hid (refP (enT ks f) ⟨#[]⟩ (rd rs) = _) := hnx
   have Hrs : Hid (risP ⟨#[]⟩ (digs (rs.take (i + 1))) = _) := hrs
   have hdl : (digs (rs.take i)).length = i := by simp [digs]; omega
   have hdl1 : (digs (rs.take (i + 1))).length = i + 1 := by simp [digs]; omega
   have Hlast : Hid (lastD ⟨#[]⟩ (digs (rs.take (i + 1))) = r.digest) := by show _ = _; rw [hds, lastD_snoc]
   obtain ⟨qa, qc, rfl, hqn, _⟩ := hq.form
   rw [hdl] at hq ⊢
   have Hds : Hid (digs (rs.take (i + 1)) = digs (rs.take i) ++ [r.digest]) := hds
   obtain ⟨dl, hdle⟩ : ∃ q, q = digs (rs.take i) := ⟨_, rfl⟩
   rw [← hdle] at hq hdl Hds Hrs Hnx
   obtain ⟨dl1, hdle1⟩ : ∃ q, q = digs (rs.take (i + 1)) := ⟨_, rfl⟩
   rw [← hdle1] at hdl1 Hds Hrs Hlast
   have Hdle1 : Hid (dl1 = digs (rs.take (i + 1))) := hdle1
   have Hr : Hid (rs[i]? = some r) := hr
   clear hdle hdle1
   have hbx := belowNew wr (.cells #[.string r.digest] 9)
   have hq2 := hq.below hbx
   have hN := new_str wr r.digest
   have hX2 := hX.below hbx hX.lt
   have hb2 := hb.trans (hbx.mono hb.size)
   have hbs : w.heap.size + 1 ≤ (wr.alloc (.cells #[.string r.digest] 9)).heap.size := hX2.lt
   clear hr hds hnx hrs HI hq hX hbx hb
   go_wp2_with (at_builtin; refine wpList_push (K := strK) rfl _ _ 31 rfl (w.heap.size + 1) 9 i0 (.string ⟨#[]⟩) 16 Tryz.underlying31 hi hz0 hz1 hz2 rfl _ dl rfl hq2 r.digest trivial (fun _ h => h.elim) ⟨wr.heap.size, 0, none⟩ 1 rfl hN ?c3 ?c4 hbs ?_)
   case c3 => rw [hdl]; unfold maxLen; omega
   case c4 => rw [hdl]; omega
   intro ao' cap' w2 hq3 hk3
   have hX3 := hX2.kept hk3 (fun e => by have := (hq2.lt _ e).1; omega)
   have hb3 : Below w.heap.size w w2 := hb2.trans (hk3.below hb2.size (fun j hj => by have := (hq2.lt j hj).1; omega))
   rw [← Hds.out] at hq3
   obtain ⟨qa3, qc3, he3, _, hqt3⟩ := hq3.form
   simp only [Value.slice.injEq] at he3
   obtain ⟨rfl, hqq, rfl⟩ := he3
   clear hqq
   have cR := refRising_any ao' cap' dl1 w2 hqt3 (by rw [hdl1]; unfold maxLen; omega)
   rw [hdl1] at cR
   clear hq2 hX2 hb2 hN hbs hk3 hqt3 y0 y1 x2
   have x2 := hX3.cell (i := 2) rfl
   obtain ⟨b', off', e', hbl', y0, y1⟩ := (hA1.below hb3).ref Hr.out
   simp at e'
   obtain ⟨rfl, rfl⟩ := e'
   clear hdl hdl1
   have hxt := ((hA1.below hb3).at_ r HMem.out).1
   by_cases hd : digE r.digest (lastD ⟨#[]⟩ dl) ≠ 0
   ·have hrv : risP ⟨#[]⟩ dl1 = digE r.digest (lastD ⟨#[]⟩ dl) := Hrs.out
    have hrf := Hnx.out.trans (if_pos hd)
    have HF : Hid (res = digE r.digest (lastD ⟨#[]⟩ dl)) := by
     have := HR.out
     rw [hrf, if_pos hd] at this
     exact this
    rw [hrv] at cR
    generalize digE r.digest (lastD ⟨#[]⟩ dl) = de at *
    have hne : ((de : Int) != 0) = true := by rw [bne_iff_ne]; omega
    have hne2 : ((de : Int) == 0) = false := beq_eq_false_iff_ne.2 (by omega)
    clear hrv hrf HR Hrs Hnx
    go_wp2_with fail
    refine cR.mono ?_
    rintro e w3 ⟨rfl, hb4⟩
    have hb5 := hb3.trans (hb4.mono hb3.size)
    clear hb4 cR hX3 hb3 hq3 y0 y1 x2
    go_wp2
    go_ret
    exact ⟨by rw [HF.out]; rfl, hb5⟩
   have hd0 : digE r.digest (lastD ⟨#[]⟩ dl) = 0 := by omega
   have hds2 : r.digest.size = 32 := (digE_zero hd0).1
   have hrv : risP ⟨#[]⟩ dl1 = 0 := Hrs.out.trans hd0
   rw [hrv] at cR
   have hnx2 := Hnx.out.trans (if_neg hd)
   have Hnx2 : Hid (refP (enT ks f) ⟨#[]⟩ (rd rs) = _) := hnx2
   have Hrv : Hid (risP ⟨#[]⟩ dl1 = 0) := hrv
   clear hd hd0 hrv hnx2 Hnx Hrs
   go_wp2_with fail
   refine cR.mono ?_
   rintro e w3 ⟨rfl, hb4⟩
   have hb5 := hb3.trans (hb4.mono hb3.size)
   have hX4 := hX3.below hb4 hX3.lt
   have hq4 := hq3.below hb4
   have hxt4 := hxt.below hb4
   have z0 : w3.cell? ⟨b, off + i * 2, none⟩ = some (.string r.digest) := (hb4.cell (p := ⟨b, off + i * 2, none⟩) hbl').trans y0
   have z1 : w3.cell? ⟨b, off + i * 2 + 1, none⟩ = some (.slice r.ao r.acks.length r.cap) := (hb4.cell (p := ⟨b, off + i * 2 + 1, none⟩) hbl').trans y1
   have hT4 := hTw.out.below hb5
   have hG4 := hGw.out.below hb5
   clear hb4 cR hX3 hb3 hq3 y0 y1 x2 hxt
   have x2 := hX4.cell (i := 2) rfl
   obtain ⟨en, hen⟩ : ∃ q, Hid (q = enT ks f r.acks r.digest) := ⟨_, rfl⟩
   have k1 : ∀ d os, Calls Tryz.prog 71 #[.pointer (some ⟨tb, 0, none⟩), .slice r.ao r.acks.length r.cap, .string ⟨#[97, 99, 107]⟩, .string r.digest] (grow (redrawn w3 d) os) fun e w'' => e = .returned (.int .i64 (en : Int)) ∧ ∃ p : Regrown, w'' = grow (redrawn w3 p.d) p.os := fun d os => Calls.regrown_of (by
    have h := Mx.refEnough_any tb f ks r.ao r.cap (pairT r.acks) ackW r.digest (grow (redrawn w3 d) os) (hT4.below (below_regrown w3 d os)) hf hkl'.out hks (hxt4.below (below_regrown w3 d os)).pairs (by rw [pairT_length]; exact hml) (by decide) (by omega) (hG4.below (below_regrown w3 d os))
    rw [pairT_length] at h
    rw [hen.out]
    exact h)
   have C2 := cell_regrown x2
   have D0 := cell_regrown z0
   have D1 := cell_regrown z1
   clear hT4 hG4 hxt4 z0 z1 hml
   go_wp2_with fail
   refine wp_region_quiet_below (by kernel_rfl) (by kernel_rfl) ?_
   iterate 13 (go_big_quiet_step (fail))
   go_big_quiet_step (exact k1 _ _)
   iterate 1 (go_big_quiet_step (fail))
   refine wpQuiet_nil ?_
   rintro w' ⟨p, rfl⟩
   have hb' := below_regrown w3 p.d p.os
   have hX5 := hX4.below hb' hX4.lt
   have hq5 := hq4.below hb'
   have hB5 := hb5.trans (hb'.mono hb5.size)
   generalize grow (redrawn w3 p.d) p.os = w4 at hX5 hB5 hq5 ⊢
   clear k1 C2 D0 D1 hX4 hb5 hb' x2 hq4
   by_cases he : en ≠ 0
   ·have hne : ((en : Int) != 0) = true := by rw [bne_iff_ne]; omega
    have hee : enT ks f r.acks r.digest ≠ 0 := by rw [← hen.out]; exact he
    have HF : Hid (res = en) := by
     have hrf := Hnx2.out.trans (if_pos hee)
     have := HR.out
     rw [hrf, if_pos hee] at this
     rw [hen.out]
     exact this
    clear HR Hnx2 hee
    go_wp2
    go_ret
    exact ⟨by rw [HF.out]; rfl, hB5⟩
   ·have hen0 : en = 0 := by omega
    subst hen0
    have hee : ¬ enT ks f r.acks r.digest ≠ 0 := by rw [← hen.out]; simp
    have HI2 : Hid (risP ⟨#[]⟩ (digs (rs.take (i + 1))) = 0 ∧ refP (enT ks f) ⟨#[]⟩ (rd rs) = refP (enT ks f) (lastD ⟨#[]⟩ (digs (rs.take (i + 1)))) (rd (rs.drop (i + 1)))) := by
     rw [← Hdle1.out]
     refine ⟨Hrv.out, ?_⟩
     rw [Hlast.out]
     exact Hnx2.out.trans (if_neg hee)
    rw [Hdle1.out] at hq5
    clear Hnx2 hee hen
    go_wp2
    go_roundw
    case rel => exact ⟨i + 1, by omega, by go_num, hq5, hX5, hB5, HI2⟩
    case measure => simp [intOf]; omega
  ·have hrz : refP (enT ks f) ⟨#[]⟩ (rd rs) = 0 := by
    have := HI.out.2
    rw [List.drop_eq_nil_of_le (by omega)] at this
    exact this
   have HR2 := HR.out
   rw [hrz, if_neg (by simp)] at HR2
   have H2 : Hid (res = _) := HR2
   have x3 := hX.cell (i := 3) rfl
   have x1 := hX.cell (i := 1) rfl
   have cP := refRising_any pa pc ps wr (hA2.below hb) hpm'
   clear HR HR2 hrz HI hq
   by_cases h7 : risP ⟨#[]⟩ ps ≠ 0
   ·have HF : Hid (res = risP ⟨#[]⟩ ps) := H2.out.trans (if_pos h7)
    have hne : ((risP ⟨#[]⟩ ps : Int) != 0) = true := by rw [bne_iff_ne]; omega
    clear H2
    generalize risP ⟨#[]⟩ ps = de at *
    go_wp2_with fail
    refine cP.mono ?_
    rintro e w3 ⟨rfl, hb3⟩
    have hb4 := hb.trans (hb3.mono hb.size)
    clear cP hb3 hX x1 x2 x3 hb
    go_wp2
    go_ret
    exact ⟨by rw [HF.out]; rfl, hb4⟩
   have H3 : Hid (res = countE (3 * f + 1) (2 * f + 1) ro ps.length) := H2.out.trans (if_neg h7)
   have h70 : risP ⟨#[]⟩ ps = 0 := by omega
   rw [h70] at cP
   clear H2 h7 h70
   go_wp2_with fail
   refine cP.mono ?_
   rintro e w3 ⟨rfl, hb3⟩
   have hb4 := hb.trans (hb3.mono hb.size)
   have hX4 := hX.below hb3 hX.lt
   have hT4 := hTw.out.below hb4
   have cN4 := cN w3 hT4
   have cD4 := cD w3 hT4
   clear cP hb3 hX x1 x2 x3 hb
   have x1 := hX4.cell (i := 1) rfl
   have x3 := hX4.cell (i := 3) rfl
   unfold countE at H3
   rw [← hnn.out, ← hnd.out] at H3
   unfold maxLen at hpm'
   by_cases k1 : ro = 1
   ·subst k1
    by_cases k2 : 0 < ps.length
    ·have k2' : (0 : Int) < (ps.length : Int) := by omega
     have HF : Hid (res = 3) := H3.out.trans (if_pos ⟨rfl, k2⟩)
     clear H3
     go_wp2
     go_ret
     exact ⟨by rw [HF.out]; rfl, hb4⟩
    ·have k3 : ps.length = 0 := by omega
     have HF : Hid (res = 0) := by
      have := H3.out
      rw [if_neg (fun h => k2 h.2), if_neg (fun h => by omega), if_neg (by omega)] at this
      exact this
     have k2' : ¬ (0 : Int) < (ps.length : Int) := by omega
     have k4 : ¬ ((nn : Int) < (ps.length : Int)) := by omega
     have k4' : ¬ (nn < ps.length) := by omega
     clear H3 k2 k3
     go_wp2_with fail
     go_big_quiet (fail)
     have hbq := below_drewN (Below.refl w3.heap.size w3) nq
     have hX5 := hX4.below hbq hX4.lt
     have hB5 := hb4.trans (hbq.mono hb4.size)
     have hT5 := hT4.below hbq
     generalize w3.drewN nq = w4 at *
     have cN5 := cN w4 hT5
     clear hX4 hb4 hT4 cN4 cD4 x1 x3 cN cD hbq
     have x3 := hX5.cell (i := 3) rfl
     go_wp2_with fail
     go_big_quiet (exact Calls.quiet_of_same (cN5 _))
     have hBF := below_drewN hB5 nq
     clear hX5 hB5 hT5 cN5 x3
     go_wp2
     go_ret
     exact ⟨by rw [HF.out]; rfl, hBF⟩
   ·have k1' : (ro == 1) = false := beq_eq_false_iff_ne.2 k1
    have k5 : 1 < ro := by omega
    have dk5 : decide (1 < ro) = true := decide_eq_true k5
    by_cases k6 : ps.length < nd
    ·have k6' : (ps.length : Int) < (nd : Int) := by omega
     have HF : Hid (res = 12) := by
      have := H3.out
      rw [if_neg (fun h => k1 h.1), if_pos ⟨k5, k6⟩] at this
      exact this
     clear H3 k1
     go_wp2_with fail
     go_big_quiet (exact Calls.quiet_of_same (cD4 _))
     have hBF := below_drewN hb4 nq
     clear hX4 hb4 hT4 cN4 cD4 x1 x3 cN cD
     go_wp2
     go_ret
     exact ⟨by rw [HF.out]; rfl, hBF⟩
    ·have k6' : ¬ (ps.length : Int) < (nd : Int) := by omega
     by_cases k7 : nn < ps.length
     ·have k7' : (nn : Int) < (ps.length : Int) := by omega
      have HF : Hid (res = 8) := by
       have := H3.out
       rw [if_neg (fun h => k1 h.1), if_neg (fun h => k6 h.2), if_pos k7] at this
       exact this
      clear H3 k1
      go_wp2_with fail
      go_big_quiet (exact Calls.quiet_of_same (cD4 _))
      have hbq := below_drewN (Below.refl w3.heap.size w3) nq
      have hX5 := hX4.below hbq hX4.lt
      have hB5 := hb4.trans (hbq.mono hb4.size)
      have hT5 := hT4.below hbq
      generalize w3.drewN nq = w4 at *
      have cN5 := cN w4 hT5
      clear hX4 hb4 hT4 cN4 cD4 x1 x3 cN cD hbq
      have x3 := hX5.cell (i := 3) rfl
      go_wp2_with fail
      go_big_quiet (exact Calls.quiet_of_same (cN5 _))
      have hBF := below_drewN hB5 nq
      clear hX5 hB5 hT5 cN5 x3
      go_wp2
      go_ret
      exact ⟨by rw [HF.out]; rfl, hBF⟩
     ·have k7' : ¬ (nn : Int) < (ps.length : Int) := by omega
      have HF : Hid (res = 0) := by
       have := H3.out
       rw [if_neg (fun h => k1 h.1), if_neg (fun h => k6 h.2), if_neg k7] at this
       exact this
      clear H3 k1
      go_wp2_with fail
      go_big_quiet (exact Calls.quiet_of_same (cD4 _))
      have hbq := below_drewN (Below.refl w3.heap.size w3) nq
      have hX5 := hX4.below hbq hX4.lt
      have hB5 := hb4.trans (hbq.mono hb4.size)
      have hT5 := hT4.below hbq
      generalize w3.drewN nq = w4 at *
      have cN5 := cN w4 hT5
      clear hX4 hb4 hT4 cN4 cD4 x1 x3 cN cD hbq
      have x3 := hX5.cell (i := 3) rfl
      go_wp2_with fail
      go_big_quiet (exact Calls.quiet_of_same (cN5 _))
      have hBF := below_drewN hB5 nq
      clear hX5 hB5 hT5 cN5 x3
      go_wp2
      go_ret
      exact ⟨by rw [HF.out]; rfl, hBF⟩
end Go.Proofs.YtmjkbdgcnoenbaaGreatDoor

/- What the document's Vote does. -/
namespace Go.Proofs.YtmjkbdgcnoenbaaGreatDoor
open Go Go.RowKit Go.Sort
set_option linter.unusedVariables false

structure RVst (w : World) (x : HdrM) (gb : Nat) (ql qv : Value) (rt : Nat) (me : Int) (rs : List RowM) (vs : List VoteD) (low own : Int) (qv' : Value) (vs' : List VoteD) (wx : World) : Prop where
 X : Arr wx w.heap.size 33 x.c
 Z : Arr wx (w.heap.size + 1) 42 [.int .i64 0, .string ⟨#[]⟩]
 g : RDg wx gb ql qv' rt me rs vs' low own
 fr : ∀ k, GFoot gb ql qv' k → GFoot gb ql qv k ∨ w.heap.size + 1 < k
 k : Kept (GFoot gb ql qv) w wx

theorem RVst.below {w : World} {x : HdrM} {gb : Nat} {ql qv : Value} {rt : Nat} {me : Int} {rs : List RowM} {vs : List VoteD} {low own : Int} {qv' : Value} {vs' : List VoteD} {wx wy : World} (h : RVst w x gb ql qv rt me rs vs low own qv' vs' wx) (hb : Below wx.heap.size wx wy) : RVst w x gb ql qv rt me rs vs low own qv' vs' wy :=
 ⟨h.X.below hb h.X.lt, h.Z.below hb h.Z.lt, h.g.below hb, h.fr, h.k.trans (Kept.of_below hb)⟩

theorem RVst.tag {w : World} {x : HdrM} {gb : Nat} {ql qv : Value} {rt : Nat} {me : Int} {rs : List RowM} {vs : List VoteD} {low own : Int} {qv' : Value} {vs' : List VoteD} {wx : World} (h0 : RDg w gb ql qv rt me rs vs low own) (h : RVst w x gb ql qv rt me rs vs low own qv' vs' wx) (a : Int) (m : ByteArray) :
  Arr ((wx.setCell ⟨w.heap.size + 1, 0, none⟩ (.int .i64 a)).setCell ⟨w.heap.size + 1, 1, none⟩ (.string m)) (w.heap.size + 1) 42 [.int .i64 a, .string m] ∧ RDg ((wx.setCell ⟨w.heap.size + 1, 0, none⟩ (.int .i64 a)).setCell ⟨w.heap.size + 1, 1, none⟩ (.string m)) gb ql qv' rt me rs vs' low own ∧ Kept (GFoot gb ql qv) w ((wx.setCell ⟨w.heap.size + 1, 0, none⟩ (.int .i64 a)).setCell ⟨w.heap.size + 1, 1, none⟩ (.string m)) := by
 have k2 : Kept (fun k => k = w.heap.size + 1) wx ((wx.setCell ⟨w.heap.size + 1, 0, none⟩ (.int .i64 a)).setCell ⟨w.heap.size + 1, 1, none⟩ (.string m)) := ((Kept.refl (fun k => k = w.heap.size + 1) wx).set (p := ⟨w.heap.size + 1, 0, none⟩) rfl _).set (p := ⟨w.heap.size + 1, 1, none⟩) rfl _
 refine ⟨(h.Z.set 0 (.int .i64 a)).set 1 (.string m), h.g.kept k2 (fun k hk e => ?_) (fun y hy b hf e => ?_), h.k.transOr k2 (fun j e => Or.inr (by have e' : j = w.heap.size + 1 := e; omega))⟩
 ·have e' : k = w.heap.size + 1 := e
  rcases h.fr k hk with e1 | e1
  ·have := (h0.lt e1).2; omega
  ·omega
 ·have e' : b = w.heap.size + 1 := e
  have := Kind.lt certK (h0.row.at_ y hy) hf
  omega

theorem RDg.pushVot {w w8 : World} {gb : Nat} {ql qv q' : Value} {rt : Nat} {me : Int} {rs : List RowM} {vs : List VoteD} {low own : Int} {v : VoteD} (h : RDg w gb ql qv rt me rs vs low own) (hQ8 : KQ votK 117 w8 (gb + 1) q' (vs ++ [v])) (hk8 : Kept (fun k => qv.ownBlock = some k) w w8) (hf8 : Fresh w qv q') (hl : vs.length < 1000) :
  RDg (w8.setCell ⟨gb, 3, none⟩ q') gb ql q' rt me rs (vs ++ [v]) low own ∧ (∀ k, GFoot gb ql q' k → GFoot gb ql qv k ∨ w.heap.size ≤ k) ∧ Kept (GFoot gb ql qv) w (w8.setCell ⟨gb, 3, none⟩ q') := by
 have hk := Kept.setCell w8 ⟨gb, 3, none⟩ q'
 have hrow := h.row.kept hk8 (fun k e e' => h.ap k e e') (fun x hx b hf e => (h.off x hx b hf).2 e)
 have hbox := h.box.kept hk8 (fun e => by have := (h.vot.lt gb e).1; omega)
 refine ⟨⟨hbox.set 3 q', hrow.kept hk (fun k e e' => by have := (hrow.lt k e).1; have e2 : k = gb := e'; omega) (fun x hx b hf e => (h.off x hx b hf).1 e), hQ8.kept hk (fun k e e' => by have := (hQ8.lt k e).1; have e2 : k = gb := e'; omega) (fun _ _ _ h => h.elim), h.few, by rw [List.length_append]; simp; omega, fun k e e' => ?_, fun x hx b hf => ⟨(h.off x hx b hf).1, fun e => ?_⟩⟩, ?_, ?_⟩
 ·rcases hf8 k e' with e1 | e1
  ·exact h.ap k e e1
  ·have := (h.row.lt k e).2; omega
 ·rcases hf8 b e with e1 | e1
  ·exact (h.off x hx b hf).2 e1
  ·have := Kind.lt certK (h.row.at_ x hx) hf; omega
 ·rintro k (e | e | e)
  ·exact Or.inl (Or.inl e)
  ·exact Or.inl (Or.inr (Or.inl e))
  ·exact (hf8 k e).imp (fun e => Or.inr (Or.inr e)) (fun e => e)
 ·have h5 : Kept (GFoot gb ql qv) w w8 := hk8.mono (fun k _ e => Or.inr (Or.inr e))
  exact h5.set (p := ⟨gb, 3, none⟩) (Or.inl rfl) _

theorem clashV_succ {vs : List VoteD} {i : Nat} {v : VoteD} (hv : vs[i]? = some v) (a r : Int) (id : ByteArray) : clashV (vs.take (i + 1)) a r id = (clashV (vs.take i) a r id || (votP a r v && !(v.id.toList == id.toList))) := by
 unfold clashV
 rw [List.take_add_one, hv, List.any_append]
 simp

theorem foundV_succ {vs : List VoteD} {i : Nat} {v : VoteD} (hv : vs[i]? = some v) (a r : Int) : foundV (vs.take (i + 1)) a r = (foundV (vs.take i) a r || votP a r v) := by
 unfold foundV
 rw [List.take_add_one, hv, List.any_append]
 simp

theorem clashV_mem {vs : List VoteD} {v : VoteD} (hv : v ∈ vs) {a r : Int} {id : ByteArray} (h1 : votP a r v = true) (h2 : (v.id.toList == id.toList) = false) : clashV vs a r id = true := List.any_eq_true.2 ⟨v, hv, by rw [h1, h2]; rfl⟩

theorem chkH_par {n need : Nat} {en : List TagD → ByteArray → Nat} {h : HdrD} (hc : chkH n need en h = 0) : h.parents.length ≤ n := by
 unfold chkH at hc
 split at hc
 ·cases hc
 split at hc
 ·cases hc
 split at hc
 ·next h3 => exact (h3 hc).elim
 split at hc
 ·next h4 => exact (h4 hc).elim
 unfold countE at hc
 split at hc
 ·cases hc
 split at hc
 ·cases hc
 split at hc
 ·cases hc
 ·omega

def GotVote (W : World) (ks : List ByteArray) (f mn : Nat) (x : HdrM) (gb : Nat) (ql qv : Value) (rt : Nat) (rs : List RowM) (vs : List VoteD) (low own : Int) (e : Ending) (w : World) : Prop :=
 ∃ VE, VE = voteE (chkA ks f x.d) ⟨rs.map RowM.d, vs, low, own⟩ x.d (idB x.d) ∧ e = .returned (.tuple #[.agg #[.int .i64 (voteT ks mn VE (idB x.d)).who, .string (voteT ks mn VE (idB x.d)).mac], .int .i64 (VE : Int)]) ∧ ∃ qv', RDg w gb ql qv' rt (mn : Int) rs (voteD (chkA ks f x.d) ⟨rs.map RowM.d, vs, low, own⟩ x.d (idB x.d)).V low own ∧ (∀ k, GFoot gb ql qv' k → GFoot gb ql qv k ∨ W.heap.size ≤ k) ∧ Kept (GFoot gb ql qv) W w

set_option maxRecDepth 100000 in
set_option maxHeartbeats 4000000 in
theorem refVote14_any (f mn : Nat) (ks : List ByteArray) (x : HdrM) (gb : Nat) (ql qv : Value) (rt : Nat) (rs : List RowM) (vs : List VoteD) (low own : Int) (w : World) (h : RDg w gb ql qv rt (mn : Int) rs vs low own) (V : World) (hTV : TEnv V rt f ks) (hVw : Below V.heap.size V w) (hVg : V.heap.size ≤ gb) (hmn : mn < 3 * f + 1) (hA : x.At w) (hfit : x.Fit) (hlen : (encH x.d).length ≤ 1073741824) (hx : ∀ b, x.foot b → ¬ GFoot gb ql qv b) (hv : vs.length < 1000) :
  Calls Tryz.prog 17 #[.pointer (some ⟨gb, 0, none⟩), x.v] w fun e w' => GotVote w ks f mn x gb ql qv rt rs vs low own e w' := by
 have hT := hTV.below hVw
 have hTk : ∀ wx, Kept (GFoot gb ql qv) w wx → TEnv wx rt f ks := fun wx hk => hTV.below (hVw.trans (Kept.below hk hVw.size (fun k hk => Nat.le_trans hVg (h.lt hk).1)))
 obtain ⟨CK, hCK⟩ : ∃ z, Hid (chkA ks f x.d = z) := ⟨_, rfl⟩
 obtain ⟨IV, hIV⟩ : ∃ z, Hid (idB x.d = z) := ⟨_, rfl⟩
 have his : Hid (IV.size = 32) := by show IV.size = 32; rw [← hIV.out]; exact idB_size _
 obtain ⟨PE, hPE⟩ : ∃ z, Hid (parE ⟨rs.map RowM.d, vs, low, own⟩ x.d = z) := ⟨_, rfl⟩
 have hVE : Hid (voteE CK ⟨rs.map RowM.d, vs, low, own⟩ x.d IV = if CK ≠ 0 then CK else if x.round < low then 11 else if PE ≠ 0 then PE else if clashV vs x.author x.round IV = true then 15 else 0) := by
  show _ = _
  unfold voteE
  rw [hPE.out]
  rfl
 have hfin : Hid (∀ (VE : Nat) (e : Ending) (w' : World) (qv' : Value) (vs' : List VoteD), voteE CK ⟨rs.map RowM.d, vs, low, own⟩ x.d IV = VE → e = .returned (.tuple #[.agg #[.int .i64 (voteT ks mn VE IV).who, .string (voteT ks mn VE IV).mac], .int .i64 (VE : Int)]) → vs' = (if VE = 0 then voteV ⟨rs.map RowM.d, vs, low, own⟩ x.d IV else vs) → RDg w' gb ql qv' rt (mn : Int) rs vs' low own → (∀ k, GFoot gb ql qv' k → GFoot gb ql qv k ∨ w.heap.size ≤ k) → Kept (GFoot gb ql qv) w w' → GotVote w ks f mn x gb ql qv rt rs vs low own e w') := fun VE e w' qv' vs' h1 h2 h3 h4 h5 h6 => by
  refine ⟨VE, by rw [hCK.out, hIV.out, h1], by rw [hIV.out]; exact h2, qv', ?_, h5, h6⟩
  have e2 : (voteD (chkA ks f x.d) ⟨rs.map RowM.d, vs, low, own⟩ x.d (idB x.d)).V = vs' := by
   rw [hCK.out, hIV.out, h3]
   unfold voteD
   rw [h1]
   split <;> rfl
  rw [e2]
  exact h4
 generalize GotVote w ks f mn x gb ql qv rt rs vs low own = GOT at hfin ⊢
 obtain ⟨hX, hZ, hB⟩ := two_new w 33 42 x.c [.int .i64 0, .string ⟨#[]⟩]
 have hs2 : Hid (((w.alloc (.cells x.c.toArray 33)).alloc (.cells [.int .i64 0, .string ⟨#[]⟩].toArray 42)).heap.size = w.heap.size + 2) := by show _ = _; rw [alloc_size, alloc_size]
 have hV2 : RVst w x gb ql qv rt (mn : Int) rs vs low own qv vs _ := ⟨hX, hZ, h.below hB, fun k hk => Or.inl hk, Kept.of_below hB⟩
 have hfoot := fun b (hf : x.foot b) => Kind.lt hdrK hA hf
 have hxk : ∀ wx, Kept (GFoot gb ql qv) w wx → x.At wx := fun wx hk => Kind.kept hdrK hA hk hx
 clear hX hZ
 unfold HdrM.v
 unfold HdrM.c at hV2 hB hs2
 go_enter Tryz.func17, Tryz.ntmps17
 go_upto_region 1 with fail
 obtain ⟨w2, hw2⟩ : ∃ z, (w.alloc (.cells #[.int .i64 x.author, .int .i64 x.round, .slice x.ra x.refs.length x.rc, .slice x.pa x.parents.length x.pc] 33)).alloc (.cells #[.int .i64 0, .string ⟨#[]⟩] 42) = z := ⟨_, rfl⟩
 have hV2 : RVst w x gb ql qv rt (mn : Int) rs vs low own qv vs ((w.alloc (.cells #[.int .i64 x.author, .int .i64 x.round, .slice x.ra x.refs.length x.rc, .slice x.pa x.parents.length x.pc] 33)).alloc (.cells #[.int .i64 0, .string ⟨#[]⟩] 42)) := hV2
 have hB : Below w.heap.size w ((w.alloc (.cells #[.int .i64 x.author, .int .i64 x.round, .slice x.ra x.refs.length x.rc, .slice x.pa x.parents.length x.pc] 33)).alloc (.cells #[.int .i64 0, .string ⟨#[]⟩] 42)) := hB
 have hs2 : Hid (((w.alloc (.cells #[.int .i64 x.author, .int .i64 x.round, .slice x.ra x.refs.length x.rc, .slice x.pa x.parents.length x.pc] 33)).alloc (.cells #[.int .i64 0, .string ⟨#[]⟩] 42)).heap.size = w.heap.size + 2) := hs2
 rw [hw2] at hV2 hB hs2 ⊢
 clear hw2
 have bl := fun d os => below_regrown w2 d os
 have hAx := hA.below hB
 have k1 : ∀ d os, Calls Tryz.prog 41 #[.pointer (some ⟨rt, 0, none⟩), .agg #[.int .i64 x.author, .int .i64 x.round, .slice x.ra x.refs.length x.rc, .slice x.pa x.parents.length x.pc]] (grow (redrawn w2 d) os) fun e w'' => e = .returned (.int .i64 (CK : Int)) ∧ ∃ p : Regrown, w'' = grow (redrawn w2 p.d) p.os := fun d os => Calls.regrown_of (by
  have hR := (hT.below hB).below (bl d os)
  have h1 := refHdrCheck_any rt f ks x _ hR.T hR.f2 hR.kl hR.k32 (hAx.below (bl d os)) (fun r hr => by have := hfit.acks r hr; unfold maxLen; omega) (by have := hfit.p; unfold maxLen; omega) hR.G
  rw [← hCK.out]
  exact h1)
 have p0 := cell_regrown (hV2.g.box.cell (i := 0) rfl)
 have A0 := cell_regrown (hV2.X.cell (i := 0) rfl)
 have A1 := cell_regrown (hV2.X.cell (i := 1) rfl)
 have A2 := cell_regrown (hV2.X.cell (i := 2) rfl)
 have A3 := cell_regrown (hV2.X.cell (i := 3) rfl)
 refine wp_region_quiet_below (by kernel_rfl) (by kernel_rfl) ?_
 iterate 5 (go_big_quiet_step (fail))
 go_big_quiet_step (exact k1 _ _)
 iterate 1 (go_big_quiet_step (fail))
 refine wpQuiet_nil ?_
 rintro w' ⟨p, rfl⟩
 have hV3 := hV2.below (bl p.d p.os)
 have hB3 := hB.trans ((bl p.d p.os).mono hB.size)
 generalize grow (redrawn w2 p.d) p.os = w3 at hV3 hB3 ⊢
 clear k1 p0 A0 A1 A2 A3 bl hAx hV2 hB hs2
 have hno : Hid (∀ (VE : Nat) (w' : World), VE ≠ 0 → voteE CK ⟨rs.map RowM.d, vs, low, own⟩ x.d IV = VE → RDg w' gb ql qv rt (mn : Int) rs vs low own → Kept (GFoot gb ql qv) w w' → GOT (.returned (.tuple #[.agg #[.int .i64 0, .string ⟨#[]⟩], .int .i64 (VE : Int)])) w') := fun VE w' h1 h2 h3 h4 =>
  hfin.out VE _ w' qv vs h2 (by unfold voteT; rw [if_neg h1]) (by rw [if_neg h1]) h3 (fun k hk => Or.inl hk) h4
 by_cases hc0 : CK = 0
 ·subst hc0
  have x1 := hV3.X.cell (i := 1) rfl
  have c4 := hV3.g.box.cell (i := 4) rfl
  have hrg := chkH_range (show chkH (3 * f + 1) (2 * f + 1) (enT ks f) x.d = 0 from hCK.out)
  have hrg1 : 1 ≤ x.round := hrg.2.2.1
  have hrg2 : x.round ≤ 4611686018427387903 := hrg.2.2.2
  have hpl : x.parents.length ≤ 3 * f + 1 := chkH_par (show chkH (3 * f + 1) (2 * f + 1) (enT ks f) x.d = 0 from hCK.out)
  have hf2 := hT.f2
  clear hrg
  go_upto_region 4 with fail
  by_cases hlo : x.round < low
  ·have hE : voteE 0 ⟨rs.map RowM.d, vs, low, own⟩ x.d IV = 11 := by rw [hVE.out, if_neg (by simp), if_pos hlo]
   go_quiet (fail)
   have hV4 := hV3.below (below_drewN (Below.refl _ w3) nq)
   generalize w3.drewN nq = w4 at hV4 ⊢
   clear x1 c4 hV3
   obtain ⟨hZF, hgF, hkF⟩ := hV4.tag h 0 ⟨#[]⟩
   have fin := hno.out 11 _ (by decide) hE hgF hkF
   have fin0 := hno.out 11 _ (by decide) hE hV4.g hV4.k
   have hZ0 := hV4.Z
   have z0 := hV4.Z.cell (i := 0) rfl
   have z1 := hV4.Z.cell (i := 1) rfl
   have q0 := hV4.Z.frozen 0
   have q1 := hV4.Z.frozen 1
   clear hgF hkF hno hfin
   go_wp2
   first
    | (refine bodyPost_ret (v := .tuple #[.agg #[.int .i64 0, .string ⟨#[]⟩], .int .i64 ((11 : Nat) : Int)]) (results_tag_tmp14 rfl _ _ (w.heap.size + 1) 0 ⟨#[]⟩ rfl hZ0 _ rfl) rfl ?_; exact fin0)
    | (refine bodyPost_ret (v := .tuple #[.agg #[.int .i64 0, .string ⟨#[]⟩], .int .i64 ((11 : Nat) : Int)]) (results_tag_tmp14 rfl _ _ (w.heap.size + 1) 0 ⟨#[]⟩ rfl hZF _ rfl) rfl ?_; exact fin)
  ·have hlo' : Hid (¬ x.round < low) := hlo
   go_quiet (fail)
   have hV4 := hV3.below (below_drewN (Below.refl _ w3) nq)
   have hB4 := hB3.trans ((below_drewN (Below.refl w3.heap.size w3) nq).mono hB3.size)
   generalize w3.drewN nq = w4 at hV4 hB4 ⊢
   clear x1 c4 hV3 hB3
   have cP := refParents14_any x gb ql qv rt (mn : Int) rs vs low own w4 hV4.g (hxk w4 hV4.k) (by omega) hrg1 hrg2
   rw [hPE.out] at cP
   unfold HdrM.v at cP
   have x0 := hV4.X.cell (i := 0) rfl
   have x1 := hV4.X.cell (i := 1) rfl
   have x2 := hV4.X.cell (i := 2) rfl
   have x3 := hV4.X.cell (i := 3) rfl
   go_wp2_with fail
   refine cP.mono ?_
   rintro e w5 ⟨rfl, hb5⟩
   have hV5 := hV4.below hb5
   have hB5 := hB4.trans (hb5.mono hB4.size)
   clear cP x0 x1 x2 x3 hV4 hB4 hb5
   by_cases hp0 : PE = 0
   ·subst hp0
    have hVE2 : Hid (voteE 0 ⟨rs.map RowM.d, vs, low, own⟩ x.d IV = if clashV vs x.author x.round IV = true then 15 else 0) := by show _ = _; rw [hVE.out, if_neg (by simp), if_neg (by have := hlo'.out; omega), if_neg (by simp)]
    clear hVE
    have cI := refHdrId_any x w5 (hxk w5 hV5.k) hfit hlen
    have hid' : Mx.bytes (Mx.sumL (encH x.d)) = IV := hIV.out
    rw [hid'] at cI
    unfold HdrM.v at cI
    have x0 := hV5.X.cell (i := 0) rfl
    have x1 := hV5.X.cell (i := 1) rfl
    have x2 := hV5.X.cell (i := 2) rfl
    have x3 := hV5.X.cell (i := 3) rfl
    clear hid'
    go_wp2_with fail
    refine cI.mono ?_
    rintro e w6 ⟨rfl, hb6⟩
    have hV6 := hV5.below hb6
    have hB6 := hB5.trans (hb6.mono hB5.size)
    clear cI x0 x1 x2 x3 hV5 hB5 hb6
    obtain ⟨ao2, cap2, hqv, hnil2, hRow2⟩ := hV6.g.vot.form
    go_wp2_with fail
    go_loopw [8, 9] (fun v8 v9 wr => ∃ (i : Nat) (fb : Bool), i ≤ vs.length ∧ v9 = .int .i64 (i : Int) ∧ v8 = .bool fb ∧ Hid (foundV (vs.take i) x.author x.round = fb) ∧ Hid (clashV (vs.take i) x.author x.round IV = false) ∧ Below w6.heap.size w6 wr) (fun _ v _ => vs.length - (intOf v).toNat)
    case atStart => exact ⟨0, false, Nat.zero_le _, rfl, rfl, (rfl : _ = _), (rfl : _ = _), Below.refl _ _⟩
    case round =>
     obtain ⟨i, fb, hil, rfl, rfl, hfo, hcl, hb⟩ := hrel
     have hVr := hV6.below hb
     have c3 := hVr.g.box.cell (i := 3) rfl
     rw [hqv] at c3
     by_cases hlt : i < vs.length
     ·have g1 : (i : Int) < (vs.length : Int) := by omega
      obtain ⟨v, hvi⟩ : ∃ v, vs[i]? = some v := ⟨_, List.getElem?_eq_getElem hlt⟩
      obtain ⟨b, off, hao, hbl, y0, y1, y2⟩ := (hRow2.below hb).votc hvi
      subst hao
      have x0 := hVr.X.cell (i := 0) rfl
      have x1 := hVr.X.cell (i := 1) rfl
      have hcs := clashV_succ hvi x.author x.round IV
      have hfs := foundV_succ hvi x.author x.round
      rw [hcl.out, Bool.false_or] at hcs
      rw [hfo.out] at hfs
      have hvm := List.mem_of_getElem? hvi
      have hvi' : Hid _ := hvi
      clear hvi hfo hcl
      go_upto_region 14 with fail
      cases hea : (v.author == x.author) with
      | false =>
       have hvp : votP x.author x.round v = false := by unfold votP; rw [hea]; rfl
       rw [hvp, Bool.false_and] at hcs
       rw [hvp, Bool.or_false] at hfs
       have hcs' : Hid _ := hcs
       have hfs' : Hid _ := hfs
       clear hcs hfs
       go_quiet (fail)
       have hbN := hb.trans ((below_drewN (Below.refl wr.heap.size wr) nq).mono hb.size)
       clear y0 y1 y2 x0 x1 c3 hVr hb
       go_wp2
       go_roundw
       case rel => exact ⟨i + 1, fb, by omega, by go_num, rfl, hfs', hcs', hbN⟩
       case measure => simp [intOf]; omega
      | true =>
       cases her : (v.round == x.round) with
       | false =>
        have hvp : votP x.author x.round v = false := by unfold votP; rw [hea, her]; rfl
        rw [hvp, Bool.false_and] at hcs
        rw [hvp, Bool.or_false] at hfs
        have hcs' : Hid _ := hcs
        have hfs' : Hid _ := hfs
        clear hcs hfs
        go_quiet (fail)
        have hbN := hb.trans ((below_drewN (Below.refl wr.heap.size wr) nq).mono hb.size)
        clear y0 y1 y2 x0 x1 c3 hVr hb
        go_wp2
        go_roundw
        case rel => exact ⟨i + 1, fb, by omega, by go_num, rfl, hfs', hcs', hbN⟩
        case measure => simp [intOf]; omega
       | true =>
        have hvp : votP x.author x.round v = true := by unfold votP; rw [hea, her]; rfl
        rw [hvp, Bool.true_and] at hcs
        rw [hvp, Bool.or_true] at hfs
        go_quiet (fail)
        have hbN := hb.trans ((below_drewN (Below.refl wr.heap.size wr) nq).mono hb.size)
        generalize wr.drewN nq = w7 at hbN ⊢
        clear y0 y1 y2 x0 x1 c3 hVr hb
        have hV7 := hV6.below hbN
        have c3 := hV7.g.box.cell (i := 3) rfl
        rw [hqv] at c3
        obtain ⟨b', off', hao', hbl', y0, y1, y2⟩ := (hRow2.below hbN).votc hvi'.out
        simp only [Option.some.injEq, Addr.mk.injEq, and_true] at hao'
        obtain ⟨rfl, rfl⟩ := hao'
        cases hei : (v.id.toList == IV.toList) with
        | true =>
         rw [hei] at hcs
         have hne : (v.id.toList != IV.toList) = false := by simp [bne, hei]
         have hcs' : Hid _ := hcs
         have hfs' : Hid _ := hfs
         clear hcs hfs hV7
         go_wp2
         go_roundw
         case rel => exact ⟨i + 1, true, by omega, by go_num, rfl, hfs', hcs', hbN⟩
         case measure => simp [intOf]; omega
        | false =>
         have hne : (v.id.toList != IV.toList) = true := by simp [bne, hei]
         have hE : voteE 0 ⟨rs.map RowM.d, vs, low, own⟩ x.d IV = 15 := by rw [hVE2.out, if_pos (clashV_mem hvm hvp hei)]
         clear hcs hfs
         obtain ⟨hZF, hgF, hkF⟩ := hV7.tag h 0 ⟨#[]⟩
         have fin := hno.out 15 _ (by decide) hE hgF hkF
         have fin0 := hno.out 15 _ (by decide) hE hV7.g hV7.k
         have hZ0 := hV7.Z
         have z0 := hV7.Z.cell (i := 0) rfl
         have z1 := hV7.Z.cell (i := 1) rfl
         have q0 := hV7.Z.frozen 0
         have q1 := hV7.Z.frozen 1
         clear hgF hkF hno hfin
         go_wp2
         first
          | (refine bodyPost_ret (v := .tuple #[.agg #[.int .i64 0, .string ⟨#[]⟩], .int .i64 ((15 : Nat) : Int)]) (results_tag_tmp14 rfl _ _ (w.heap.size + 1) 0 ⟨#[]⟩ rfl hZ0 _ rfl) rfl ?_; exact fin0)
          | (refine bodyPost_ret (v := .tuple #[.agg #[.int .i64 0, .string ⟨#[]⟩], .int .i64 ((15 : Nat) : Int)]) (results_tag_tmp14 rfl _ _ (w.heap.size + 1) 0 ⟨#[]⟩ rfl hZF _ rfl) rfl ?_; exact fin)
     ·obtain rfl : i = vs.length := by omega
      have g1 : ¬ ((vs.length : Nat) : Int) < (vs.length : Int) := by omega
      rw [List.take_length] at hfo hcl
      have hE : Hid (voteE 0 ⟨rs.map RowM.d, vs, low, own⟩ x.d IV = 0) := by show _ = _; rw [hVE2.out, hcl.out]; rfl
      have hVV : Hid (voteV ⟨rs.map RowM.d, vs, low, own⟩ x.d IV = if fb = true then vs else vs ++ [⟨x.author, x.round, IV⟩]) := by show _ = _; rw [← hfo.out]; rfl
      have hBr := hB6.trans (hb.mono hB6.size)
      clear hVE2 hno hfo hcl hV6 hB6
      go_upto_if 82 with fail
      go_cut [] (fun wx => ∃ (qv' : Value) (vs' : List VoteD), Hid (vs' = voteV ⟨rs.map RowM.d, vs, low, own⟩ x.d IV) ∧ RVst w x gb ql qv rt (mn : Int) rs vs low own qv' vs' wx)
      case first =>
       cases fb with
       | true =>
        have hVS : Hid (vs = voteV ⟨rs.map RowM.d, vs, low, own⟩ x.d IV) := by show _ = _; rw [hVV.out, if_pos rfl]
        clear c3 hBr
        go_wp2_with fail
        go_meet
        case rel => exact ⟨qv, vs, hVS, hVr⟩
       | false =>
        obtain ⟨j0, y0', hj0, hy0, hy1, hy2, hy3⟩ := votInfo14
        have hVS : Hid (vs ++ [⟨x.author, x.round, IV⟩] = voteV ⟨rs.map RowM.d, vs, low, own⟩ x.d IV) := by show _ = _; rw [hVV.out, if_neg (by decide)]
        go_upto_region 19 with fail
        obtain ⟨dd, hdd⟩ : ∃ z, Hid (Obj.cells #[.int .i64 x.author, .int .i64 x.round, .string IV] 117 = z) := ⟨_, rfl⟩
        have x0 := hVr.X.cell (i := 0) rfl
        have x1 := hVr.X.cell (i := 1) rfl
        have f3 := hVr.g.box.frozen 3
        have hbA := belowNew wr (.cells #[.int .i64 x.author, .int .i64 x.round, .string IV] 117)
        have hVA := hVr.below hbA
        have c3A := hVA.g.box.cell (i := 3) rfl
        rw [hqv] at c3A
        have hQ := hVA.g.vot
        rw [hqv] at hQ
        have hN1 := new_vot14 wr ⟨x.author, x.round, IV⟩
        have hN3 : gb + 1 ≤ (wr.alloc (.cells #[.int .i64 x.author, .int .i64 x.round, .string IV] 117)).heap.size := hVA.g.box.lt
        have m1 : vs.length + 1 ≤ maxLen := by unfold maxLen; omega
        have m2 : (vs.length + 1) * 32 ≤ 140737488355328 := by omega
        have hQd : KQ votK 117 (wr.alloc (.cells #[.int .i64 x.author, .int .i64 x.round, .string IV] 117)).drew (gb + 1) (.slice ao2 vs.length cap2) vs := hQ.below (below_drewN (Below.refl _ _) 1)
        go_region_law (first
         | (refine step_pushF (K := votK) _ (by rfl) _ _ 105 (by rfl) (gb + 1) 117 j0 _ 32 Tryz.underlying105 hj0 hy0 hy1 hy2 hy3 _ vs (by rfl) hQd ⟨x.author, x.round, IV⟩ trivial (fun _ h => h.elim) ⟨wr.heap.size, 0, none⟩ 1 (by rfl) hN1 m1 m2 hN3 ?_
            intro ao8 cap8 w8 hQ8 hk8 hf8
            have hX8 := (hVA.g.below (below_drewN (Below.refl _ _) 1)).box.kept hk8 (fun e => by have := (hQ.lt _ e).1; omega)
            have c3c := hX8.cell (i := 3) rfl
            have f3c := hX8.frozen 3))
        all_goals
         have hVd := hVA.below (below_drewN (Below.refl _ _) 1)
         have hwl : w.heap.size + 1 < wr.heap.size := hVr.Z.lt
         obtain ⟨hg9, hfr9, hk9⟩ := hVd.g.pushVot (q' := .slice ao8 (vs.length + 1) cap8) hQ8 (by rw [hqv]; exact hk8) (by rw [hqv]; exact hf8) hv
         have hnG : ∀ k, GFoot gb ql qv k → k < w.heap.size := fun k hk => (h.lt hk).2
         have hszd : wr.heap.size + 1 = (wr.alloc (.cells #[.int .i64 x.author, .int .i64 x.round, .string IV] 117)).drew.heap.size := (alloc_size _ _).symm
         have hsz2 : ((wr.alloc (.cells #[.int .i64 x.author, .int .i64 x.round, .string IV] 117)).drewN 1).heap.size = wr.heap.size + 1 := alloc_size _ _
         have hF : RVst w x gb ql qv rt (mn : Int) rs vs low own (.slice ao8 (vs.length + 1) cap8) (vs ++ [⟨x.author, x.round, IV⟩]) (w8.setCell ⟨gb, 3, none⟩ (.slice ao8 (vs.length + 1) cap8)) :=
          ⟨hVd.X.kept hk9 (fun e => by have := hnG _ e; omega), hVd.Z.kept hk9 (fun e => by have := hnG _ e; omega), hg9, fun k hk => (hfr9 k hk).imp (fun e => e) (fun e => by rw [hsz2] at e; omega), hVd.k.trans hk9⟩
         clear hQ8 hk8 hf8 hX8 c3c f3c hg9 hfr9 hk9 hVd hVA hVr c3 c3A f3 hQ hQd hN1 hN3 hbA x0 x1 hBr hszd hsz2
         go_wp2_with fail
         go_meet
         exact ⟨_, _, hVS, hF⟩
      case rest =>
       obtain ⟨qv', vs', hvs', hV8⟩ := hcut
       clear hVr c3 hBr
       have hTs := hTk _ hV8.k
       have hkj : ks[mn]? = some (ks.getD mn ⟨#[]⟩) := by rw [List.getD_eq_getElem?_getD, List.getElem?_eq_getElem (by rw [hT.kl]; exact hmn)]; rfl
       have cS := fun w1 h1 h2 => Mx.refSign_yes rt f ks mn ⟨#[118, 111, 116, 101]⟩ IV w1 h1 _ hkj hT.k32 hT.f2 hT.kl (by decide) (by rw [his.out]; decide) h2
       obtain ⟨mc, hmc⟩ : ∃ z, Hid (Mx.macOf (ks.getD mn ⟨#[]⟩) ⟨#[118, 111, 116, 101]⟩ IV = z) := ⟨_, rfl⟩
       rw [hmc.out] at cS
       unfold Mx.tagV at cS
       clear hkj
       go_upto_region 20 with fail
       have hkp : ∀ U, Kept (fun k => k = w.heap.size + 1) wc U → (U.cell? ⟨gb, 0, none⟩ = some (.pointer (some ⟨rt, 0, none⟩)) ∧ U.cell? ⟨gb, 1, none⟩ = some (.int .i64 (mn : Int))) := fun U hU => by
        have h1 := hV8.g.box.kept hU (by have := h.box.lt; omega)
        exact ⟨h1.cell (i := 0) rfl, h1.cell (i := 1) rfl⟩
       have bd : Below wc.heap.size wc wc.drew := below_drewN (Below.refl _ wc) 1
       have kd' : Kept (fun k => k = w.heap.size + 1) wc wc.drew := Kept.of_below bd
       have hS0 := hkp _ kd'
       have hTd := hTs.below bd
       go_region_held3 (fun w' => w'.cell? ⟨gb, 0, none⟩ = some (.pointer (some ⟨rt, 0, none⟩)) ∧ w'.cell? ⟨gb, 1, none⟩ = some (.int .i64 (mn : Int))) (exact hkp _ (by assumption))
        (first
        | (go_at_call 56; refine (cS _ hTd.T hTd.G).mono ?_; rintro e wS ⟨rfl, bS0⟩; have bS : Below wc.heap.size wc wS := bd.trans bS0; have kS : Kept (fun k => k = w.heap.size + 1) wc wS := Kept.of_below bS; have hVS := hV8.below bS; have z0 := hVS.Z.cell (i := 0) rfl; have z1 := hVS.Z.cell (i := 1) rfl; have q0 := hVS.Z.frozen 0; have q1 := hVS.Z.frozen 1; have kG : Kept (fun k => k = w.heap.size + 1) wc ((wS.setCell ⟨w.heap.size + 1, 0, none⟩ (.int .i64 (mn : Int))).setCell ⟨w.heap.size + 1, 1, none⟩ (.string mc)) := (kS.set (p := ⟨w.heap.size + 1, 0, none⟩) rfl _).set (p := ⟨w.heap.size + 1, 1, none⟩) rfl _))
       all_goals
        obtain ⟨hZF, hgF, hkF⟩ := hVS.tag h (mn : Int) mc
        have fin := hfin.out 0 (.returned (.tuple #[.agg #[.int .i64 (mn : Int), .string mc], .int .i64 ((0 : Nat) : Int)])) _ qv' vs' hE.out (by unfold voteT; rw [if_pos rfl, ← hmc.out]; rfl) (by rw [hvs'.out, if_pos rfl]) hgF (fun k hk => (hVS.fr k hk).imp (fun e => e) (fun e => by omega)) hkF
        clear hkp hS0 kd' cS hgF hkF kG hVS hV8 bS kS bS0 hTd hTs
        try go_wp2
        refine bodyPost_ret (v := .tuple #[.agg #[.int .i64 (mn : Int), .string mc], .int .i64 ((0 : Nat) : Int)]) (results_tag_tmp14 rfl _ _ (w.heap.size + 1) (mn : Int) mc rfl hZF _ rfl) rfl ?_
        exact fin
   ·have hE : voteE 0 ⟨rs.map RowM.d, vs, low, own⟩ x.d IV = PE := by rw [hVE.out, if_neg (by simp), if_neg (by have := hlo'.out; omega), if_pos hp0]
    have hp1 : ¬ (PE : Int) = 0 := by omega
    obtain ⟨hZF, hgF, hkF⟩ := hV5.tag h 0 ⟨#[]⟩
    have fin := hno.out PE _ (hp0) hE hgF hkF
    have fin0 := hno.out PE _ (hp0) hE hV5.g hV5.k
    have hZ0 := hV5.Z
    have z0 := hV5.Z.cell (i := 0) rfl
    have z1 := hV5.Z.cell (i := 1) rfl
    have q0 := hV5.Z.frozen 0
    have q1 := hV5.Z.frozen 1
    clear hgF hkF hno hfin
    go_wp2
    first
     | (refine bodyPost_ret (v := .tuple #[.agg #[.int .i64 0, .string ⟨#[]⟩], .int .i64 ((PE : Nat) : Int)]) (results_tag_tmp14 rfl _ _ (w.heap.size + 1) 0 ⟨#[]⟩ rfl hZ0 _ rfl) rfl ?_; exact fin0)
     | (refine bodyPost_ret (v := .tuple #[.agg #[.int .i64 0, .string ⟨#[]⟩], .int .i64 ((PE : Nat) : Int)]) (results_tag_tmp14 rfl _ _ (w.heap.size + 1) 0 ⟨#[]⟩ rfl hZF _ rfl) rfl ?_; exact fin)
 ·have hE : voteE CK ⟨rs.map RowM.d, vs, low, own⟩ x.d IV = CK := by rw [hVE.out, if_pos hc0]
  have hc1 : ¬ (CK : Int) = 0 := by omega
  obtain ⟨hZF, hgF, hkF⟩ := hV3.tag h 0 ⟨#[]⟩
  have fin := hno.out CK _ (hc0) hE hgF hkF
  have fin0 := hno.out CK _ (hc0) hE hV3.g hV3.k
  have hZ0 := hV3.Z
  have z0 := hV3.Z.cell (i := 0) rfl
  have z1 := hV3.Z.cell (i := 1) rfl
  have q0 := hV3.Z.frozen 0
  have q1 := hV3.Z.frozen 1
  clear hgF hkF hno hfin
  go_wp2
  first
   | (refine bodyPost_ret (v := .tuple #[.agg #[.int .i64 0, .string ⟨#[]⟩], .int .i64 ((CK : Nat) : Int)]) (results_tag_tmp14 rfl _ _ (w.heap.size + 1) 0 ⟨#[]⟩ rfl hZ0 _ rfl) rfl ?_; exact fin0)
   | (refine bodyPost_ret (v := .tuple #[.agg #[.int .i64 0, .string ⟨#[]⟩], .int .i64 ((CK : Nat) : Int)]) (results_tag_tmp14 rfl _ _ (w.heap.size + 1) 0 ⟨#[]⟩ rfl hZF _ rfl) rfl ?_; exact fin)
end Go.Proofs.YtmjkbdgcnoenbaaGreatDoor

/- What tuskref07.Encode does; nothing old in memory is turned. -/
namespace Go.Proofs.YtmjkbdgcnoenbaaGreatDoor
open Go.RowKit Go.Sort
set_option linter.unusedVariables false
end Go.Proofs.YtmjkbdgcnoenbaaGreatDoor

/- What tuskref07.Check does; nothing old in memory is turned. -/
namespace Go.Proofs.YtmjkbdgcnoenbaaGreatDoor
open Go.RowKit Go.Sort
set_option linter.unusedVariables false

set_option maxRecDepth 100000 in
set_option maxHeartbeats 2000000 in
theorem refCertCheck_any (tb f : Nat) (ks : List ByteArray) (x : CertM) (w : World) (hT : Mx.TabAt w tb f ks) (hf : f ≤ 2) (hkl : ks.length = 3 * f + 1) (hks : ∀ k ∈ ks, k.size ≤ 32) (hA : x.At w) (hlm : ∀ r ∈ x.hdr.refs, r.acks.length ≤ maxLen) (hpm : x.hdr.parents.length ≤ maxLen) (hvm : x.votes.length ≤ maxLen) (hfit : x.hdr.Fit) (hl : (encH x.hdr.d).length ≤ 1073741824) (hG : Mx.Glob w) :
  Calls Tryz.prog 61 #[.pointer (some ⟨tb, 0, none⟩), x.v] w fun e w' => e = .returned (.int .i64 (chkC ks f x.d : Int)) ∧ Below w.heap.size w w' := by
 have hX := Arr.new w 48 x.c
 have hB := belowNew w (.cells x.c.toArray 48)
 have hA1 := hA.below hB
 have hT1 := hT.below hB
 have hG1 := hG.below hB
 obtain ⟨w1, hw1⟩ : ∃ q, w.alloc (.cells x.c.toArray 48) = q := ⟨_, rfl⟩
 rw [hw1] at hX hB hA1 hT1 hG1
 have hX0 : Arr w1 w.heap.size 48 [.int .i64 x.hdr.author, .int .i64 x.hdr.round, .slice x.hdr.ra x.hdr.refs.length x.hdr.rc, .slice x.hdr.pa x.hdr.parents.length x.hdr.pc, .slice x.va x.votes.length x.vc] := hX
 have cC := refHdrCheck_any tb f ks x.hdr w1 hT1 hf hkl hks hA1.hdr hlm hpm hG1
 obtain ⟨er, her⟩ : ∃ q, Hid (q = chkH (3 * f + 1) (2 * f + 1) (enT ks f) x.hdr.d) := ⟨_, rfl⟩
 obtain ⟨ev, hev⟩ : ∃ q, Hid (q = enV ks f x.hdr.d x.votes) := ⟨_, rfl⟩
 have HC : Hid (chkC ks f x.d = if er ≠ 0 then er else ev) := by rw [her.out, hev.out]; rfl
 rw [← her.out] at cC
 obtain ⟨out, hout⟩ : ∃ q, Hid (q = chkC ks f x.d) := ⟨_, rfl⟩
 rw [← hout.out]
 have x0 := hX0.cell (i := 0) rfl
 have x1 := hX0.cell (i := 1) rfl
 have x2 := hX0.cell (i := 2) rfl
 have x3 := hX0.cell (i := 3) rfl
 unfold CertM.c at hw1
 unfold HdrM.v at cC
 unfold CertM.v
 go_enter Tryz.func61, Tryz.ntmps61
 go_wp2_with fail
 refine cC.mono ?_
 rintro e w2 ⟨rfl, hb2⟩
 have hX2 := hX0.below hb2 hX0.lt
 have hA2 := hA1.below hb2
 have hT2 := hT1.below hb2
 have hG2 := hG1.below hb2
 have hB2 := hB.trans (hb2.mono hB.size)
 clear cC hX hX0 hA1 hT1 hG1 hB hb2 x0 x1 x2 x3 hw1
 by_cases he : er ≠ 0
 ·have hne : ((er : Int) != 0) = true := by rw [bne_iff_ne]; omega
  have HF : Hid (out = er) := hout.out.trans (HC.out.trans (if_pos he))
  go_wp2
  go_ret
  exact ⟨by rw [HF.out]; rfl, hB2⟩
 have HF : Hid (out = ev) := hout.out.trans (HC.out.trans (if_neg he))
 have he0 : er = 0 := by omega
 subst he0
 have bl := fun d os => below_regrown w2 d os
 obtain ⟨ib, hib⟩ : ∃ q, Hid (q = idB x.hdr.d) := ⟨_, rfl⟩
 have hibs : ib.size = 32 := by rw [hib.out]; exact idB_size _
 have k1 : ∀ d os, Calls Tryz.prog 28 #[x.hdr.v] (grow (redrawn w2 d) os) fun e w'' => e = .returned (.string ib) ∧ ∃ p : Regrown, w'' = grow (redrawn w2 p.d) p.os := fun d os => Calls.regrown_of (by
  rw [hib.out]
  exact refHdrId_any x.hdr _ (hA2.below (bl d os)).hdr hfit hl)
 have k2 : ∀ d os, Calls Tryz.prog 71 #[.pointer (some ⟨tb, 0, none⟩), .slice x.va x.votes.length x.vc, .string voteW, .string ib] (grow (redrawn w2 d) os) fun e w'' => e = .returned (.int .i64 (ev : Int)) ∧ ∃ p : Regrown, w'' = grow (redrawn w2 p.d) p.os := fun d os => Calls.regrown_of (by
  have := Mx.refEnough_any tb f ks x.va x.vc (pairT x.votes) voteW ib _ (hT2.below (bl d os)) hf hkl hks (hA2.below (bl d os)).votes.pairs (by rw [pairT_length]; exact hvm) (by decide) (by omega) (hG2.below (bl d os))
  rw [pairT_length, hib.out] at this
  rw [hib.out, hev.out]
  exact this)
 have A0 := cell_regrown (hX2.cell (i := 0) rfl)
 have A1 := cell_regrown (hX2.cell (i := 1) rfl)
 have A2 := cell_regrown (hX2.cell (i := 2) rfl)
 have A3 := cell_regrown (hX2.cell (i := 3) rfl)
 have A4 := cell_regrown (hX2.cell (i := 4) rfl)
 have HBF : Hid (∀ d os, Below w.heap.size w (grow (redrawn w2 d) os)) := fun d os => hB2.trans ((bl d os).mono hB2.size)
 unfold HdrM.v at k1
 unfold voteW at k2
 clear hX2 hA2 hT2 hG2 hB2 bl hA hT hG hfit hl hlm hpm hvm
 go_wp2_with fail
 refine wp_region_quiet_below (by kernel_rfl) (by kernel_rfl) ?_
 iterate 5 (go_big_quiet_step (fail))
 go_big_quiet_step (exact k1 _ _)
 go_big_quiet_step (exact k2 _ _)
 go_big_quiet_step (fail)
 refine wpQuiet_nil ?_
 rintro w' ⟨p, rfl⟩
 have hBF := HBF.out p.d p.os
 generalize grow (redrawn w2 p.d) p.os = w6 at hBF ⊢
 clear k1 k2 A0 A1 A2 A3 A4 HBF
 go_wp2
 go_ret
 exact ⟨by rw [HF.out]; rfl, hBF⟩
end Go.Proofs.YtmjkbdgcnoenbaaGreatDoor
