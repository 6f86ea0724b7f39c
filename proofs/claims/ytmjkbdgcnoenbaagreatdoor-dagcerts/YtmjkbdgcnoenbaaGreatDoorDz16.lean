/- Texts as one: DagAdd, DagNext, DagLow, DagProg, DagBoth. -/
import Derived.Test.YtmjkbdgcnoenbaaGreatDoorDz15
import Derived.Test.YtmjkbdgcnoenbaaGreatDoorDz08
import Derived.Test.YtmjkbdgcnoenbaaGreatDoorDz14
import Derived.LoopN
/- Add, as the program does it. -/
namespace Go.Proofs.YtmjkbdgcnoenbaaGreatDoor
open Go Go.RowKit Go.Maps Go.Sort
set_option linter.unusedVariables false

section
variable {w w' : World} {db cb vb : Nat} {S S' C : Nat → Prop} {tb f : Nat} {ks : List ByteArray} {me : Nat} {d : DagD} {tl : Int}

/-- A certificate is kept. -/
theorem PDg.added {w9 : World} {C' : Nat → Prop} {x : RowC} (h : PDg w db cb vb C tb f ks me d tl) (hok : DagOk ks f { d with L := insC d.L x }) (hlk : LinkC (2 * f + 1) { d with L := insC d.L x }) (hT : PT w9 cb C' ((32 * (3 * f + 1) : Nat) : Int) tl (thingsC (insC d.L x))) (hF : FreshS w C C') (hk : Kept C w w9) : PDg w9 db cb vb C' tb f ks me { d with L := insC d.L x } tl := by
  refine ⟨h.box.kept hk h.dc, hT, h.map.kept hk h.vc, fun e => ?_, fun e => ?_, h.dv, hok, hlk, h.tlow⟩
  · rcases hF db e with e | e
    · exact h.dc e
    · have := h.box.lt; omega
  · rcases hF vb e with e | e
    · exact h.vc e
    · have := h.map.lt; omega

theorem PDg.same {w9 : World} {C' : Nat → Prop} (h : PDg w db cb vb C tb f ks me d tl) (hT : PT w9 cb C' ((32 * (3 * f + 1) : Nat) : Int) tl (thingsC d.L)) (hF : FreshS w C C') (hk : Kept C w w9) : PDg w9 db cb vb C' tb f ks me d tl := by
  refine ⟨h.box.kept hk h.dc, hT, h.map.kept hk h.vc, fun e => ?_, fun e => ?_, h.dv, h.ok, h.link, h.tlow⟩
  · rcases hF db e with e | e
    · exact h.dc e
    · have := h.box.lt; omega
  · rcases hF vb e with e | e
    · exact h.vc e
    · have := h.map.lt; omega

/-- What Add leaves. -/
def GotPAdd (w : World) (db cb vb : Nat) (C : Nat → Prop) (tb f : Nat) (ks : List ByteArray) (me : Nat) (d : DagD) (tl : Int) (c : CertM) (e : Ending) (w' : World) : Prop :=
  e = .returned (.int .i64 (addE (chkC ks f c.d) (3 * f + 1) d c.hdr.d (idB c.hdr.d) : Int)) ∧ ∃ C', PDg w' db cb vb C' tb f ks me (addD (chkC ks f c.d) (3 * f + 1) d c.d (idB c.hdr.d)) tl ∧ FreshS w C C' ∧ Kept (DagS db vb C) w w'

/-- What Put answers here. -/
theorem put_dag {L : List RowC} {id : ByteArray} {c : CertD} {m : Nat} {tl : Int} (h1 : getC L id = none) (h2 : tl ≤ c.header.round) : putEP (m : Int) (thingsC L) tl id c.header.round = (if m ≤ L.length then 4 else 0) ∧ putTP (m : Int) (thingsC L) tl ⟨id, c.header.round, encCB c⟩ = if m ≤ L.length then thingsC L else thingsC (insC L ⟨id, c⟩) := by
  have e1 : putEP (m : Int) (thingsC L) tl id c.header.round = (if m ≤ L.length then 4 else 0) := by
    unfold putEP
    rw [getR_things, h1, things_length]
    simp only [Option.map_none, Option.isSome_none, Bool.false_eq_true, if_false]
    rw [if_neg (by omega)]
    by_cases h : m ≤ L.length
    · rw [if_pos (by omega), if_pos h]
    · rw [if_neg (by omega), if_neg h]
  refine ⟨e1, ?_⟩
  unfold putTP
  show (if putEP (m : Int) (thingsC L) tl id c.header.round = 0 then putL (thingsC L) (thingC ⟨id, c⟩) else thingsC L) = _
  rw [e1, putL_things]
  by_cases h : m ≤ L.length
  · rw [if_pos h, if_pos h, if_neg (by decide)]
  · rw [if_neg h, if_neg h, if_pos rfl]

set_option maxRecDepth 100000 in
set_option maxHeartbeats 4000000 in
theorem add_dag (c : CertM) (h : PDg w db cb vb C tb f ks me d tl) (hT : TEnv w tb f ks) (hA : c.At w) (hfit : c.hdr.Fit) (hlen : (encH c.hdr.d).length ≤ 1073741824) (hv : c.votes.length ≤ 1000) :
    Calls Tryz.prog 19 #[.pointer (some ⟨db, 0, none⟩), c.v] w fun e w' => GotPAdd w db cb vb C tb f ks me d tl c e w' := by
  obtain ⟨CK, hCK⟩ : ∃ z, Hid (chkC ks f c.d = z) := ⟨_, rfl⟩
  obtain ⟨IV, hIV⟩ : ∃ z, Hid (idB c.hdr.d = z) := ⟨_, rfl⟩
  obtain ⟨PE, hPE⟩ : ∃ z, Hid (parE d c.hdr.d = z) := ⟨_, rfl⟩
  obtain ⟨SB, hSB⟩ : ∃ z, Hid (sameP d.L c.hdr.d = z) := ⟨_, rfl⟩
  have his : IV.size ≤ maxLen := by rw [← hIV.out, idB_size]; decide
  obtain ⟨AE, hAE⟩ : ∃ z, Hid (addE (chkC ks f c.d) (3 * f + 1) d c.hdr.d (idB c.hdr.d) = z) := ⟨_, rfl⟩
  have hAE2 : Hid (AE = if CK ≠ 0 then CK else if c.hdr.round < d.low then 11 else if (getC d.L IV).isSome = true then 13 else if PE ≠ 0 then PE else if SB = true then 15 else if 32 * (3 * f + 1) ≤ d.L.length then 4 else 0) := by
    show AE = _
    rw [← hAE.out]
    unfold addE
    rw [hCK.out, hIV.out, hPE.out, hSB.out]
    rfl
  have hno : Hid (∀ (w' : World), AE ≠ 0 → Below w.heap.size w w' → GotPAdd w db cb vb C tb f ks me d tl c (.returned (.int .i64 (AE : Int))) w') := fun w' h1 h2 => by
    unfold GotPAdd
    rw [hAE.out]
    refine ⟨rfl, C, ?_, fun k hk => Or.inl hk, Kept.of_below h2⟩
    unfold addD
    rw [show addE (chkC ks f c.d) (3 * f + 1) d c.d.header (idB c.hdr.d) = AE from hAE.out, if_neg h1]
    exact h.below h2
  have hyes : Hid (∀ (w' : World) (C' : Nat → Prop), PDg w' db cb vb C' tb f ks me (if AE = 0 then { d with L := insC d.L ⟨IV, c.d⟩ } else d) tl → FreshS w C C' → Kept (DagS db vb C) w w' → GotPAdd w db cb vb C tb f ks me d tl c (.returned (.int .i64 (AE : Int))) w') := fun w' C' h1 h2 h3 => by
    unfold GotPAdd
    rw [hAE.out]
    refine ⟨rfl, C', ?_, h2, h3⟩
    unfold addD
    rw [show addE (chkC ks f c.d) (3 * f + 1) d c.d.header (idB c.hdr.d) = AE from hAE.out, hIV.out]
    exact h1
  have hok : Hid (AE = 0 → DagOk ks f { d with L := insC d.L ⟨IV, c.d⟩ } ∧ LinkC (2 * f + 1) { d with L := insC d.L ⟨IV, c.d⟩ }) := fun h0 => by
    have h1 := h.ok.add c.d
    have h2 := LinkC.add (ks := ks) h.link h.ok.low1 c.d (idB c.hdr.d)
    have e1 : idB c.d.header = idB c.hdr.d := rfl
    rw [e1] at h1
    unfold addD at h1 h2
    rw [show addE (chkC ks f c.d) (3 * f + 1) d c.d.header (idB c.hdr.d) = AE from hAE.out, if_pos h0, hIV.out] at h1 h2
    exact ⟨h1, h2⟩
  generalize GotPAdd w db cb vb C tb f ks me d tl c = GOT at hno hyes ⊢
  clear hAE
  have hX := Arr.new w 48 c.c
  have hB := belowNew w (.cells c.c.toArray 48)
  unfold CertM.c at hX hB
  unfold CertM.v
  go_enter Tryz.func19, Tryz.ntmps19
  go_upto_region 1 with fail
  obtain ⟨w2, hw2⟩ : ∃ z, w.alloc (.cells #[.int .i64 c.hdr.author, .int .i64 c.hdr.round, .slice c.hdr.ra c.hdr.refs.length c.hdr.rc, .slice c.hdr.pa c.hdr.parents.length c.hdr.pc, .slice c.va c.votes.length c.vc] 48) = z := ⟨_, rfl⟩
  have hX : Arr (w.alloc (.cells #[.int .i64 c.hdr.author, .int .i64 c.hdr.round, .slice c.hdr.ra c.hdr.refs.length c.hdr.rc, .slice c.hdr.pa c.hdr.parents.length c.hdr.pc, .slice c.va c.votes.length c.vc] 48)) w.heap.size 48 [.int .i64 c.hdr.author, .int .i64 c.hdr.round, .slice c.hdr.ra c.hdr.refs.length c.hdr.rc, .slice c.hdr.pa c.hdr.parents.length c.hdr.pc, .slice c.va c.votes.length c.vc] := hX
  have hB : Below w.heap.size w (w.alloc (.cells #[.int .i64 c.hdr.author, .int .i64 c.hdr.round, .slice c.hdr.ra c.hdr.refs.length c.hdr.rc, .slice c.hdr.pa c.hdr.parents.length c.hdr.pc, .slice c.va c.votes.length c.vc] 48)) := hB
  rw [hw2] at hX hB ⊢
  clear hw2
  have bl := fun d os => below_regrown w2 d os
  have hAx := hA.below hB
  have k1 : ∀ d os, Calls Tryz.prog 57 #[.pointer (some ⟨tb, 0, none⟩), .agg #[.int .i64 c.hdr.author, .int .i64 c.hdr.round, .slice c.hdr.ra c.hdr.refs.length c.hdr.rc, .slice c.hdr.pa c.hdr.parents.length c.hdr.pc, .slice c.va c.votes.length c.vc]] (grow (redrawn w2 d) os) fun e w'' => e = .returned (.int .i64 (CK : Int)) ∧ ∃ p : Regrown, w'' = grow (redrawn w2 p.d) p.os := fun d os => Calls.regrown_of (by
    have hR := (hT.below hB).below (bl d os)
    have h1 := certCheck_any tb f ks c _ hR.T hR.f2 hR.k32 (hAx.below (bl d os)) (fun r hr => by have := hfit.acks r hr; unfold maxLen; omega) (by have := hfit.p; unfold maxLen; omega) (by unfold maxLen; omega) hfit (by omega) hR.G
    rw [hCK.out] at h1
    exact h1)
  have h2 := h.below hB
  have p0 := cell_regrown (h2.box.cell (i := 0) rfl)
  have A0 := cell_regrown (hX.cell (i := 0) rfl)
  have A1 := cell_regrown (hX.cell (i := 1) rfl)
  have A2 := cell_regrown (hX.cell (i := 2) rfl)
  have A3 := cell_regrown (hX.cell (i := 3) rfl)
  have A4 := cell_regrown (hX.cell (i := 4) rfl)
  refine wp_region_quiet_below (by kernel_rfl) (by kernel_rfl) ?_
  iterate 5 (go_big_quiet_step (fail))
  go_big_quiet_step (exact k1 _ _)
  iterate 1 (go_big_quiet_step (fail))
  refine wpQuiet_nil ?_
  rintro w' ⟨p, rfl⟩
  have hX3 := hX.below (bl p.d p.os) hX.lt
  have hB3 := hB.trans ((bl p.d p.os).mono hB.size)
  generalize grow (redrawn w2 p.d) p.os = w3 at hX3 hB3 ⊢
  clear k1 p0 A0 A1 A2 A3 A4 bl hAx hX hB h2
  by_cases hc0 : CK = 0
  · subst hc0
    have hAE3 : Hid (AE = if c.hdr.round < d.low then 11 else if (getC d.L IV).isSome = true then 13 else if PE ≠ 0 then PE else if SB = true then 15 else if 32 * (3 * f + 1) ≤ d.L.length then 4 else 0) := by show AE = _; rw [hAE2.out, if_neg (by simp)]
    have hck := (chkC_hdr hCK.out).1
    have hrg := chkH_range hck
    have hrg1 : 1 ≤ c.hdr.round := hrg.2.2.1
    have hrg2 : c.hdr.round ≤ 4611686018427387903 := hrg.2.2.2
    have hpl : c.hdr.parents.length ≤ 3 * f + 1 := (chkH_parts hck).2.2.2.2
    have hpz : ∀ p ∈ c.hdr.parents, p.size ≤ maxLen := fun p hp => by have := parent_size (h := c.hdr.d) (p := p) hp; unfold maxLen; omega
    have hf2 := hT.f2
    have hkl : Hid (ks.length = 3 * f + 1) := hT.kl
    clear hck hrg hAE2
    have hidS : Mx.bytes (Mx.sumL (encH c.hdr.d)) = IV := hIV.out
    have cI : ∀ wx, Below w3.heap.size w3 wx → Calls Tryz.prog 53 #[.agg #[.int .i64 c.hdr.author, .int .i64 c.hdr.round, .slice c.hdr.ra c.hdr.refs.length c.hdr.rc, .slice c.hdr.pa c.hdr.parents.length c.hdr.pc]] wx fun e w' => e = .returned (.string IV) ∧ Below wx.heap.size wx w' := fun wx hb => by
      have hb' := hB3.trans (hb.mono hB3.size)
      have := hdrId_any c.hdr wx (hA.hdr.below hb') hfit (by omega) (hT.below hb').G
      rw [hidS] at this
      exact this
    have hkp : ∀ wx, Below w3.heap.size w3 wx → wx.cell? ⟨w.heap.size, 0, none⟩ = some (.int .i64 c.hdr.author) ∧ wx.cell? ⟨w.heap.size, 1, none⟩ = some (.int .i64 c.hdr.round) ∧ wx.cell? ⟨w.heap.size, 2, none⟩ = some (.slice c.hdr.ra c.hdr.refs.length c.hdr.rc) ∧ wx.cell? ⟨w.heap.size, 3, none⟩ = some (.slice c.hdr.pa c.hdr.parents.length c.hdr.pc) := fun wx hb => by
      have := hX3.below hb hX3.lt
      exact ⟨this.cell (i := 0) rfl, this.cell (i := 1) rfl, this.cell (i := 2) rfl, this.cell (i := 3) rfl⟩
    clear hidS
    go_upto_region 4 with fail
    go_cut [6, 7] (fun s6 s7 wx => ∃ hb : Nat, s6 = .pointer (some ⟨hb, 0, none⟩) ∧ s7 = .string IV ∧ Arr wx hb 33 [.int .i64 c.hdr.author, .int .i64 c.hdr.round, .slice c.hdr.ra c.hdr.refs.length c.hdr.rc, .slice c.hdr.pa c.hdr.parents.length c.hdr.pc] ∧ w3.heap.size ≤ hb ∧ Below w3.heap.size w3 wx)
    case first =>
      have bd : Below w3.heap.size w3 w3.drew := below_drewN (Below.refl _ w3) 1
      have bA : Below w3.heap.size w3 (w3.drew.alloc (.cells #[.int .i64 0, .int .i64 0, .slice none 0 0, .slice none 0 0] 33)) := bd.alloc (Nat.le_refl _) _
      have nA : Arr (w3.drew.alloc (.cells #[.int .i64 0, .int .i64 0, .slice none 0 0, .slice none 0 0] 33)) w3.heap.size 33 [.int .i64 0, .int .i64 0, .slice none 0 0, .slice none 0 0] := Arr.new w3.drew 33 [.int .i64 0, .int .i64 0, .slice none 0 0, .slice none 0 0]
      have hS0 := hkp _ bd
      clear hno hyes hAE3 hok
      go_region_held3 (fun w' => w'.cell? ⟨w.heap.size, 0, none⟩ = some (.int .i64 c.hdr.author) ∧ w'.cell? ⟨w.heap.size, 1, none⟩ = some (.int .i64 c.hdr.round) ∧ w'.cell? ⟨w.heap.size, 2, none⟩ = some (.slice c.hdr.ra c.hdr.refs.length c.hdr.rc) ∧ w'.cell? ⟨w.heap.size, 3, none⟩ = some (.slice c.hdr.pa c.hdr.parents.length c.hdr.pc)) (exact hkp _ (by repeat' (first | assumption | apply belowAl | (apply belowSt; rotate_left; omega))))
        (first
        | (go_at_call 53; refine (cI _ bd).mono ?_; rintro e w6 ⟨rfl, hb6⟩; have k6 := bd.trans (hb6.mono bd.size); have q6 : w3.heap.size ≤ w6.heap.size := k6.size)
        | (go_at_call 53; refine (cI _ bA).mono ?_; rintro e w6 ⟨rfl, hb6⟩; have k6 := bA.trans (hb6.mono bA.size); have q6 : w3.heap.size ≤ w6.heap.size := k6.size; have rA := nA.below hb6 nA.lt; have a0 := rA.cell (i := 0) rfl; have a1 := rA.cell (i := 1) rfl; have a2 := rA.cell (i := 2) rfl; have a3 := rA.cell (i := 3) rfl; have b0 := rA.frozen 0; have b1 := rA.frozen 1; have b2 := rA.frozen 2; have b3 := rA.frozen 3))
      · have n1 := Arr.new w6 33 [.int .i64 c.hdr.author, .int .i64 c.hdr.round, .slice c.hdr.ra c.hdr.refs.length c.hdr.rc, .slice c.hdr.pa c.hdr.parents.length c.hdr.pc]
        have n4 := belowAl k6 (.cells #[.int .i64 c.hdr.author, .int .i64 c.hdr.round, .slice c.hdr.ra c.hdr.refs.length c.hdr.rc, .slice c.hdr.pa c.hdr.parents.length c.hdr.pc] 33)
        go_wp2_with fail
        go_meet
        case rel => exact ⟨_, rfl, rfl, n1, q6, n4⟩
      · have n1 := (((rA.set 0 (.int .i64 c.hdr.author)).set 1 (.int .i64 c.hdr.round)).set 2 (.slice c.hdr.ra c.hdr.refs.length c.hdr.rc)).set 3 (.slice c.hdr.pa c.hdr.parents.length c.hdr.pc)
        have n4 := belowSt (belowSt (belowSt (belowSt k6 w3.heap.size 0 (.int .i64 c.hdr.author) (Nat.le_refl _)) w3.heap.size 1 (.int .i64 c.hdr.round) (Nat.le_refl _)) w3.heap.size 2 (.slice c.hdr.ra c.hdr.refs.length c.hdr.rc) (Nat.le_refl _)) w3.heap.size 3 (.slice c.hdr.pa c.hdr.parents.length c.hdr.pc) (Nat.le_refl _)
        go_wp2_with fail
        go_meet
        case rel => exact ⟨_, rfl, rfl, n1, Nat.le_refl _, n4⟩
    case rest =>
      obtain ⟨hb, rfl, rfl, hH, hhb, hbc⟩ := hcut
      clear cI hkp
      generalize wc = w4 at *
      have hX4 := hX3.below hbc hX3.lt
      have hB4 := hB3.trans (hbc.mono hB3.size)
      have hbx : w.heap.size < hb := by have := hX3.lt; omega
      clear hX3 hB3 hbc hhb
      have g4 := h.below hB4
      have x1 := hH.cell (i := 1) rfl
      have c2 := g4.box.cell (i := 2) rfl
      go_upto_region 5 with fail
      by_cases hlo : c.hdr.round < d.low
      · have hE : AE = 11 := by rw [hAE3.out, if_pos hlo]
        go_quiet (fail)
        have fin := hno.out (w4.drewN nq) (by rw [hE]; decide) (below_drewN hB4 nq)
        rw [hE] at fin
        clear hno hyes hAE3 hok hE x1 c2
        go_wp2
        first | exact fin | (go_ret; exact fin)
      · have hlo' : Hid (¬ c.hdr.round < d.low) := hlo
        have hAE4 : Hid (AE = if (getC d.L IV).isSome = true then 13 else if PE ≠ 0 then PE else if SB = true then 15 else if 32 * (3 * f + 1) ≤ d.L.length then 4 else 0) := by show AE = _; rw [hAE3.out, if_neg hlo]
        go_quiet (fail)
        have bq := below_drewN (Below.refl w4.heap.size w4) nq
        have hB5 := hB4.trans (bq.mono hB4.size)
        have hX5 := hX4.below bq hX4.lt
        have hH5 := hH.below bq hH.lt
        generalize w4.drewN nq = w5 at hB5 hX5 hH5 ⊢
        clear x1 c2 hX4 hH hB4 bq hAE3 g4
        have g5 := h.below hB5
        have c4 := g5.box.cell (i := 4) rfl
        have cG := ptGet_any IV his cb C _ tl _ w5 g5.tab
        rw [getR_things] at cG
        cases hg : getC d.L IV with
        | some y =>
          rw [hg] at cG
          have cG : Calls Tryz.prog 48 #[.pointer (some ⟨cb, 0, none⟩), .string IV] w5 fun e w' => e = .returned (.tuple #[.string (encCB y.c), .int .i64 y.c.header.round, .bool true]) ∧ Below w5.heap.size w5 w' := cG
          have hE : AE = 13 := by rw [hAE4.out, if_pos (by rw [hg]; rfl)]
          go_wp2_with fail
          refine cG.mono ?_
          rintro e w6 ⟨rfl, hb6⟩
          have fin := hno.out w6 (by rw [hE]; decide) (hB5.trans (hb6.mono hB5.size))
          rw [hE] at fin
          clear hno hyes hAE4 hok hE c4 cG
          go_wp2
          first | exact fin | (go_ret; exact fin)
        | none =>
          rw [hg] at cG
          have cG : Calls Tryz.prog 48 #[.pointer (some ⟨cb, 0, none⟩), .string IV] w5 fun e w' => e = .returned (.tuple #[.string ⟨#[]⟩, .int .i64 0, .bool false]) ∧ Below w5.heap.size w5 w' := cG
          have hAE5 : Hid (AE = if PE ≠ 0 then PE else if SB = true then 15 else if 32 * (3 * f + 1) ≤ d.L.length then 4 else 0) := by show AE = _; rw [hAE4.out, if_neg (by rw [hg]; decide)]
          go_wp2_with fail
          refine cG.mono ?_
          rintro e w6 ⟨rfl, hb6⟩
          have hB6 := hB5.trans (hb6.mono hB5.size)
          have hX6 := hX5.below hb6 hX5.lt
          have hH6 := hH5.below hb6 hH5.lt
          have g6 := h.below hB6
          clear c4 cG hB5 hX5 hH5 hAE4 g5 hb6
          have cP := par_dag c.hdr g6 (hA.hdr.below hB6) (by omega) hpz hrg1 hrg2
          rw [hPE.out] at cP
          unfold HdrM.v at cP
          have x0 := hH6.cell (i := 0) rfl
          have x1 := hH6.cell (i := 1) rfl
          have x2 := hH6.cell (i := 2) rfl
          have x3 := hH6.cell (i := 3) rfl
          go_wp2_with fail
          refine cP.mono ?_
          rintro e w7 ⟨rfl, hb7⟩
          have hB7 := hB6.trans (hb7.mono hB6.size)
          have hX7 := hX6.below hb7 hX6.lt
          have hH7 := hH6.below hb7 hH6.lt
          have g7 := h.below hB7
          clear cP x0 x1 x2 x3 hB6 hX6 hH6 g6 hb7
          by_cases hp0 : PE = 0
          · subst hp0
            have hAE6 : Hid (AE = if SB = true then 15 else if 32 * (3 * f + 1) ≤ d.L.length then 4 else 0) := by show AE = _; rw [hAE5.out, if_neg (by simp)]
            have cH := has_dag c.hdr.d c.hdr.author c.hdr.round rfl rfl g7 hkl.out hf2
            rw [hSB.out] at cH
            have x0 := hH7.cell (i := 0) rfl
            have x1 := hH7.cell (i := 1) rfl
            clear hAE5
            go_wp2_with fail
            refine cH.mono ?_
            rintro e w8 ⟨rfl, hb8⟩
            have hB8 := hB7.trans (hb8.mono hB7.size)
            have hX8 := hX7.below hb8 hX7.lt
            have hH8 := hH7.below hb8 hH7.lt
            have g8 := h.below hB8
            clear cH x0 x1 hB7 hX7 hH7 g7 hb8
            cases SB with
            | true =>
              have hE : AE = 15 := by rw [hAE6.out, if_pos rfl]
              have fin := hno.out w8 (by rw [hE]; decide) hB8
              rw [hE] at fin
              clear hno hyes hAE6 hok hE
              go_wp2
              first | exact fin | (go_ret; exact fin)
            | false =>
              have hAE7 : Hid (AE = if 32 * (3 * f + 1) ≤ d.L.length then 4 else 0) := by show AE = _; rw [hAE6.out, if_neg (by decide)]
              clear hAE6 hno
              obtain ⟨eb, heb⟩ : ∃ z, Hid (encCB c.d = z) := ⟨_, rfl⟩
              have hcf := cert_fit hkl.out hf2 hCK.out hfit
              have cE : ∀ wx, Below w8.heap.size w8 wx → Calls Tryz.prog 60 #[.agg #[.int .i64 c.hdr.author, .int .i64 c.hdr.round, .slice c.hdr.ra c.hdr.refs.length c.hdr.rc, .slice c.hdr.pa c.hdr.parents.length c.hdr.pc, .slice c.va c.votes.length c.vc]] wx fun e w' => e = .returned (.string eb) ∧ Below wx.heap.size wx w' := fun wx hb => by
                have := certEncode_any c wx (hA.below (hB8.trans (hb.mono hB8.size))) hcf
                rw [show (⟨(encC c.d).toArray⟩ : ByteArray) = eb from heb.out] at this
                exact this
              obtain ⟨pe, pt⟩ := put_dag (L := d.L) (id := IV) (c := c.d) (m := 32 * (3 * f + 1)) (tl := tl) hg (by have := h.tlow; have := hlo'.out; show tl ≤ c.hdr.round; omega)
              rw [← hAE7.out] at pe
              have cU : ∀ wx, Below w8.heap.size w8 wx → Calls Tryz.prog 59 #[.pointer (some ⟨cb, 0, none⟩), .string IV, .int .i64 c.hdr.round, .string eb] wx fun e w' => e = .returned (.int .i64 (AE : Int)) ∧ GOT (.returned (.int .i64 (AE : Int))) w' ∧ Kept C wx w' := fun wx hb => by
                have hbw := hB8.trans (hb.mono hB8.size)
                have gx := h.below hbw
                have := ptPut_any IV his c.hdr.round eb cb C _ tl _ wx gx.tab (by rw [things_length]; have := h.ok.few; omega)
                refine this.mono ?_
                rintro e w' ⟨rfl, S', h1, h2, h3⟩
                have e1 : putEP ((32 * (3 * f + 1) : Nat) : Int) (thingsC d.L) tl IV c.hdr.round = AE := pe
                rw [e1]
                refine ⟨rfl, hyes.out w' S' ?_ (fun k hk => (h2 k hk).imp (fun e => e) (fun e => Nat.le_trans hbw.size e)) ((Kept.of_below hbw).trans (h3.mono (fun k _ e => Or.inr (Or.inr e)))), h3⟩
                have e2 : putTP ((32 * (3 * f + 1) : Nat) : Int) (thingsC d.L) tl ⟨IV, c.hdr.round, eb⟩ = (if 32 * (3 * f + 1) ≤ d.L.length then thingsC d.L else thingsC (insC d.L ⟨IV, c.d⟩)) := by rw [← heb.out]; exact pt
                rw [e2] at h1
                by_cases hfl : 32 * (3 * f + 1) ≤ d.L.length
                · rw [if_pos hfl] at h1
                  rw [hAE7.out, if_pos hfl, if_neg (by decide)]
                  exact PDg.same gx h1 h2 h3
                · rw [if_neg hfl] at h1
                  have h0 : AE = 0 := by rw [hAE7.out, if_neg hfl]
                  rw [if_pos h0]
                  exact PDg.added gx (hok.out h0).1 (hok.out h0).2 h1 h2 h3
              have hhl := hH8.lt
              have hkp : ∀ wx, Below w8.heap.size w8 wx → wx.cell? ⟨db, 4, none⟩ = some (.pointer (some ⟨cb, 0, none⟩)) ∧ wx.cell? ⟨hb, 1, none⟩ = some (.int .i64 c.hdr.round) ∧ wx.cell? ⟨w.heap.size, 0, none⟩ = some (.int .i64 c.hdr.author) ∧ wx.cell? ⟨w.heap.size, 1, none⟩ = some (.int .i64 c.hdr.round) ∧ wx.cell? ⟨w.heap.size, 2, none⟩ = some (.slice c.hdr.ra c.hdr.refs.length c.hdr.rc) ∧ wx.cell? ⟨w.heap.size, 3, none⟩ = some (.slice c.hdr.pa c.hdr.parents.length c.hdr.pc) ∧ wx.cell? ⟨w.heap.size, 4, none⟩ = some (.slice c.va c.votes.length c.vc) := fun wx hb => by
                have a1 := hX8.below hb hX8.lt
                have a2 := hH8.below hb hH8.lt
                have a3 := (g8.below hb).box
                exact ⟨a3.cell (i := 4) rfl, a2.cell (i := 1) rfl, a1.cell (i := 0) rfl, a1.cell (i := 1) rfl, a1.cell (i := 2) rfl, a1.cell (i := 3) rfl, a1.cell (i := 4) rfl⟩
              have hkq : ∀ wx wy, Below w8.heap.size w8 wx → Kept C wx wy → wy.cell? ⟨db, 4, none⟩ = some (.pointer (some ⟨cb, 0, none⟩)) ∧ wy.cell? ⟨hb, 1, none⟩ = some (.int .i64 c.hdr.round) ∧ wy.cell? ⟨w.heap.size, 0, none⟩ = some (.int .i64 c.hdr.author) ∧ wy.cell? ⟨w.heap.size, 1, none⟩ = some (.int .i64 c.hdr.round) ∧ wy.cell? ⟨w.heap.size, 2, none⟩ = some (.slice c.hdr.ra c.hdr.refs.length c.hdr.rc) ∧ wy.cell? ⟨w.heap.size, 3, none⟩ = some (.slice c.hdr.pa c.hdr.parents.length c.hdr.pc) ∧ wy.cell? ⟨w.heap.size, 4, none⟩ = some (.slice c.va c.votes.length c.vc) := fun wx wy hb hk => by
                have a1 := (hX8.below hb hX8.lt).kept hk (fun e => by have := h.tab.lt e; omega)
                have a2 := (hH8.below hb hH8.lt).kept hk (fun e => by have := h.tab.lt e; omega)
                have a3 := (g8.below hb).box.kept hk h.dc
                exact ⟨a3.cell (i := 4) rfl, a2.cell (i := 1) rfl, a1.cell (i := 0) rfl, a1.cell (i := 1) rfl, a1.cell (i := 2) rfl, a1.cell (i := 3) rfl, a1.cell (i := 4) rfl⟩
              have bd : Below w8.heap.size w8 w8.drew := below_drewN (Below.refl _ w8) 1
              have hS0 := hkp _ bd
              clear hyes hAE7 hok pe pt hcf
              go_upto_region 15 with fail
              go_region_held3 (fun w' => w'.cell? ⟨db, 4, none⟩ = some (.pointer (some ⟨cb, 0, none⟩)) ∧ w'.cell? ⟨hb, 1, none⟩ = some (.int .i64 c.hdr.round) ∧ w'.cell? ⟨w.heap.size, 0, none⟩ = some (.int .i64 c.hdr.author) ∧ w'.cell? ⟨w.heap.size, 1, none⟩ = some (.int .i64 c.hdr.round) ∧ w'.cell? ⟨w.heap.size, 2, none⟩ = some (.slice c.hdr.ra c.hdr.refs.length c.hdr.rc) ∧ w'.cell? ⟨w.heap.size, 3, none⟩ = some (.slice c.hdr.pa c.hdr.parents.length c.hdr.pc) ∧ w'.cell? ⟨w.heap.size, 4, none⟩ = some (.slice c.va c.votes.length c.vc)) (first | assumption | exact hkp _ (by assumption))
                (first
                | (go_at_call 60; refine (cE _ bd).mono ?_; rintro e w9 ⟨rfl, hb9⟩; have k9 := bd.trans (hb9.mono bd.size))
                | (go_at_call 59; refine (cU _ k9).mono ?_; rintro e w10 ⟨rfl, fin, hk10⟩; have hS10 := hkq _ _ k9 hk10))
              all_goals
                clear cE cU hkp hkq
                try go_wp2
                first | exact fin | (go_ret; exact fin)
          · have hne : ((PE : Int) != 0) = true := by rw [bne_iff_ne]; omega
            have hE : AE = PE := by rw [hAE5.out, if_pos hp0]
            have fin := hno.out w7 (by rw [hE]; exact hp0) hB7
            rw [hE] at fin
            clear hno hyes hAE5 hok hE
            go_wp2
            first | exact fin | (go_ret; exact fin)
  · have hne : ((CK : Int) != 0) = true := by rw [bne_iff_ne]; omega
    have hE : AE = CK := by rw [hAE2.out, if_pos hc0]
    have fin := hno.out w3 (by rw [hE]; exact hc0) hB3
    rw [hE] at fin
    clear hno hyes hAE2 hok hE
    go_wp2
    first | exact fin | (go_ret; exact fin)
end
end Go.Proofs.YtmjkbdgcnoenbaaGreatDoor

/- Round and Next, as the program does them. -/
namespace Go.Proofs.YtmjkbdgcnoenbaaGreatDoor
open Go Go.RowKit Go.Maps Go.Sort
set_option linter.unusedVariables false

section
variable {w w' : World} {db cb vb : Nat} {S S' C : Nat → Prop} {tb f : Nat} {ks : List ByteArray} {me : Nat} {d : DagD} {tl : Int}

theorem round_small {ks : List ByteArray} {f : Nat} {d : DagD} (h : DagOk ks f d) {r : Int} (hr : 0 < (idsC d.L r).length) : r ≤ 4611686018427387903 := by
  obtain ⟨x, hx, rfl⟩ := idsC_pos hr
  exact (chkH_range (chkC_hdr (h.chk x hx)).1).2.2.2

set_option maxRecDepth 100000 in
set_option maxHeartbeats 2000000 in
theorem round_dag (h : PDg w db cb vb C tb f ks me d tl) (hT : TEnv w tb f ks) :
    Calls Tryz.prog 32 #[.pointer (some ⟨db, 0, none⟩)] w fun e w' => e = .returned (.int .i64 (roundC (2 * f + 1) d.L)) ∧ Below w.heap.size w w' := by
  obtain ⟨R, hR⟩ : ∃ z, Hid (roundC (2 * f + 1) d.L = z) := ⟨_, rfl⟩
  rw [hR.out]
  have hend : Hid (∀ k : Nat, (0 < k → 2 * f + 1 ≤ (idsC d.L (d.low + (k : Int) - 1)).length) → (idsC d.L (d.low + (k : Int))).length < 2 * f + 1 → R = if k = 0 then 0 else d.low + (k : Int) - 1) := fun k h1 h2 => by
    rw [← hR.out]
    exact round_is (by omega) h.link h.ok.low1 h.ok.low h1 h2
  have hsm : Hid (∀ r, 2 * f + 1 ≤ (idsC d.L r).length → r ≤ 4611686018427387903) := fun r hr => round_small h.ok (by omega)
  have hf2 := hT.f2
  have hl1 := h.ok.low1
  have c2 := h.box.cell (i := 2) rfl
  go_enter Tryz.func32, Tryz.ntmps32
  go_wp2_with fail
  clear c2
  go_loopw [3, 4] (fun v3 v4 wr => ∃ (k : Nat) (g r : Int), v3 = .int .i64 g ∧ v4 = .int .i64 r ∧ Hid (r = d.low + (k : Int)) ∧ Hid (g = if k = 0 then 0 else d.low + (k : Int) - 1) ∧ Hid (0 < k → 2 * f + 1 ≤ (idsC d.L (d.low + (k : Int) - 1)).length) ∧ Below w.heap.size w wr) (fun _ v _ => (4611686018427387904 - intOf v).toNat)
  case atStart => exact ⟨0, 0, d.low, rfl, rfl, (by show d.low = d.low + _; simp), (by show (0 : Int) = _; simp), (fun h0 => by omega), Below.refl _ _⟩
  case round =>
    obtain ⟨k, g, r, rfl, rfl, hr, hg, hall, hb⟩ := hrel
    have hPr := h.below hb
    have hTr := hT.below hb
    have bd : Below wr.heap.size wr wr.drew := below_drewN (Below.refl _ wr) 1
    have cI : ∀ wx, Below wr.heap.size wr wx → Calls Tryz.prog 34 #[.pointer (some ⟨db, 0, none⟩), .int .i64 r] wx fun e w' => ∃ v, e = .returned v ∧ KQ textK 9 w' wx.heap.size v (idsC d.L r) ∧ Below wx.heap.size wx w' := fun wx hx => ids_dag r (hPr.below hx)
    have cN : ∀ wx, Below wr.heap.size wr wx → Calls Tryz.prog 40 #[.pointer (some ⟨tb, 0, none⟩)] wx fun e w' => e = .returned (.int .i64 ((2 * f + 1 : Nat) : Int)) ∧ w' = wx := fun wx hx => Mx.need_any tb f ks wx (hTr.below hx).T hTr.f2
    have hkp : ∀ wx, Below wr.heap.size wr wx → wx.cell? ⟨db, 0, none⟩ = some (.pointer (some ⟨tb, 0, none⟩)) := fun wx hx => (hPr.below hx).box.cell (i := 0) rfl
    have hS0 := hkp _ bd
    have hend' := fun h2 => hend.out k hall.out h2
    rw [← hr.out] at hend'
    have hend'' : Hid _ := hend'
    have hsm' := hsm.out r
    have hsm'' : Hid _ := hsm'
    obtain ⟨I, hI⟩ : ∃ z, Hid (idsC d.L r = z) := ⟨_, rfl⟩
    rw [hI.out] at cI
    clear hend' hsm' hend hsm
    go_wp2_with fail
    go_region_held3 (fun w' => w'.cell? ⟨db, 0, none⟩ = some (.pointer (some ⟨tb, 0, none⟩))) (exact hkp _ (by assumption))
      (first
      | (go_at_call 34; refine (cI _ bd).mono ?_; rintro e w2 ⟨v, rfl, hQ, hb2⟩; obtain ⟨ao, cap, rfl, _, _⟩ := hQ.form; have k2 := bd.trans (hb2.mono bd.size))
      | (go_at_call 40; refine (cN _ bd).mono ?_; rintro e w3 ⟨rfl, rfl⟩)
      | (go_at_call 40; refine (cN _ k2).mono ?_; rintro e w3 ⟨rfl, rfl⟩))
    have hbn := hb.trans (k2.mono hb.size)
    clear cI cN hkp hS0 hPr hTr bd hQ hb2 k2
    by_cases hge : 2 * f + 1 ≤ I.length
    · have g1 : 2 * (f : Int) + 1 ≤ (I.length : Int) := by omega
      have hrs : r ≤ 4611686018427387903 := hsm''.out (by rw [hI.out]; exact hge)
      have hr0 : 1 ≤ r := by have := hr.out; omega
      have hxw : IntKind.i64.wrap (r + 1) = r + 1 := wrap_dag (by omega) (by omega)
      have hr' : Hid (r + 1 = d.low + ((k + 1 : Nat) : Int)) := by show _ = _; have := hr.out; omega
      have hg' : Hid (r = if k + 1 = 0 then 0 else d.low + ((k + 1 : Nat) : Int) - 1) := by show _ = _; have := hr.out; rw [if_neg (by omega)]; omega
      have hall' : Hid (0 < k + 1 → 2 * f + 1 ≤ (idsC d.L (d.low + ((k + 1 : Nat) : Int) - 1)).length) := fun _ => by
        have e : d.low + ((k + 1 : Nat) : Int) - 1 = r := by have := hr.out; omega
        rw [e, hI.out]
        exact hge
      clear hend'' hsm''
      go_wp2
      go_roundw
      case rel => exact ⟨k + 1, r, r + 1, rfl, by go_num, hr', hg', hall', hbn⟩
      case measure => simp [intOf]; omega
    · have g1 : ¬ 2 * (f : Int) + 1 ≤ (I.length : Int) := by omega
      have hfin : Hid (R = g) := by show R = g; rw [hend''.out (by rw [hI.out]; omega), hg.out, ← hr.out]
      clear hend'' hsm''
      go_wp2
      go_ret
      exact ⟨by rw [hfin.out]; rfl, hbn⟩

set_option maxRecDepth 100000 in
theorem copyRefs_nil (w : World) : Calls Tryz.prog 62 #[.slice none 0 0] w fun e w' => e = .returned (.slice none 0 0) ∧ w' = w := by
  go_enter Tryz.func62, Tryz.ntmps62
  go_wp2_with fail
  refine wp_loop_rounds 1 ?_
  unfold Code.rounds Code.rounds
  go_wp2
  go_ret
  exact ⟨rfl, rfl⟩

/-- The last own round is kept. -/
theorem PDg.made {o : Int} (h : PDg w db cb vb C tb f ks me d tl) (hok : DagOk ks f { d with own := o }) : PDg (w.setCell ⟨db, 3, none⟩ (.int .i64 o)) db cb vb C tb f ks me { d with own := o } tl := by
  have hk := Kept.setCell w ⟨db, 3, none⟩ (.int .i64 o)
  exact ⟨h.box.set 3 _, h.tab.kept hk (fun k e e' => h.dc (by rw [← show k = db from e']; exact e)), h.map.kept hk (fun e => h.dv (show vb = db from e).symm), h.dc, h.vc, h.dv, hok, h.link, h.tlow⟩

theorem results_hdr_tmp14 {fn : Func} {p u : Tmp} (h : fn.results = #[.cell p 33, .tmp u]) (tmps : Array Value) (w : World) (g : Nat) (x : HdrM)
    (hp : tmps.getD p undef = .pointer (some ⟨g, 0, none⟩)) (hg : Arr w g 33 x.c) (v : Value) (hv : tmps.getD u undef = v) :
    (results fn tmps).run Tryz.prog w = .ok (.tuple #[x.v, v]) w := by
  rw [results_cell_tmp h, hp, hv]
  have hl := run_loadVar_row w g 33 33 x.c.toArray (0, 0) _ hg Tryz.underlying33 rfl (by kernel_rfl)
  simp [asAddr, hl, HdrM.v, HdrM.c, Result.andThen]

set_option maxRecDepth 100000 in
set_option maxHeartbeats 2000000 in
theorem next_dag (h : PDg w db cb vb C tb f ks me d tl) (hT : TEnv w tb f ks) :
    Calls Tryz.prog 23 #[.pointer (some ⟨db, 0, none⟩), .slice none 0 0] w fun e w' => ∃ x : HdrM, e = .returned (.tuple #[x.v, .bool (nextOk (2 * f + 1) d)]) ∧ x.d = nextH (2 * f + 1) (me : Int) d [] ∧ x.At w' ∧ (∀ b, x.foot b → w.heap.size ≤ b) ∧ PDg w' db cb vb C tb f ks me (nextD (2 * f + 1) d) tl ∧ Kept (DagS db vb C) w w' := by
  obtain ⟨R, hR⟩ : ∃ z, Hid (roundC (2 * f + 1) d.L = z) := ⟨_, rfl⟩
  obtain ⟨ok, hok⟩ : ∃ z, Hid (nextOk (2 * f + 1) d = z) := ⟨_, rfl⟩
  have hok2 : Hid (ok = decide (d.own < R + 1 ∧ d.low ≤ R + 1)) := by show ok = _; rw [← hok.out]; unfold nextOk; rw [hR.out]
  have hR0 : 0 ≤ R := by rw [← hR.out]; exact roundC_ge0 _ _
  have hR1 : R ≤ 4611686018427387903 := by
    rw [← hR.out]
    rcases roundC_is (2 * f + 1) d.L with e | ⟨x, hx, e, _⟩
    · rw [e]; decide
    · rw [← e]; exact (chkH_range (chkC_hdr (h.ok.chk x hx)).1).2.2.2
  have hxw : IntKind.i64.wrap (R + 1) = R + 1 := wrap_dag (by omega) (by omega)
  have hnH : Hid (nextH (2 * f + 1) (me : Int) d [] = if ok = true then ⟨(me : Int), R + 1, [], idsC d.L R⟩ else ⟨0, 0, [], []⟩) := by show _ = _; unfold nextH; rw [hok.out, hR.out]
  have hnD : Hid (nextD (2 * f + 1) d = if ok = true then { d with own := R + 1 } else d) := by show _ = _; unfold nextD; rw [hok.out, hR.out]
  have hdk : DagOk ks f { d with own := R + 1 } := ⟨h.ok.rise, h.ok.id, h.ok.chk, h.ok.low, h.ok.apart, h.ok.few, h.ok.vkey, h.ok.vlow, h.ok.vfit, h.ok.low1⟩
  rw [hok.out, hnH.out, hnD.out]
  have hZ := Arr.new w 33 [.int .i64 0, .int .i64 0, .slice none 0 0, .slice none 0 0]
  have hB := belowNew w (.cells #[.int .i64 0, .int .i64 0, .slice none 0 0, .slice none 0 0] 33)
  have cR := round_dag (h.below hB) (hT.below hB)
  rw [hR.out] at cR
  go_enter Tryz.func23, Tryz.ntmps23
  go_wp2_with fail
  refine cR.mono ?_
  rintro e w2 ⟨rfl, hb2⟩
  have hB2 := hB.trans (hb2.mono hB.size)
  have hZ2 := hZ.below hb2 hZ.lt
  have g2 := h.below hB2
  clear cR hZ hB hb2 hnH hnD
  have c3 := g2.box.cell (i := 3) rfl
  have c2 := g2.box.cell (i := 2) rfl
  have z0 := hZ2.cell (i := 0) rfl
  have z1 := hZ2.cell (i := 1) rfl
  have z2 := hZ2.cell (i := 2) rfl
  have z3 := hZ2.cell (i := 3) rfl
  have q0 := hZ2.frozen 0
  have q1 := hZ2.frozen 1
  have q2 := hZ2.frozen 2
  have q3 := hZ2.frozen 3
  have qb := g2.box.frozen 3
  by_cases hc : d.own < R + 1 ∧ d.low ≤ R + 1
  · obtain rfl : ok = true := by rw [hok2.out]; exact decide_eq_true hc
    have g1 : ¬ R + 1 ≤ d.own := by omega
    have g3 : ¬ R + 1 < d.low := by omega
    have g4 : decide (R + 1 ≤ d.own) = false := decide_eq_false g1
    have g5 : decide (R + 1 < d.low) = false := decide_eq_false g3
    go_upto_region 6 with fail
    have g3 := PDg.made g2 hdk
    have kst := Kept.setCell w2 ⟨db, 3, none⟩ (.int .i64 (R + 1))
    have k3 : Kept (DagS db vb C) w (w2.setCell ⟨db, 3, none⟩ (.int .i64 (R + 1))) := (Kept.of_below hB2).trans (kst.mono (fun k _ e => Or.inl e))
    have hZ3 := hZ2.kept kst (fun e => by have := h.box.lt; have e' : w.heap.size = db := e; omega)
    have hs3 : w.heap.size ≤ (w2.setCell ⟨db, 3, none⟩ (.int .i64 (R + 1))).heap.size := k3.size
    generalize w2.setCell ⟨db, 3, none⟩ (.int .i64 (R + 1)) = w3 at g3 k3 hZ3 hs3 ⊢
    clear kst c3 c2 z0 z1 z2 z3 q0 q1 q2 q3 qb hZ2 g2 hB2
    have bd : Below w3.heap.size w3 w3.drew := below_drewN (Below.refl _ w3) 1
    have cI : ∀ wx, Below w3.heap.size w3 wx → Calls Tryz.prog 34 #[.pointer (some ⟨db, 0, none⟩), .int .i64 R] wx fun e w' => ∃ v, e = .returned v ∧ KQ textK 9 w' wx.heap.size v (idsC d.L R) ∧ Below wx.heap.size wx w' := fun wx hx => ids_dag (d := { d with own := R + 1 }) R (g3.below hx)
    have cC : ∀ wx, Calls Tryz.prog 62 #[.slice none 0 0] wx fun e w' => e = .returned (.slice none 0 0) ∧ w' = wx := copyRefs_nil
    have hkp : ∀ wx, Below w3.heap.size w3 wx → wx.cell? ⟨db, 1, none⟩ = some (.int .i64 (me : Int)) := fun wx hx => (g3.below hx).box.cell (i := 1) rfl
    have hkq : ∀ wx (v0 v1 v2 v3 : Value), Below w3.heap.size w3 wx → ((((wx.setCell ⟨w.heap.size, 0, none⟩ v0).setCell ⟨w.heap.size, 1, none⟩ v1).setCell ⟨w.heap.size, 2, none⟩ v2).setCell ⟨w.heap.size, 3, none⟩ v3).cell? ⟨db, 1, none⟩ = some (.int .i64 (me : Int)) := fun wx v0 v1 v2 v3 hx => by
      have k5 : Kept (fun k => k = w.heap.size) wx ((((wx.setCell ⟨w.heap.size, 0, none⟩ v0).setCell ⟨w.heap.size, 1, none⟩ v1).setCell ⟨w.heap.size, 2, none⟩ v2).setCell ⟨w.heap.size, 3, none⟩ v3) := ((((Kept.refl (fun k => k = w.heap.size) wx).set (p := ⟨w.heap.size, 0, none⟩) rfl _).set (p := ⟨w.heap.size, 1, none⟩) rfl _).set (p := ⟨w.heap.size, 2, none⟩) rfl _).set (p := ⟨w.heap.size, 3, none⟩) rfl _
      exact ((g3.below hx).box.kept k5 (fun e => by have := h.box.lt; have e' : db = w.heap.size := e; omega)).cell (i := 1) rfl
    have hS0 := hkp _ bd
    obtain ⟨I, hI⟩ : ∃ z, Hid (idsC d.L R = z) := ⟨_, rfl⟩
    rw [hI.out] at cI
    have hfin : Hid (∀ w4 (ao : Option Addr) (cap : Nat), Below w3.heap.size w3 w4 → KQ textK 9 w4 w3.heap.size (.slice ao I.length cap) I → Arr ((((w4.setCell ⟨w.heap.size, 0, none⟩ (.int .i64 (me : Int))).setCell ⟨w.heap.size, 1, none⟩ (.int .i64 (R + 1))).setCell ⟨w.heap.size, 2, none⟩ (.slice none 0 0)).setCell ⟨w.heap.size, 3, none⟩ (.slice ao I.length cap)) w.heap.size 33 (HdrM.c ⟨(me : Int), R + 1, none, [], 0, ao, I, cap⟩) ∧ HdrM.At ((((w4.setCell ⟨w.heap.size, 0, none⟩ (.int .i64 (me : Int))).setCell ⟨w.heap.size, 1, none⟩ (.int .i64 (R + 1))).setCell ⟨w.heap.size, 2, none⟩ (.slice none 0 0)).setCell ⟨w.heap.size, 3, none⟩ (.slice ao I.length cap)) ⟨(me : Int), R + 1, none, [], 0, ao, I, cap⟩ ∧ (∀ b, HdrM.foot ⟨(me : Int), R + 1, none, [], 0, ao, I, cap⟩ b → w.heap.size ≤ b) ∧ PDg ((((w4.setCell ⟨w.heap.size, 0, none⟩ (.int .i64 (me : Int))).setCell ⟨w.heap.size, 1, none⟩ (.int .i64 (R + 1))).setCell ⟨w.heap.size, 2, none⟩ (.slice none 0 0)).setCell ⟨w.heap.size, 3, none⟩ (.slice ao I.length cap)) db cb vb C tb f ks me { d with own := R + 1 } tl ∧ Kept (DagS db vb C) w ((((w4.setCell ⟨w.heap.size, 0, none⟩ (.int .i64 (me : Int))).setCell ⟨w.heap.size, 1, none⟩ (.int .i64 (R + 1))).setCell ⟨w.heap.size, 2, none⟩ (.slice none 0 0)).setCell ⟨w.heap.size, 3, none⟩ (.slice ao I.length cap))) := fun w4 ao cap hb hQ => by
      have k5 : Kept (fun k => k = w.heap.size) w4 ((((w4.setCell ⟨w.heap.size, 0, none⟩ (.int .i64 (me : Int))).setCell ⟨w.heap.size, 1, none⟩ (.int .i64 (R + 1))).setCell ⟨w.heap.size, 2, none⟩ (.slice none 0 0)).setCell ⟨w.heap.size, 3, none⟩ (.slice ao I.length cap)) := ((((Kept.refl (fun k => k = w.heap.size) w4).set (p := ⟨w.heap.size, 0, none⟩) rfl _).set (p := ⟨w.heap.size, 1, none⟩) rfl _).set (p := ⟨w.heap.size, 2, none⟩) rfl _).set (p := ⟨w.heap.size, 3, none⟩) rfl _
      have hZ4 := hZ3.below hb hZ3.lt
      have hQ5 := hQ.kept k5 (fun k hk e => by have := (hQ.lt k hk).1; have := hZ3.lt; have e' : k = w.heap.size := e; omega) (fun _ _ _ h => h.elim)
      obtain ⟨ao', cap', e5, hn5, hrow⟩ := hQ5.toStr.form
      simp only [Value.slice.injEq, true_and] at e5
      obtain ⟨rfl, rfl⟩ := e5
      refine ⟨(((hZ4.set 0 _).set 1 _).set 2 _).set 3 _, ⟨nil_row _ _, fun _ => rfl, hrow, hn5⟩, fun b hb' => ?_, (g3.below hb).kept k5 (fun k hk e => by have := h.lt hk; have e' : k = w.heap.size := e; omega), (k3.trans (Kept.of_below hb)).transOr k5 (fun j e => Or.inr (by have e' : j = w.heap.size := e; omega))⟩
      rcases hb' with hb' | hb'
      · exact (nil_foot hb').elim
      · exact Nat.le_trans hs3 (hQ5.toStr.foot_ge (Nat.le_refl _) (fun _ _ _ h => h.elim) b hb')
    clear k3 hdk
    go_region_held3 (fun w' => w'.cell? ⟨db, 1, none⟩ = some (.int .i64 (me : Int))) (first | exact hkp _ (by assumption) | exact hkq _ _ _ _ _ (by assumption))
      (first
      | (go_at_call 62; refine (cC _).mono ?_; rintro e w4 ⟨rfl, rfl⟩)
      | (go_at_call 34; refine (cI _ bd).mono ?_; rintro e w5 ⟨v, rfl, hQ, hb2⟩; obtain ⟨ao, cap, rfl, _, _⟩ := hQ.form; have k2 := bd.trans (hb2.mono bd.size); have hZ5 := hZ3.below k2 hZ3.lt; have z0 := hZ5.cell (i := 0) rfl; have z1 := hZ5.cell (i := 1) rfl; have z2 := hZ5.cell (i := 2) rfl; have z3 := hZ5.cell (i := 3) rfl; have q0 := hZ5.frozen 0; have q1 := hZ5.frozen 1; have q2 := hZ5.frozen 2; have q3 := hZ5.frozen 3))
    have hbs : Below w3.heap.size w3 w5 := k2
    have hQ5 : KQ textK 9 w5 w3.heap.size (.slice ao I.length cap) I := hQ
    obtain ⟨hZF, hxA, hxf, hPF, hkF⟩ := hfin.out w5 ao cap hbs hQ5
    clear hfin cI cC hkp hkq
    go_wp2
    refine bodyPost_ret (v := .tuple #[HdrM.v ⟨(me : Int), R + 1, none, [], 0, ao, I, cap⟩, .bool true]) (results_hdr_tmp14 rfl _ _ w.heap.size ⟨(me : Int), R + 1, none, [], 0, ao, I, cap⟩ rfl hZF _ rfl) rfl ?_
    exact ⟨⟨(me : Int), R + 1, none, [], 0, ao, I, cap⟩, rfl, by rw [hI.out]; rfl, hxA, hxf, hPF, hkF⟩
  · obtain rfl : ok = false := by rw [hok2.out]; exact decide_eq_false hc
    have hZF := (((hZ2.set 0 (.int .i64 0)).set 1 (.int .i64 0)).set 2 (.slice none 0 0)).set 3 (.slice none 0 0)
    have hZF : Arr _ w.heap.size 33 (HdrM.c ⟨0, 0, none, [], 0, none, [], 0⟩) := hZF
    have hZ0 : Arr w2 w.heap.size 33 (HdrM.c ⟨0, 0, none, [], 0, none, [], 0⟩) := hZ2
    have hBF := belowSt (u := w) (belowSt (belowSt (belowSt hB2 w.heap.size 0 (.int .i64 0) (Nat.le_refl _)) w.heap.size 1 (.int .i64 0) (Nat.le_refl _)) w.heap.size 2 (.slice none 0 0) (Nat.le_refl _)) w.heap.size 3 (.slice none 0 0) (Nat.le_refl _)
    have hfin : Hid (∀ w', Below w.heap.size w w' → ∃ x : HdrM, (HdrM.v ⟨0, 0, none, [], 0, none, [], 0⟩ = x.v) ∧ x.d = ⟨0, 0, [], []⟩ ∧ x.At w' ∧ (∀ b, x.foot b → w.heap.size ≤ b) ∧ PDg w' db cb vb C tb f ks me d tl ∧ Kept (DagS db vb C) w w') := fun w' hb => ⟨⟨0, 0, none, [], 0, none, [], 0⟩, rfl, rfl, ⟨nil_row _ _, fun _ => rfl, nil_row _ _, fun _ => rfl⟩, (fun b hb => hb.elim (fun h => (nil_foot h).elim) (fun h => (nil_foot h).elim)), h.below hb, Kept.of_below hb⟩
    rcases (by omega : R + 1 ≤ d.own ∨ (¬ R + 1 ≤ d.own ∧ R + 1 < d.low)) with g1 | ⟨g1, g3⟩
    · have g4 : decide (R + 1 ≤ d.own) = true := decide_eq_true g1
      go_wp2
      refine bodyPost_ret (v := .tuple #[HdrM.v ⟨0, 0, none, [], 0, none, [], 0⟩, .bool false]) (results_hdr_tmp14 rfl _ _ w.heap.size ⟨0, 0, none, [], 0, none, [], 0⟩ rfl hZF _ rfl) rfl ?_
      obtain ⟨x, e1, e2⟩ := hfin.out _ hBF
      exact ⟨x, by rw [e1], e2⟩
    · have g4 : decide (R + 1 ≤ d.own) = false := decide_eq_false g1
      have g5 : decide (R + 1 < d.low) = true := decide_eq_true g3
      go_wp2
      refine bodyPost_ret (v := .tuple #[HdrM.v ⟨0, 0, none, [], 0, none, [], 0⟩, .bool false]) (results_hdr_tmp14 rfl _ _ w.heap.size ⟨0, 0, none, [], 0, none, [], 0⟩ rfl hZF _ rfl) rfl ?_
      obtain ⟨x, e1, e2⟩ := hfin.out _ hBF
      exact ⟨x, by rw [e1], e2⟩
end
end Go.Proofs.YtmjkbdgcnoenbaaGreatDoor

/- Low and New, as the program does them. -/
namespace Go.Proofs.YtmjkbdgcnoenbaaGreatDoor
open Go Go.RowKit Go.Maps Go.Sort
set_option linter.unusedVariables false

section
variable {w w' : World} {db cb vb : Nat} {S S' C : Nat → Prop} {tb f : Nat} {ks : List ByteArray} {me : Nat} {d : DagD} {tl : Int}

theorem keepV_sub {V : List VoteD} (hk : V.Pairwise (fun x y => ¬ (x.author = y.author ∧ x.round = y.round))) (r : Int) (p : PlaceD) (h : votM V p = none) : votM (keepV V r) p = none := by
  rw [votM_keep hk, h]
  split <;> rfl

theorem places_wf {ks : List ByteArray} {f : Nat} (hf : f ≤ 2) {V : List VoteD} (hv : ∀ v ∈ V, 0 ≤ v.author ∧ v.author < ((3 * f + 1 : Nat) : Int) ∧ 1 ≤ v.round ∧ v.round ≤ 4611686018427387903) : ∀ p ∈ V.map plV, p.Wf := by
  intro p hp
  obtain ⟨v, hm, rfl⟩ := List.mem_map.1 hp
  have := hv v hm
  exact ⟨int_wf (a := v.author) (by omega) (by omega), int_wf (a := v.round) (by omega) (by omega)⟩

theorem PMap.congrW {w : World} {kt : TypeId} {b : Nat} {f g : PlaceD → Option Value} {n : Nat} (h : PMap w kt b f n) (e : ∀ id : PlaceD, id.Wf → g id = f id) : PMap w kt b g n := by
  obtain ⟨D, h1, h2, h3, h4⟩ := h
  exact ⟨D, h1, h2, fun id hw => by rw [h3 id hw, e id hw], fun id z hw => by rw [h4 id z hw, e id hw]⟩

set_option maxRecDepth 100000 in
set_option maxHeartbeats 2000000 in
theorem low_dag (round : Int) (h : PDg w db cb vb C tb f ks me d tl) (hf2 : f ≤ 2) :
    Calls Tryz.prog 26 #[.pointer (some ⟨db, 0, none⟩), .int .i64 round] w fun e w' => e = .returned (.int .i64 (lowN d round : Int)) ∧ ∃ C' tl', PDg w' db cb vb C' tb f ks me (lowD d round) tl' ∧ FreshS w C C' ∧ Kept (DagS db vb C) w w' := by
  have c2 := h.box.cell (i := 2) rfl
  obtain ⟨LN, hLN⟩ : ∃ z, Hid (lowN d round = z) := ⟨_, rfl⟩
  rw [hLN.out]
  by_cases hr : round ≤ d.low
  · have hl : lowD d round = d := by unfold lowD; rw [if_pos hr]
    have hn : Hid (LN = 0) := by show LN = 0; rw [← hLN.out]; unfold lowN; rw [if_pos hr]
    rw [hl]
    clear hl
    go_enter Tryz.func26, Tryz.ntmps26
    go_wp2
    go_ret
    exact ⟨by rw [hn.out]; rfl, C, tl, h, fun k hk => Or.inl hk, Kept.refl _ _⟩
  · have hl : lowD d round = ⟨keepC d.L round, keepV d.V round, round, d.own⟩ := by unfold lowD; rw [if_neg hr]
    have hn : Hid ((LN : Int) = (d.L.length : Int) - ((keepC d.L round).length : Int)) := by
      show _ = _
      rw [← hLN.out]
      unfold lowN
      rw [if_neg hr]
      have : (keepC d.L round).length ≤ d.L.length := List.length_filter_le _ _
      omega
    have hok := h.ok.lows round
    have hlk := h.link.lows round
    rw [hl] at hok hlk ⊢
    clear hl
    have hst := Kept.setCell w ⟨db, 2, none⟩ (.int .i64 round)
    have hX := h.box.set 2 (.int .i64 round)
    have hX : Arr (w.setCell ⟨db, 2, none⟩ (.int .i64 round)) db 100 [.pointer (some ⟨tb, 0, none⟩), .int .i64 (me : Int), .int .i64 round, .int .i64 d.own, .pointer (some ⟨cb, 0, none⟩), .map (some vb)] := hX
    have hTb := h.tab.kept hst (fun k e e' => h.dc (by rw [← show k = db from e']; exact e))
    have hMp := h.map.kept hst (fun e => h.dv (show vb = db from e).symm)
    have q2 := h.box.frozen 2
    have hk1 : Kept (DagS db vb C) w (w.setCell ⟨db, 2, none⟩ (.int .i64 round)) := hst.mono (fun k _ e => Or.inl e)
    have hk9 : Kept (fun k => k = db ∨ k = vb) w (w.setCell ⟨db, 2, none⟩ (.int .i64 round)) := hst.mono (fun k _ e => Or.inl e)
    have hsz := hk1.size
    obtain ⟨f0, hf0⟩ : ∃ z, Hid (votM d.V = z) := ⟨_, rfl⟩
    obtain ⟨g0, hg0⟩ : ∃ z, Hid (votM (keepV d.V round) = z) := ⟨_, rfl⟩
    have hsub : ∀ i, f0 i = none → g0 i = none := fun i hi => by rw [← hg0.out]; exact keepV_sub h.ok.vkey round i (by rw [hf0.out]; exact hi)
    have hstep : Hid (∀ i : PlaceD, (i.r < round → g0 i = none) ∧ (¬ i.r < round → f0 i = g0 i)) := fun i => by
      rw [← hg0.out, ← hf0.out]
      refine ⟨fun e => ?_, fun e => ?_⟩
      · rw [votM_keep h.ok.vkey, if_neg (by omega)]
      · rw [votM_keep h.ok.vkey, if_pos (by omega)]
    rw [hf0.out] at hMp
    go_enter Tryz.func26, Tryz.ntmps26
    go_upto_region 4 with fail
    generalize w.setCell ⟨db, 2, none⟩ (.int .i64 round) = w1 at hX hTb hMp hk1 hk9 hsz ⊢
    clear hst c2 q2
    have c5 := hX.cell (i := 5) rfl
    go_wp2_with (at_range; refine pmap_range slotKey rfl _ 98 rfl 113 Tryz.underlying98 vb f0 _ rfl hMp ?_; intro w2 hR1 hb1 hs1)
    obtain ⟨r, hr0⟩ : ∃ r, Hid (w1.heap.size = r) := ⟨_, rfl⟩
    rw [hr0.out] at hR1 ⊢
    have hrw : w.heap.size ≤ r := by rw [← hr0.out]; exact hsz
    have hrb : r ≠ db ∧ r ≠ vb := by have := h.box.lt; have := h.map.lt; omega
    have hrC : ¬ C r := fun e => by have := h.tab.lt e; omega
    have hX1 := hX.below hb1 hX.lt
    have hT1 := hTb.below hb1
    have hK1 : Kept (fun k => k = db ∨ k = vb) w w2 := hk9.trans (Kept.of_below hb1)
    have hR0 := hR1.congr (fun i => (mixP_start f0 g0 hsub i).symm)
    clear hR1 c5 hX hTb hMp hk1 hk9 hb1 hs1
    go_loopw [5] (fun _ wr => ∃ (left : PlaceD → Bool) (cnt n : Nat), PRange wr 111 vb r (mixP f0 g0 left) n left cnt ∧ Arr wr db 100 [.pointer (some ⟨tb, 0, none⟩), .int .i64 (me : Int), .int .i64 round, .int .i64 d.own, .pointer (some ⟨cb, 0, none⟩), .map (some vb)] ∧ PT wr cb C ((32 * (3 * f + 1) : Nat) : Int) tl (thingsC d.L) ∧ Kept (fun k => k = db ∨ k = vb) w wr) (fun _ wr => wr.rangeLeft vb r)
    case atStart => exact ⟨_, _, _, hR0, hX1, hT1, hK1⟩
    case round =>
      obtain ⟨left, cnt, n, hR, hX, hTb, hK⟩ := hrel
      clear hR0 hX1 hT1 hK1
      go_wp2_with (at_next; refine pmap_next slotKey rfl _ rfl vb r _ _ _ _ rfl hR ?_ ?_)
      · intro hl0
        have hMF : PMap wr 111 vb g0 n := PMap.congrW hR.map (fun i hi => by
          unfold mixP
          rw [hl0 i hi]
          rfl)
        have hn0 := PMap.count slotKey hMF (plV_nodup hok.vkey) (places_wf (ks := ks) hf2 hok.vfit) (fun i _ => by rw [← hg0.out]; exact votM_some)
        rw [List.length_map] at hn0
        have hn0 : n = (keepV d.V round).length := hn0
        have c4 := hX.cell (i := 4) rfl
        have cD := ptDrop_any round cb C _ tl _ wr hTb
        rw [dropL_things, things_length, things_length] at cD
        have cD' : Calls Tryz.prog 64 #[.pointer (some ⟨cb, 0, none⟩), .int .i64 round] wr fun e w' => e = .returned (.int .i64 (LN : Int)) ∧ ∃ C' tl', PDg w' db cb vb C' tb f ks me ⟨keepC d.L round, keepV d.V round, round, d.own⟩ tl' ∧ FreshS w C C' ∧ Kept (DagS db vb C) w w' := by
          refine cD.mono ?_
          rintro e w' ⟨rfl, C', h1, h2, h3⟩
          refine ⟨by rw [hn.out], C', _, ⟨hX.kept h3 h.dc, h1, ?_, fun e => ?_, fun e => ?_, h.dv, hok, hlk, by have := h.tlow; show max tl round ≤ round; omega⟩, fun k hk => ?_, (hK.mono (fun k _ e => e.elim Or.inl (fun e => Or.inr (Or.inl e)))).trans (h3.mono (fun k _ e => Or.inr (Or.inr e)))⟩
          · show PMap w' 111 vb (votM (keepV d.V round)) (keepV d.V round).length
            rw [← hn0, hg0.out]
            exact hMF.kept h3 h.vc
          · rcases h2 db e with e | e
            · exact h.dc e
            · have := hX.lt; omega
          · rcases h2 vb e with e | e
            · exact h.vc e
            · have := hMF.lt; omega
          · rcases h2 k hk with e | e
            · exact Or.inl e
            · exact Or.inr (Nat.le_trans hK.size e)
        clear hR cD hMF hTb hX hK hn hok hlk
        go_wp2_with fail
        refine cD'.mono ?_
        rintro e w5 ⟨rfl, hfin⟩
        go_wp2
        go_ret
        exact ⟨rfl, hfin⟩
      · intro id v w3 cnt2 hid hlx hfx hR2 hlt hk2 hs2 hen
        obtain ⟨a, rd⟩ := id
        obtain ⟨hgo, hst⟩ := hstep.out ⟨a, rd⟩
        unfold PlaceD.v at hen ⊢
        simp only at hen hgo hst ⊢
        have hX2 := hX.kept hk2 (fun e => hrb.1 e.symm)
        have hT2 := hTb.kept hk2 (fun k e e' => hrC (by rw [← show k = r from e']; exact e))
        have hK2 : Kept (fun k => k = db ∨ k = vb) w w3 := hK.transNew hk2 (fun k e => by have e' : k = r := e; omega)
        have hA := belowNew w3 (.cells #[.int .i64 a, .int .i64 rd] 111)
        have hX3 := hX2.below hA hX2.lt
        have hT3 := hT2.below hA
        have hR3 := hR2.kept (Kept.of_below (S := fun _ => False) hA) (fun e => e) (fun e => e)
        have hK3 := hK2.trans (Kept.of_below hA)
        have hLq := hR.left_eq
        clear hfx hX hR hK hk2 hs2 hTb hX2 hT2 hR2 hK2 hA
        by_cases hlr : rd < round
        · have bq := below_drewN (Below.refl (w3.alloc (.cells #[.int .i64 a, .int .i64 rd] 111)).heap.size (w3.alloc (.cells #[.int .i64 a, .int .i64 rd] 111))) 1
          have hRd : PRange (w3.alloc (.cells #[.int .i64 a, .int .i64 rd] 111)).drew 111 vb r (mixP f0 g0 left) n (strikeP left ⟨a, rd⟩) cnt2 := hR3.kept (Kept.of_below (S := fun _ => False) bq) (fun e => e) (fun e => e)
          have hXd := hX3.below bq hX3.lt
          have hTd := hT3.below bq
          have hKd := hK3.trans (Kept.of_below bq)
          obtain ⟨w4, cnt4, hrun, hR4, hle, hk4⟩ := PRange.delete slotKey hRd Tryz.underlying98 hid 0
          unfold PlaceD.v at hrun
          simp only at hrun
          have c5 := hX3.cell (i := 5) rfl
          have ldb := hX3.lt
          have hX4 := hXd.kept hk4 (fun e => h.dv e)
          have hT4 := hTd.kept hk4 (fun k e e' => h.vc (by rw [← show k = vb from e']; exact e))
          have hK4 := hKd.trans (hk4.mono (fun k _ e => Or.inr e))
          rw [strikeP_twice] at hR4
          have hR5 := hR4.congr (mixP_goes (left := left) (f := f0) (hgo hlr))
          clear hR4 hR3 hX3 hK3 hk4 hT3 hRd hXd hTd hKd bq hgo hst
          go_upto_region 8 with fail
          go_region
          all_goals
            clear hrun c5 hen
            go_wp2
            go_roundw
            case rel => exact ⟨_, _, _, hR5, hX4, hT4, hK4⟩
            case measure => rw [hR5.left_eq, hLq]; omega
        · have hR5 := hR3.congr (mixP_stays (left := left) (hst (by omega)))
          clear hgo hst hR3
          go_wp2
          go_roundw
          case rel => exact ⟨_, _, _, hR5, hX3, hT3, hK3⟩
          case measure => rw [hR5.left_eq, hLq]; omega

set_option maxRecDepth 100000 in
set_option maxHeartbeats 1000000 in
theorem new_dag (hT : TEnv w tb f ks) (hs : me < 3 * f + 1) :
    Calls Tryz.prog 39 #[.pointer (some ⟨tb, 0, none⟩), .int .i64 (me : Int)] w fun e w' => ∃ db, e = .returned (.tuple #[.pointer (some ⟨db, 0, none⟩), .int .i64 0]) ∧ ∃ cb vb C tl, PDg w' db cb vb C tb f ks me dag0 tl ∧ (∀ k, DagS db vb C k → w.heap.size ≤ k) ∧ Below w.heap.size w w' := by
  have cN : ∀ wx, Below w.heap.size w wx → Calls Tryz.prog 38 #[.pointer (some ⟨tb, 0, none⟩)] wx fun e w' => e = .returned (.int .i64 ((3 * f + 1 : Nat) : Int)) ∧ w' = wx := fun wx hx => Mx.n_any tb f ks wx (hT.below hx).T hT.f2
  obtain ⟨N, hN⟩ : ∃ z, Hid (3 * f + 1 = z) := ⟨_, rfl⟩
  rw [hN.out] at cN
  have hN7 : N ≤ 7 := by have := hN.out; have := hT.f2; omega
  have hmN : me < N := by rw [← hN.out]; exact hs
  have g1 : ¬ (me : Int) < 0 := by omega
  have g2 : ¬ (N : Int) ≤ (me : Int) := by omega
  have g3 : decide ((me : Int) < 0) = false := decide_eq_false g1
  have g4 : decide ((N : Int) ≤ (me : Int)) = false := decide_eq_false g2
  have hxw : IntKind.i64.wrap (32 * (N : Int)) = 32 * (N : Int) := wrap_dag (by omega) (by omega)
  have cT := ptNew_any (32 * (N : Int)) w
  have hmm := @run_makeMap Tryz.prog
  go_enter Tryz.func39, Tryz.ntmps39
  go_wp2_with (go_at_call 38; refine (cN _ (Below.refl _ _)).mono ?_; rintro e w1 ⟨rfl, rfl⟩)
  refine cT.mono ?_
  rintro e w2 ⟨cb, rfl, C, hP, hC, hb2⟩
  have hM := PMap.new w2 111
  have hbm := belowNew w2 (.map #[] 0)
  have hX := Arr.new (w2.alloc (.map #[] 0)) 100 [.pointer (some ⟨tb, 0, none⟩), .int .i64 (me : Int), .int .i64 1, .int .i64 0, .pointer (some ⟨cb, 0, none⟩), .map (some w2.heap.size)]
  have hbx := belowNew (w2.alloc (.map #[] 0)) (.cells #[.pointer (some ⟨tb, 0, none⟩), .int .i64 (me : Int), .int .i64 1, .int .i64 0, .pointer (some ⟨cb, 0, none⟩), .map (some w2.heap.size)] 100)
  have e8 : (w2.alloc (.map #[] 0)).heap.size = w2.heap.size + 1 := alloc_size _ _
  rw [e8] at hX
  have hP9 := (hP.below hbm).below hbx
  have hM9 := hM.below hbx
  have hb9 := (hb2.trans (hbm.mono hb2.size)).trans (hbx.mono (hb2.trans (hbm.mono hb2.size)).size)
  have hmx : max 0 (32 * (N : Int)) = ((32 * (3 * f + 1) : Nat) : Int) := by rw [hN.out]; omega
  rw [hmx] at hP9
  have hG : PDg _ (w2.heap.size + 1) cb w2.heap.size C tb f ks me dag0 (-9223372036854775808) := ⟨hX, hP9, hM9, (fun e => by have := hP.lt e; omega), (fun e => by have := hP.lt e; omega), by omega, dag0_ok ks f, LinkC.zero _, by decide⟩
  have hS : ∀ k, DagS (w2.heap.size + 1) w2.heap.size C k → w1.heap.size ≤ k := fun k hk => by
    have := hb2.size
    rcases hk with e | e | e
    · omega
    · omega
    · exact hC k e
  clear hX hM hP hP9 hM9 hbm hbx e8 cT
  go_wp2
  go_ret2
  exact ⟨_, rfl, cb, _, C, _, hG, hS, hb9⟩
end
end Go.Proofs.YtmjkbdgcnoenbaaGreatDoor

/- The contracts of package dag, in words that name nothing of how it lies. -/
namespace Go.Proofs.YtmjkbdgcnoenbaaGreatDoor
open Go Go.RowKit
set_option linter.unusedVariables false

section
variable {w w' : World} {db : Nat} {S S' : Nat → Prop} {tb f : Nat} {ks : List ByteArray} {me : Nat} {d : DagD}

theorem pdNew_any (hT : TEnv w tb f ks) (hs : me < 3 * f + 1) :
    Calls Tryz.prog 39 #[.pointer (some ⟨tb, 0, none⟩), .int .i64 (me : Int)] w fun e w' => ∃ db, e = .returned (.tuple #[.pointer (some ⟨db, 0, none⟩), .int .i64 0]) ∧ ∃ S, PD w' db S tb f ks me dag0 ∧ (∀ k, S k → w.heap.size ≤ k) ∧ Below w.heap.size w w' := by
  refine (new_dag hT hs).mono ?_
  rintro e w' ⟨db, rfl, cb, vb, C, tl, h1, h2, h3⟩
  exact ⟨db, rfl, DagS db vb C, ⟨cb, vb, C, tl, fun _ => Iff.rfl, h1⟩, h2, h3⟩

theorem pdVote_any (x : HdrM) (h : PD w db S tb f ks me d) (hT : TEnv w tb f ks) (hs : me < 3 * f + 1) (hA : x.At w) (hfit : x.Fit) (hlen : (encH x.d).length ≤ 1073741824) (hx : ∀ b, x.foot b → ¬ S b) (hv : d.V.length < 1000000) :
    Calls Tryz.prog 16 #[.pointer (some ⟨db, 0, none⟩), x.v] w fun e w' => e = .returned (.tuple #[.agg #[.int .i64 (voteT ks me (voteE (chkA ks f x.d) d x.d (idB x.d)) (idB x.d)).who, .string (voteT ks me (voteE (chkA ks f x.d) d x.d (idB x.d)) (idB x.d)).mac], .int .i64 (voteE (chkA ks f x.d) d x.d (idB x.d) : Int)]) ∧ ∃ S', PD w' db S' tb f ks me (voteD (chkA ks f x.d) d x.d (idB x.d)) ∧ FreshS w S S' ∧ Kept S w w' := by
  obtain ⟨cb, vb, C, tl, h1, h2⟩ := h.at_
  refine (vote_dag x h2 hT hs hA hfit hlen (fun b hb e => hx b hb ((h1 b).2 e)) hv).mono ?_
  rintro e w' ⟨rfl, h3, h4⟩
  exact ⟨rfl, S, ⟨cb, vb, C, tl, h1, h3⟩, fun k hk => Or.inl hk, h4.mono (fun k _ e => (h1 k).2 e)⟩

theorem pdAdd_any (c : CertM) (h : PD w db S tb f ks me d) (hT : TEnv w tb f ks) (hA : c.At w) (hfit : c.hdr.Fit) (hlen : (encH c.hdr.d).length ≤ 1073741824) (hv : c.votes.length ≤ 1000) (hx : ∀ b, c.foot b → ¬ S b) :
    Calls Tryz.prog 19 #[.pointer (some ⟨db, 0, none⟩), c.v] w fun e w' => e = .returned (.int .i64 (addE (chkC ks f c.d) (3 * f + 1) d c.hdr.d (idB c.hdr.d) : Int)) ∧ ∃ S', PD w' db S' tb f ks me (addD (chkC ks f c.d) (3 * f + 1) d c.d (idB c.hdr.d)) ∧ (∀ k, S' k → S k ∨ c.foot k ∨ w.heap.size ≤ k) ∧ Kept S w w' := by
  obtain ⟨cb, vb, C, tl, h1, h2⟩ := h.at_
  refine (add_dag c h2 hT hA hfit hlen hv).mono ?_
  rintro e w' ⟨rfl, C', h3, h4, h5⟩
  refine ⟨rfl, DagS db vb C', ⟨cb, vb, C', tl, fun _ => Iff.rfl, h3⟩, fun k hk => ?_, h5.mono (fun k _ e => (h1 k).2 e)⟩
  rcases hk with e | e | e
  · exact Or.inl ((h1 k).2 (Or.inl e))
  · exact Or.inl ((h1 k).2 (Or.inr (Or.inl e)))
  · rcases h4 k e with e | e
    · exact Or.inl ((h1 k).2 (Or.inr (Or.inr e)))
    · exact Or.inr (Or.inr e)

theorem pdMissing_any (x : HdrM) (h : PD w db S tb f ks me d) (hA : x.At w) (hpl : x.parents.length ≤ 1000000) (hps : ∀ p ∈ x.parents, p.size ≤ maxLen) :
    Calls Tryz.prog 13 #[.pointer (some ⟨db, 0, none⟩), x.v] w fun e w' => ∃ v, e = .returned v ∧ KQ strK 9 w' w.heap.size v (missD d x.d) ∧ Below w.heap.size w w' := by
  obtain ⟨cb, vb, C, tl, h1, h2⟩ := h.at_
  refine (miss_dag x h2 hA hpl hps).mono ?_
  rintro e w' ⟨v, rfl, h3, h4⟩
  exact ⟨v, rfl, h3.toStr, h4⟩

theorem pdGet_any (id : ByteArray) (hid : id.size ≤ maxLen) (h : PD w db S tb f ks me d) (hT : TEnv w tb f ks) :
    Calls Tryz.prog 29 #[.pointer (some ⟨db, 0, none⟩), .string id] w fun e w' => ∃ c : CertM, e = .returned (.tuple #[c.v, .bool (getC d.L id).isSome]) ∧ c.d = certOf d.L id ∧ c.At w' ∧ (∀ b, c.foot b → w.heap.size ≤ b) ∧ Below w.heap.size w w' := by
  obtain ⟨cb, vb, C, tl, h1, h2⟩ := h.at_
  exact get_dag id hid h2 hT.kl hT.f2

theorem pdIds_any (round : Int) (h : PD w db S tb f ks me d) :
    Calls Tryz.prog 34 #[.pointer (some ⟨db, 0, none⟩), .int .i64 round] w fun e w' => ∃ v, e = .returned v ∧ KQ strK 9 w' w.heap.size v (idsC d.L round) ∧ Below w.heap.size w w' := by
  obtain ⟨cb, vb, C, tl, h1, h2⟩ := h.at_
  refine (ids_dag round h2).mono ?_
  rintro e w' ⟨v, rfl, h3, h4⟩
  exact ⟨v, rfl, h3.toStr, h4⟩

theorem pdRound_any (h : PD w db S tb f ks me d) (hT : TEnv w tb f ks) :
    Calls Tryz.prog 32 #[.pointer (some ⟨db, 0, none⟩)] w fun e w' => e = .returned (.int .i64 (roundC (2 * f + 1) d.L)) ∧ Below w.heap.size w w' := by
  obtain ⟨cb, vb, C, tl, h1, h2⟩ := h.at_
  exact round_dag h2 hT

theorem pdNext_any (h : PD w db S tb f ks me d) (hT : TEnv w tb f ks) :
    Calls Tryz.prog 23 #[.pointer (some ⟨db, 0, none⟩), .slice none 0 0] w fun e w' => ∃ x : HdrM, e = .returned (.tuple #[x.v, .bool (nextOk (2 * f + 1) d)]) ∧ x.d = nextH (2 * f + 1) (me : Int) d [] ∧ x.At w' ∧ (∀ b, x.foot b → w.heap.size ≤ b) ∧ ∃ S', PD w' db S' tb f ks me (nextD (2 * f + 1) d) ∧ FreshS w S S' ∧ Kept S w w' := by
  obtain ⟨cb, vb, C, tl, h1, h2⟩ := h.at_
  refine (next_dag h2 hT).mono ?_
  rintro e w' ⟨x, rfl, h3, h4, h5, h6, h7⟩
  exact ⟨x, rfl, h3, h4, h5, S, ⟨cb, vb, C, tl, h1, h6⟩, fun k hk => Or.inl hk, h7.mono (fun k _ e => (h1 k).2 e)⟩

theorem pdLow_any (round : Int) (h : PD w db S tb f ks me d) (hf2 : f ≤ 2) :
    Calls Tryz.prog 26 #[.pointer (some ⟨db, 0, none⟩), .int .i64 round] w fun e w' => e = .returned (.int .i64 (lowN d round : Int)) ∧ ∃ S', PD w' db S' tb f ks me (lowD d round) ∧ FreshS w S S' ∧ Kept S w w' := by
  obtain ⟨cb, vb, C, tl, h1, h2⟩ := h.at_
  refine (low_dag round h2 hf2).mono ?_
  rintro e w' ⟨rfl, C', tl', h3, h4, h5⟩
  refine ⟨rfl, DagS db vb C', ⟨cb, vb, C', tl', fun _ => Iff.rfl, h3⟩, fun k hk => ?_, h5.mono (fun k _ e => (h1 k).2 e)⟩
  rcases hk with e | e | e
  · exact Or.inl ((h1 k).2 (Or.inl e))
  · exact Or.inl ((h1 k).2 (Or.inr (Or.inl e)))
  · rcases h4 k e with e | e
    · exact Or.inl ((h1 k).2 (Or.inr (Or.inr e)))
    · exact Or.inr e
end
end Go.Proofs.YtmjkbdgcnoenbaaGreatDoor

/- What tusklaw14.both does: tables, a dag of the program, the document's, and the maker of headers. -/
namespace Go.Proofs.YtmjkbdgcnoenbaaGreatDoor
open Go Go.RowKit
set_option linter.unusedVariables false

/-- How many may be faulty. -/
def nF (f : Int) : Nat := 1 + pickN f 2

theorem nF_range (f : Int) : 1 ≤ nF f ∧ nF f ≤ 2 := by
  have := (pickN_spec f 2 (by decide) (by decide)).1
  unfold nF
  omega

/-- The keys of all validators. -/
def ksF (n : Nat) : List ByteArray := Mx.keysL seedW (3 * n + 1)

set_option maxRecDepth 100000 in
set_option maxHeartbeats 1000000 in
theorem bothN_any (f : Int) (w : World) (hG : Mx.Glob w) :
    Calls Tryz.prog 42 #[.int .i64 f] w fun e w' => ∃ b r : Nat, e = .returned (.tuple #[.pointer (some ⟨b, 0, none⟩), .pointer (some ⟨r, 0, none⟩), .bool true]) ∧ Mx.TabAt w' b (nF f) (ksF (nF f)) ∧ Mx.TabAt w' r (nF f) (ksF (nF f)) ∧ Below w.heap.size w w' := by
  obtain ⟨n, hnn⟩ : ∃ z, Hid (nF f = z) := ⟨_, rfl⟩
  obtain ⟨n1, n2⟩ := nF_range f
  have hn : wrap64 (1 + wrap64 ((IntKind.u64.wrap f).tmod 2)) = (n : Int) := by
    obtain ⟨h1, _, h2⟩ := pickN_spec f 2 (by decide) (by decide)
    have e : (IntKind.u64.wrap f).tmod 2 = (IntKind.u64.wrap f).tmod ((2 : Nat) : Int) := rfl
    rw [e, h2, ← hnn.out]
    unfold nF
    rw [Mx.wrap64_small _ (by omega) (by omega)]
    push_cast
    rfl
  rw [hnn.out] at n1 n2
  have cA := fun w1 hg => Mx.new_yes n seedW w1 n1 n2 (by decide) hg
  have cR := fun w1 hg => Mx.refNew_yes n seedW w1 n1 n2 (by decide) hg
  obtain ⟨ks, hks⟩ : ∃ q, Hid (q = Mx.keysL seedW (3 * n + 1)) := ⟨_, rfl⟩
  simp only [← hks.out] at cA cR
  unfold seedW at cA cR
  rw [hnn.out]
  have hkF : ksF n = ks := hks.out.symm
  rw [hkF]
  go_enter Tryz.func42, Tryz.ntmps42
  go_wp2_with fail
  refine (cA _ hG).mono ?_
  rintro e w1 ⟨b, rfl, hb1, hT1, hB1⟩
  clear cA
  go_wp2_with fail
  refine (cR _ (hG.below hB1)).mono ?_
  rintro e w2 ⟨r, rfl, hr2, hT2, hB2⟩
  have hT3 := hT1.below hB2
  have hB3 := hB1.trans (hB2.mono hB1.size)
  clear cR hT1 hB1 hB2
  go_wp2
  go_ret3
  exact ⟨b, r, rfl, hT3, hT2, hB3⟩

theorem tenv {w : World} {b n : Nat} (h : Mx.TabAt w b n (ksF n)) (h1 : 1 ≤ n) (h2 : n ≤ 2) (hG : Mx.Glob w) : TEnv w b n (ksF n) :=
  ⟨h, h2, h1, Mx.keysL_len _ _, Mx.keysL_size _ _, hG⟩

set_option maxRecDepth 100000 in
set_option maxHeartbeats 1000000 in
theorem refDagNew_any (rt f : Nat) (ks : List ByteArray) (me : Nat) (w : World) (hT : TEnv w rt f ks) (hs : me < 3 * f + 1) :
    Calls Tryz.prog 44 #[.pointer (some ⟨rt, 0, none⟩), .int .i64 (me : Int)] w fun e w' => ∃ gb, e = .returned (.tuple #[.pointer (some ⟨gb, 0, none⟩), .int .i64 0]) ∧ Arr w' gb 107 [.pointer (some ⟨rt, 0, none⟩), .int .i64 (me : Int), .slice none 0 0, .slice none 0 0, .int .i64 1, .int .i64 0] ∧ w.heap.size ≤ gb ∧ Below w.heap.size w w' := by
  have cN := fun w1 h1 => Mx.refN_any rt f ks w1 h1 hT.f2
  obtain ⟨N, hN⟩ : ∃ z, Hid (3 * f + 1 = z) := ⟨_, rfl⟩
  rw [hN.out] at cN hs
  have g1 : ¬ ((me : Int) < 0) := by omega
  have g2 : ¬ ((N : Int) ≤ (me : Int)) := by omega
  have hb := belowNew w (.cells #[.pointer (some ⟨rt, 0, none⟩), .int .i64 (me : Int), .slice none 0 0, .slice none 0 0, .int .i64 1, .int .i64 0] 107)
  have hX := Arr.new w 107 [.pointer (some ⟨rt, 0, none⟩), .int .i64 (me : Int), .slice none 0 0, .slice none 0 0, .int .i64 1, .int .i64 0]
  go_enter Tryz.func44, Tryz.ntmps44
  go_wp2_with fail
  refine (cN _ hT.T).mono ?_
  rintro e w1 ⟨rfl, rfl⟩
  go_wp2
  go_ret2
  exact ⟨_, rfl, hX, Nat.le_refl _, hb⟩

/-- What both makes: the tables (at V they are there), the program's dag at db, the document's at gb, the maker at pb, and who me is. -/
structure GotBoth (W V : World) (n me tb rt db gb pb : Nat) (S : Nat → Prop) (w : World) : Prop where
  T : TEnv V tb n (ksF n)
  R : TEnv V rt n (ksF n)
  d : PD w db S tb n (ksF n) me dag0
  g : Arr w gb 107 [.pointer (some ⟨rt, 0, none⟩), .int .i64 (me : Int), .slice none 0 0, .slice none 0 0, .int .i64 1, .int .i64 0]
  p : Pl w pb (fun k => k = pb) rt []
  dlt : ∀ k, S k → V.heap.size ≤ k ∧ k < gb
  glt : V.heap.size ≤ gb ∧ gb < pb
  bw : Below W.heap.size W V
  bel : Below V.heap.size V w
  hs : me < 3 * n + 1

theorem pl_new (w : World) (rt : Nat) : Pl (w.alloc (.cells #[.pointer (some ⟨rt, 0, none⟩), .slice none 0 0, .slice none 0 0] 84)) w.heap.size (fun k => k = w.heap.size) rt [] := by
  refine ⟨.slice none 0 0, [], rfl, fun k => ⟨Or.inl, ?_⟩, Arr.new w 84 [.pointer (some ⟨rt, 0, none⟩), .slice none 0 0, .slice none 0 0], KQ.empty _ _ _ _, (fun x hx => by cases hx), by decide, (fun x hx => by cases hx), (fun x hx => by cases hx), (fun x hx => by cases hx)⟩
  rintro (e | e | ⟨x, hx, _⟩)
  · exact e
  · cases e
  · cases hx

set_option maxRecDepth 100000 in
set_option maxHeartbeats 1000000 in
theorem both14_any (f me : Int) (w : World) (hG : Mx.Glob w) :
    Calls Tryz.prog 9 #[.int .i64 f, .int .i64 me] w fun e w' => ∃ (V : World) (tb rt db gb pb : Nat) (S : Nat → Prop), e = .returned (.tuple #[.pointer (some ⟨db, 0, none⟩), .pointer (some ⟨gb, 0, none⟩), .pointer (some ⟨tb, 0, none⟩), .pointer (some ⟨pb, 0, none⟩), .bool true]) ∧ GotBoth w V (nF f) (pickN me (3 * nF f + 1)) tb rt db gb pb S w' := by
  obtain ⟨n1, n2⟩ := nF_range f
  have cB := bothN_any f w hG
  obtain ⟨N, hN⟩ : ∃ z, Hid (3 * nF f + 1 = z) := ⟨_, rfl⟩
  have hN7 : 0 < N ∧ N ≤ 7 := by have := hN.out; omega
  obtain ⟨ks1, ks2, _⟩ := pickN_spec me N hN7.1 (by omega)
  rw [hN.out]
  obtain ⟨k, hk⟩ : ∃ z, Hid (pickN me N = z) := ⟨_, rfl⟩
  rw [hk.out] at ks1 ks2 ⊢
  generalize nF f = n at *
  have hk32 : IntKind.i64.wrap (k : Int) = (k : Int) := by rw [wrap_i64P]; exact Mx.wrap64_small _ (by omega) (by omega)
  have hnw : IntKind.u64.wrap (N : Int) = (N : Int) := by rw [Mx.wrap_u64]; omega
  have hnz : ¬ N = 0 := by omega
  have hks2 : Hid _ := ks2
  clear ks2
  go_enter Tryz.func9, Tryz.ntmps9
  go_wp2_with fail
  refine cB.mono ?_
  rintro e w1 ⟨tb, rt, rfl, hT1, hR1, hb1⟩
  have hT := tenv hT1 n1 n2 (hG.below hb1)
  have hR := tenv hR1 n1 n2 (hG.below hb1)
  clear hT1 hR1 cB
  have cN := Mx.refN_any rt n (ksF n) w1 hR.T n2
  rw [hN.out] at cN
  go_wp2_with fail
  refine cN.mono ?_
  rintro e wx ⟨rfl, rfl⟩
  have ks3 := hks2.out
  clear cN
  have hkn : k < 3 * n + 1 := by rw [hN.out]; exact ks1
  have cD := pdNew_any (w := wx) (me := k) hT hkn
  go_wp2_with fail
  refine cD.mono ?_
  rintro e w2 ⟨db, rfl, S, hD2, hS2, hb2⟩
  have hR2 := hR.below hb2
  have cG := refDagNew_any rt n (ksF n) k w2 hR2 hkn
  clear cD
  go_wp2_with fail
  refine cG.mono ?_
  rintro e w3 ⟨gb, rfl, hg3, hgl, hb3⟩
  have hgs := hg3.lt
  have hbn := belowNew w3 (.cells #[.pointer (some ⟨rt, 0, none⟩), .slice none 0 0, .slice none 0 0] 84)
  have hb13 := hb2.trans (hb3.mono hb2.size)
  have hb14 := hb13.trans (hbn.mono hb13.size)
  have hfin : GotBoth w wx n k tb rt db gb w3.heap.size S (w3.alloc (.cells #[.pointer (some ⟨rt, 0, none⟩), .slice none 0 0, .slice none 0 0] 84)) := by
    refine ⟨hT, hR, (hD2.below hb3).below hbn, hg3.below hbn hg3.lt, pl_new w3 rt, fun j hj => ⟨hS2 j hj, Nat.lt_of_lt_of_le (hD2.lt hj) hgl⟩, ⟨?_, hgs⟩, hb1, hb14, hkn⟩
    have := hb2.size
    omega
  clear cG hb13 hb14 hbn hR2 hb2 hb3 hg3 hD2
  go_wp2
  refine bodyPost_ret (v := .tuple #[.pointer (some ⟨db, 0, none⟩), .pointer (some ⟨gb, 0, none⟩), .pointer (some ⟨tb, 0, none⟩), .pointer (some ⟨w3.heap.size, 0, none⟩), .bool true]) ?_ rfl ?_
  · simp [results]
  · exact ⟨wx, tb, rt, db, gb, w3.heap.size, S, rfl, hfin⟩
end Go.Proofs.YtmjkbdgcnoenbaaGreatDoor
