/- Texts as one: CertOwn, PlayCert, Own14, DagSt, OpRows, DagIds, DagRight, DagWorks, DagPlace, HdrPlain. -/
import Derived.Test.YtmjkbdgcnoenbaaGreatDoorDk03
import Derived.Test.YtmjkbdgcnoenbaaGreatDoorDk09
import Derived.Test.YtmjkbdgcnoenbaaGreatDoorDk08
import Derived.Deep.RegionHeld3
import Derived.Test.YtmjkbdgcnoenbaaGreatDoorDk10
import Derived.Test.YtmjkbdgcnoenbaaGreatDoorDk13
import Derived.Test.YtmjkbdgcnoenbaaGreatDoorDk15
import Derived.Test.YtmjkbdgcnoenbaaGreatDoorDk16
import Derived.Test.YtmjkbdgcnoenbaaGreatDoorDk12
import Derived.Test.YtmjkbdgcnoenbaaGreatDoorDk05
import Derived.Test.YtmjkbdgcnoenbaaGreatDoorDk02
import Derived.Deep.QuietTactic
import Derived.BigQuiet
/- What tusklaw07.Own does: a certificate that shares nothing; nothing old in memory is turned. -/
namespace Go.Proofs.YtmjkbdgcnoenbaaGreatDoor
open Go.RowKit
set_option linter.unusedVariables false

theorem results_certO {fn : Func} {p : Tmp} (h : fn.results = #[.cell p 48]) (tmps : Array Value) (w : World) (g : Nat) (x : CertM)
    (hp : tmps.getD p undef = .pointer (some ⟨g, 0, none⟩)) (hg : Arr w g 48 x.c) :
    (results fn tmps).run Tryz.prog w = .ok x.v w :=
  results_cell_row h tmps w g 48 x.c.toArray (0, 0) _ hp hg Tryz.underlying48 rfl infoCert7

/-- A certificate that shares nothing is handed back. -/
def GotOwnC (W : World) (x : CertM) (e : Ending) (w : World) : Prop :=
  ∃ y : CertM, e = .returned y.v ∧ y.d = x.d ∧ y.At w ∧ (∀ b, y.foot b → W.heap.size ≤ b) ∧ Below W.heap.size W w

theorem ownEmpty (w : World) : (w.alloc (.cells #[] 42)).ownsRow w.heap.size 42 tagK.n (.slice (some ⟨w.heap.size, 0, none⟩) 0 0) 0 [] := World.ownsRow_made w #[] 0 (Nat.le_refl _) (by unfold maxLen; omega) (by simp)

theorem own_belowC {B : Nat} {e : TypeId} {k : Nat} {v : Value} {n : Nat} {xs : List Value} {w w' : World} (h : w.ownsRow B e k v n xs) (hb : Below w.heap.size w w') : w'.ownsRow B e k v n xs := by
  refine ⟨h.1, ?_⟩
  rcases h.2 with h0 | ⟨g, cap, cur, hv, hB, hg, r⟩
  · exact Or.inl h0
  · have hl : g < w.heap.size := (Array.getElem?_eq_some_iff.1 hg).1
    exact Or.inr ⟨g, cap, cur, hv, hB, by rw [hb.block g hl]; exact hg, r⟩
end Go.Proofs.YtmjkbdgcnoenbaaGreatDoor

/- What (*Plays).Cert does: the certificate of an act. -/
namespace Go.Proofs.YtmjkbdgcnoenbaaGreatDoor
open Go Go.RowKit
set_option linter.unusedVariables false

/-- The certificate of an act. -/
def certO (ks : List ByteArray) (f : Nat) (ids : List (List ByteArray)) (o : OpM) : CertD :=
  ⟨hdrO ks f ids o, tagsP ks voteW (idB (hdrO ks f ids o)) o.votes (3 * f + 1)⟩

/-- A certificate is handed back: its header the act's own or a new one, its votes new. -/
def GotCertO (W : World) (ks : List ByteArray) (f : Nat) (ids : List (List ByteArray)) (o : OpM) (e : Ending) (w : World) : Prop :=
  ∃ x : CertM, e = .returned x.v ∧ x.d = certO ks f ids o ∧ x.At w ∧ ((o.wild.round ≠ 0 ∧ x.hdr = o.wild) ∨ (o.wild.round = 0 ∧ ∀ b, x.hdr.foot b → W.heap.size ≤ b)) ∧ (∀ b, rowFoot tagK x.va x.votes b → W.heap.size ≤ b) ∧ Below W.heap.size W w

set_option maxRecDepth 100000 in
set_option maxHeartbeats 4000000 in
theorem playCert_any (pb : Nat) (q : Value) (rt f : Nat) (ks : List ByteArray) (xs : List IdsM) (o : OpM) (w : World) (h : PlAt w pb q rt xs) (hT : Mx.TabAt w rt f ks) (hf : f ≤ 2) (hf1 : 1 ≤ f) (hkl : ks.length = 3 * f + 1) (hks : ∀ k ∈ ks, k.size ≤ 32)
    (h32 : ∀ x ∈ xs, ∀ i ∈ x.l, i.size ≤ 1000) (hA : o.wild.At w) (hV : RowAt boolK w o.va o.votes) (hvl : o.votes.length ≤ maxLen) (hwf : o.wild.round ≠ 0 → o.wild.Fit ∧ (encH o.wild.d).length ≤ 1073741824) (hG : Mx.Glob w) :
    Calls Tryz.prog 18 #[.pointer (some ⟨pb, 0, none⟩), o.v] w fun e w' => GotCertO w ks f (xs.map IdsM.l) o e w' := by
  have cH := fun w1 h1 h2 h3 h4 => playHdr_any pb q rt f ks xs o w1 h1 h2 hf hf1 hkl hks h32 h3 h4
  have hfit : Hid (∀ x : HdrM, x.d = hdrO ks f (xs.map IdsM.l) o → ((o.wild.round ≠ 0 ∧ x = o.wild) ∨ o.wild.round = 0) → x.Fit ∧ (encH x.d).length ≤ 1073741824) := by
    intro x hx hor
    rcases hor with ⟨h1, rfl⟩ | h1
    · exact hwf h1
    · unfold hdrO at hx
      rw [if_pos h1] at hx
      have := hdrP_small (ks := ks) (ids := xs.map IdsM.l) (by omega) (fun l hl => by
        obtain ⟨y, hy, rfl⟩ := List.mem_map.1 hl
        exact h.few' y hy) (fun l hl p hp => by
        obtain ⟨y, hy, rfl⟩ := List.mem_map.1 hl
        exact h32 y hy p hp) hx
      exact ⟨this.1, by omega⟩
  obtain ⟨HO, hHO⟩ : ∃ z, Hid (hdrO ks f (xs.map IdsM.l) o = z) := ⟨_, rfl⟩
  have hfin : Hid (∀ (e : Ending) (w' : World) (x : CertM), e = .returned x.v → x.hdr.d = HO → x.votes = tagsP ks voteW (idB HO) o.votes (3 * f + 1) → x.At w' → ((o.wild.round ≠ 0 ∧ x.hdr = o.wild) ∨ (o.wild.round = 0 ∧ ∀ b, x.hdr.foot b → w.heap.size ≤ b)) → (∀ b, rowFoot tagK x.va x.votes b → w.heap.size ≤ b) → Below w.heap.size w w' → GotCertO w ks f (xs.map IdsM.l) o e w') := fun e w' x h1 h2 h3 h4 h5 h6 h7 =>
    ⟨x, h1, by show (⟨x.hdr.d, x.votes⟩ : CertD) = _; unfold certO; rw [hHO.out, h2, h3], h4, h5, h6, h7⟩
  have cH' : ∀ w1, PlAt w1 pb q rt xs → Mx.TabAt w1 rt f ks → o.wild.At w1 → Mx.Glob w1 → Calls Tryz.prog 11 #[.pointer (some ⟨pb, 0, none⟩), o.v] w1 fun e w' => ∃ x : HdrM, e = .returned x.v ∧ x.d = HO ∧ x.At w' ∧ ((o.wild.round ≠ 0 ∧ x = o.wild) ∨ (o.wild.round = 0 ∧ ∀ b, x.foot b → w1.heap.size ≤ b)) ∧ Below w1.heap.size w1 w' := fun w1 h1 h2 h3 h4 => by
    rw [← hHO.out]
    exact cH w1 h1 h2 h3 h4
  generalize GotCertO w ks f (xs.map IdsM.l) o = GOT at hfin ⊢
  rw [hHO.out] at hfit
  have hwr : Hid (∀ x : HdrM, ((o.wild.round ≠ 0 ∧ x = o.wild) ∨ (o.wild.round = 0 ∧ ∀ b, x.foot b → w.heap.size + 2 ≤ b)) → ∀ b, x.foot b → b < w.heap.size ∨ w.heap.size + 2 ≤ b) := fun x hx b hb => by
    rcases hx with ⟨_, rfl⟩ | ⟨_, hx⟩
    · exact Or.inl (Kind.lt hdrK hA hb)
    · exact Or.inr (hx b hb)
  obtain ⟨hX, hZ, hB⟩ := two_new w 35 48 o.c [.int .i64 0, .int .i64 0, .slice none 0 0, .slice none 0 0, .slice none 0 0]
  have h2 := h.below hB
  have hT2 := hT.below hB
  have hA2 := hA.below hB
  have hG2 := hG.below hB
  have hs2 : Hid (((w.alloc (.cells o.c.toArray 35)).alloc (.cells [.int .i64 0, .int .i64 0, .slice none 0 0, .slice none 0 0, .slice none 0 0].toArray 48)).heap.size = w.heap.size + 2) := by show _ = _; rw [alloc_size, alloc_size]
  unfold OpM.v at cH' ⊢
  unfold OpM.c at hX hZ hB h2 hT2 hA2 hG2 hs2
  clear cH
  obtain ⟨kd, au, bk, od, va, vs, vc, rn, wl⟩ := o
  have x0 := hX.cell (i := 0) rfl
  have x1 := hX.cell (i := 1) rfl
  have x2 := hX.cell (i := 2) rfl
  have x3 := hX.cell (i := 3) rfl
  have x4 := hX.cell (i := 4) rfl
  have x5 := hX.cell (i := 5) rfl
  have x6 := hX.cell (i := 6) rfl
  have x7 := hX.cell (i := 7) rfl
  have x8 := hX.cell (i := 8) rfl
  have x9 := hX.cell (i := 9) rfl
  simp only at cH' ⊢
  go_enter Tryz.func18, Tryz.ntmps18
  go_wp2_with fail
  refine (cH' _ h2 hT2 hA2 hG2).mono ?_
  rintro e wh ⟨x, rfl, hxd, hxA, hxo, hbh⟩
  rw [hs2.out] at hxo
  have hfx := hfit.out x hxd (hxo.imp id And.left)
  have hfo := hwr.out x hxo
  have hIx := idB_size HO
  have hBh := hB.trans (hbh.mono hB.size)
  have hXh := hX.below hbh hX.lt
  have hZh := hZ.below hbh hZ.lt
  have hs3 : w.heap.size + 2 ≤ wh.heap.size := by have := hbh.size; rw [hs2.out] at this; exact this
  clear cH' h2 hT2 hA2 hG2 hX hZ hB hbh x0 x1 x2 x3 x4 x5 x6 x7 x8 x9 hs2 hfit hwr
  have hxo' : (wl.round ≠ 0 ∧ x = wl) ∨ (wl.round = 0 ∧ ∀ b, x.foot b → w.heap.size ≤ b) := hxo.imp id (fun h => ⟨h.1, fun b hb => by have := h.2 b hb; omega⟩)
  clear hxo
  have hbn := belowNew wh (.cells x.c.toArray 33)
  have hH3 := Arr.new wh 33 x.c
  have hX3 := hXh.below hbn hXh.lt
  have hZ3 := hZh.below hbn hZh.lt
  have hB3 := hBh.trans (hbn.mono hBh.size)
  have hx3 := hxA.below hbn
  unfold HdrM.c at hbn hH3 hX3 hZ3 hB3 hx3
  clear hXh hZh hBh hxA hbn
  obtain ⟨IV, hIV⟩ : ∃ z, Hid (idB HO = z) := ⟨_, rfl⟩
  obtain ⟨tl, htl⟩ : ∃ z, Hid (tagsP ks voteW IV vs (3 * f + 1) = z) := ⟨_, rfl⟩
  have his : IV.size ≤ 2000 := by rw [← hIV.out, hIx]; decide
  have cI := fun w1 h1 => refHdrId_any x w1 h1 hfx.1 hfx.2
  have hid' : Mx.bytes (Mx.sumL (encH x.d)) = IV := by rw [hxd]; exact hIV.out
  rw [hid'] at cI
  have cT := fun w1 h1 h2 h3 h4 => playTags_any pb q rt f ks xs voteW IV va vc vs w1 h1 h2 hf hkl hks h3 hvl (by decide) his h4
  rw [htl.out] at cT
  unfold voteW at cT
  unfold HdrM.v at cI ⊢
  clear hid' his hfx hIx
  go_upto_region 2 with fail
  obtain ⟨w3, hw3⟩ : ∃ z, wh.alloc (.cells #[.int .i64 x.author, .int .i64 x.round, .slice x.ra x.refs.length x.rc, .slice x.pa x.parents.length x.pc] 33) = z := ⟨_, rfl⟩
  have hH3 : Arr (wh.alloc (.cells #[.int .i64 x.author, .int .i64 x.round, .slice x.ra x.refs.length x.rc, .slice x.pa x.parents.length x.pc] 33)) wh.heap.size 33 [.int .i64 x.author, .int .i64 x.round, .slice x.ra x.refs.length x.rc, .slice x.pa x.parents.length x.pc] := hH3
  rw [hw3] at hH3 hX3 hZ3 hB3 hx3 ⊢
  clear hw3
  obtain ⟨hb, hhb⟩ : ∃ z, Hid (wh.heap.size = z) := ⟨_, rfl⟩
  rw [hhb.out] at hH3 hs3 ⊢
  have hkp : ∀ U, Kept (fun k => k = w.heap.size + 1) w3 U → (U.cell? ⟨hb, 0, none⟩ = some (.int .i64 x.author) ∧ U.cell? ⟨hb, 1, none⟩ = some (.int .i64 x.round) ∧ U.cell? ⟨hb, 2, none⟩ = some (.slice x.ra x.refs.length x.rc) ∧ U.cell? ⟨hb, 3, none⟩ = some (.slice x.pa x.parents.length x.pc) ∧ U.cell? ⟨w.heap.size, 4, none⟩ = some (.slice va vs.length vc)) := fun U hU => by
    have h1 := hH3.kept hU (show hb ≠ w.heap.size + 1 by omega)
    have h2 := hX3.kept hU (show w.heap.size ≠ w.heap.size + 1 by omega)
    exact ⟨h1.cell (i := 0) rfl, h1.cell (i := 1) rfl, h1.cell (i := 2) rfl, h1.cell (i := 3) rfl, h2.cell (i := 4) rfl⟩
  have bd : Below w3.heap.size w3 w3.drew := below_drewN (Below.refl _ w3) 1
  have kd' : Kept (fun k => k = w.heap.size + 1) w3 w3.drew := Kept.of_below bd
  have hxd3 := hx3.below bd
  have hS0 := hkp _ kd'
  go_region_held3 (fun w' => w'.cell? ⟨hb, 0, none⟩ = some (.int .i64 x.author) ∧ w'.cell? ⟨hb, 1, none⟩ = some (.int .i64 x.round) ∧ w'.cell? ⟨hb, 2, none⟩ = some (.slice x.ra x.refs.length x.rc) ∧ w'.cell? ⟨hb, 3, none⟩ = some (.slice x.pa x.parents.length x.pc) ∧ w'.cell? ⟨w.heap.size, 4, none⟩ = some (.slice va vs.length vc)) (exact hkp _ (by assumption))
    (first
    | (go_at_call 28; refine (cI _ hxd3).mono ?_; rintro e wI ⟨rfl, hbI⟩; have bI : Below w3.heap.size w3 wI := bd.trans hbI; have kI : Kept (fun k => k = w.heap.size + 1) w3 wI := Kept.of_below bI; have BI := hB3.trans (bI.mono hB3.size))
    | (go_at_call 46; refine (cT _ (h.below BI) (hT.below BI) (hV.below BI) (hG.below BI)).mono ?_; rintro e wT ⟨v, rfl, hQT, hbT⟩; have bT : Below w3.heap.size w3 wT := bI.trans (hbT.mono bI.size); have kT : Kept (fun k => k = w.heap.size + 1) w3 wT := Kept.of_below bT; obtain ⟨ta, tc, rfl, tn, tR⟩ := hQT.form; have hZT := hZ3.below bT hZ3.lt; have z0 := hZT.cell (i := 0) rfl; have z1 := hZT.cell (i := 1) rfl; have z2 := hZT.cell (i := 2) rfl; have z3 := hZT.cell (i := 3) rfl; have z4 := hZT.cell (i := 4) rfl; have g0 := hZT.frozen 0; have g1 := hZT.frozen 1; have g2 := hZT.frozen 2; have g3 := hZT.frozen 3; have g4 := hZT.frozen 4; have kG := kT.trans (kept_set5 wT (w.heap.size + 1) (.int .i64 x.author) (.int .i64 x.round) (.slice x.ra x.refs.length x.rc) (.slice x.pa x.parents.length x.pc) (.slice ta tl.length tc))))
  all_goals
    have hfv : ∀ b, rowFoot tagK ta tl b → w3.heap.size ≤ b := fun b hf => Nat.le_trans bI.size (hQT.foot_ge (Nat.le_refl _) (fun _ _ _ h => h.elim) b hf)
    have hw3 := hB3.size
    have hZF := hZT.set5 (.int .i64 x.author) (.int .i64 x.round) (.slice x.ra x.refs.length x.rc) (.slice x.pa x.parents.length x.pc) (.slice ta tl.length tc)
    have k5 := kept_set5 wT (w.heap.size + 1) (.int .i64 x.author) (.int .i64 x.round) (.slice x.ra x.refs.length x.rc) (.slice x.pa x.parents.length x.pc) (.slice ta tl.length tc)
    have hzl := hZ3.lt
    have hxF := Kind.kept hdrK (hx3.below bT) k5 (fun b hb e => by have e' : b = w.heap.size + 1 := e; rcases hfo b hb with h | h <;> omega)
    have hqF := tR.kept k5 (fun b hb e => by have := hfv b hb; have e' : b = w.heap.size + 1 := e; omega)
    have bG := below_set5 (hB3.trans (bT.mono hB3.size)) (g := w.heap.size + 1) (Nat.le_succ _) (.int .i64 x.author) (.int .i64 x.round) (.slice x.ra x.refs.length x.rc) (.slice x.pa x.parents.length x.pc) (.slice ta tl.length tc)
    have fin := hfin.out (.returned (CertM.v ⟨x, ta, tl, tc⟩)) _ ⟨x, ta, tl, tc⟩ rfl hxd (by show tl = _; rw [hIV.out, htl.out]) ⟨hxF, hqF, tn⟩ hxo' (fun b hb => Nat.le_trans hw3 (hfv b hb)) bG
    have hZF : Arr _ (w.heap.size + 1) 48 (CertM.c ⟨x, ta, tl, tc⟩) := hZF
    unfold set5 at hZF fin
    clear hkp hS0 kd' cI cT k5 hxF hqF bG kG
    try go_wp2
    refine bodyPost_ret (v := CertM.v ⟨x, ta, tl, tc⟩) (results_certO rfl _ _ (w.heap.size + 1) ⟨x, ta, tl, tc⟩ rfl hZF) rfl ?_
    exact fin
end Go.Proofs.YtmjkbdgcnoenbaaGreatDoor

/- What tusklaw14.own does (as tusklaw07.Own); nothing old in memory is turned. -/
namespace Go.Proofs.YtmjkbdgcnoenbaaGreatDoor
open Go.RowKit
set_option linter.unusedVariables false

set_option maxRecDepth 100000 in
set_option maxHeartbeats 4000000 in
theorem own14_any (x : CertM) (w : World) (hA : x.At w) (hL : x.hdr.Lens) (hv : x.votes.length * 24 ≤ 140737488351232) :
    Calls Tryz.prog 20 #[x.v] w fun e w' => GotOwnC w x e w' := by
  obtain ⟨h, va, vs, vc⟩ := x
  obtain ⟨hX, hZ, hB⟩ := two_new w 48 48 [.int .i64 h.author, .int .i64 h.round, .slice h.ra h.refs.length h.rc, .slice h.pa h.parents.length h.pc, .slice va vs.length vc] [.int .i64 0, .int .i64 0, .slice none 0 0, .slice none 0 0, .slice none 0 0]
  obtain ⟨i1, hi, hz0, hz1, hz2⟩ := info_parts infoTag6
  have hA1 := hA.below hB
  have hh1 : h.At _ := hA1.hdr
  have hv1 : RowAt tagK _ va vs := hA1.votes
  have hnv : va = none → vc = 0 := hA.nv
  obtain ⟨w1, hw1⟩ : ∃ q, (w.alloc (.cells [.int .i64 h.author, .int .i64 h.round, .slice h.ra h.refs.length h.rc, .slice h.pa h.parents.length h.pc, .slice va vs.length vc].toArray 48)).alloc (.cells [.int .i64 0, .int .i64 0, .slice none 0 0, .slice none 0 0, .slice none 0 0].toArray 48) = q := ⟨_, rfl⟩
  rw [hw1] at hX hZ hB hh1 hv1
  clear hA hA1
  unfold CertM.v
  simp only
  go_enter Tryz.func20, Tryz.ntmps20
  have cO := fun w2 h2 => own6_any h w2 h2 hL
  unfold HdrM.v at cO
  have hkp : ∀ U, Kept (fun k => k = w.heap.size + 1) w1 U → (U.cell? ⟨w.heap.size, 0, none⟩ = some (.int .i64 h.author) ∧ U.cell? ⟨w.heap.size, 1, none⟩ = some (.int .i64 h.round) ∧ U.cell? ⟨w.heap.size, 2, none⟩ = some (.slice h.ra h.refs.length h.rc) ∧ U.cell? ⟨w.heap.size, 3, none⟩ = some (.slice h.pa h.parents.length h.pc) ∧ U.cell? ⟨w.heap.size, 4, none⟩ = some (.slice va vs.length vc)) := fun U hU => by
    have hn : w.heap.size ≠ w.heap.size + 1 := by omega
    have h := hX.kept hU hn
    exact ⟨h.cell (i := 0) rfl, h.cell (i := 1) rfl, h.cell (i := 2) rfl, h.cell (i := 3) rfl, h.cell (i := 4) rfl⟩
  have bd : Below w1.heap.size w1 w1.drew := below_drewN (Below.refl _ w1) 1
  have be : Below w1.heap.size w1 (w1.drew.alloc (.cells #[] 42)) := bd.alloc (Nat.le_refl _) _
  have hd : h.At w1.drew := hh1.below bd
  have he : h.At (w1.drew.alloc (.cells #[] 42)) := hh1.below be
  have kd : Kept (fun k => k = w.heap.size + 1) w1 w1.drew := Kept.of_below bd
  have ke : Kept (fun k => k = w.heap.size + 1) w1 (w1.drew.alloc (.cells #[] 42)) := Kept.of_below be
  have hoE := ownEmpty w1.drew
  have hv' : vs.length * 24 ≤ 140737488351232 := hv
  have n1 : vs.length ≤ maxLen := by unfold maxLen; omega
  have n2 : vs.length * 24 ≤ 140737488355328 := by omega
  have hS0 := hkp _ kd
  have h1z := hZ.lt
  go_wp2_with fail
  clear hw1
  go_region_held3 (fun w' => w'.cell? ⟨w.heap.size, 0, none⟩ = some (.int .i64 h.author) ∧ w'.cell? ⟨w.heap.size, 1, none⟩ = some (.int .i64 h.round) ∧ w'.cell? ⟨w.heap.size, 2, none⟩ = some (.slice h.ra h.refs.length h.rc) ∧ w'.cell? ⟨w.heap.size, 3, none⟩ = some (.slice h.pa h.parents.length h.pc) ∧ w'.cell? ⟨w.heap.size, 4, none⟩ = some (.slice va vs.length vc)) (exact hkp _ (by assumption))
    (first
    | (go_at_call 14; refine (cO _ hd).mono ?_; rintro e w2 ⟨y, rfl, hyd, hy, hyf, hb2⟩; unfold HdrM.v; have bA : Below w1.heap.size w1 w2 := bd.trans hb2; have kA : Kept (fun k => k = w.heap.size + 1) w1 w2 := Kept.of_below bA; have bE := bA.alloc bA.size (.cells #[] 42); have kE : Kept (fun k => k = w.heap.size + 1) w1 _ := Kept.of_below bE; have hv2 := hv1.below bE; have ho2 := ownEmpty w2; have hbs2 := (belowNew w2 (.cells #[] 42)).size; have hyE := hy.below (belowNew w2 (.cells #[] 42)))
    | (go_at_call 14; refine (cO _ he).mono ?_; rintro e w2 ⟨y, rfl, hyd, hy, hyf, hb2⟩; unfold HdrM.v; have bA : Below w1.heap.size w1 w2 := be.trans (hb2.mono be.size); have kA : Kept (fun k => k = w.heap.size + 1) w1 w2 := Kept.of_below bA; have hv2 := hv1.below bA; have ho3 := own_belowC hoE hb2; have hbs3 : w1.heap.size ≤ w2.heap.size := bA.size)
    | (refine step_copyK (K := tagK) _ (by rfl) _ _ 46 (by rfl) w2.heap.size 42 i1 _ 24 Tryz.underlying46 hi hz0 hz1 hz2 rfl _ (by rfl) ho2 va vc vs (by rfl) hv2 (fun _ _ h => h.elim) hnv n1 n2 hbs2 ?_; intro ao3 cap3 w3 hq3 hk3; have bF : Below w1.heap.size w1 w3 := bE.trans (Kept.below hk3 bE.size (fun k hk => by have := (ho2.lt k hk).1; have := bA.size; omega)); have kF : Kept (fun k => k = w.heap.size + 1) w1 w3 := Kept.of_below bF; have hy3 := Kind.kept hdrK hyE hk3 (fun b hb e => by have := (ho2.lt b e).1; have := Kind.lt hdrK hy hb; omega); have hZ3 := hZ.below bF hZ.lt; have z0 := hZ3.cell (i := 0) rfl; have z1 := hZ3.cell (i := 1) rfl; have z2 := hZ3.cell (i := 2) rfl; have z3 := hZ3.cell (i := 3) rfl; have z4 := hZ3.cell (i := 4) rfl; have g0 := hZ3.frozen 0; have g1 := hZ3.frozen 1; have g2 := hZ3.frozen 2; have g3 := hZ3.frozen 3; have g4 := hZ3.frozen 4; have kG := kF.trans (kept_set5 w3 (w.heap.size + 1) (.int .i64 y.author) (.int .i64 y.round) (.slice y.ra y.refs.length y.rc) (.slice y.pa y.parents.length y.pc) (.slice ao3 vs.length cap3)))
    | (refine step_copyK (K := tagK) _ (by rfl) _ _ 46 (by rfl) w1.heap.size 42 i1 _ 24 Tryz.underlying46 hi hz0 hz1 hz2 rfl _ (by rfl) ho3 va vc vs (by rfl) hv2 (fun _ _ h => h.elim) hnv n1 n2 hbs3 ?_; intro ao3 cap3 w3 hq3 hk3; have bF : Below w1.heap.size w1 w3 := bA.trans (Kept.below hk3 bA.size (fun k hk => (ho3.lt k hk).1)); have kF : Kept (fun k => k = w.heap.size + 1) w1 w3 := Kept.of_below bF; have hy3 := Kind.kept hdrK hy hk3 (fun b hb e => by have h1 := hyf b hb; rw [alloc_size] at h1; have h2 : w1.heap.size + 1 ≤ b := h1; simp [Value.ownBlock] at e; omega); have hZ3 := hZ.below bF hZ.lt; have z0 := hZ3.cell (i := 0) rfl; have z1 := hZ3.cell (i := 1) rfl; have z2 := hZ3.cell (i := 2) rfl; have z3 := hZ3.cell (i := 3) rfl; have z4 := hZ3.cell (i := 4) rfl; have g0 := hZ3.frozen 0; have g1 := hZ3.frozen 1; have g2 := hZ3.frozen 2; have g3 := hZ3.frozen 3; have g4 := hZ3.frozen 4; have kG := kF.trans (kept_set5 w3 (w.heap.size + 1) (.int .i64 y.author) (.int .i64 y.round) (.slice y.ra y.refs.length y.rc) (.slice y.pa y.parents.length y.pc) (.slice ao3 vs.length cap3))))
  all_goals
    have hyl : ∀ b, y.foot b → w1.heap.size ≤ b := fun b hb => Nat.le_trans (by first | exact Nat.le_refl _ | (rw [alloc_size]; exact Nat.le_succ _)) (hyf b hb)
    obtain ⟨ao4, cap4, e4, hn4, hrow3⟩ := hq3.form
    simp only [Value.slice.injEq, true_and] at e4
    obtain ⟨rfl, rfl⟩ := e4
    have hql : ∀ b, rowFoot tagK ao3 vs b → w1.heap.size ≤ b := fun b hb => Nat.le_trans (by first | exact Nat.le_refl _ | exact bA.size) (hq3.foot_ge (Nat.le_refl _) (fun _ _ _ h => h.elim) b hb)
    have hZF := hZ3.set5 (.int .i64 y.author) (.int .i64 y.round) (.slice y.ra y.refs.length y.rc) (.slice y.pa y.parents.length y.pc) (.slice ao3 vs.length cap3)
    have k5 := kept_set5 w3 (w.heap.size + 1) (.int .i64 y.author) (.int .i64 y.round) (.slice y.ra y.refs.length y.rc) (.slice y.pa y.parents.length y.pc) (.slice ao3 vs.length cap3)
    have hyF := Kind.kept hdrK hy3 k5 (fun b hb e => by have := hyl b hb; have e' : b = w.heap.size + 1 := e; omega)
    have hqF := hrow3.kept k5 (fun b hb e => by have := hql b hb; have e' : b = w.heap.size + 1 := e; omega)
    have bG := below_set5 (hB.trans (bF.mono hB.size)) (g := w.heap.size + 1) (Nat.le_succ _) (.int .i64 y.author) (.int .i64 y.round) (.slice y.ra y.refs.length y.rc) (.slice y.pa y.parents.length y.pc) (.slice ao3 vs.length cap3)
    have fin : ∀ e, e = .returned (CertM.v ⟨y, ao3, vs, cap3⟩) → GotOwnC w ⟨h, va, vs, vc⟩ e _ := fun e hv => ⟨⟨y, ao3, vs, cap3⟩, hv, (by show (⟨y.d, vs⟩ : CertD) = ⟨h.d, vs⟩; rw [hyd]), ⟨hyF, hqF, hn4⟩, (fun b hb => hb.elim (fun h => by have := hyl b h; have := hB.size; omega) (fun h => by have := hql b h; have := hB.size; omega)), bG⟩
    unfold set5 at hZF fin
    clear hkp hS0 hd he kd ke hoE cO hyl hql k5 hyF hqF bG hrow3 hq3 hk3
    try go_wp2
    refine bodyPost_ret (v := CertM.v ⟨y, ao3, vs, cap3⟩) (results_certO rfl _ _ (w.heap.size + 1) ⟨y, ao3, vs, cap3⟩ rfl hZF) rfl ?_
    exact fin _ rfl
end Go.Proofs.YtmjkbdgcnoenbaaGreatDoor

/- The program's dag and the maker side by side, and each act on them. -/
namespace Go.Proofs.YtmjkbdgcnoenbaaGreatDoor
open Go Go.RowKit
set_option linter.unusedVariables false

/-- The program's dag and the maker, apart from each other and from all that was there at V. -/
structure D1 (V : World) (n tb rt db pb me : Nat) (SD SP : Nat → Prop) (d : DagD) (ids : List (List ByteArray)) (w : World) : Prop where
  bel : Below V.heap.size V w
  dag : PD w db SD tb n (ksF n) me d
  ply : Pl w pb SP rt ids
  dlt : ∀ k, SD k → V.heap.size ≤ k
  plt : ∀ k, SP k → V.heap.size ≤ k
  off : ∀ k, SD k → ¬ SP k
  i32 : ∀ l ∈ ids, ∀ p ∈ l, p.size ≤ 1000

/-- What was there. -/
structure DEnv (V : World) (n tb rt me : Nat) : Prop where
  T : TEnv V tb n (ksF n)
  R : TEnv V rt n (ksF n)
  hs : me < 3 * n + 1

/-- What an act has in memory: all of it was there at V. (Its wild header can be written.) -/
structure OpIn (V : World) (o : OpM) : Prop where
  wild : o.wild.At V
  votes : RowAt boolK V o.va o.votes
  vl : o.votes.length ≤ maxLen
  fit : o.wild.Fit
  len : (encH o.wild.d).length ≤ 1073741824
  lens : o.wild.Lens

theorem OpIn.below {V V' : World} {o : OpM} (h : OpIn V o) (hb : Below V.heap.size V V') : OpIn V' o := ⟨h.wild.below hb, h.votes.below hb, h.vl, h.fit, h.len, h.lens⟩

section
variable {V w w' : World} {n tb rt db pb me : Nat} {SD SP : Nat → Prop} {d : DagD} {ids : List (List ByteArray)}

theorem D1.below (h : D1 V n tb rt db pb me SD SP d ids w) (hb : Below w.heap.size w w') : D1 V n tb rt db pb me SD SP d ids w' :=
  ⟨h.bel.trans (hb.mono h.bel.size), h.dag.below hb, h.ply.below hb, h.dlt, h.plt, h.off, h.i32⟩

/-- Something is turned that is neither's. -/
theorem D1.kept {S : Nat → Prop} (h : D1 V n tb rt db pb me SD SP d ids w) (hk : Kept S w w') (hS : ∀ k, S k → V.heap.size ≤ k ∧ ¬ SD k ∧ ¬ SP k) : D1 V n tb rt db pb me SD SP d ids w' :=
  ⟨h.bel.trans (Kept.below hk h.bel.size (fun k e => (hS k e).1)), h.dag.kept hk (fun k e e' => (hS k e').2.1 e), h.ply.kept hk (fun k e e' => (hS k e').2.2 e), h.dlt, h.plt, h.off, h.i32⟩

theorem GotBoth.d1 {W : World} {gb : Nat} {S : Nat → Prop} (h : GotBoth W V n me tb rt db gb pb S w) : D1 V n tb rt db pb me S (fun k => k = pb) dag0 [] w :=
  ⟨h.bel, h.d, h.p, fun k hk => (h.dlt k hk).1, fun k hk => by have := h.glt; omega, fun k hk e => by have := (h.dlt k hk).2; have := h.glt; omega, fun l hl => by cases hl⟩

theorem GotBoth.env {W : World} {gb : Nat} {S : Nat → Prop} (h : GotBoth W V n me tb rt db gb pb S w) : DEnv V n tb rt me := ⟨h.T, h.R, h.hs⟩

/-- A header is made. -/
theorem D1.header (h : D1 V n tb rt db pb me SD SP d ids w) (hE : DEnv V n tb rt me) {o : OpM} (hO : OpIn V o) :
    Calls Tryz.prog 11 #[.pointer (some ⟨pb, 0, none⟩), o.v] w fun e w' => ∃ x : HdrM, e = .returned x.v ∧ x.d = hdrO (ksF n) n ids o ∧ x.At w' ∧ x.Fit ∧ (encH x.d).length ≤ 1073741824 ∧ x.Lens ∧ (∀ b, x.foot b → b < V.heap.size ∨ w.heap.size ≤ b) ∧ Below w.heap.size w w' := by
  obtain ⟨q, xs, hids, hS, hP⟩ := h.ply
  have hi32 : ∀ x ∈ xs, ∀ i ∈ x.l, i.size ≤ 1000 := fun x hx => h.i32 x.l (by rw [hids]; exact List.mem_map_of_mem hx)
  have hR := hE.R.below h.bel
  refine (playHdr_any pb q rt n (ksF n) xs o w hP hR.T hR.f2 hR.f1 hR.kl hR.k32 hi32 (hO.wild.below h.bel) hR.G).mono ?_
  rintro e w' ⟨x, rfl, hxd, hxA, hxo, hb⟩
  rw [← hids] at hxd
  have hsm : x.Fit ∧ (encH x.d).length ≤ 1073741824 ∧ x.Lens := by
    rcases hxo with ⟨h1, rfl⟩ | ⟨h1, _⟩
    · exact ⟨hO.fit, hO.len, hO.lens⟩
    · unfold hdrO at hxd
      rw [if_pos h1] at hxd
      have h2 := hdrP_small (ks := ksF n) (ids := ids) (by have := hR.kl; have := hR.f2; omega) (fun l hl => by
        rw [hids] at hl
        obtain ⟨y, hy, rfl⟩ := List.mem_map.1 hl
        exact hP.few' y hy) h.i32 hxd
      exact ⟨h2.1, by omega, ⟨by have := h2.1.n; omega, by have := h2.1.p; omega, fun r hr => by have := h2.1.acks r hr; omega⟩⟩
  refine ⟨x, rfl, hxd, hxA, hsm.1, hsm.2.1, hsm.2.2, fun b hf => ?_, hb⟩
  rcases hxo with ⟨_, rfl⟩ | ⟨_, hx⟩
  · exact Or.inl (Kind.lt hdrK hO.wild hf)
  · exact Or.inr (hx b hf)

/-- A certificate is made. -/
theorem D1.cert (h : D1 V n tb rt db pb me SD SP d ids w) (hE : DEnv V n tb rt me) {o : OpM} (hO : OpIn V o) :
    Calls Tryz.prog 18 #[.pointer (some ⟨pb, 0, none⟩), o.v] w fun e w' => ∃ x : CertM, e = .returned x.v ∧ x.d = certO (ksF n) n ids o ∧ x.At w' ∧ x.hdr.Fit ∧ (encH x.hdr.d).length ≤ 1073741824 ∧ x.hdr.Lens ∧ x.votes.length ≤ 7 ∧ (∀ b, x.foot b → b < V.heap.size ∨ w.heap.size ≤ b) ∧ Below w.heap.size w w' := by
  obtain ⟨q, xs, hids, hS, hP⟩ := h.ply
  have hi32 : ∀ x ∈ xs, ∀ i ∈ x.l, i.size ≤ 1000 := fun x hx => h.i32 x.l (by rw [hids]; exact List.mem_map_of_mem hx)
  have hR := hE.R.below h.bel
  refine (playCert_any pb q rt n (ksF n) xs o w hP hR.T hR.f2 hR.f1 hR.kl hR.k32 hi32 (hO.wild.below h.bel) (hO.votes.below h.bel) hO.vl (fun _ => ⟨hO.fit, hO.len⟩) hR.G).mono ?_
  rintro e w' ⟨x, rfl, hxd, hxA, hxo, hxv, hb⟩
  rw [← hids] at hxd
  have hxh : x.hdr.d = hdrO (ksF n) n ids o := congrArg CertD.header hxd
  have hxt : x.votes = _ := congrArg CertD.votes hxd
  have hsm : x.hdr.Fit ∧ (encH x.hdr.d).length ≤ 1073741824 ∧ x.hdr.Lens := by
    rcases hxo with ⟨h1, e⟩ | ⟨h1, _⟩
    · rw [e]; exact ⟨hO.fit, hO.len, hO.lens⟩
    · unfold hdrO at hxh
      rw [if_pos h1] at hxh
      have h2 := hdrP_small (ks := ksF n) (ids := ids) (by have := hR.kl; have := hR.f2; omega) (fun l hl => by
        rw [hids] at hl
        obtain ⟨y, hy, rfl⟩ := List.mem_map.1 hl
        exact hP.few' y hy) h.i32 hxh
      exact ⟨h2.1, by omega, ⟨by have := h2.1.n; omega, by have := h2.1.p; omega, fun r hr => by have := h2.1.acks r hr; omega⟩⟩
  refine ⟨x, rfl, hxd, hxA, hsm.1, hsm.2.1, hsm.2.2, ?_, fun b hf => ?_, hb⟩
  · rw [hxt]
    have h1 := tagsP_length (ksF n) voteW (idB (hdrO (ksF n) n ids o)) o.votes (3 * n + 1)
    have h2 : (certO (ksF n) n ids o).votes.length ≤ 3 * n + 1 := h1
    have := hR.f2
    omega
  · rcases hf with hf | hf
    · rcases hxo with ⟨_, e⟩ | ⟨_, hx⟩
      · rw [e] at hf; exact Or.inl (Kind.lt hdrK hO.wild hf)
      · exact Or.inr (hx b hf)
    · exact Or.inr (hxv b hf)

/-- What is neither's, seen from a later world. -/
theorem D1.old (h : D1 V n tb rt db pb me SD SP d ids w) {b : Nat} (hb : b < V.heap.size ∨ w.heap.size ≤ b) : ¬ SD b ∧ ¬ SP b := by
  rcases hb with hb | hb
  · exact ⟨fun e => by have := h.dlt b e; omega, fun e => by have := h.plt b e; omega⟩
  · exact ⟨fun e => by have := h.dag.lt e; omega, fun e => by have := (h.ply.lt e).2; omega⟩

/-- A vote. -/
theorem D1.vote (h : D1 V n tb rt db pb me SD SP d ids w) (hE : DEnv V n tb rt me) (x : HdrM) (hA : x.At w) (hfit : x.Fit) (hlen : (encH x.d).length ≤ 1073741824) (hx : ∀ b, x.foot b → ¬ SD b) (hv : d.V.length < 1000000) :
    Calls Tryz.prog 16 #[.pointer (some ⟨db, 0, none⟩), x.v] w fun e w' => e = .returned (.tuple #[.agg #[.int .i64 (voteT (ksF n) me (voteE (chkA (ksF n) n x.d) d x.d (idB x.d)) (idB x.d)).who, .string (voteT (ksF n) me (voteE (chkA (ksF n) n x.d) d x.d (idB x.d)) (idB x.d)).mac], .int .i64 (voteE (chkA (ksF n) n x.d) d x.d (idB x.d) : Int)]) ∧ ∃ SD', D1 V n tb rt db pb me SD' SP (voteD (chkA (ksF n) n x.d) d x.d (idB x.d)) ids w' ∧ FreshS w SD SD' ∧ Kept SD w w' := by
  refine (pdVote_any x h.dag (hE.T.below h.bel) hE.hs hA hfit hlen hx hv).mono ?_
  rintro e w' ⟨rfl, S', h1, h2, h3⟩
  refine ⟨rfl, S', ⟨h.bel.trans (Kept.below h3 h.bel.size h.dlt), h1, h.ply.kept h3 (fun k e e' => h.off k e' e), fun k hk => ?_, h.plt, fun k hk e => ?_, h.i32⟩, h2, h3⟩
  · rcases h2 k hk with e | e
    · exact h.dlt k e
    · exact Nat.le_trans h.bel.size e
  · rcases h2 k hk with e' | e'
    · exact h.off k e' e
    · have := (h.ply.lt e).2; omega

/-- A certificate is added. -/
theorem D1.add (h : D1 V n tb rt db pb me SD SP d ids w) (hE : DEnv V n tb rt me) (c : CertM) (hA : c.At w) (hfit : c.hdr.Fit) (hlen : (encH c.hdr.d).length ≤ 1073741824) (hv : c.votes.length ≤ 1000) (hx : ∀ b, c.foot b → V.heap.size ≤ b ∧ ¬ SD b ∧ ¬ SP b) :
    Calls Tryz.prog 19 #[.pointer (some ⟨db, 0, none⟩), c.v] w fun e w' => e = .returned (.int .i64 (addE (chkC (ksF n) n c.d) (3 * n + 1) d c.hdr.d (idB c.hdr.d) : Int)) ∧ ∃ SD', D1 V n tb rt db pb me SD' SP (addD (chkC (ksF n) n c.d) (3 * n + 1) d c.d (idB c.hdr.d)) ids w' ∧ (∀ k, SD' k → SD k ∨ c.foot k ∨ w.heap.size ≤ k) ∧ Kept SD w w' := by
  refine (pdAdd_any c h.dag (hE.T.below h.bel) hA hfit hlen hv (fun b hb => (hx b hb).2.1)).mono ?_
  rintro e w' ⟨rfl, S', h1, h2, h3⟩
  refine ⟨rfl, S', ⟨h.bel.trans (Kept.below h3 h.bel.size h.dlt), h1, h.ply.kept h3 (fun k e e' => h.off k e' e), fun k hk => ?_, h.plt, fun k hk e => ?_, h.i32⟩, h2, h3⟩
  · rcases h2 k hk with e | e | e
    · exact h.dlt k e
    · exact (hx k e).1
    · exact Nat.le_trans h.bel.size e
  · rcases h2 k hk with e' | e' | e'
    · exact h.off k e' e
    · exact (hx k e').2.2 e
    · have := (h.ply.lt e).2; omega

/-- The next header. -/
theorem D1.next (h : D1 V n tb rt db pb me SD SP d ids w) (hE : DEnv V n tb rt me) :
    Calls Tryz.prog 23 #[.pointer (some ⟨db, 0, none⟩), .slice none 0 0] w fun e w' => ∃ x : HdrM, e = .returned (.tuple #[x.v, .bool (nextOk (2 * n + 1) d)]) ∧ x.d = nextH (2 * n + 1) (me : Int) d [] ∧ x.At w' ∧ (∀ b, x.foot b → w.heap.size ≤ b) ∧ ∃ SD', D1 V n tb rt db pb me SD' SP (nextD (2 * n + 1) d) ids w' ∧ FreshS w SD SD' ∧ Kept SD w w' := by
  refine (pdNext_any h.dag (hE.T.below h.bel)).mono ?_
  rintro e w' ⟨x, rfl, hxd, hxA, hxf, S', h1, h2, h3⟩
  refine ⟨x, rfl, hxd, hxA, hxf, S', ⟨h.bel.trans (Kept.below h3 h.bel.size h.dlt), h1, h.ply.kept h3 (fun k e e' => h.off k e' e), fun k hk => ?_, h.plt, fun k hk e => ?_, h.i32⟩, h2, h3⟩
  · rcases h2 k hk with e | e
    · exact h.dlt k e
    · exact Nat.le_trans h.bel.size e
  · rcases h2 k hk with e' | e'
    · exact h.off k e' e
    · have := (h.ply.lt e).2; omega

/-- The low rises. -/
theorem D1.lows (h : D1 V n tb rt db pb me SD SP d ids w) (hE : DEnv V n tb rt me) (round : Int) :
    Calls Tryz.prog 26 #[.pointer (some ⟨db, 0, none⟩), .int .i64 round] w fun e w' => e = .returned (.int .i64 (lowN d round : Int)) ∧ ∃ SD', D1 V n tb rt db pb me SD' SP (lowD d round) ids w' ∧ FreshS w SD SD' ∧ Kept SD w w' := by
  refine (pdLow_any round h.dag hE.T.f2).mono ?_
  rintro e w' ⟨rfl, S', h1, h2, h3⟩
  refine ⟨rfl, S', ⟨h.bel.trans (Kept.below h3 h.bel.size h.dlt), h1, h.ply.kept h3 (fun k e e' => h.off k e' e), fun k hk => ?_, h.plt, fun k hk e => ?_, h.i32⟩, h2, h3⟩
  · rcases h2 k hk with e | e
    · exact h.dlt k e
    · exact Nat.le_trans h.bel.size e
  · rcases h2 k hk with e' | e'
    · exact h.off k e' e
    · have := (h.ply.lt e).2; omega

theorem inI_mem {need r : Nat} {ids : List (List ByteArray)} {id : ByteArray} {l : List ByteArray} (h : l ∈ inI need ids r id) : ∀ p ∈ l, p = id ∨ ∃ m ∈ ids, p ∈ m := by
  intro p hp
  have hP : ∀ m ∈ inP need ids r, ∀ q ∈ m, ∃ k ∈ ids, q ∈ k := fun m hm q hq => by
    unfold inP at hm
    split at hm
    · rcases List.mem_append.1 hm with hm | hm
      · exact ⟨m, hm, hq⟩
      · rw [List.mem_singleton.1 hm] at hq; cases hq
    · exact ⟨m, hm, hq⟩
  unfold inI at h
  split at h
  · exact Or.inr (hP l h p hp)
  · rcases List.mem_or_eq_of_mem_set h with h | rfl
    · exact Or.inr (hP l h p hp)
    · have hg : ∀ q ∈ (inP need ids r).getD (r - 1) [], ∃ k ∈ ids, q ∈ k := fun q hq => by
        rw [List.getD_eq_getElem?_getD] at hq
        cases hx : (inP need ids r)[r - 1]? with
        | none => rw [hx] at hq; cases hq
        | some m => rw [hx] at hq; exact hP m (List.mem_of_getElem? hx) q hq
      unfold insT at hp
      rcases List.mem_append.1 hp with hp | hp
      · exact Or.inr (hg p (List.mem_of_mem_take hp))
      · rcases List.mem_cons.1 hp with rfl | hp
        · exact Or.inl rfl
        · exact Or.inr (hg p (List.mem_of_mem_drop hp))

/-- A certificate is in. -/
theorem D1.ins (h : D1 V n tb rt db pb me SD SP d ids w) (hE : DEnv V n tb rt me) (c : CertM) (hA : c.At w) (hr1 : 1 ≤ c.hdr.round) (hr2 : c.hdr.round ≤ 4611686018427387903) (hfit : c.hdr.Fit) (hlen : (encH c.hdr.d).length ≤ 1073741824) (hl1 : ids.length < 1000) (hl2 : ∀ l ∈ ids, l.length < 1000) (hx : ∀ b, c.hdr.foot b → ¬ SP b) :
    Calls Tryz.prog 22 #[.pointer (some ⟨pb, 0, none⟩), c.v] w fun e w' => e = .returned (.tuple #[]) ∧ ∃ SP', D1 V n tb rt db pb me SD SP' d (inI (2 * n + 1) ids c.hdr.round.toNat (idB c.hdr.d)) w' ∧ FreshS w SP SP' ∧ Kept SP w w' := by
  have hR := hE.R.below h.bel
  refine (playIn_any pb SP rt n (ksF n) ids c w h.ply hR.T hR.f2 hA hr1 hr2 hfit hlen hl1 hl2 hx).mono ?_
  rintro e w' ⟨rfl, S', h1, h2, h3⟩
  refine ⟨rfl, S', ⟨h.bel.trans (Kept.below h3 h.bel.size h.plt), h.dag.kept h3 h.off, h1, h.dlt, fun k hk => ?_, fun k hk e => ?_, fun l hl p hp => ?_⟩, h2, h3⟩
  · rcases h2 k hk with e | e
    · exact h.plt k e
    · exact Nat.le_trans h.bel.size e
  · rcases h2 k e with e' | e'
    · exact h.off k hk e'
    · have := h.dag.lt hk; omega
  · rcases inI_mem hl p hp with rfl | ⟨m, hm, hpm⟩
    · rw [idB_size]; decide
    · exact h.i32 m hm p hpm
end
end Go.Proofs.YtmjkbdgcnoenbaaGreatDoor

/- Rows of acts. -/
namespace Go.Proofs.YtmjkbdgcnoenbaaGreatDoor
open Go Go.RowKit
set_option linter.unusedVariables false

def opK : Kind OpM where
  n := 10
  c := OpM.c
  foot o b := o.wild.foot b ∨ rowFoot boolK o.va o.votes b
  At w o := o.wild.At w ∧ RowAt boolK w o.va o.votes
  pos := by decide
  len _ := rfl
  one x u hu := by
    simp only [OpM.c, List.mem_cons, List.not_mem_nil, or_false] at hu
    rcases hu with rfl | rfl | rfl | rfl | rfl | rfl | rfl | rfl | rfl | rfl <;> rfl
  lt h hf := hf.elim (fun q => Kind.lt hdrK h.1 q) h.2.lt
  keep h hk := ⟨Kind.keep hdrK h.1 (fun b hb => hk b (Or.inl hb)), h.2.keep (fun b hb => hk b (Or.inr hb))⟩

/-- The ten cells of an act in a row. -/
theorem RowAt.op {w : World} {ao : Option Addr} {l : List OpM} (h : RowAt opK w ao l) {i : Nat} {o : OpM} (ho : l[i]? = some o) :
    ∃ b off, ao = some ⟨b, off, none⟩ ∧ b < w.heap.size ∧ w.cell? ⟨b, off + i * 10, none⟩ = some (.int .i64 o.kind) ∧ w.cell? ⟨b, off + i * 10 + 1, none⟩ = some (.int .i64 o.author) ∧ w.cell? ⟨b, off + i * 10 + 2, none⟩ = some (.int .i64 o.back) ∧ w.cell? ⟨b, off + i * 10 + 3, none⟩ = some (.int .i64 o.odd) ∧ w.cell? ⟨b, off + i * 10 + 4, none⟩ = some (.slice o.va o.votes.length o.vc) ∧ w.cell? ⟨b, off + i * 10 + 5, none⟩ = some (.int .i64 o.round)
      ∧ w.cell? ⟨b, off + i * 10 + 6, none⟩ = some (.int .i64 o.wild.author) ∧ w.cell? ⟨b, off + i * 10 + 7, none⟩ = some (.int .i64 o.wild.round) ∧ w.cell? ⟨b, off + i * 10 + 8, none⟩ = some (.slice o.wild.ra o.wild.refs.length o.wild.rc) ∧ w.cell? ⟨b, off + i * 10 + 9, none⟩ = some (.slice o.wild.pa o.wild.parents.length o.wild.pc) := by
  obtain ⟨b, off, h1, h2, h3⟩ := h.cell i o ho
  exact ⟨b, off, h1, h2, h3 0 _ rfl, h3 1 _ rfl, h3 2 _ rfl, h3 3 _ rfl, h3 4 _ rfl, h3 5 _ rfl, h3 6 _ rfl, h3 7 _ rfl, h3 8 _ rfl, h3 9 _ rfl⟩
end Go.Proofs.YtmjkbdgcnoenbaaGreatDoor

/- The ids of the first round's headers differ. -/
namespace Go.Proofs.YtmjkbdgcnoenbaaGreatDoor
open Go Go.RowKit
set_option linter.unusedVariables false

/-- The header of an author in the round 1, with nothing in it. -/
def hdr1 (a : Nat) : HdrD := ⟨(a : Int), 1, [], []⟩

def ids1 : List ByteArray := (List.range 7).map (fun a => idB (hdr1 a))

set_option maxRecDepth 100000 in
theorem ids1_nodup : (ids1.map (fun x => x.data.toList)).Nodup := by decide +kernel
end Go.Proofs.YtmjkbdgcnoenbaaGreatDoor

/- Certificates that acts make are right; the first round, certificate by certificate. -/
namespace Go.Proofs.YtmjkbdgcnoenbaaGreatDoor
open Go Go.RowKit
set_option linter.unusedVariables false

theorem pairT_tagsP (ks : List ByteArray) (kind word : ByteArray) (who : List Bool) (n : Nat) : pairT (tagsP ks kind word who n) = ((List.range n).filter (votes who)).map (Mx.tagOf ks kind word) := by
  unfold pairT tagsP
  rw [List.map_map]
  rfl

theorem enough_tagsP {ks : List ByteArray} {f : Nat} (hk : ks.length = 3 * f + 1) (kind word : ByteArray) (who : List Bool) : Mx.enoughL ks f kind word (pairT (tagsP ks kind word who (3 * f + 1))) = if ((List.range (3 * f + 1)).filter (votes who)).length < 2 * f + 1 then 12 else 0 := by
  rw [pairT_tagsP]
  refine Mx.enough_rising f _ (fun i hi => ?_) (List.Pairwise.filter _ List.pairwise_lt_range)
  have := List.mem_range.1 (List.mem_filter.1 hi).1
  omega

theorem votes_nil (i : Nat) : votes [] i = true := by unfold votes; simp

theorem enough_all {ks : List ByteArray} {f : Nat} (hk : ks.length = 3 * f + 1) (kind word : ByteArray) : Mx.enoughL ks f kind word (pairT (tagsP ks kind word [] (3 * f + 1))) = 0 := by
  rw [enough_tagsP hk, List.filter_eq_self.2 (fun i _ => votes_nil i), List.length_range, if_neg (by omega)]

/-- A certificate of the first round. -/
def certA (ks : List ByteArray) (n a : Nat) : CertD := ⟨hdr1 a, tagsP ks voteW (idB (hdr1 a)) [] (3 * n + 1)⟩

def rowA (ks : List ByteArray) (n a : Nat) : RowC := ⟨idB (hdr1 a), certA ks n a⟩

theorem chk_hdr1 {n a : Nat} (need : Nat) (en : List TagD → ByteArray → Nat) (ha : a < n) : chkH n need en (hdr1 a) = 0 := by
  unfold chkH hdr1
  simp only [List.length_nil]
  rw [if_neg (by omega), if_neg (by omega)]
  simp [refP, risP, countE]

theorem chk_certA {ks : List ByteArray} {n a : Nat} (hk : ks.length = 3 * n + 1) (ha : a < 3 * n + 1) : chkC ks n (certA ks n a) = 0 := by
  unfold chkC
  have h1 : chkH (3 * n + 1) (2 * n + 1) (enT ks n) (certA ks n a).header = 0 := chk_hdr1 _ _ ha
  rw [h1, if_neg (by simp)]
  exact enough_all hk voteW (idB (hdr1 a))

theorem ids1_inj {a b : Nat} (ha : a < 7) (hb : b < 7) (h : idB (hdr1 a) = idB (hdr1 b)) : a = b := by
  have hn := ids1_nodup
  have e : ∀ i, i < 7 → (ids1.map (fun x => x.data.toList))[i]? = some (idB (hdr1 i)).data.toList := fun i hi => by
    unfold ids1
    rw [List.map_map, List.getElem?_map, List.getElem?_range hi]
    rfl
  have hl : (ids1.map (fun x => x.data.toList)).length = 7 := by unfold ids1; simp
  have h1 := e a ha
  have h2 := e b hb
  rw [h] at h1
  obtain ⟨p1, q1⟩ := List.getElem?_eq_some_iff.1 h1
  obtain ⟨p2, q2⟩ := List.getElem?_eq_some_iff.1 h2
  have hp := List.pairwise_iff_getElem.1 hn
  rcases Nat.lt_trichotomy a b with h | h | h
  · exact (hp a b p1 p2 h (q1.trans q2.symm)).elim
  · exact h
  · exact (hp b a p2 p1 h (q2.trans q1.symm)).elim

/-- What is known is certificates of the first round alone, each author's at most once. -/
structure First (ks : List ByteArray) (n : Nat) (qs : List Nat) (d : DagD) : Prop where
  mem : ∀ x, x ∈ d.L ↔ ∃ a ∈ qs, x = rowA ks n a
  len : d.L.length = qs.length
  low : d.low = 1
  nod : qs.Nodup
  lt : ∀ a ∈ qs, a < 3 * n + 1

theorem parE_first {d : DagD} {h : HdrD} (hl : d.low = 1) (hr : h.round = 1) : parE d h = 0 := by
  have hm : missD d h = [] := by unfold missD; rw [if_pos (by omega)]
  unfold parE
  rw [hm, if_neg (by simp), if_neg (by omega)]

theorem First.addE {ks : List ByteArray} {n : Nat} {qs : List Nat} {d : DagD} (h : First ks n qs d) (hn : n ≤ 2) (hk : ks.length = 3 * n + 1) {a : Nat} (ha : a < 3 * n + 1) (hna : a ∉ qs) (hq : qs.length < 32) : Proofs.YtmjkbdgcnoenbaaGreatDoor.addE (chkC ks n (certA ks n a)) (3 * n + 1) d (hdr1 a) (idB (hdr1 a)) = 0 := by
  have h3 : getC d.L (idB (hdr1 a)) = none := getC_none.2 (fun x hx e => by
    obtain ⟨b, hb, rfl⟩ := (h.mem x).1 hx
    have := h.lt b hb
    exact hna (by rw [← ids1_inj (by omega) (by omega) e]; exact hb))
  have h5 : sameP d.L (hdr1 a) = false := sameP_false.2 (fun x hx e => by
    obtain ⟨b, hb, rfl⟩ := (h.mem x).1 hx
    have e1 : (b : Int) = (a : Int) := e.1
    have : b = a := by omega
    exact hna (by rw [← this]; exact hb))
  unfold Proofs.YtmjkbdgcnoenbaaGreatDoor.addE
  rw [chk_certA hk ha, if_neg (by simp), if_neg (by rw [h.low]; show ¬ (1 : Int) < 1; omega), h3, if_neg (by simp), parE_first h.low rfl, if_neg (by simp), h5, if_neg (by simp), if_neg (by rw [h.len]; omega)]

theorem First.add {ks : List ByteArray} {n : Nat} {qs : List Nat} {d : DagD} (h : First ks n qs d) (hn : n ≤ 2) (hk : ks.length = 3 * n + 1) {a : Nat} (ha : a < 3 * n + 1) (hna : a ∉ qs) (hq : qs.length < 32) : First ks n (a :: qs) (addD (chkC ks n (certA ks n a)) (3 * n + 1) d (certA ks n a) (idB (hdr1 a))) := by
  have e : Proofs.YtmjkbdgcnoenbaaGreatDoor.addE (chkC ks n (certA ks n a)) (3 * n + 1) d (certA ks n a).header (idB (hdr1 a)) = 0 := h.addE hn hk ha hna hq
  unfold addD
  rw [if_pos e]
  refine ⟨fun x => ?_, ?_, h.low, List.nodup_cons.2 ⟨hna, h.nod⟩, fun b hb => ?_⟩
  · show x ∈ insC d.L _ ↔ _
    rw [insC_mem, h.mem]
    constructor
    · rintro (rfl | ⟨b, hb, rfl⟩)
      · exact ⟨a, List.mem_cons_self, rfl⟩
      · exact ⟨b, List.mem_cons_of_mem _ hb, rfl⟩
    · rintro ⟨b, hb, rfl⟩
      rcases List.mem_cons.1 hb with rfl | hb
      · exact Or.inl rfl
      · exact Or.inr ⟨b, hb, rfl⟩
  · show (insC d.L _).length = _
    rw [insC_length, h.len, List.length_cons]
  · rcases List.mem_cons.1 hb with rfl | hb
    · exact ha
    · exact h.lt b hb

theorem First.ids {ks : List ByteArray} {n : Nat} {qs : List Nat} {d : DagD} (h : First ks n qs d) : (idsC d.L 1).length = qs.length := by
  unfold idsC
  rw [List.length_map, List.filter_eq_self.2 (fun x hx => ?_), h.len]
  obtain ⟨b, hb, rfl⟩ := (h.mem x).1 hx
  rfl

theorem topStep_first {need : Nat} {L : List RowC} (hneed : need ≤ (idsC L 1).length) : ∀ (M : List RowC), (∀ x ∈ M, x.c.header.round = 1) → M.foldl (topStep need L) 1 = 1
  | [], _ => rfl
  | x :: M, h => by
    rw [List.foldl_cons]
    have hx := h x List.mem_cons_self
    have : topStep need L 1 x = 1 := by unfold topStep; rw [hx, if_neg (by omega)]
    rw [this]
    exact topStep_first hneed M (fun y hy => h y (List.mem_cons_of_mem _ hy))

theorem First.round {ks : List ByteArray} {n need : Nat} {qs : List Nat} {d : DagD} (h : First ks n qs d) (h1 : 0 < qs.length) (h2 : need ≤ qs.length) : roundC need d.L = 1 := by
  have hr : ∀ x ∈ d.L, x.c.header.round = 1 := fun x hx => by
    obtain ⟨b, hb, rfl⟩ := (h.mem x).1 hx
    rfl
  have hid := h.ids
  unfold roundC
  have hlen := h.len
  generalize hL : d.L = L at *
  cases L with
  | nil => simp at hlen; omega
  | cons x M =>
    rw [List.foldl_cons]
    have hx := hr x List.mem_cons_self
    have : topStep need (x :: M) 0 x = 1 := by unfold topStep; rw [hx, if_pos ⟨by omega, by rw [hid]; exact h2⟩]
    rw [this]
    exact topStep_first (by rw [hid]; exact h2) M (fun y hy => hr y (List.mem_cons_of_mem _ hy))
end Go.Proofs.YtmjkbdgcnoenbaaGreatDoor

/- tusklaw14.works answers true; nothing old in memory is turned. -/
namespace Go.Proofs.YtmjkbdgcnoenbaaGreatDoor
open Go Go.RowKit
set_option linter.unusedVariables false

/-- An act of an author that is written out. -/
def opA (a b : Int) : OpM := ⟨0, a, b, 0, none, [], 0, 0, ⟨0, 0, none, [], 0, none, [], 0⟩⟩

theorem opA_in (V : World) (a b : Int) : OpIn V (opA a b) :=
  ⟨⟨nil_row _ _, fun _ => rfl, nil_row _ _, fun _ => rfl⟩, nil_row _ _, Nat.zero_le _, bare_fit 0 0 none 0 [] (fun p hp => by cases hp) (by decide), by show (encH ⟨0, 0, [], []⟩).length ≤ _; decide +kernel, ⟨by show 0 * 40 ≤ _; decide, by show 0 * 16 ≤ _; decide, fun r hr => by cases hr⟩⟩

theorem pickN_small {a k : Nat} (h : a < k) (hk : k ≤ 1000) : pickN (a : Int) k = a := by
  unfold pickN
  have e : IntKind.u64.wrap (a : Int) = (a : Int) := by rw [Mx.wrap_u64]; omega
  rw [e, Int.tmod_eq_emod_of_nonneg (by omega), Int.emod_eq_of_lt (by omega) (by omega)]
  omega

/-- The header of such an act, where nothing is in yet. -/
theorem hdrO_first (ks : List ByteArray) (n a : Nat) (b : Int) (ha : a < 3 * n + 1) (hn : n ≤ 2) : hdrO ks n [] (opA (a : Int) b) = hdr1 a := by
  unfold hdrO opA
  simp only [if_true]
  unfold hdrA hdrP
  have e : pickN 0 3 = 0 := by decide
  rw [if_neg (by rw [e]; decide), pickN_small ha (by omega)]
  unfold hdrP0 parP hdr1
  simp

theorem certO_first (ks : List ByteArray) (n a : Nat) (b : Int) (ha : a < 3 * n + 1) (hn : n ≤ 2) : certO ks n [] (opA (a : Int) b) = certA ks n a := by
  unfold certO certA
  rw [hdrO_first ks n a b ha hn]
  rfl

theorem addD_own (chk n : Nat) (d : DagD) (c : CertD) (id : ByteArray) : (addD chk n d c id).own = d.own := by
  unfold addD
  split <;> rfl

theorem fit_same14 {x y : HdrM} (h : y.d = x.d) (hf : x.Fit) : y.Fit := by
  have hr : rd y.refs = rd x.refs := congrArg HdrD.refs h
  have hp : y.parents = x.parents := congrArg HdrD.parents h
  have hl : y.refs.length = x.refs.length := by have := congrArg List.length hr; simpa [rd] using this
  have hm : ∀ r ∈ y.refs, ∃ q ∈ x.refs, q.acks = r.acks := by
    intro r hm
    have h1 : r.d ∈ rd x.refs := by rw [← hr]; exact List.mem_map.2 ⟨r, hm, rfl⟩
    obtain ⟨q, hq, hqr⟩ := List.mem_map.1 h1
    exact ⟨q, hq, congrArg RefD.acks hqr⟩
  refine ⟨by rw [hl]; exact hf.n, by rw [hp]; exact hf.p, fun r hr' => ?_, fun r hr' => ?_, by rw [h]; exact hf.len⟩
  · obtain ⟨q, hq, e⟩ := hm r hr'
    rw [← e]
    exact hf.acks q hq
  · obtain ⟨q, hq, e⟩ := hm r hr'
    rw [← e]
    exact hf.mac q hq

theorem nF_zero : nF 0 = 1 := by decide +kernel

set_option maxRecDepth 100000 in
set_option maxHeartbeats 4000000 in
theorem works14_any (w : World) (hG : Mx.Glob w) : Calls Tryz.prog 36 #[] w fun e w' => e = .returned (.bool true) ∧ Below w.heap.size w w' := by
  have cB := both14_any 0 0 w hG
  rw [nF_zero] at cB
  go_enter Tryz.func36, Tryz.ntmps36
  go_wp2_with fail
  refine cB.mono ?_
  rintro e w1 ⟨V, tb, rt, db, gb, pb, S, rfl, hB⟩
  have hE := hB.env
  have h1 := hB.d1
  have hbw := hB.bw
  generalize pickN 0 (3 * 1 + 1) = me at *
  have hkl : Hid ((ksF 1).length = 3 * 1 + 1) := hE.T.kl
  clear cB hB
  have cN := h1.next hE
  go_wp2_with fail
  refine cN.mono ?_
  rintro e w2 ⟨x, rfl, hxd, hxA, hxf, SD2, h2, hf2, hk2⟩
  have hok : nextOk (2 * 1 + 1) dag0 = true := by decide
  have hxr : x.round = 1 := by
    have : x.d.round = _ := congrArg HdrD.round hxd
    rw [show x.round = x.d.round from rfl, this]
    unfold nextH
    rw [if_pos hok]
    rfl
  have hd2 : nextD (2 * 1 + 1) dag0 = ⟨[], [], 1, 1⟩ := by unfold nextD; rw [if_pos hok]; rfl
  rw [hok]
  rw [hd2] at h2
  have hF0 : First (ksF 1) 1 [] (⟨[], [], 1, 1⟩ : DagD) := ⟨fun y => by simp, rfl, rfl, List.nodup_nil, fun a ha => by cases ha⟩
  obtain ⟨xa, xr, xra, xrs, xrc, xpa, xps, xpc⟩ := x
  have hxr : xr = 1 := hxr
  subst hxr
  clear hxd hxA hxf hok hd2 hf2 hk2 h1 cN
  unfold HdrM.v
  simp only
  have hbn := belowNew w2 (.cells #[.int .i64 xa, .int .i64 1, .slice xra xrs.length xrc, .slice xpa xps.length xpc] 33)
  have hH2 := Arr.new w2 33 [.int .i64 xa, .int .i64 1, .slice xra xrs.length xrc, .slice xpa xps.length xpc]
  have h3 := h2.below hbn
  have hn1 : ¬ SD2 w2.heap.size ∧ ¬ (w2.heap.size = pb) := ⟨fun e => by have := h2.dag.lt e; omega, fun e => by have := (h2.ply.lt (k := pb) rfl).2; omega⟩
  have hVl : V.heap.size ≤ w2.heap.size := h2.bel.size
  obtain ⟨hb, hhb⟩ : ∃ z, Hid (w2.heap.size = z) := ⟨_, rfl⟩
  have x1 := hH2.cell (i := 1) rfl
  clear h2 hbn
  go_wp2_with fail
  rw [hhb.out] at hH2 hn1 hVl x1 ⊢
  generalize w2.alloc _ = w3 at *
  clear x1
  go_loopw [8, 9] (fun v8 _ wr => ∃ (i : Nat) (d : DagD) (qs : List Nat) (SD : Nat → Prop), i ≤ 3 ∧ v8 = .int .i64 (i : Int) ∧ D1 V 1 tb rt db pb me SD (fun k => k = pb) d [] wr ∧ First (ksF 1) 1 qs d ∧ Hid (qs.length = i) ∧ (∀ a ∈ qs, a < i) ∧ Hid (d.own = 1) ∧ Arr wr hb 33 [.int .i64 xa, .int .i64 1, .slice xra xrs.length xrc, .slice xpa xps.length xpc] ∧ ¬ SD hb) (fun v _ _ => 3 - (intOf v).toNat)
  case atStart => exact ⟨0, _, [], SD2, by omega, rfl, h3, hF0, (rfl : _ = _), (fun a ha => by cases ha), (rfl : _ = _), hH2, hn1.1⟩
  case round =>
    obtain ⟨i, d, qs, SD, hi, rfl, hD, hF, hql, hqa, hown, hH, hnS⟩ := hrel
    clear h3 hH2 hF0
    by_cases hi3 : i < 3
    · have g1 : (i : Int) < 3 := by omega
      have cC := hD.cert hE (opA_in V (i : Int) 3)
      rw [certO_first (ksF 1) 1 i 3 (by omega) (by decide)] at cC
      unfold opA OpM.v at cC
      simp only [List.length_nil] at cC
      go_wp2_with fail
      refine cC.mono ?_
      rintro e w4 ⟨c, rfl, hcd, hcA, hcf, hcl, hcL, hcv, hcfo, hb4⟩
      have hD4 := hD.below hb4
      have hH4 := hH.below hb4 hH.lt
      have hlt4 : hb < w4.heap.size := hH4.lt
      have hbn := belowNew w4 (.cells c.c.toArray 48)
      have hc4 := Arr.new w4 48 c.c
      have hD5 := hD4.below hbn
      have hH5 := hH4.below hbn hH4.lt
      have hcA5 := hcA.below hbn
      have cO := own14_any c _ hcA5 hcL (by omega)
      have hne : i ∉ qs := fun e => by have := hqa i e; omega
      have hch : Hid (c.hdr.d = hdr1 i) := congrArg CertD.header hcd
      have hcd' : Hid _ := hcd
      clear hcd
      have e0 := hF.addE (by decide) hkl.out (a := i) (by omega) hne (by have := hql.out; omega)
      have hF' := hF.add (by decide) hkl.out (a := i) (by omega) hne (by have := hql.out; omega)
      unfold CertM.v at cO ⊢
      unfold CertM.c at hc4 hD5 hH5 hcA5 cO
      have k0 := hc4.cell (i := 0) rfl
      have k1 := hc4.cell (i := 1) rfl
      have k2 := hc4.cell (i := 2) rfl
      have k3 := hc4.cell (i := 3) rfl
      have k4 := hc4.cell (i := 4) rfl
      clear hD hH hb4 cC hD4 hH4 hcA hbn hcA5
      go_wp2_with fail
      refine cO.mono ?_
      rintro e w6 ⟨y, rfl, hyd, hyA, hyf, hb6⟩
      have hyh : y.hdr.d = hdr1 i := by rw [← hch.out]; exact congrArg CertD.header hyd
      have hyd' : y.d = certA (ksF 1) 1 i := hyd.trans hcd'.out
      have hyv : y.votes = c.votes := congrArg CertD.votes hyd
      have hD6 := hD5.below hb6
      have hH6 := hH5.below hb6 hH5.lt
      have hsz5 : V.heap.size ≤ _ := hD5.bel.size
      have cA := hD6.add hE y hyA (fit_same14 (hyh.trans hch.out.symm) hcf) (by rw [hyh, ← hch.out]; exact hcl) (by rw [hyv]; omega) (fun b hf => by
        have h1 := hyf b hf
        exact ⟨Nat.le_trans hsz5 h1, fun e => by have := hD5.dag.lt e; omega, fun e => by have := (hD5.ply.lt e).2; omega⟩)
      rw [hyd', hyh, e0] at cA
      have hnf : ¬ y.foot hb := fun e => by have := hyf hb e; have := hH5.lt; omega
      clear cO k0 k1 k2 k3 k4 hc4 hD5 hH5 hb6 hyh hyd' hyv hyd
      unfold CertM.v at cA ⊢
      go_wp2_with fail
      refine cA.mono ?_
      rintro e w7 ⟨rfl, SD', hD7, hf7, hk7⟩
      have hH7 := hH6.kept hk7 hnS
      have hnS' : ¬ SD' hb := fun e => by
        rcases hf7 hb e with e | e | e
        · exact hnS e
        · exact hnf e
        · have := hH6.lt; omega
      have hown' : Hid ((addD (chkC (ksF 1) 1 (certA (ksF 1) 1 i)) (3 * 1 + 1) d (certA (ksF 1) 1 i) (idB (hdr1 i))).own = 1) := by
        show _ = _
        rw [addD_own]
        exact hown.out
      generalize addD (chkC (ksF 1) 1 (certA (ksF 1) 1 i)) (3 * 1 + 1) d (certA (ksF 1) 1 i) (idB (hdr1 i)) = d' at *
      clear cA hf7 hk7 hnf hD6 hH6
      go_wp2
      go_roundw
      case rel => exact ⟨i + 1, d', i :: qs, SD', by omega, by go_num, hD7, hF', by show _ = _; rw [List.length_cons, hql.out], (fun a ha => by rcases List.mem_cons.1 ha with rfl | ha; omega; have := hqa a ha; omega), hown', hH7, hnS'⟩
      case measure => simp [intOf]; omega
    · obtain rfl : i = 3 := by omega
      have g1 : ¬ ((3 : Int) < 3) := by omega
      have hrd : Hid (roundC (2 * 1 + 1) d.L = 1) := hF.round (by have := hql.out; omega) (by have := hql.out; omega)
      have hil : Hid ((idsC d.L 1).length = 3) := hF.ids.trans hql.out
      have hok : nextOk (2 * 1 + 1) d = true := by
        unfold nextOk
        rw [hrd.out, hown.out, hF.low]
        decide
      have cN := hD.next hE
      rw [hok] at cN
      go_wp2_with fail
      refine cN.mono ?_
      rintro e w4 ⟨x, rfl, hxd, hxA, hxf, SD', h4, hf4, hk4⟩
      have hH4 := hH.kept hk4 hnS
      have hx2 : x.round = 2 := by
        have : x.d.round = _ := congrArg HdrD.round hxd
        rw [show x.round = x.d.round from rfl, this]
        unfold nextH
        rw [if_pos hok, hrd.out]
        rfl
      have hx3 : x.parents.length = 3 := by
        have : x.d.parents = _ := congrArg HdrD.parents hxd
        rw [show x.parents = x.d.parents from rfl, this]
        unfold nextH
        rw [if_pos hok, hrd.out]
        exact hil.out
      have hL4 : Hid (roundC (2 * 1 + 1) (nextD (2 * 1 + 1) d).L = 1) := by
        show _ = _
        unfold nextD
        rw [if_pos hok]
        exact hrd.out
      obtain ⟨ya, yr, yra, yrs, yrc, ypa, yps, ypc⟩ := x
      have hx2 : yr = 2 := hx2
      subst hx2
      replace hx3 : Hid (yps.length = 3) := hx3
      have hnS' : ¬ SD' hb := fun e => by
        rcases hf4 hb e with e | e
        · exact hnS e
        · have := hH.lt; omega
      clear hxd hxA hxf hf4 hk4 cN hok hD hH
      unfold HdrM.v
      simp only
      have z0 := hH4.cell (i := 0) rfl
      have z1 := hH4.cell (i := 1) rfl
      have z2 := hH4.cell (i := 2) rfl
      have z3 := hH4.cell (i := 3) rfl
      have y0 := hH4.frozen 0
      have y1 := hH4.frozen 1
      have y2 := hH4.frozen 2
      have y3 := hH4.frozen 3
      have kF := kept_set4 w4 hb (.int .i64 ya) (.int .i64 2) (.slice yra yrs.length yrc) (.slice ypa yps.length ypc)
      have hZF := hH4.set4 (.int .i64 ya) (.int .i64 2) (.slice yra yrs.length yrc) (.slice ypa yps.length ypc)
      have h5 := h4.kept kF (fun k e => by have e' : k = hb := e; rw [e']; exact ⟨hVl, hnS', hn1.2⟩)
      unfold set4 at hZF h5
      clear kF h4 hH4
      go_upto_region 14 with fail
      generalize World.setCell _ _ _ = w5 at hZF h5 ⊢
      have q1 := hZF.cell (i := 1) rfl
      have q3 := hZF.cell (i := 3) rfl
      rw [hx3.out] at q3
      have cR := pdRound_any h5.dag (hE.T.below h5.bel)
      rw [hL4.out] at cR
      go_wp2_with fail
      refine cR.mono ?_
      rintro e w6 ⟨rfl, hb6⟩
      have hbF : Below w.heap.size w w6 := hbw.trans (((h5.below hb6).bel).mono hbw.size)
      clear cR
      go_wp2
      go_ret
      exact ⟨rfl, hbF⟩
end Go.Proofs.YtmjkbdgcnoenbaaGreatDoor

/- The places that DagOnce votes by, as keys of a map. -/
namespace Go.Proofs.YtmjkbdgcnoenbaaGreatDoor
open Go Go.RowKit
set_option linter.unusedVariables false

theorem placeKey : PKey 68 :=
  PKey.of (t1 := 3) (t2 := 3) laidOut_true (of_decide_eq_true (by kernel_rfl)) Tryz.underlying68 (by kernel_rfl) (by kernel_rfl) rfl rfl (by decide) (by decide) (by kernel_rfl) rfl rfl (by kernel_rfl) (by kernel_rfl) Tryz.underlying3 Tryz.underlying3 (of_decide_eq_true (by kernel_rfl))
end Go.Proofs.YtmjkbdgcnoenbaaGreatDoor

/- What tusklaw06.Great, PlainTags and Plain do; nothing in memory is turned. -/
namespace Go.Proofs.YtmjkbdgcnoenbaaGreatDoor
open Go.RowKit
set_option linter.unusedVariables false

/-- A bool is handed back that says whether P. -/
def GotBool (P : Prop) (e : Ending) : Prop := ∃ p : Bool, e = .returned (.bool p) ∧ (p = true ↔ P)

set_option maxRecDepth 100000 in
set_option maxHeartbeats 1000000 in
theorem great_any (x : HdrM) (w : World) (hA : x.At w) (hn : x.refs.length ≤ maxLen) (hp : x.parents.length ≤ maxLen) :
    Calls Tryz.prog 10 #[x.v] w fun e w' => (∃ g, e = .returned (.bool g)) ∧ Below w.heap.size w w' := by
  obtain ⟨au, ro, ra, rs, rc, pa, ps, pc⟩ := x
  have hA1 : RowAt refK w ra rs := hA.refs
  have hA2 : RowAt strK w pa ps := hA.ps
  have hn' : rs.length ≤ maxLen := hn
  have hp' : ps.length ≤ maxLen := hp
  have hX := Arr.new w 33 [.int .i64 au, .int .i64 ro, .slice ra rs.length rc, .slice pa ps.length pc]
  have hB := belowNew w (.cells #[.int .i64 au, .int .i64 ro, .slice ra rs.length rc, .slice pa ps.length pc] 33)
  clear hA hn hp
  unfold maxLen at hn' hp'
  unfold HdrM.v
  simp only
  have x3 := hX.cell (i := 3) rfl
  go_enter Tryz.func10, Tryz.ntmps10
  go_wp2
  go_loopw [3, 4] (fun v3 v4 wr => ∃ (k : Nat) (n : Int), k ≤ rs.length ∧ v4 = .int .i64 (k : Int) ∧ v3 = .int .i64 n ∧ Arr wr w.heap.size 33 [.int .i64 au, .int .i64 ro, .slice ra rs.length rc, .slice pa ps.length pc] ∧ Below w.heap.size w wr) (fun _ v _ => rs.length - (intOf v).toNat)
  case atStart => exact ⟨0, _, Nat.zero_le _, rfl, rfl, hX, hB⟩
  case round =>
    clear hX hB x3
    obtain ⟨k, n, hk, rfl, rfl, hX, hb⟩ := hrel
    have x2 := hX.cell (i := 2) rfl
    by_cases hlt : k < rs.length
    · obtain ⟨r, hr⟩ : ∃ r, rs[k]? = some r := ⟨rs[k], List.getElem?_eq_getElem hlt⟩
      obtain ⟨b, off, rfl, hbl, y0, y1⟩ := (hA1.below hb).ref hr
      clear hr
      go_wp2_with fail
      go_big_quiet (fail)
      have hb2 := below_drewN hb nq
      have hX2 := hX.drewN nq
      clear hX hb x2 y0 y1
      generalize wr.drewN nq = w1 at *
      go_wp2
      go_roundw
      case rel => exact ⟨k + 1, _, by omega, by go_num, rfl, hX2, hb2⟩
      case measure => simp [intOf]; omega
    · go_wp2
      go_loopw [3, 5] (fun v3 v5 wr => ∃ (k : Nat) (n : Int), k ≤ ps.length ∧ v5 = .int .i64 (k : Int) ∧ v3 = .int .i64 n ∧ Arr wr w.heap.size 33 [.int .i64 au, .int .i64 ro, .slice ra rs.length rc, .slice pa ps.length pc] ∧ Below w.heap.size w wr) (fun _ v _ => ps.length - (intOf v).toNat)
      case atStart => exact ⟨0, _, Nat.zero_le _, rfl, rfl, hX, hb⟩
      case round =>
        clear hX hb x2
        obtain ⟨j, n, hj, rfl, rfl, hX, hb⟩ := hrel
        have x3 := hX.cell (i := 3) rfl
        by_cases hlt2 : j < ps.length
        · obtain ⟨b, off, rfl, hbl, hc⟩ := (hA2.below hb).strs j hlt2
          go_wp2
          go_roundw
          case rel => exact ⟨j + 1, _, by omega, by go_num, rfl, hX, hb⟩
          case measure => simp [intOf]; omega
        · go_wp2
          go_ret
          exact ⟨⟨_, rfl⟩, hb⟩
end Go.Proofs.YtmjkbdgcnoenbaaGreatDoor
