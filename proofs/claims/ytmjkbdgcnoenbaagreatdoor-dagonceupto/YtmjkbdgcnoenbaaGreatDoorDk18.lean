/- Texts as one: DagOnceWalk, RefHdrCheck, DagRoundsWalk, HdrOpenH, Upto, HdrBulk. -/
import Derived.Test.YtmjkbdgcnoenbaaGreatDoorDk17
import Derived.Test.YtmjkbdgcnoenbaaGreatDoorDk11
import Derived.Test.YtmjkbdgcnoenbaaGreatDoorDk06
import Derived.Test.YtmjkbdgcnoenbaaGreatDoorDk08
import Derived.Lib.QuietBelow
import Derived.Deep.QuietTactic
import Derived.BigQuiet
import Derived.Test.YtmjkbdgcnoenbaaGreatDoorDk10
import Derived.Test.YtmjkbdgcnoenbaaGreatDoorDk09
import Derived.Test.YtmjkbdgcnoenbaaGreatDoorDk05
import Derived.JoinedCond
/- tusklaw14.DagOnce answers true; nothing old in memory is turned. -/
namespace Go.Proofs.YtmjkbdgcnoenbaaGreatDoor
open Go Go.RowKit
set_option linter.unusedVariables false

theorem voteV_len (d : DagD) (x : HdrD) (id : ByteArray) : (voteV d x id).length ≤ d.V.length + 1 := by
  unfold voteV
  split
  · omega
  · rw [List.length_append]; simp

theorem voteD_len (chk : Nat) (d : DagD) (x : HdrD) (id : ByteArray) : (voteD chk d x id).V.length ≤ d.V.length + 1 := by
  unfold voteD
  split
  · exact voteV_len d x id
  · omega

theorem addD_len (chk n : Nat) (d : DagD) (c : CertD) (id : ByteArray) : (addD chk n d c id).V = d.V := by
  unfold addD
  split <;> rfl

theorem nextD_len (need : Nat) (d : DagD) : (nextD need d).V = d.V := by
  unfold nextD
  split <;> rfl

theorem lowD_len (d : DagD) (r : Int) : (lowD d r).V.length ≤ d.V.length := by
  unfold lowD
  split
  · omega
  · exact List.length_filter_le _ _

/-- The maker's rows are short. -/
def FewI (ids : List (List ByteArray)) (i : Nat) : Prop := ids.length ≤ i ∧ ∀ l ∈ ids, l.length ≤ i

theorem FewI.mono {ids : List (List ByteArray)} {i j : Nat} (h : FewI ids i) (hij : i ≤ j) : FewI ids j := ⟨Nat.le_trans h.1 hij, fun l hl => Nat.le_trans (h.2 l hl) hij⟩

theorem FewI.ins {ids : List (List ByteArray)} {i : Nat} (h : FewI ids i) (need r : Nat) (id : ByteArray) : FewI (inI need ids r id) (i + 1) := by
  have hP : FewI (inP need ids r) (i + 1) ∧ ∀ l ∈ inP need ids r, l.length ≤ i := by
    unfold inP
    split
    · refine ⟨⟨by rw [List.length_append]; have := h.1; simp; omega, fun l hl => ?_⟩, fun l hl => ?_⟩ <;> rcases List.mem_append.1 hl with hl | hl
      · have := h.2 l hl; omega
      · rw [List.mem_singleton.1 hl]; simp
      · exact h.2 l hl
      · rw [List.mem_singleton.1 hl]; simp
    · exact ⟨h.mono (by omega), h.2⟩
  unfold inI
  split
  · exact hP.1
  · refine ⟨by rw [List.length_set]; exact hP.1.1, fun l hl => ?_⟩
    rcases List.mem_or_eq_of_mem_set hl with hl | rfl
    · exact hP.1.2 l hl
    · rw [insT_length, List.getD_eq_getElem?_getD]
      cases hx : (inP need ids r)[r - 1]? with
      | none => simp
      | some m => have := hP.2 m (List.mem_of_getElem? hx); simp; omega

/-- What was voted for, as a map's values. -/
def votF (G : Int → Int → Option ByteArray) (p : PlaceD) : Option Value := (G p.a p.r).map Value.string

theorem checkR_own {ks : List ByteArray} {me : Nat} (h : me < ks.length) (kind word : ByteArray) : Mx.checkR ks (me : Int) (Mx.macOf (ks.getD me ⟨#[]⟩) kind word) kind word = 0 := by
  unfold Mx.checkR
  rw [if_neg (by omega), Int.toNat_natCast, if_pos rfl]

set_option maxRecDepth 100000 in
set_option maxHeartbeats 4000000 in
theorem dagOnce_walk (f self : Int) (ao : Option Addr) (cap : Nat) (ls : List OpM) (w : World) (hR : RowAt opK w ao ls) (hI : ∀ o ∈ ls, OpIn w o) (hn : ls.length ≤ maxLen) (hG : Mx.Glob w) :
    Calls Tryz.prog 4 #[.int .i64 f, .int .i64 self, .slice ao ls.length cap] w fun e w' => e = .returned (.bool true) ∧ Below w.heap.size w w' := by
  have hln : (ls.length : Int) ≤ 9223372036854775807 := by unfold maxLen at hn; omega
  have cW := works14_any w hG
  go_enter Tryz.func4, Tryz.ntmps4
  go_wp2_with fail
  refine cW.mono ?_
  rintro e w1 ⟨rfl, hb1⟩
  have cB := both14_any f self w1 (hG.below hb1)
  generalize nF f = n at cB
  clear cW
  go_wp2_with fail
  refine cB.mono ?_
  rintro e w2 ⟨V, tb, rt, db, gb, pb, S, rfl, hB⟩
  have hE := hB.env
  have h2 := hB.d1
  have hbw := hb1.trans (hB.bw.mono hb1.size)
  have hRV := hR.below hbw
  have hIV : ∀ o ∈ ls, OpIn V o := fun o ho => (hI o ho).below hbw
  generalize pickN self (3 * n + 1) = me at *
  have hkl : Hid ((ksF n).length = 3 * n + 1) := hE.T.kl
  have hn2 := hE.T.f2
  have hme : Hid (me < 3 * n + 1) := hE.hs
  clear cB hB hb1 hR hI
  have hM2 := PMap.new w2 68
  have hbm := belowNew w2 (.map #[] 0)
  have h3 := h2.below hbm
  have hmb : V.heap.size ≤ w2.heap.size ∧ ¬ S w2.heap.size ∧ ¬ (w2.heap.size = pb) := ⟨h2.bel.size, fun e => by have := h2.dag.lt e; omega, fun e => by have := (h2.ply.lt (k := pb) rfl).2; omega⟩
  obtain ⟨mb, hmbe⟩ : ∃ z, Hid (w2.heap.size = z) := ⟨_, rfl⟩
  have hmm := @run_makeMap Tryz.prog
  have hz : ∀ w, (zeroValue 9).run Tryz.prog w = .ok (.string ⟨#[]⟩) w := fun w => by rfl
  go_wp2_with fail
  rw [hmbe.out] at hM2 hmb ⊢
  generalize w2.alloc _ = w3 at *
  clear h2 hbm hmm
  go_loopw [13, 14, 15, 16, 17, 18, 19, 20, 21] (fun v13 _ _ _ _ _ _ _ _ wr => ∃ (i : Nat) (d : DagD) (ids : List (List ByteArray)) (SD SP : Nat → Prop) (G : Int → Int → Option ByteArray) (cn : Nat), i ≤ 40 ∧ i ≤ ls.length ∧ v13 = .int .i64 (i : Int) ∧ D1 V n tb rt db pb me SD SP d ids wr ∧ PMap wr 68 mb (votF G) cn ∧ (V.heap.size ≤ mb ∧ ¬ SD mb ∧ ¬ SP mb) ∧ VotedOk d G ∧ d.V.length ≤ i ∧ FewI ids i ∧ cn ≤ i) (fun v _ _ _ _ _ _ _ _ _ => 40 - (intOf v).toNat)
  case atStart => exact ⟨0, dag0, [], S, (fun k => k = pb), (fun _ _ => none), 0, by omega, by omega, rfl, h3, hM2, hmb, (fun a r id h => by cases h), Nat.zero_le _, ⟨Nat.zero_le _, fun l hl => by cases hl⟩, Nat.zero_le _⟩
  case round =>
    obtain ⟨i, d, ids, SD, SP, G, cn, hi40, hil, rfl, hD, hM, hmb, hVo, hVl, hFi, hcn⟩ := hrel
    clear h3 hM2
    by_cases hgo : i < ls.length ∧ i < 40
    · have g1 : (i : Int) < (ls.length : Int) := by omega
      have g2 : (i : Int) < 40 := by omega
      obtain ⟨o, ho⟩ : ∃ o, ls[i]? = some o := ⟨_, List.getElem?_eq_getElem hgo.1⟩
      have hO := hIV o (List.mem_of_getElem? ho)
      obtain ⟨b, off, hao, hbl, y0, y1, y2, y3, y4, y5, y6, y7, y8, y9⟩ := (hRV.below hD.bel).op ho
      subst hao
      have hbn := belowNew wr (.cells o.c.toArray 35)
      have hX := Arr.new wr 35 o.c
      have hD1 := hD.below hbn
      have hM1 := hM.below hbn
      have cGr := great_any o.wild _ (hO.wild.below hD1.bel) (by have := hO.lens.n; unfold maxLen; omega) (by have := hO.lens.p; unfold maxLen; omega)
      have hxb : V.heap.size ≤ wr.heap.size ∧ ¬ SD wr.heap.size ∧ ¬ SP wr.heap.size := ⟨hD.bel.size, (hD.old (Or.inr (Nat.le_refl _))).1, (hD.old (Or.inr (Nat.le_refl _))).2⟩
      have hmx : mb < wr.heap.size := hM.lt
      clear hD hM ho
      unfold OpM.c at hX hD1 hM1 cGr
      unfold HdrM.v at cGr
      have x6 := hX.cell (i := 6) rfl
      have x7 := hX.cell (i := 7) rfl
      have x8 := hX.cell (i := 8) rfl
      have x9 := hX.cell (i := 9) rfl
      go_wp2_with fail
      refine cGr.mono ?_
      rintro e w4 ⟨⟨gr, rfl⟩, hb4⟩
      have hX4 := hX.below hb4 hX.lt
      have hD4 := hD1.below hb4
      have hM4 := hM1.below hb4
      obtain ⟨xb, hxe⟩ : ∃ z, Hid (wr.heap.size = z) := ⟨_, rfl⟩
      rw [hxe.out] at hX4 hxb hmx ⊢
      clear hX hD1 hM1 hb4 cGr x6 x7 x8 x9 y0 y1 y2 y3 y4 y5 y6 y7 y8 y9 hbn
      cases gr with
      | true =>
        have hbF : Below w.heap.size w w4 := hbw.trans (hD4.bel.mono hbw.size)
        go_wp2
        go_ret
        exact ⟨rfl, hbF⟩
      | false =>
      have cH := hD4.header hE hO
      unfold OpM.v at cH
      have x0 := hX4.cell (i := 0) rfl
      have x1 := hX4.cell (i := 1) rfl
      have x2 := hX4.cell (i := 2) rfl
      have x3 := hX4.cell (i := 3) rfl
      have x4 := hX4.cell (i := 4) rfl
      have x5 := hX4.cell (i := 5) rfl
      have x6 := hX4.cell (i := 6) rfl
      have x7 := hX4.cell (i := 7) rfl
      have x8 := hX4.cell (i := 8) rfl
      have x9 := hX4.cell (i := 9) rfl
      go_wp2_with fail
      refine cH.mono ?_
      rintro e w5 ⟨x, rfl, hxd, hxA, hxf, hxl, hxL, hxfo, hb5⟩
      have hX5 := hX4.below hb5 hX4.lt
      have hD5 := hD4.below hb5
      have hM5 := hM4.below hb5
      have hbh := belowNew w5 (.cells x.c.toArray 33)
      have hH6 := Arr.new w5 33 x.c
      have hX6 := hX5.below hbh hX5.lt
      have hD6 := hD5.below hbh
      have hM6 := hM5.below hbh
      have hxA6 := hxA.below hbh
      have hxo : ∀ b, x.foot b → ¬ SD b ∧ ¬ SP b := fun b hf => hD4.old (hxfo b hf)
      have hhb : V.heap.size ≤ w5.heap.size ∧ ¬ SD w5.heap.size ∧ ¬ SP w5.heap.size := ⟨hD5.bel.size, (hD5.old (Or.inr (Nat.le_refl _))).1, (hD5.old (Or.inr (Nat.le_refl _))).2⟩
      have hmh : mb < w5.heap.size ∧ xb < w5.heap.size := ⟨hM5.lt, hX5.lt⟩
      unfold HdrM.c at hH6 hX6 hD6 hM6 hxA6
      clear cH x0 x1 x2 x3 x4 x5 x6 x7 x8 x9 hX4 hD4 hM4 hX5 hD5 hM5 hb5 hbh hxA
      replace hxd : Hid _ := hxd
      unfold HdrM.v
      go_upto_region 14 with fail
      obtain ⟨hb, hhe⟩ : ∃ z, Hid (w5.heap.size = z) := ⟨_, rfl⟩
      have hH6 : Arr (w5.alloc (.cells #[.int .i64 x.author, .int .i64 x.round, .slice x.ra x.refs.length x.rc, .slice x.pa x.parents.length x.pc] 33)) w5.heap.size 33 [.int .i64 x.author, .int .i64 x.round, .slice x.ra x.refs.length x.rc, .slice x.pa x.parents.length x.pc] := hH6
      obtain ⟨w6, hw6⟩ : ∃ z, w5.alloc (.cells #[.int .i64 x.author, .int .i64 x.round, .slice x.ra x.refs.length x.rc, .slice x.pa x.parents.length x.pc] 33) = z := ⟨_, rfl⟩
      rw [hw6] at hH6 hX6 hD6 hM6 hxA6 ⊢
      rw [hhe.out] at hH6 hhb hmh ⊢
      clear hw6
      have x0 := hX6.cell (i := 0) rfl
      obtain ⟨kd, hkd⟩ : ∃ z, Hid (o.kind = z) := ⟨_, rfl⟩
      rw [hkd.out] at x0
      by_cases k0 : kd = 0
      · subst k0
        have e0 := hH6.cell (i := 0) rfl
        have e1 := hH6.cell (i := 1) rfl
        have e2 := hH6.cell (i := 2) rfl
        have e3 := hH6.cell (i := 3) rfl
        have cO := own6_any x _ hxA6 hxL
        unfold HdrM.v at cO
        go_wp2_with fail
        refine cO.mono ?_
        rintro e w7 ⟨y, rfl, hyd, hyA, hyf, hb7⟩
        have hD7 := hD6.below hb7
        have hM7 := hM6.below hb7
        have hH7 := hH6.below hb7 hH6.lt
        have hxA7 := hxA6.below hb7
        have hyo : ∀ b, y.foot b → ¬ SD b := fun b hf e => by have h1 := hyf b hf; have := hD6.dag.lt e; omega
        have cV := hD7.vote hE y hyA (fit_same14 hyd hxf) (by rw [hyd]; exact hxl) hyo (by omega)
        rw [hyd] at cV
        obtain ⟨XD, hXD⟩ : ∃ z, Hid (x.d = z) := ⟨_, rfl⟩
        rw [hXD.out] at cV
        obtain ⟨IV, hIV⟩ : ∃ z, Hid (idB XD = z) := ⟨_, rfl⟩
        have his : Hid (IV.size = 32) := by show IV.size = 32; rw [← hIV.out]; exact idB_size _
        rw [hIV.out] at cV
        obtain ⟨VE, hVE⟩ : ∃ z, Hid (voteE (chkA (ksF n) n XD) d XD IV = z) := ⟨_, rfl⟩
        rw [hVE.out] at cV
        have hVl' : (voteD (chkA (ksF n) n XD) d XD IV).V.length ≤ i + 1 := by have := voteD_len (chkA (ksF n) n XD) d XD IV; omega
        obtain ⟨tw, htw⟩ : ∃ z, Hid ((voteT (ksF n) me VE IV).who = z) := ⟨_, rfl⟩
        obtain ⟨tm, htm⟩ : ∃ z, Hid ((voteT (ksF n) me VE IV).mac = z) := ⟨_, rfl⟩
        rw [htw.out, htm.out] at cV
        obtain ⟨d', hd'⟩ : ∃ z, Hid (voteD (chkA (ksF n) n XD) d XD IV = z) := ⟨_, rfl⟩
        rw [hd'.out] at cV hVl'
        unfold HdrM.v at cV ⊢
        clear cO hyd hD6 hM6 hH6 hxA6 hb7 e0 e1 e2 e3 hX6 x0
        go_wp2_with fail
        refine cV.mono ?_
        rintro e w8 ⟨rfl, SD', hD8, hf8, hk8⟩
        have hM8 := hM7.kept hk8 hmb.2.1
        have hH8 := hH7.kept hk8 hhb.2.1
        have hxA8 : x.At w8 := Kind.kept hdrK hxA7 hk8 (fun b hf => (hxo b hf).1)
        have hmb' : V.heap.size ≤ mb ∧ ¬ SD' mb ∧ ¬ SP mb := ⟨hmb.1, fun e => (hf8 mb e).elim hmb.2.1 (fun e => by have := hM7.lt; omega), hmb.2.2⟩
        have hbt := belowNew w8 (.cells #[.int .i64 tw, .string tm] 42)
        have hT9 := Arr.new w8 42 [.int .i64 tw, .string tm]
        have hD9 := hD8.below hbt
        have hM9 := hM8.below hbt
        have hH9 := hH8.below hbt hH8.lt
        have hxA9 := hxA8.below hbt
        clear cV hf8 hk8 hD7 hM7 hH7 hxA7 hyA hyf hyo hD8 hM8 hH8 hxA8 hbt
        by_cases hz0 : VE = 0
        · subst hz0
          have hVo' : VotedOk d' (fun a r => if a = XD.author ∧ r = XD.round then some IV else G a r) := by rw [← hd'.out]; exact hVo.put hVE.out
          obtain ⟨hchk, _⟩ := voteE_ok hVE.out
          have hrg := chkH_range hchk
          have hxa : XD.author = x.author := by rw [← hXD.out]; rfl
          have hxr : XD.round = x.round := by rw [← hXD.out]; rfl
          rw [hxa, hxr] at hrg hVo'
          have wa : (Lit.int .i64 x.author).wf = true := WalkArith.wf_i64 (by omega)
          have wr' : (Lit.int .i64 x.round).wf = true := WalkArith.wf_i64 (by omega)
          have hwf : PlaceD.Wf ⟨x.author, x.round⟩ := ⟨wa, wr'⟩
          clear wa wr'
          have hsm : Hid (∀ was, G x.author x.round = some was → was = IV) := fun was hw => hVo.same hVE.out (by rw [hxa, hxr]; exact hw)
          have hck : Mx.checkR (ksF n) tw tm voteW IV = 0 := by
            rw [← htw.out, ← htm.out]
            exact checkR_own (by rw [hkl.out]; exact hme.out) voteW IV
          have cI := fun w1 h1 => refHdrId_any x w1 h1 hxf hxl
          have hid' : Mx.bytes (Mx.sumL (encH x.d)) = IV := by rw [hXD.out]; exact hIV.out
          rw [hid'] at cI
          have cK := fun w1 h1 h2 => Mx.check_any tb n (ksF n) tw tm voteW IV w1 h1 hE.T.k32 (by decide) (by rw [his.out]; decide) h2
          rw [hck] at cK
          unfold Mx.tagV voteW at cK
          unfold HdrM.v at cI
          clear hchk hrg hxa hxr hid' hck
          have e0 := hH9.cell (i := 0) rfl
          have e1 := hH9.cell (i := 1) rfl
          have e2 := hH9.cell (i := 2) rfl
          have e3 := hH9.cell (i := 3) rfl
          go_wp2_with fail
          refine (cI _ hxA9).mono ?_
          rintro e wA ⟨rfl, hbA⟩
          have hTA := hT9.below hbA hT9.lt
          have hDA := hD9.below hbA
          have hMA := hM9.below hbA
          have hHA := hH9.below hbA hH9.lt
          clear cI e0 e1 e2 e3 hT9 hD9 hM9 hH9 hxA9 hbA
          have e0 := hHA.cell (i := 0) rfl
          have e1 := hHA.cell (i := 1) rfl
          have t0 := hTA.cell (i := 0) rfl
          have t1 := hTA.cell (i := 1) rfl
          obtain ⟨was, hwas⟩ : ∃ z, Hid (G x.author x.round = z) := ⟨_, rfl⟩
          have hv : votF G ⟨x.author, x.round⟩ = was.map Value.string := by unfold votF; simp only; rw [hwas.out]
          have hcn' : cn < maxLen := by unfold maxLen; omega
          have hput : Hid (∀ w', PMap w' 68 mb (putFP (votF G) ⟨x.author, x.round⟩ (.string IV)) (putNP (votF G) ⟨x.author, x.round⟩ cn) → ∃ cn', cn' ≤ i + 1 ∧ PMap w' 68 mb (votF (fun a r => if a = x.author ∧ r = x.round then some IV else G a r)) cn') := fun w' h => by
            refine ⟨_, ?_, h.congr (fun p => ?_)⟩
            · unfold putNP
              split <;> omega
            · unfold putFP votF
              obtain ⟨pa, pr⟩ := p
              simp only [PlaceD.mk.injEq]
              split <;> rfl
          cases was with
          | none =>
            go_wp2_with (at_lookup; refine pmap_look_ok placeKey (by rfl) _ _ 65 rfl 9 Tryz.underlying65 _ (hz _) mb _ _ rfl hMA ⟨x.author, x.round⟩ hwf rfl ?_; rw [hv]; simp only [Option.map_none, Option.getD_none, Option.isSome_none])
            go_wp2_with fail
            refine (cK _ (hE.T.T.below hDA.bel) (hE.T.G.below hDA.bel)).mono ?_
            rintro e wB ⟨rfl, hbB⟩
            have hDB := hDA.below hbB
            have hMB := hMA.below hbB
            have hHB := hHA.below hbB hHA.lt
            clear cK e0 e1 t0 t1 hTA hDA hMA hHA hbB
            have e0 := hHB.cell (i := 0) rfl
            have e1 := hHB.cell (i := 1) rfl
            go_wp2_with (refine pmap_put placeKey rfl _ _ _ 65 rfl 9 Tryz.underlying65 mb _ _ rfl hMB hcn' ⟨x.author, x.round⟩ hwf rfl _ rfl ?_)
            intro wC hMC hkC
            obtain ⟨cn', hcn2, hMF⟩ := hput.out wC hMC
            have hDC := hDB.kept hkC (fun k e => by have e' : k = mb := e; rw [e']; exact hmb')
            clear hMC hkC hDB hMB hHB e0 e1
            go_wp2
            go_roundw
            case rel => exact ⟨i + 1, d', ids, SD', SP, _, cn', by omega, by omega, by go_num, hDC, hMF, hmb', hVo', hVl', hFi.mono (by omega), hcn2⟩
            case measure => simp [intOf]; omega
          | some was =>
            obtain rfl : was = IV := hsm.out was hwas.out
            go_wp2_with (at_lookup; refine pmap_look_ok placeKey (by rfl) _ _ 65 rfl 9 Tryz.underlying65 _ (hz _) mb _ _ rfl hMA ⟨x.author, x.round⟩ hwf rfl ?_; rw [hv]; simp only [Option.map_some, Option.getD_some, Option.isSome_some])
            go_wp2_with fail
            refine (cK _ (hE.T.T.below hDA.bel) (hE.T.G.below hDA.bel)).mono ?_
            rintro e wB ⟨rfl, hbB⟩
            have hDB := hDA.below hbB
            have hMB := hMA.below hbB
            have hHB := hHA.below hbB hHA.lt
            clear cK e0 e1 t0 t1 hTA hDA hMA hHA hbB
            have e0 := hHB.cell (i := 0) rfl
            have e1 := hHB.cell (i := 1) rfl
            go_wp2_with (refine pmap_put placeKey rfl _ _ _ 65 rfl 9 Tryz.underlying65 mb _ _ rfl hMB hcn' ⟨x.author, x.round⟩ hwf rfl _ rfl ?_)
            intro wC hMC hkC
            obtain ⟨cn', hcn2, hMF⟩ := hput.out wC hMC
            have hDC := hDB.kept hkC (fun k e => by have e' : k = mb := e; rw [e']; exact hmb')
            clear hMC hkC hDB hMB hHB e0 e1
            go_wp2
            go_roundw
            case rel => exact ⟨i + 1, d', ids, SD', SP, _, cn', by omega, by omega, by go_num, hDC, hMF, hmb', hVo', hVl', hFi.mono (by omega), hcn2⟩
            case measure => simp [intOf]; omega
        · have hz1 : ¬ (VE : Int) = 0 := by omega
          have hVo' : VotedOk d' G := by rw [← hd'.out]; exact hVo.vote (by rw [hVE.out]; exact hz0)
          clear hT9 hH9 hxA9
          go_wp2
          go_roundw
          case rel => exact ⟨i + 1, d', ids, SD', SP, G, cn, by omega, by omega, by go_num, hD9, hM9, hmb', hVo', hVl', hFi.mono (by omega), by omega⟩
          case measure => simp [intOf]; omega
      have k0' : (kd == 0) = false := by simpa using k0
      by_cases k1 : kd = 1
      · subst k1
        have x0' := x0
        have cC := hD6.cert hE hO
        unfold OpM.v at cC
        have x1 := hX6.cell (i := 1) rfl
        have x2 := hX6.cell (i := 2) rfl
        have x3 := hX6.cell (i := 3) rfl
        have x4 := hX6.cell (i := 4) rfl
        have x5 := hX6.cell (i := 5) rfl
        have x6 := hX6.cell (i := 6) rfl
        have x7 := hX6.cell (i := 7) rfl
        have x8 := hX6.cell (i := 8) rfl
        have x9 := hX6.cell (i := 9) rfl
        rw [hkd.out] at cC
        go_wp2_with fail
        refine cC.mono ?_
        rintro e w7 ⟨c, rfl, hcd, hcA, hcf, hcl, hcL, hcv, hcfo, hb7⟩
        have hD7 := hD6.below hb7
        have hM7 := hM6.below hb7
        have hbn := belowNew w7 (.cells c.c.toArray 48)
        have hc8 := Arr.new w7 48 c.c
        have hD8 := hD7.below hbn
        have hM8 := hM7.below hbn
        have hcA8 := hcA.below hbn
        have cO := own14_any c _ hcA8 hcL (by omega)
        have hco : ∀ b, c.foot b → ¬ SD b ∧ ¬ SP b := fun b hf => hD6.old (hcfo b hf)
        have hcb : V.heap.size ≤ w7.heap.size ∧ ¬ SD w7.heap.size ∧ ¬ SP w7.heap.size := ⟨hD7.bel.size, (hD7.old (Or.inr (Nat.le_refl _))).1, (hD7.old (Or.inr (Nat.le_refl _))).2⟩
        have hcm : mb < w7.heap.size := hM7.lt
        have hcl' : ∀ b, c.foot b → b < w7.heap.size := fun b hf => Kind.lt certK hcA hf
        unfold CertM.v at cO ⊢
        unfold CertM.c at hc8 hD8 hM8 hcA8 cO
        have k0 := hc8.cell (i := 0) rfl
        have k1 := hc8.cell (i := 1) rfl
        have k2 := hc8.cell (i := 2) rfl
        have k3 := hc8.cell (i := 3) rfl
        have k4 := hc8.cell (i := 4) rfl
        have hcd' : Hid _ := hcd
        clear hcd cC hD6 hM6 hb7 hD7 hM7 hcA hbn x0 x1 x2 x3 x4 x5 x6 x7 x8 x9
        go_wp2_with fail
        refine cO.mono ?_
        rintro e w9 ⟨y, rfl, hyd, hyA, hyf, hb9⟩
        have hyh : y.hdr.d = c.hdr.d := congrArg CertD.header hyd
        have hyv : y.votes = c.votes := congrArg CertD.votes hyd
        have hD9 := hD8.below hb9
        have hM9 := hM8.below hb9
        have hc9 := hc8.below hb9 hc8.lt
        have hcA9 := hcA8.below hb9
        have hsz8 : V.heap.size ≤ _ := hD8.bel.size
        have hyo : ∀ b, y.foot b → V.heap.size ≤ b ∧ ¬ SD b ∧ ¬ SP b := fun b hf => by
          have h1 := hyf b hf
          exact ⟨Nat.le_trans hsz8 h1, fun e => by have := hD8.dag.lt e; omega, fun e => by have := (hD8.ply.lt e).2; omega⟩
        have hym : ∀ b, y.foot b → w7.heap.size < b := fun b hf => by
          have h1 := hyf b hf
          rw [alloc_size] at h1
          omega
        have cA := hD9.add hE y hyA (fit_same14 hyh hcf) (by rw [hyh]; exact hcl) (by rw [hyv]; omega) hyo
        rw [hyd, hyh] at cA
        obtain ⟨AE, hAE⟩ : ∃ z, Hid (addE (chkC (ksF n) n c.d) (3 * n + 1) d c.hdr.d (idB c.hdr.d) = z) := ⟨_, rfl⟩
        have hVo' := hVo.add (chkC (ksF n) n c.d) (3 * n + 1) c.d (idB c.hdr.d)
        have hVl' : (addD (chkC (ksF n) n c.d) (3 * n + 1) d c.d (idB c.hdr.d)).V.length ≤ i + 1 := by rw [addD_len]; omega
        rw [hAE.out] at cA
        generalize addD (chkC (ksF n) n c.d) (3 * n + 1) d c.d (idB c.hdr.d) = d' at *
        clear cO k0 k1 k2 k3 k4 hc8 hD8 hM8 hcA8 hb9 hyh hyv hyd
        unfold CertM.v at cA ⊢
        go_wp2_with fail
        refine cA.mono ?_
        rintro e wA ⟨rfl, SD', hDA, hfA, hkA⟩
        have hMA := hM9.kept hkA hmb.2.1
        have hmb' : V.heap.size ≤ mb ∧ ¬ SD' mb ∧ ¬ SP mb := ⟨hmb.1, fun e => by
          rcases hfA mb e with e | e | e
          · exact hmb.2.1 e
          · have := hym mb e; omega
          · have := hM9.lt; omega, hmb.2.2⟩
        have hcA := hc9.kept hkA hcb.2.1
        have hcAA : c.At wA := Kind.kept certK hcA9 hkA (fun b hf => (hco b hf).1)
        clear cA hkA hc9 hcA9 hD9 hM9
        by_cases hz0 : AE = 0
        · subst hz0
          obtain ⟨hchk, _⟩ := addE_ok hAE.out
          have hrg := chkH_range (chkC_hdr hchk).1
          have hrg1 : 1 ≤ c.hdr.round := hrg.2.2.1
          have hrg2 : c.hdr.round ≤ 4611686018427387903 := hrg.2.2.2
          have cI := hDA.ins hE c hcAA hrg1 hrg2 hcf hcl (by have := hFi.1; omega) (fun l hl => by have := hFi.2 l hl; omega) (fun b hf => (hco b (Or.inl hf)).2)
          have hFi' := hFi.ins (2 * n + 1) c.hdr.round.toNat (idB c.hdr.d)
          generalize inI (2 * n + 1) ids c.hdr.round.toNat (idB c.hdr.d) = ids' at *
          have k0 := hcA.cell (i := 0) rfl
          have k1 := hcA.cell (i := 1) rfl
          have k2 := hcA.cell (i := 2) rfl
          have k3 := hcA.cell (i := 3) rfl
          have k4 := hcA.cell (i := 4) rfl
          unfold CertM.v at cI
          clear hchk hrg hrg1 hrg2
          go_wp2_with fail
          refine cI.mono ?_
          rintro e wB ⟨rfl, SP', hDB, hfB, hkB⟩
          have hMB := hMA.kept hkB hmb'.2.2
          have hmb2 : V.heap.size ≤ mb ∧ ¬ SD' mb ∧ ¬ SP' mb := ⟨hmb'.1, hmb'.2.1, fun e => (hfB mb e).elim hmb'.2.2 (fun e => by have := hMA.lt; omega)⟩
          clear cI hkB hfB hDA hMA k0 k1 k2 k3 k4 hcA hcAA
          go_wp2
          go_roundw
          case rel => exact ⟨i + 1, d', ids', SD', SP', G, cn, by omega, by omega, by go_num, hDB, hMB, hmb2, hVo', hVl', hFi', by omega⟩
          case measure => simp [intOf]; omega
        · have hz1 : ¬ (AE : Int) = 0 := by omega
          clear hcA hcAA
          go_wp2
          go_roundw
          case rel => exact ⟨i + 1, d', ids, SD', SP, G, cn, by omega, by omega, by go_num, hDA, hMA, hmb', hVo', hVl', hFi.mono (by omega), by omega⟩
          case measure => simp [intOf]; omega
      have k1' : (kd == 1) = false := by simpa using k1
      by_cases k2 : kd = 2
      · subst k2
        have cN := hD6.next hE
        go_wp2_with fail
        refine cN.mono ?_
        rintro e w7 ⟨y, rfl, hyd, hyA, hyf, SD', hD7, hf7, hk7⟩
        have hM7 := hM6.kept hk7 hmb.2.1
        have hmb' : V.heap.size ≤ mb ∧ ¬ SD' mb ∧ ¬ SP mb := ⟨hmb.1, fun e => (hf7 mb e).elim hmb.2.1 (fun e => by have := hM6.lt; omega), hmb.2.2⟩
        have hVl' : (nextD (2 * n + 1) d).V.length ≤ i + 1 := by rw [nextD_len]; omega
        have hVo' := hVo.next (2 * n + 1)
        generalize nextD (2 * n + 1) d = d' at *
        clear cN hf7 hk7 hyd hyA hyf hD6 hM6
        go_wp2
        go_roundw
        case rel => exact ⟨i + 1, d', ids, SD', SP, G, cn, by omega, by omega, by go_num, hD7, hM7, hmb', hVo', hVl', hFi.mono (by omega), by omega⟩
        case measure => simp [intOf]; omega
      have k2' : (kd == 2) = false := by simpa using k2
      by_cases k3 : kd = 3
      · subst k3
        have x5 := hX6.cell (i := 5) rfl
        have cN := hD6.lows hE o.round
        go_wp2_with fail
        refine cN.mono ?_
        rintro e w7 ⟨rfl, SD', hD7, hf7, hk7⟩
        have hM7 := hM6.kept hk7 hmb.2.1
        have hmb' : V.heap.size ≤ mb ∧ ¬ SD' mb ∧ ¬ SP mb := ⟨hmb.1, fun e => (hf7 mb e).elim hmb.2.1 (fun e => by have := hM6.lt; omega), hmb.2.2⟩
        have hVl' : (lowD d o.round).V.length ≤ i + 1 := by have := lowD_len d o.round; omega
        have hVo' := hVo.lows o.round
        generalize lowD d o.round = d' at *
        clear cN hf7 hk7 hD6 hM6
        go_wp2
        go_roundw
        case rel => exact ⟨i + 1, d', ids, SD', SP, G, cn, by omega, by omega, by go_num, hD7, hM7, hmb', hVo', hVl', hFi.mono (by omega), by omega⟩
        case measure => simp [intOf]; omega
      have k3' : (kd == 3) = false := by simpa using k3
      clear k0 k1 k2 k3
      go_wp2
      go_roundw
      case rel => exact ⟨i + 1, d, ids, SD, SP, G, cn, by omega, by omega, by go_num, hD6, hM6, hmb, hVo, by omega, hFi.mono (by omega), by omega⟩
      case measure => simp [intOf]; omega
    · have hbF : Below w.heap.size w wr := hbw.trans (hD.bel.mono hbw.size)
      rcases (by by_cases h : i < ls.length; exact Or.inl h; exact Or.inr h : i < ls.length ∨ ¬ i < ls.length) with hlt | hlt
      · have g1 : (i : Int) < (ls.length : Int) := by omega
        have g2 : ¬ (i : Int) < 40 := by omega
        go_wp2
        go_ret
        exact ⟨rfl, hbF⟩
      · have g1 : ¬ (i : Int) < (ls.length : Int) := by omega
        go_wp2
        go_ret
        exact ⟨rfl, hbF⟩
end Go.Proofs.YtmjkbdgcnoenbaaGreatDoor

/- What tuskref06.Rising and tuskref06.Check do; nothing old in memory is turned. -/
namespace Go.Proofs.YtmjkbdgcnoenbaaGreatDoor
open Go.RowKit Go.Sort
set_option linter.unusedVariables false

/-- The one ahead. -/
def lastD (a : ByteArray) : List ByteArray → ByteArray
  | [] => a
  | x :: l => lastD x l

theorem lastD_snoc : ∀ (l : List ByteArray) (a k : ByteArray), lastD a (l ++ [k]) = k
  | [], _, _ => rfl
  | x :: l, a, k => lastD_snoc l x k

theorem risP_snoc : ∀ (l : List ByteArray) (a k : ByteArray), risP a l = 0 → risP a (l ++ [k]) = digE k (lastD a l)
  | [], a, k, _ => by
    rw [List.nil_append, risP, lastD]
    by_cases h : digE k a ≠ 0
    · rw [if_pos h]
    · rw [if_neg h, risP]; omega
  | x :: l, a, k, h => by
    rw [risP] at h
    by_cases hd : digE x a ≠ 0
    · rw [if_pos hd] at h; omega
    · rw [if_neg hd] at h
      rw [List.cons_append, risP, if_neg hd, lastD]
      exact risP_snoc l x k h

/-- The one ahead of the i-th. -/
def aheadOf (l : List ByteArray) (i : Nat) : ByteArray := if i = 0 then ⟨#[]⟩ else l.getD (i - 1) ⟨#[]⟩

set_option maxRecDepth 100000 in
set_option maxHeartbeats 1000000 in
theorem refRising_any (ao : Option Addr) (cap : Nat) (l : List ByteArray) (w : World) (hA : RowAt strK w ao l) (hn : l.length ≤ maxLen) :
    Calls Tryz.prog 70 #[.slice ao l.length cap] w fun e w' => e = .returned (.int .i64 (risP ⟨#[]⟩ l : Int)) ∧ Below w.heap.size w w' := by
  obtain ⟨res, hres⟩ : ∃ z, Hid (z = risP ⟨#[]⟩ l) := ⟨_, rfl⟩
  rw [← hres.out]
  unfold maxLen at hn
  go_enter Tryz.func70, Tryz.ntmps70
  go_wp2
  go_loopw [3] (fun v3 wr => ∃ i : Nat, i ≤ l.length ∧ v3 = .int .i64 (i : Int) ∧ Below w.heap.size w wr ∧ Hid (res = risP (aheadOf l i) (l.drop i))) (fun v _ => l.length - (intOf v).toNat)
  case atStart => exact ⟨0, Nat.zero_le _, rfl, Below.refl _ _, hres⟩
  case round =>
    obtain ⟨i, hil, rfl, hb, HR⟩ := hrel
    by_cases hlt : i < l.length
    · obtain ⟨b, off, rfl, hbl, hc⟩ := (hA.below hb).strs i hlt
      have hnx := risP_next (a := aheadOf l i) (List.getElem?_eq_getElem hlt)
      have HR2 := HR.out.trans hnx
      have hnext : aheadOf l (i + 1) = l[i] := by
        unfold aheadOf
        rw [if_neg (by omega), Nat.add_sub_cancel]
        simp [List.getD, hlt]
      rw [← hnext] at HR2
      clear hnx HR
      have hcp : 0 < i → (wr.cell? ⟨b, off + (i - 1), none⟩ = some (.string (aheadOf l i)) ∧ ((i : Int) - 1 = ((i - 1 : Nat) : Int))) := by
        intro h0
        obtain ⟨b', off', e, hbl', hc'⟩ := (hA.below hb).strs (i - 1) (by omega)
        simp at e
        obtain ⟨rfl, rfl⟩ := e
        refine ⟨?_, by omega⟩
        rw [hc']
        unfold aheadOf
        rw [if_neg (by omega)]
        simp [List.getD, (show i - 1 < l.length by omega)]
      have ha0 : i = 0 → aheadOf l i = ⟨#[]⟩ := fun h => if_pos h
      obtain ⟨k, hk⟩ : ∃ k, k = l[i] := ⟨_, rfl⟩
      rw [hnext, ← hk] at HR2
      rw [← hk] at hc hnext
      obtain ⟨pa, hpa⟩ : ∃ q, q = aheadOf l i := ⟨_, rfl⟩
      rw [← hpa] at HR2 hcp ha0
      clear hk hpa
      have Hnext : Hid (aheadOf l (i + 1) = k) := hnext
      clear hnext
      by_cases hs : k.size ≠ 32
      · have hd : digE k pa = 3 := if_pos hs
        rw [hd, if_pos (by decide)] at HR2
        have HF : Hid (res = 3) := HR2
        have hne : ((k.size : Int) != 32) = true := by rw [bne_iff_ne]; omega
        clear HR2 hd hcp ha0
        go_wp2
        go_ret
        exact ⟨by rw [HF.out]; rfl, hb⟩
      have hse : ((k.size : Int) != 32) = false := by rw [bne_eq_false_iff_eq]; omega
      by_cases h0 : i = 0
      · have hpe := ha0 h0
        subst h0
        have hd : digE k pa = 0 := by unfold digE; rw [if_neg hs, if_neg (by rw [hpe, leB_nil (by omega)]; simp)]
        rw [hd, if_neg (by simp)] at HR2
        have HF : Hid (res = risP (aheadOf l (0 + 1)) (l.drop (0 + 1))) := by rw [Hnext.out]; exact HR2
        rw [Nat.add_zero] at hc
        clear HR2 hd hcp ha0 hpe hs
        go_wp2_with fail
        go_big_quiet (fail)
        have hb2 := below_drewN hb nq
        clear hb hc
        generalize wr.drewN nq = w1 at *
        go_wp2
        go_roundw
        case rel => exact ⟨0 + 1, by omega, by go_num, hb2, HF⟩
        case measure => simp [intOf]; omega
      · obtain ⟨hc1, hi1⟩ := hcp (by omega)
        have hi0 : (0 : Int) < (i : Int) := by omega
        have hi2 : i - 1 < l.length := by omega
        have dn : decide (0 < i) = true := decide_eq_true (by omega)
        clear hcp ha0
        obtain ⟨i1, hi1e⟩ : ∃ q, q = i - 1 := ⟨_, rfl⟩
        rw [← hi1e] at hc1 hi1 hi2
        cases hl : leB k pa with
        | true =>
          have hd : digE k pa = 9 := by unfold digE; rw [if_neg hs, if_pos hl]
          rw [hd, if_pos (by decide)] at HR2
          have HF : Hid (res = 9) := HR2
          have hl' : (Op.bytesLess k.toList pa.toList || k.toList == pa.toList) = true := hl
          clear HR2 hd hl hi1e hs
          go_wp2_with fail
          go_big_quiet (fail)
          have hb2 := below_drewN hb nq
          clear hb hc hc1
          generalize wr.drewN nq = w1 at *
          go_wp2
          go_ret
          exact ⟨by rw [HF.out]; rfl, hb2⟩
        | false =>
          have hd : digE k pa = 0 := by unfold digE; rw [if_neg hs, if_neg (by rw [hl]; simp)]
          rw [hd, if_neg (by simp)] at HR2
          have HF : Hid (res = risP (aheadOf l (i + 1)) (l.drop (i + 1))) := by rw [Hnext.out]; exact HR2
          have hl' : (Op.bytesLess k.toList pa.toList || k.toList == pa.toList) = false := hl
          clear HR2 hd hl hi1e hs
          go_wp2_with fail
          go_big_quiet (fail)
          have hb2 := below_drewN hb nq
          clear hb hc hc1
          generalize wr.drewN nq = w1 at *
          go_wp2
          go_roundw
          case rel => exact ⟨i + 1, by omega, by go_num, hb2, HF⟩
          case measure => simp [intOf]; omega
    · have HF : Hid (res = 0) := by
        have := HR.out
        rw [List.drop_eq_nil_of_le (by omega), risP] at this
        exact this
      clear HR
      go_wp2
      go_ret
      exact ⟨by rw [HF.out]; rfl, hb⟩

/-- The digests of Refs. -/
def digs (l : List RefM) : List ByteArray := l.map RefM.digest

theorem digs_take_succ (l : List RefM) (k : Nat) (x : RefM) (h : l[k]? = some x) : digs (l.take (k + 1)) = digs (l.take k) ++ [x.digest] := by
  have hk := (List.getElem?_eq_some_iff.1 h).1
  have he := (List.getElem?_eq_some_iff.1 h).2
  rw [List.take_succ_eq_append_getElem hk, he]
  simp [digs]

set_option maxRecDepth 100000 in
set_option maxHeartbeats 4000000 in
theorem refHdrCheck_any (tb f : Nat) (ks : List ByteArray) (x : HdrM) (w : World) (hT : Mx.TabAt w tb f ks) (hf : f ≤ 2) (hkl : ks.length = 3 * f + 1) (hks : ∀ k ∈ ks, k.size ≤ 32) (hA : x.At w) (hlm : ∀ r ∈ x.refs, r.acks.length ≤ maxLen) (hpm : x.parents.length ≤ maxLen) (hG : Mx.Glob w) :
    Calls Tryz.prog 41 #[.pointer (some ⟨tb, 0, none⟩), x.v] w fun e w' => e = .returned (.int .i64 (chkH (3 * f + 1) (2 * f + 1) (enT ks f) x.d : Int)) ∧ Below w.heap.size w w' := by
  obtain ⟨au, ro, ra, rs, rc, pa, ps, pc⟩ := x
  have hA1 : RowAt refK w ra rs := hA.refs
  have hA2 : RowAt strK w pa ps := hA.ps
  obtain ⟨i0, hi, hz0, hz1, hz2⟩ := info_parts infoString
  have hX := Arr.new w 33 [.int .i64 au, .int .i64 ro, .slice ra rs.length rc, .slice pa ps.length pc]
  have hB := belowNew w (.cells #[.int .i64 au, .int .i64 ro, .slice ra rs.length rc, .slice pa ps.length pc] 33)
  obtain ⟨res, hres⟩ : ∃ z, Hid (z = chkH (3 * f + 1) (2 * f + 1) (enT ks f) (HdrM.d ⟨au, ro, ra, rs, rc, pa, ps, pc⟩)) := ⟨_, rfl⟩
  rw [← hres.out]
  have HR : Hid (res = if au < 0 ∨ ((3 * f + 1 : Nat) : Int) ≤ au ∨ ro < 1 ∨ 4611686018427387903 < ro then 2 else if 4 < rs.length then 8 else if refP (enT ks f) ⟨#[]⟩ (rd rs) ≠ 0 then refP (enT ks f) ⟨#[]⟩ (rd rs) else if risP ⟨#[]⟩ ps ≠ 0 then risP ⟨#[]⟩ ps else countE (3 * f + 1) (2 * f + 1) ro ps.length) := by
    have := hres.out
    simp only [chkH, HdrM.d, rd_length] at this
    exact this
  have hlm' : ∀ r ∈ rs, r.acks.length ≤ maxLen := hlm
  have hpm' : ps.length ≤ maxLen := hpm
  have hT1 := hT.below hB
  have hG1 := hG.below hB
  unfold HdrM.v
  simp only
  obtain ⟨w0, hw0⟩ : ∃ q, w.alloc (.cells #[.int .i64 au, .int .i64 ro, .slice ra rs.length rc, .slice pa ps.length pc] 33) = q := ⟨_, rfl⟩
  rw [hw0] at hX hB hT1 hG1
  have x0 := hX.cell (i := 0) rfl
  have x1 := hX.cell (i := 1) rfl
  obtain ⟨nn, hnn⟩ : ∃ z, Hid (z = 3 * f + 1) := ⟨_, rfl⟩
  obtain ⟨nd, hnd⟩ : ∃ z, Hid (z = 2 * f + 1) := ⟨_, rfl⟩
  have cN : ∀ (v : World) (hv : Mx.TabAt v tb f ks), ∀ m, Calls Tryz.prog 43 #[.pointer (some ⟨tb, 0, none⟩)] (v.drewN m) fun e w' => e = .returned (.int .i64 (nn : Int)) ∧ w' = v.drewN m := fun v hv m => by
    rw [hnn.out]
    exact Mx.refN_any tb f ks _ (hv.below (below_drewN (Below.refl _ _) m)) hf
  have cD : ∀ (v : World) (hv : Mx.TabAt v tb f ks), ∀ m, Calls Tryz.prog 45 #[.pointer (some ⟨tb, 0, none⟩)] (v.drewN m) fun e w' => e = .returned (.int .i64 (nd : Int)) ∧ w' = v.drewN m := fun v hv m => by
    rw [hnd.out]
    exact Mx.refNeed_any tb f ks _ (hv.below (below_drewN (Below.refl _ _) m)) hf
  have cN1 := cN w0 hT1
  have hTw : Hid (Mx.TabAt w tb f ks) := hT
  have hGw : Hid (Mx.Glob w) := hG
  have hkl' : Hid (ks.length = 3 * f + 1) := hkl
  clear hA hlm hpm hT hG hres hkl
  go_enter Tryz.func41, Tryz.ntmps41
  go_wp2_with fail
  by_cases h1 : au < 0
  · have HF : Hid (res = 2) := HR.out.trans (if_pos (Or.inl h1))
    clear HR
    go_big_quiet (fail)
    have hBF := below_drewN hB nq
    clear hX hB hT1 hG1 x0 x1
    go_wp2
    go_ret
    exact ⟨by rw [HF.out]; rfl, hBF⟩
  have d1 : decide (au < 0) = false := decide_eq_false h1
  by_cases h2 : (nn : Int) ≤ au
  · have HF : Hid (res = 2) := HR.out.trans (if_pos (Or.inr (Or.inl (by rw [← hnn.out]; exact h2))))
    clear HR
    go_big_quiet (exact Calls.quiet_of_same (cN1 _))
    have hBF := below_drewN hB nq
    clear hX hB hT1 hG1 x0 x1
    go_wp2
    go_ret
    exact ⟨by rw [HF.out]; rfl, hBF⟩
  have d2 : decide ((nn : Int) ≤ au) = false := decide_eq_false h2
  by_cases h3 : ro < 1
  · have HF : Hid (res = 2) := HR.out.trans (if_pos (Or.inr (Or.inr (Or.inl h3))))
    clear HR
    go_big_quiet (exact Calls.quiet_of_same (cN1 _))
    have hBF := below_drewN hB nq
    clear hX hB hT1 hG1 x0 x1
    go_wp2
    go_ret
    exact ⟨by rw [HF.out]; rfl, hBF⟩
  have d3 : decide (ro < 1) = false := decide_eq_false h3
  by_cases h4 : 4611686018427387903 < ro
  · have HF : Hid (res = 2) := HR.out.trans (if_pos (Or.inr (Or.inr (Or.inr h4))))
    clear HR
    go_big_quiet (exact Calls.quiet_of_same (cN1 _))
    have hBF := below_drewN hB nq
    clear hX hB hT1 hG1 x0 x1
    go_wp2
    go_ret
    exact ⟨by rw [HF.out]; rfl, hBF⟩
  have d4 : decide (4611686018427387903 < ro) = false := decide_eq_false h4
  have HR2 := HR.out.trans (if_neg (fun h => h.elim h1 (fun h => h.elim (fun h => h2 (by rw [hnn.out]; exact h)) (fun h => h.elim h3 h4))))
  replace HR : Hid (res = _) := HR2
  clear HR2
  go_big_quiet (exact Calls.quiet_of_same (cN1 _))
  have hbq := below_drewN (Below.refl w0.heap.size w0) nq
  have hX2 := hX.below hbq hX.lt
  have hB2 := hB.trans (hbq.mono hB.size)
  generalize w0.drewN nq = w1 at *
  clear hX hB hT1 hG1 x0 x1 hbq cN1
  have x2 := hX2.cell (i := 2) rfl
  by_cases h5 : 4 < rs.length
  · have h5' : (4 : Int) < (rs.length : Int) := by omega
    have HF : Hid (res = 8) := HR.out.trans (if_pos h5)
    clear HR
    go_wp2
    go_ret
    exact ⟨by rw [HF.out]; rfl, hB2⟩
  have h5' : ¬ (4 : Int) < (rs.length : Int) := by omega
  have HR2 := HR.out.trans (if_neg h5)
  replace HR : Hid (res = _) := HR2
  clear HR2
  have hbz := hB2.size
  have hxl := hX2.lt
  go_wp2
  go_loopw [5, 6, 7] (fun v5 v6 v7 wr => ∃ (i : Nat), i ≤ rs.length ∧ v6 = .int .i64 (i : Int) ∧ KQ strK 9 wr (w.heap.size + 1) v5 (digs (rs.take i)) ∧ Arr wr w.heap.size 33 [.int .i64 au, .int .i64 ro, .slice ra rs.length rc, .slice pa ps.length pc] ∧ Below w.heap.size w wr ∧ Hid (risP ⟨#[]⟩ (digs (rs.take i)) = 0 ∧ refP (enT ks f) ⟨#[]⟩ (rd rs) = refP (enT ks f) (lastD ⟨#[]⟩ (digs (rs.take i))) (rd (rs.drop i)))) (fun _ v _ _ => rs.length - (intOf v).toNat)
  case atStart => exact ⟨0, Nat.zero_le _, rfl, KQ.empty _ _ _ _, hX2, hB2, ⟨rfl, rfl⟩⟩
  case round =>
    clear hX2 hB2 x2 hbz hxl
    obtain ⟨i, hil, rfl, hq, hX, hb, HI⟩ := hrel
    have x2 := hX.cell (i := 2) rfl
    by_cases hlt : i < rs.length
    · obtain ⟨r, hr⟩ : ∃ r, rs[i]? = some r := ⟨rs[i], List.getElem?_eq_getElem hlt⟩
      obtain ⟨b, off, rfl, hbl, y0, y1⟩ := (hA1.below hb).ref hr
      have hml := hlm' r (List.mem_of_getElem? hr)
      have HMem : Hid (r ∈ rs) := List.mem_of_getElem? hr
      have hds := digs_take_succ rs i r hr
      have hnx := HI.out.2.trans (refP_next hr)
      have hrs := risP_snoc _ _ r.digest HI.out.1
      rw [← hds] at hrs
      have Hnx : Hid (refP (enT ks f) ⟨#[]⟩ (rd rs) = _) := hnx
      have Hrs : Hid (risP ⟨#[]⟩ (digs (rs.take (i + 1))) = _) := hrs
      have hdl : (digs (rs.take i)).length = i := by simp [digs]; omega
      have hdl1 : (digs (rs.take (i + 1))).length = i + 1 := by simp [digs]; omega
      have Hlast : Hid (lastD ⟨#[]⟩ (digs (rs.take (i + 1))) = r.digest) := by show _ = _; rw [hds, lastD_snoc]
      obtain ⟨qa, qc, rfl, hqn, _⟩ := hq.form
      rw [hdl] at hq ⊢
      have Hds : Hid (digs (rs.take (i + 1)) = digs (rs.take i) ++ [r.digest]) := hds
      obtain ⟨dl, hdle⟩ : ∃ q, q = digs (rs.take i) := ⟨_, rfl⟩
      rw [← hdle] at hq hdl Hds Hrs Hnx
      obtain ⟨dl1, hdle1⟩ : ∃ q, q = digs (rs.take (i + 1)) := ⟨_, rfl⟩
      rw [← hdle1] at hdl1 Hds Hrs Hlast
      have Hdle1 : Hid (dl1 = digs (rs.take (i + 1))) := hdle1
      have Hr : Hid (rs[i]? = some r) := hr
      clear hdle hdle1
      have hbx := belowNew wr (.cells #[.string r.digest] 9)
      have hq2 := hq.below hbx
      have hN := new_str wr r.digest
      have hX2 := hX.below hbx hX.lt
      have hb2 := hb.trans (hbx.mono hb.size)
      have hbs : w.heap.size + 1 ≤ (wr.alloc (.cells #[.string r.digest] 9)).heap.size := hX2.lt
      clear hr hds hnx hrs HI hq hX hbx hb
      go_wp2_with (at_builtin; refine wpList_push (K := strK) rfl _ _ 31 rfl (w.heap.size + 1) 9 i0 (.string ⟨#[]⟩) 16 Tryz.underlying31 hi hz0 hz1 hz2 rfl _ dl rfl hq2 r.digest trivial (fun _ h => h.elim) ⟨wr.heap.size, 0, none⟩ 1 rfl hN ?c3 ?c4 hbs ?_)
      case c3 => rw [hdl]; unfold maxLen; omega
      case c4 => rw [hdl]; omega
      intro ao' cap' w2 hq3 hk3
      have hX3 := hX2.kept hk3 (fun e => by have := (hq2.lt _ e).1; omega)
      have hb3 : Below w.heap.size w w2 := hb2.trans (hk3.below hb2.size (fun j hj => by have := (hq2.lt j hj).1; omega))
      rw [← Hds.out] at hq3
      obtain ⟨qa3, qc3, he3, _, hqt3⟩ := hq3.form
      simp only [Value.slice.injEq] at he3
      obtain ⟨rfl, hqq, rfl⟩ := he3
      clear hqq
      have cR := refRising_any ao' cap' dl1 w2 hqt3 (by rw [hdl1]; unfold maxLen; omega)
      rw [hdl1] at cR
      clear hq2 hX2 hb2 hN hbs hk3 hqt3 y0 y1 x2
      have x2 := hX3.cell (i := 2) rfl
      obtain ⟨b', off', e', hbl', y0, y1⟩ := (hA1.below hb3).ref Hr.out
      simp at e'
      obtain ⟨rfl, rfl⟩ := e'
      clear hdl hdl1
      have hxt := ((hA1.below hb3).at_ r HMem.out).1
      by_cases hd : digE r.digest (lastD ⟨#[]⟩ dl) ≠ 0
      · have hrv : risP ⟨#[]⟩ dl1 = digE r.digest (lastD ⟨#[]⟩ dl) := Hrs.out
        have hrf := Hnx.out.trans (if_pos hd)
        have HF : Hid (res = digE r.digest (lastD ⟨#[]⟩ dl)) := by
          have := HR.out
          rw [hrf, if_pos hd] at this
          exact this
        rw [hrv] at cR
        generalize digE r.digest (lastD ⟨#[]⟩ dl) = de at *
        have hne : ((de : Int) != 0) = true := by rw [bne_iff_ne]; omega
        have hne2 : ((de : Int) == 0) = false := beq_eq_false_iff_ne.2 (by omega)
        clear hrv hrf HR Hrs Hnx
        go_wp2_with fail
        refine cR.mono ?_
        rintro e w3 ⟨rfl, hb4⟩
        have hb5 := hb3.trans (hb4.mono hb3.size)
        clear hb4 cR hX3 hb3 hq3 y0 y1 x2
        go_wp2
        go_ret
        exact ⟨by rw [HF.out]; rfl, hb5⟩
      have hd0 : digE r.digest (lastD ⟨#[]⟩ dl) = 0 := by omega
      have hds2 : r.digest.size = 32 := (digE_zero hd0).1
      have hrv : risP ⟨#[]⟩ dl1 = 0 := Hrs.out.trans hd0
      rw [hrv] at cR
      have hnx2 := Hnx.out.trans (if_neg hd)
      have Hnx2 : Hid (refP (enT ks f) ⟨#[]⟩ (rd rs) = _) := hnx2
      have Hrv : Hid (risP ⟨#[]⟩ dl1 = 0) := hrv
      clear hd hd0 hrv hnx2 Hnx Hrs
      go_wp2_with fail
      refine cR.mono ?_
      rintro e w3 ⟨rfl, hb4⟩
      have hb5 := hb3.trans (hb4.mono hb3.size)
      have hX4 := hX3.below hb4 hX3.lt
      have hq4 := hq3.below hb4
      have hxt4 := hxt.below hb4
      have z0 : w3.cell? ⟨b, off + i * 2, none⟩ = some (.string r.digest) := (hb4.cell (p := ⟨b, off + i * 2, none⟩) hbl').trans y0
      have z1 : w3.cell? ⟨b, off + i * 2 + 1, none⟩ = some (.slice r.ao r.acks.length r.cap) := (hb4.cell (p := ⟨b, off + i * 2 + 1, none⟩) hbl').trans y1
      have hT4 := hTw.out.below hb5
      have hG4 := hGw.out.below hb5
      clear hb4 cR hX3 hb3 hq3 y0 y1 x2 hxt
      have x2 := hX4.cell (i := 2) rfl
      obtain ⟨en, hen⟩ : ∃ q, Hid (q = enT ks f r.acks r.digest) := ⟨_, rfl⟩
      have k1 : ∀ d os, Calls Tryz.prog 71 #[.pointer (some ⟨tb, 0, none⟩), .slice r.ao r.acks.length r.cap, .string ⟨#[97, 99, 107]⟩, .string r.digest] (grow (redrawn w3 d) os) fun e w'' => e = .returned (.int .i64 (en : Int)) ∧ ∃ p : Regrown, w'' = grow (redrawn w3 p.d) p.os := fun d os => Calls.regrown_of (by
        have h := Mx.refEnough_any tb f ks r.ao r.cap (pairT r.acks) ackW r.digest (grow (redrawn w3 d) os) (hT4.below (below_regrown w3 d os)) hf hkl'.out hks (hxt4.below (below_regrown w3 d os)).pairs (by rw [pairT_length]; exact hml) (by decide) (by omega) (hG4.below (below_regrown w3 d os))
        rw [pairT_length] at h
        rw [hen.out]
        exact h)
      have C2 := cell_regrown x2
      have D0 := cell_regrown z0
      have D1 := cell_regrown z1
      clear hT4 hG4 hxt4 z0 z1 hml
      go_wp2_with fail
      refine wp_region_quiet_below (by kernel_rfl) (by kernel_rfl) ?_
      iterate 13 (go_big_quiet_step (fail))
      go_big_quiet_step (exact k1 _ _)
      iterate 1 (go_big_quiet_step (fail))
      refine wpQuiet_nil ?_
      rintro w' ⟨p, rfl⟩
      have hb' := below_regrown w3 p.d p.os
      have hX5 := hX4.below hb' hX4.lt
      have hq5 := hq4.below hb'
      have hB5 := hb5.trans (hb'.mono hb5.size)
      generalize grow (redrawn w3 p.d) p.os = w4 at hX5 hB5 hq5 ⊢
      clear k1 C2 D0 D1 hX4 hb5 hb' x2 hq4
      by_cases he : en ≠ 0
      · have hne : ((en : Int) != 0) = true := by rw [bne_iff_ne]; omega
        have hee : enT ks f r.acks r.digest ≠ 0 := by rw [← hen.out]; exact he
        have HF : Hid (res = en) := by
          have hrf := Hnx2.out.trans (if_pos hee)
          have := HR.out
          rw [hrf, if_pos hee] at this
          rw [hen.out]
          exact this
        clear HR Hnx2 hee
        go_wp2
        go_ret
        exact ⟨by rw [HF.out]; rfl, hB5⟩
      · have hen0 : en = 0 := by omega
        subst hen0
        have hee : ¬ enT ks f r.acks r.digest ≠ 0 := by rw [← hen.out]; simp
        have HI2 : Hid (risP ⟨#[]⟩ (digs (rs.take (i + 1))) = 0 ∧ refP (enT ks f) ⟨#[]⟩ (rd rs) = refP (enT ks f) (lastD ⟨#[]⟩ (digs (rs.take (i + 1)))) (rd (rs.drop (i + 1)))) := by
          rw [← Hdle1.out]
          refine ⟨Hrv.out, ?_⟩
          rw [Hlast.out]
          exact Hnx2.out.trans (if_neg hee)
        rw [Hdle1.out] at hq5
        clear Hnx2 hee hen
        go_wp2
        go_roundw
        case rel => exact ⟨i + 1, by omega, by go_num, hq5, hX5, hB5, HI2⟩
        case measure => simp [intOf]; omega
    · have hrz : refP (enT ks f) ⟨#[]⟩ (rd rs) = 0 := by
        have := HI.out.2
        rw [List.drop_eq_nil_of_le (by omega)] at this
        exact this
      have HR2 := HR.out
      rw [hrz, if_neg (by simp)] at HR2
      have H2 : Hid (res = _) := HR2
      have x3 := hX.cell (i := 3) rfl
      have x1 := hX.cell (i := 1) rfl
      have cP := refRising_any pa pc ps wr (hA2.below hb) hpm'
      clear HR HR2 hrz HI hq
      by_cases h7 : risP ⟨#[]⟩ ps ≠ 0
      · have HF : Hid (res = risP ⟨#[]⟩ ps) := H2.out.trans (if_pos h7)
        have hne : ((risP ⟨#[]⟩ ps : Int) != 0) = true := by rw [bne_iff_ne]; omega
        clear H2
        generalize risP ⟨#[]⟩ ps = de at *
        go_wp2_with fail
        refine cP.mono ?_
        rintro e w3 ⟨rfl, hb3⟩
        have hb4 := hb.trans (hb3.mono hb.size)
        clear cP hb3 hX x1 x2 x3 hb
        go_wp2
        go_ret
        exact ⟨by rw [HF.out]; rfl, hb4⟩
      have H3 : Hid (res = countE (3 * f + 1) (2 * f + 1) ro ps.length) := H2.out.trans (if_neg h7)
      have h70 : risP ⟨#[]⟩ ps = 0 := by omega
      rw [h70] at cP
      clear H2 h7 h70
      go_wp2_with fail
      refine cP.mono ?_
      rintro e w3 ⟨rfl, hb3⟩
      have hb4 := hb.trans (hb3.mono hb.size)
      have hX4 := hX.below hb3 hX.lt
      have hT4 := hTw.out.below hb4
      have cN4 := cN w3 hT4
      have cD4 := cD w3 hT4
      clear cP hb3 hX x1 x2 x3 hb
      have x1 := hX4.cell (i := 1) rfl
      have x3 := hX4.cell (i := 3) rfl
      unfold countE at H3
      rw [← hnn.out, ← hnd.out] at H3
      unfold maxLen at hpm'
      by_cases k1 : ro = 1
      · subst k1
        by_cases k2 : 0 < ps.length
        · have k2' : (0 : Int) < (ps.length : Int) := by omega
          have HF : Hid (res = 3) := H3.out.trans (if_pos ⟨rfl, k2⟩)
          clear H3
          go_wp2
          go_ret
          exact ⟨by rw [HF.out]; rfl, hb4⟩
        · have k3 : ps.length = 0 := by omega
          have HF : Hid (res = 0) := by
            have := H3.out
            rw [if_neg (fun h => k2 h.2), if_neg (fun h => by omega), if_neg (by omega)] at this
            exact this
          have k2' : ¬ (0 : Int) < (ps.length : Int) := by omega
          have k4 : ¬ ((nn : Int) < (ps.length : Int)) := by omega
          have k4' : ¬ (nn < ps.length) := by omega
          clear H3 k2 k3
          go_wp2_with fail
          go_big_quiet (fail)
          have hbq := below_drewN (Below.refl w3.heap.size w3) nq
          have hX5 := hX4.below hbq hX4.lt
          have hB5 := hb4.trans (hbq.mono hb4.size)
          have hT5 := hT4.below hbq
          generalize w3.drewN nq = w4 at *
          have cN5 := cN w4 hT5
          clear hX4 hb4 hT4 cN4 cD4 x1 x3 cN cD hbq
          have x3 := hX5.cell (i := 3) rfl
          go_wp2_with fail
          go_big_quiet (exact Calls.quiet_of_same (cN5 _))
          have hBF := below_drewN hB5 nq
          clear hX5 hB5 hT5 cN5 x3
          go_wp2
          go_ret
          exact ⟨by rw [HF.out]; rfl, hBF⟩
      · have k1' : (ro == 1) = false := beq_eq_false_iff_ne.2 k1
        have k5 : 1 < ro := by omega
        have dk5 : decide (1 < ro) = true := decide_eq_true k5
        by_cases k6 : ps.length < nd
        · have k6' : (ps.length : Int) < (nd : Int) := by omega
          have HF : Hid (res = 12) := by
            have := H3.out
            rw [if_neg (fun h => k1 h.1), if_pos ⟨k5, k6⟩] at this
            exact this
          clear H3 k1
          go_wp2_with fail
          go_big_quiet (exact Calls.quiet_of_same (cD4 _))
          have hBF := below_drewN hb4 nq
          clear hX4 hb4 hT4 cN4 cD4 x1 x3 cN cD
          go_wp2
          go_ret
          exact ⟨by rw [HF.out]; rfl, hBF⟩
        · have k6' : ¬ (ps.length : Int) < (nd : Int) := by omega
          by_cases k7 : nn < ps.length
          · have k7' : (nn : Int) < (ps.length : Int) := by omega
            have HF : Hid (res = 8) := by
              have := H3.out
              rw [if_neg (fun h => k1 h.1), if_neg (fun h => k6 h.2), if_pos k7] at this
              exact this
            clear H3 k1
            go_wp2_with fail
            go_big_quiet (exact Calls.quiet_of_same (cD4 _))
            have hbq := below_drewN (Below.refl w3.heap.size w3) nq
            have hX5 := hX4.below hbq hX4.lt
            have hB5 := hb4.trans (hbq.mono hb4.size)
            have hT5 := hT4.below hbq
            generalize w3.drewN nq = w4 at *
            have cN5 := cN w4 hT5
            clear hX4 hb4 hT4 cN4 cD4 x1 x3 cN cD hbq
            have x3 := hX5.cell (i := 3) rfl
            go_wp2_with fail
            go_big_quiet (exact Calls.quiet_of_same (cN5 _))
            have hBF := below_drewN hB5 nq
            clear hX5 hB5 hT5 cN5 x3
            go_wp2
            go_ret
            exact ⟨by rw [HF.out]; rfl, hBF⟩
          · have k7' : ¬ (nn : Int) < (ps.length : Int) := by omega
            have HF : Hid (res = 0) := by
              have := H3.out
              rw [if_neg (fun h => k1 h.1), if_neg (fun h => k6 h.2), if_neg k7] at this
              exact this
            clear H3 k1
            go_wp2_with fail
            go_big_quiet (exact Calls.quiet_of_same (cD4 _))
            have hbq := below_drewN (Below.refl w3.heap.size w3) nq
            have hX5 := hX4.below hbq hX4.lt
            have hB5 := hb4.trans (hbq.mono hb4.size)
            have hT5 := hT4.below hbq
            generalize w3.drewN nq = w4 at *
            have cN5 := cN w4 hT5
            clear hX4 hb4 hT4 cN4 cD4 x1 x3 cN cD hbq
            have x3 := hX5.cell (i := 3) rfl
            go_wp2_with fail
            go_big_quiet (exact Calls.quiet_of_same (cN5 _))
            have hBF := below_drewN hB5 nq
            clear hX5 hB5 hT5 cN5 x3
            go_wp2
            go_ret
            exact ⟨by rw [HF.out]; rfl, hBF⟩
end Go.Proofs.YtmjkbdgcnoenbaaGreatDoor

/- tusklaw14.DagRounds answers true; nothing old in memory is turned. -/
namespace Go.Proofs.YtmjkbdgcnoenbaaGreatDoor
open Go Go.RowKit Go.Sort
set_option linter.unusedVariables false

/-- An act without its wild header. -/
def OpM.tame (o : OpM) : OpM := ⟨o.kind, o.author, o.back, o.odd, o.va, o.votes, o.vc, o.round, ⟨0, 0, none, [], 0, none, [], 0⟩⟩

theorem tame_in {V : World} {o : OpM} (h : RowAt boolK V o.va o.votes) (hl : o.votes.length ≤ maxLen) : OpIn V o.tame :=
  ⟨⟨nil_row _ _, fun _ => rfl, nil_row _ _, fun _ => rfl⟩, h, hl, bare_fit 0 0 none 0 [] (fun p hp => by cases hp) (by decide), by show (encH ⟨0, 0, [], []⟩).length ≤ _; decide +kernel, ⟨by show 0 * 40 ≤ _; decide, by show 0 * 16 ≤ _; decide, fun r hr => by cases hr⟩⟩

theorem tame_round (ks : List ByteArray) (n : Nat) (ids : List (List ByteArray)) (o : OpM) : (hdrO ks n ids o.tame).round ≤ (ids.length : Int) + 1 := by
  unfold hdrO OpM.tame
  simp only [if_true]
  unfold hdrA hdrP hdrP0
  split <;> simp only <;> omega

/-- All rounds are small. -/
def SmallR (d : DagD) (m : Int) : Prop := ∀ x ∈ d.L, x.c.header.round ≤ m

theorem SmallR.round {d : DagD} {m : Int} (h : SmallR d m) (hm : 0 ≤ m) (need : Nat) : roundC need d.L ≤ m := by
  rcases roundC_is need d.L with e | ⟨x, hx, e, _⟩
  · omega
  · rw [← e]; exact h x hx

theorem SmallR.add {d : DagD} {m : Int} (h : SmallR d m) (chk n : Nat) (c : CertD) (id : ByteArray) (hc : c.header.round ≤ m) : SmallR (addD chk n d c id) m := by
  unfold addD
  split
  · intro x hx
    rcases insC_mem.1 hx with rfl | hx
    · exact hc
    · exact h x hx
  · exact h

theorem SmallR.next {d : DagD} {m : Int} (h : SmallR d m) (need : Nat) : SmallR (nextD need d) m := by
  intro x hx
  rw [nextD_L] at hx
  exact h x hx

set_option maxRecDepth 100000 in
set_option maxHeartbeats 4000000 in
theorem dagRounds_walk (f self : Int) (ao : Option Addr) (cap : Nat) (ls : List OpM) (w : World) (hR : RowAt opK w ao ls) (hI : ∀ o ∈ ls, o.votes.length ≤ maxLen) (hn : ls.length ≤ maxLen) (hG : Mx.Glob w) :
    Calls Tryz.prog 6 #[.int .i64 f, .int .i64 self, .slice ao ls.length cap] w fun e w' => e = .returned (.bool true) ∧ Below w.heap.size w w' := by
  have hln : (ls.length : Int) ≤ 9223372036854775807 := by unfold maxLen at hn; omega
  have cW := works14_any w hG
  go_enter Tryz.func6, Tryz.ntmps6
  go_wp2_with fail
  refine cW.mono ?_
  rintro e w1 ⟨rfl, hb1⟩
  have cB := both14_any f self w1 (hG.below hb1)
  generalize nF f = n at cB
  clear cW
  go_wp2_with fail
  refine cB.mono ?_
  rintro e w2 ⟨V, tb, rt, db, gb, pb, S, rfl, hB⟩
  have hE := hB.env
  have h2 := hB.d1
  have hbw := hb1.trans (hB.bw.mono hb1.size)
  have hRV := hR.below hbw
  generalize pickN self (3 * n + 1) = me at *
  have hkl : Hid ((ksF n).length = 3 * n + 1) := hE.T.kl
  have hn2 := hE.T.f2
  have hn1 := hE.T.f1
  have hme : Hid (me < 3 * n + 1) := hE.hs
  obtain ⟨ND, hND⟩ : ∃ z, Hid (2 * n + 1 = z) := ⟨_, rfl⟩
  clear cB hB hb1 hR
  go_wp2_with fail
  go_loopw [12, 13, 14, 15, 16, 17, 18, 19] (fun v12 v13 v14 _ _ _ _ _ wr => ∃ (i : Nat) (d : DagD) (ids : List (List ByteArray)) (SD SP : Nat → Prop) (rd0 ow : Int), i ≤ 40 ∧ i ≤ ls.length ∧ v14 = .int .i64 (i : Int) ∧ v12 = .int .i64 rd0 ∧ v13 = .int .i64 ow ∧ Hid (roundC ND d.L = rd0) ∧ Hid (d.own = ow) ∧ 0 ≤ rd0 ∧ rd0 ≤ 50 ∧ D1 V n tb rt db pb me SD SP d ids wr ∧ Hid (d.low = 1) ∧ SmallR d 50 ∧ FewI ids i) (fun _ _ v _ _ _ _ _ _ => 40 - (intOf v).toNat)
  case atStart => exact ⟨0, dag0, [], S, (fun k => k = pb), 0, 0, by omega, by omega, rfl, rfl, rfl, (rfl : _ = _), (rfl : _ = _), by omega, by omega, h2, (rfl : _ = _), (fun x hx => by cases hx), ⟨Nat.zero_le _, fun l hl => by cases hl⟩⟩
  case round =>
    obtain ⟨i, d, ids, SD, SP, rd0, ow, hi40, hil, rfl, rfl, rfl, hrd, how, hr0, hr50, hD, hlow, hSm, hFi⟩ := hrel
    clear h2
    by_cases hgo : i < ls.length ∧ i < 40
    · have g1 : (i : Int) < (ls.length : Int) := by omega
      have g2 : (i : Int) < 40 := by omega
      obtain ⟨o, ho⟩ : ∃ o, ls[i]? = some o := ⟨_, List.getElem?_eq_getElem hgo.1⟩
      have hom := List.mem_of_getElem? ho
      have hO : OpIn V o.tame := tame_in (hRV.at_ o hom).2 (hI o hom)
      obtain ⟨b, off, hao, hbl, y0, y1, y2, y3, y4, y5, y6, y7, y8, y9⟩ := (hRV.below hD.bel).op ho
      subst hao
      have hbn := belowNew wr (.cells o.tame.c.toArray 35)
      have hX := Arr.new wr 35 o.tame.c
      have hD1 := hD.below hbn
      have hxb : V.heap.size ≤ wr.heap.size ∧ ¬ SD wr.heap.size ∧ ¬ SP wr.heap.size := ⟨hD.bel.size, (hD.old (Or.inr (Nat.le_refl _))).1, (hD.old (Or.inr (Nat.le_refl _))).2⟩
      have htr := tame_round (ksF n) n ids o
      clear hD ho hom
      unfold OpM.tame OpM.c at hX hD1
      simp only at hX hD1
      go_upto_region 12 with fail
      obtain ⟨w3, hw3⟩ : ∃ z, wr.alloc (.cells #[.int .i64 o.kind, .int .i64 o.author, .int .i64 o.back, .int .i64 o.odd, .slice o.va o.votes.length o.vc, .int .i64 o.round, .int .i64 0, .int .i64 0, .slice none 0 0, .slice none 0 0] 35) = z := ⟨_, rfl⟩
      have hX : Arr (wr.alloc (.cells #[.int .i64 o.kind, .int .i64 o.author, .int .i64 o.back, .int .i64 o.odd, .slice o.va o.votes.length o.vc, .int .i64 o.round, .int .i64 0, .int .i64 0, .slice none 0 0, .slice none 0 0] 35)) wr.heap.size 35 [.int .i64 o.kind, .int .i64 o.author, .int .i64 o.back, .int .i64 o.odd, .slice o.va o.votes.length o.vc, .int .i64 o.round, .int .i64 0, .int .i64 0, .slice none 0 0, .slice none 0 0] := hX
      have hD1 : D1 V n tb rt db pb me SD SP d ids (wr.alloc (.cells #[.int .i64 o.kind, .int .i64 o.author, .int .i64 o.back, .int .i64 o.odd, .slice o.va o.votes.length o.vc, .int .i64 o.round, .int .i64 0, .int .i64 0, .slice none 0 0, .slice none 0 0] 35)) := hD1
      rw [hw3] at hX hD1 ⊢
      clear hw3 hbn
      obtain ⟨xb, hxe⟩ : ∃ z, Hid (wr.heap.size = z) := ⟨_, rfl⟩
      rw [hxe.out] at hX hxb ⊢
      obtain ⟨kd, hkd⟩ : ∃ z, Hid (o.kind = z) := ⟨_, rfl⟩
      have x0 := hX.cell (i := 0) rfl
      rw [hkd.out] at x0
      clear y0 y1 y2 y3 y4 y5 y6 y7 y8 y9
      go_upto_if 51 with fail
      go_cut [13] (fun s13 wx => ∃ (d' : DagD) (ids' : List (List ByteArray)) (SD' SP' : Nat → Prop) (ow' : Int), s13 = .int .i64 ow' ∧ Hid (d'.own = ow') ∧ D1 V n tb rt db pb me SD' SP' d' ids' wx ∧ Hid (d'.low = 1) ∧ SmallR d' 50 ∧ FewI ids' (i + 1) ∧ Hid (rd0 ≤ roundC ND d'.L))
      case first =>
        by_cases k2 : kd = 2
        · subst k2
          have cN := hD1.next hE
          obtain ⟨NO, hNO⟩ : ∃ z, Hid (nextOk (2 * n + 1) d = z) := ⟨_, rfl⟩
          rw [hNO.out] at cN
          have hSm' := hSm.next (2 * n + 1)
          have hlow' : Hid ((nextD (2 * n + 1) d).low = 1) := by show _ = _; rw [nextD_low]; exact hlow.out
          have hrd' : Hid (roundC ND (nextD (2 * n + 1) d).L = rd0) := by show _ = _; rw [nextD_L]; exact hrd.out
          have hids : Hid (∀ r, idsC (nextD (2 * n + 1) d).L r = idsC d.L r) := fun r => by rw [nextD_L]
          have hown : Hid ((nextD (2 * n + 1) d).own = if NO = true then rd0 + 1 else ow) := by
            show _ = _
            unfold nextD
            rw [hNO.out]
            split
            · show roundC (2 * n + 1) d.L + 1 = _
              rw [hND.out, hrd.out]
            · exact how.out
          have hnx : Hid (NO = true → ow < rd0 + 1) := fun e => by
            have h1 := hNO.out
            rw [e] at h1
            unfold nextOk at h1
            have h2 := of_decide_eq_true h1
            rw [hND.out, hrd.out, how.out] at h2
            exact h2.1
          have hnh : Hid (NO = true → nextH (2 * n + 1) (me : Int) d [] = ⟨(me : Int), rd0 + 1, [], idsC d.L rd0⟩) := fun e => by
            unfold nextH
            rw [if_pos (by rw [hNO.out]; exact e), hND.out, hrd.out]
          have hrt : Hid (chkH (3 * n + 1) (2 * n + 1) (enT (ksF n) n) ⟨(me : Int), rd0 + 1, [], idsC d.L rd0⟩ = 0) := by
            have h1 := hD1.dag.ok.nextRight hme.out (by rw [hND.out, hrd.out]; omega) (enT (ksF n) n)
            rw [hND.out, hrd.out] at h1
            show _ = _
            rw [hND.out]
            exact h1
          have hil : Hid ((idsC d.L rd0).length ≤ 3 * n + 1) := hD1.dag.ok.idsLen rd0
          generalize nextD (2 * n + 1) d = d' at *
          go_wp2_with fail
          refine cN.mono ?_
          rintro e w4 ⟨x, rfl, hxd, hxA, hxf, SD', hD4, hf4, hk4⟩
          clear cN hD1 hX x0 hf4 hk4
          cases NO with
          | false =>
            have how' : Hid (d'.own = ow) := by show _ = _; rw [hown.out]; rfl
            have hbn := belowNew w4 (.cells x.c.toArray 33)
            have hD5 := hD4.below hbn
            unfold HdrM.c at hD5
            clear hxd hxA hxf hbn hown
            unfold HdrM.v
            go_wp2_with fail
            go_meet
            case rel => exact ⟨d', ids, SD', SP, ow, rfl, how', hD5, hlow', hSm', hFi.mono (by omega), by show _ ≤ _; rw [hrd'.out]; exact Int.le_refl _⟩
          | true =>
            have how' : Hid (d'.own = rd0 + 1) := by show _ = _; rw [hown.out]; rfl
            have hnx' := hnx.out rfl
            rw [hnh.out rfl] at hxd
            obtain ⟨xa, xr, xra, xrs, xrc, xpa, xps, xpc⟩ := x
            obtain rfl : xr = rd0 + 1 := congrArg HdrD.round hxd
            have hps : Hid (xps = idsC d.L rd0) := congrArg HdrD.parents hxd
            have hps2 : Hid (xps.length ≤ 7) := by show _ ≤ _; rw [hps.out]; have := hil.out; omega
            have hrl : Hid (rd xrs = []) := congrArg HdrD.refs hxd
            have hxd' : Hid _ := hxd
            clear hxd hown hnh hnx
            have hbn := belowNew w4 (.cells (HdrM.c ⟨xa, rd0 + 1, xra, xrs, xrc, xpa, xps, xpc⟩).toArray 33)
            have hH5 := Arr.new w4 33 (HdrM.c ⟨xa, rd0 + 1, xra, xrs, xrc, xpa, xps, xpc⟩)
            have hD5 := hD4.below hbn
            have hxA5 := hxA.below hbn
            unfold HdrM.c at hD5 hH5 hxA5
            simp only at hD5 hH5 hxA5
            unfold HdrM.v
            simp only
            go_upto_region 15 with fail
            obtain ⟨hb, hhe⟩ : ∃ z, Hid (w4.heap.size = z) := ⟨_, rfl⟩
            obtain ⟨w5, hw5⟩ : ∃ z, w4.alloc (.cells #[.int .i64 xa, .int .i64 (rd0 + 1), .slice xra xrs.length xrc, .slice xpa xps.length xpc] 33) = z := ⟨_, rfl⟩
            have hH5 : Arr (w4.alloc (.cells #[.int .i64 xa, .int .i64 (rd0 + 1), .slice xra xrs.length xrc, .slice xpa xps.length xpc] 33)) w4.heap.size 33 [.int .i64 xa, .int .i64 (rd0 + 1), .slice xra xrs.length xrc, .slice xpa xps.length xpc] := hH5
            have hD5 : D1 V n tb rt db pb me SD' SP d' ids (w4.alloc (.cells #[.int .i64 xa, .int .i64 (rd0 + 1), .slice xra xrs.length xrc, .slice xpa xps.length xpc] 33)) := hD5
            have hxA5 : HdrM.At (w4.alloc (.cells #[.int .i64 xa, .int .i64 (rd0 + 1), .slice xra xrs.length xrc, .slice xpa xps.length xpc] 33)) ⟨xa, rd0 + 1, xra, xrs, xrc, xpa, xps, xpc⟩ := hxA5
            rw [hw5] at hH5 hD5 hxA5 ⊢
            rw [hhe.out] at hH5 ⊢
            clear hw5 hxA hxf hD4 hbn
            have bl := fun d os => below_regrown w5 d os
            have k1 : ∀ d os, Calls Tryz.prog 41 #[.pointer (some ⟨rt, 0, none⟩), .agg #[.int .i64 xa, .int .i64 (rd0 + 1), .slice xra xrs.length xrc, .slice xpa xps.length xpc]] (grow (redrawn w5 d) os) fun e w'' => e = .returned (.int .i64 0) ∧ ∃ p : Regrown, w'' = grow (redrawn w5 p.d) p.os := fun d os => Calls.regrown_of (by
              have hR := hE.R.below (hD5.below (bl d os)).bel
              have h1 := refHdrCheck_any rt n (ksF n) ⟨xa, rd0 + 1, xra, xrs, xrc, xpa, xps, xpc⟩ _ hR.T hR.f2 hR.kl hR.k32 (hxA5.below (bl d os)) (fun r hr => by
                have h2 : r.d ∈ rd xrs := List.mem_map_of_mem hr
                rw [hrl.out] at h2
                cases h2) (by have := hps2.out; show xps.length ≤ maxLen; unfold maxLen; omega) hR.G
              rw [hxd'.out, hrt.out] at h1
              exact h1)
            obtain ⟨q, ys, hids', hSq, hPl⟩ := hD5.ply
            have p0 := cell_regrown (hPl.box.cell (i := 0) rfl)
            have A0 := cell_regrown (hH5.cell (i := 0) rfl)
            have A1 := cell_regrown (hH5.cell (i := 1) rfl)
            have A2 := cell_regrown (hH5.cell (i := 2) rfl)
            have A3 := cell_regrown (hH5.cell (i := 3) rfl)
            refine wp_region_quiet_below (by kernel_rfl) (by kernel_rfl) ?_
            iterate 5 (go_big_quiet_step (fail))
            go_big_quiet_step (exact k1 _ _)
            iterate 1 (go_big_quiet_step (fail))
            refine wpQuiet_nil ?_
            rintro w' ⟨p, rfl⟩
            have hD6 := hD5.below (bl p.d p.os)
            have hH6 := hH5.below (bl p.d p.os) hH5.lt
            generalize grow (redrawn w5 p.d) p.os = w6 at hD6 hH6 ⊢
            clear k1 p0 A0 A1 A2 A3 bl hPl hSq hids' hD5 hH5 hxA5
            go_upto_region 16 with fail
            have hkp : ∀ U, Below w6.heap.size w6 U → (U.cell? ⟨hb, 1, none⟩ = some (.int .i64 (rd0 + 1)) ∧ U.cell? ⟨hb, 3, none⟩ = some (.slice xpa xps.length xpc)) := fun U hU => by
              have h1 := hH6.below hU hH6.lt
              exact ⟨h1.cell (i := 1) rfl, h1.cell (i := 3) rfl⟩
            have cRd : ∀ w1, Below w6.heap.size w6 w1 → Calls Tryz.prog 32 #[.pointer (some ⟨db, 0, none⟩)] w1 fun e w' => e = .returned (.int .i64 rd0) ∧ Below w1.heap.size w1 w' := fun w1 hb1 => by
              have h1 := pdRound_any (hD6.below hb1).dag (hE.T.below (hD6.below hb1).bel)
              rw [hND.out, hrd'.out] at h1
              exact h1
            have cId : ∀ w1, Below w6.heap.size w6 w1 → Calls Tryz.prog 34 #[.pointer (some ⟨db, 0, none⟩), .int .i64 rd0] w1 fun e w' => ∃ v, e = .returned v ∧ KQ strK 9 w' w1.heap.size v xps ∧ Below w1.heap.size w1 w' := fun w1 hb1 => by
              have h1 := pdIds_any rd0 (hD6.below hb1).dag
              rw [hids.out, ← hps.out] at h1
              exact h1
            have bd : Below w6.heap.size w6 w6.drew := below_drewN (Below.refl _ w6) 1
            have hS0 := hkp _ bd
            have hw1 : IntKind.i64.wrap (rd0 + 1) = rd0 + 1 := by rw [wrap_i64P]; exact Mx.wrap64_small _ (by omega) (by omega)
            have hw2 : IntKind.i64.wrap (rd0 + 1 - 1) = rd0 := by rw [wrap_i64P, Int.add_sub_cancel]; exact Mx.wrap64_small _ (by omega) (by omega)
            have hw3 : IntKind.i64.wrap rd0 = rd0 := by rw [wrap_i64P]; exact Mx.wrap64_small _ (by omega) (by omega)
            have gle : decide (rd0 + 1 ≤ ow) = false := decide_eq_false (by omega)
            go_region_held3 (fun w' => w'.cell? ⟨hb, 1, none⟩ = some (.int .i64 (rd0 + 1)) ∧ w'.cell? ⟨hb, 3, none⟩ = some (.slice xpa xps.length xpc)) (exact hkp _ (by assumption))
              (first
              | (go_at_call 32; refine (cRd _ bd).mono ?_; rintro e wA ⟨rfl, bA0⟩; have bA : Below w6.heap.size w6 wA := bd.trans bA0)
              | (go_at_call 34; refine (cId _ bA).mono ?_; rintro e wI ⟨v, rfl, hQI, bI0⟩; have bI : Below w6.heap.size w6 wI := bA.trans (bI0.mono bA.size); obtain ⟨ia, ic, rfl, _, _⟩ := hQI.form))
            all_goals
              have hD7 := hD6.below bI
              have hH7 := hH6.below bI hH6.lt
              clear hkp cRd cId bd hS0 hw1 hw2 hw3 gle hQI bI0 bA0 bA bI hD6 hH6
              have q1 := hH7.cell (i := 1) rfl
              go_wp2_with fail
              go_meet
              exact ⟨d', ids, SD', SP, rd0 + 1, rfl, how', hD7, hlow', hSm', hFi.mono (by omega), by show _ ≤ _; rw [hrd'.out]; exact Int.le_refl _⟩
        have k2' : (kd == 2) = false := by simpa using k2
        by_cases k3 : kd = 3
        · subst k3
          clear k2 k2'
          go_wp2_with fail
          go_meet
          case rel => exact ⟨d, ids, SD, SP, ow, rfl, how, hD1, hlow, hSm, hFi.mono (by omega), by show _ ≤ _; rw [hrd.out]; exact Int.le_refl _⟩
        have k3' : (kd != 3) = true := by simpa using k3
        clear k2 k3
        have cC := hD1.cert hE hO
        unfold OpM.tame OpM.v at cC
        simp only [List.length_nil] at cC
        have x1 := hX.cell (i := 1) rfl
        have x2 := hX.cell (i := 2) rfl
        have x3 := hX.cell (i := 3) rfl
        have x4 := hX.cell (i := 4) rfl
        have x5 := hX.cell (i := 5) rfl
        have x6 := hX.cell (i := 6) rfl
        have x7 := hX.cell (i := 7) rfl
        have x8 := hX.cell (i := 8) rfl
        have x9 := hX.cell (i := 9) rfl
        rw [hkd.out] at cC
        go_wp2_with fail
        refine cC.mono ?_
        rintro e w7 ⟨c, rfl, hcd, hcA, hcf, hcl, hcL, hcv, hcfo, hb7⟩
        have hD7 := hD1.below hb7
        have hbn := belowNew w7 (.cells c.c.toArray 48)
        have hc8 := Arr.new w7 48 c.c
        have hD8 := hD7.below hbn
        have hcA8 := hcA.below hbn
        have cO := own14_any c _ hcA8 hcL (by omega)
        have hco : ∀ b, c.foot b → ¬ SD b ∧ ¬ SP b := fun b hf => hD1.old (hcfo b hf)
        have hcb : V.heap.size ≤ w7.heap.size ∧ ¬ SD w7.heap.size ∧ ¬ SP w7.heap.size := ⟨hD7.bel.size, (hD7.old (Or.inr (Nat.le_refl _))).1, (hD7.old (Or.inr (Nat.le_refl _))).2⟩
        have hcl' : ∀ b, c.foot b → b < w7.heap.size := fun b hf => Kind.lt certK hcA hf
        unfold CertM.v at cO ⊢
        unfold CertM.c at hc8 hD8 hcA8 cO
        have k0 := hc8.cell (i := 0) rfl
        have k1 := hc8.cell (i := 1) rfl
        have k2 := hc8.cell (i := 2) rfl
        have k3 := hc8.cell (i := 3) rfl
        have k4 := hc8.cell (i := 4) rfl
        have hcd' : Hid _ := hcd
        clear hcd cC hD1 hb7 hD7 hcA hbn x0 x1 x2 x3 x4 x5 x6 x7 x8 x9
        go_wp2_with fail
        refine cO.mono ?_
        rintro e w9 ⟨y, rfl, hyd, hyA, hyf, hb9⟩
        have hyh : y.hdr.d = c.hdr.d := congrArg CertD.header hyd
        have hyv : y.votes = c.votes := congrArg CertD.votes hyd
        have hD9 := hD8.below hb9
        have hc9 := hc8.below hb9 hc8.lt
        have hcA9 := hcA8.below hb9
        have hsz8 : V.heap.size ≤ _ := hD8.bel.size
        have hyo : ∀ b, y.foot b → V.heap.size ≤ b ∧ ¬ SD b ∧ ¬ SP b := fun b hf => by
          have h1 := hyf b hf
          exact ⟨Nat.le_trans hsz8 h1, fun e => by have := hD8.dag.lt e; omega, fun e => by have := (hD8.ply.lt e).2; omega⟩
        have cA := hD9.add hE y hyA (fit_same14 hyh hcf) (by rw [hyh]; exact hcl) (by rw [hyv]; omega) hyo
        rw [hyd, hyh] at cA
        obtain ⟨AE, hAE⟩ : ∃ z, Hid (addE (chkC (ksF n) n c.d) (3 * n + 1) d c.hdr.d (idB c.hdr.d) = z) := ⟨_, rfl⟩
        have hSm' := hSm.add (chkC (ksF n) n c.d) (3 * n + 1) c.d (idB c.hdr.d) (by rw [show c.d.header = hdrO (ksF n) n ids o.tame from congrArg CertD.header hcd'.out]; have := hFi.1; omega)
        have how' : Hid ((addD (chkC (ksF n) n c.d) (3 * n + 1) d c.d (idB c.hdr.d)).own = ow) := by show _ = _; rw [addD_own]; exact how.out
        have hlow' : Hid ((addD (chkC (ksF n) n c.d) (3 * n + 1) d c.d (idB c.hdr.d)).low = 1) := by show _ = _; rw [addD_low]; exact hlow.out
        have hrd' : Hid (rd0 ≤ roundC ND (addD (chkC (ksF n) n c.d) (3 * n + 1) d c.d (idB c.hdr.d)).L) := by show _ ≤ _; rw [← hrd.out]; exact roundC_add ND _ _ d c.d _
        rw [hAE.out] at cA
        generalize addD (chkC (ksF n) n c.d) (3 * n + 1) d c.d (idB c.hdr.d) = d' at *
        clear cO k0 k1 k2 k3 k4 hc8 hD8 hcA8 hb9 hyh hyv hyd
        unfold CertM.v at cA ⊢
        go_wp2_with fail
        refine cA.mono ?_
        rintro e wA ⟨rfl, SD', hDA, hfA, hkA⟩
        have hcA := hc9.kept hkA hcb.2.1
        have hcAA : c.At wA := Kind.kept certK hcA9 hkA (fun b hf => (hco b hf).1)
        clear cA hkA hc9 hcA9 hD9 
        by_cases hz0 : AE = 0
        · subst hz0
          obtain ⟨hchk, _⟩ := addE_ok hAE.out
          have hrg := chkH_range (chkC_hdr hchk).1
          have hrg1 : 1 ≤ c.hdr.round := hrg.2.2.1
          have hrg2 : c.hdr.round ≤ 4611686018427387903 := hrg.2.2.2
          have cI := hDA.ins hE c hcAA hrg1 hrg2 hcf hcl (by have := hFi.1; omega) (fun l hl => by have := hFi.2 l hl; omega) (fun b hf => (hco b (Or.inl hf)).2)
          have hFi' := hFi.ins (2 * n + 1) c.hdr.round.toNat (idB c.hdr.d)
          generalize inI (2 * n + 1) ids c.hdr.round.toNat (idB c.hdr.d) = ids' at *
          have k0 := hcA.cell (i := 0) rfl
          have k1 := hcA.cell (i := 1) rfl
          have k2 := hcA.cell (i := 2) rfl
          have k3 := hcA.cell (i := 3) rfl
          have k4 := hcA.cell (i := 4) rfl
          unfold CertM.v at cI
          clear hchk hrg hrg1 hrg2
          go_wp2_with fail
          refine cI.mono ?_
          rintro e wB ⟨rfl, SP', hDB, hfB, hkB⟩
          clear cI hkB hfB hDA k0 k1 k2 k3 k4 hcA hcAA
          go_wp2_with fail
          go_meet
          case rel => exact ⟨d', ids', SD', SP', ow, rfl, how', hDB, hlow', hSm', hFi', hrd'⟩
        · have hz1 : ¬ (AE : Int) = 0 := by omega
          clear hcA hcAA
          go_wp2_with fail
          go_meet
          case rel => exact ⟨d', ids, SD', SP, ow, rfl, how', hDA, hlow', hSm', hFi.mono (by omega), hrd'⟩
      case rest =>
        obtain ⟨d', ids', SD', SP', ow', rfl, how', hD', hlow', hSm', hFi', hrd'⟩ := hcut
        clear hD1 hX x0 hSm hFi how hlow
        obtain ⟨rd1, hrd1⟩ : ∃ z, Hid (roundC ND d'.L = z) := ⟨_, rfl⟩
        rw [hrd1.out] at hrd'
        have hr1 : rd1 ≤ 50 := by rw [← hrd1.out]; exact hSm'.round (by omega) ND
        have g1 : ¬ rd1 < rd0 := by have := hrd'.out; omega
        have hr10 : 0 ≤ rd1 := by have := hrd'.out; omega
        have cRd : ∀ w1, D1 V n tb rt db pb me SD' SP' d' ids' w1 → Calls Tryz.prog 32 #[.pointer (some ⟨db, 0, none⟩)] w1 fun e w' => e = .returned (.int .i64 rd1) ∧ Below w1.heap.size w1 w' := fun w1 h1 => by
          have h2 := pdRound_any h1.dag (hE.T.below h1.bel)
          rw [hND.out, hrd1.out] at h2
          exact h2
        obtain ⟨XL, hXL⟩ : ∃ z, Hid (idsC d'.L rd1 = z) := ⟨_, rfl⟩
        have cId : ∀ w1, D1 V n tb rt db pb me SD' SP' d' ids' w1 → Calls Tryz.prog 34 #[.pointer (some ⟨db, 0, none⟩), .int .i64 rd1] w1 fun e w' => ∃ v, e = .returned v ∧ KQ strK 9 w' w1.heap.size v XL ∧ Below w1.heap.size w1 w' := fun w1 h1 => by
          have h2 := pdIds_any rd1 h1.dag
          rw [hXL.out] at h2
          exact h2
        have cNe := fun w1 (h1 : D1 V n tb rt db pb me SD' SP' d' ids' w1) => Mx.need_any tb n (ksF n) w1 (hE.T.below h1.bel).T hn2
        rw [hND.out] at cNe
        have hen : Hid (0 < rd1 → ND ≤ XL.length) := fun e => by
          rw [← hXL.out, ← hrd1.out]
          exact roundC_enough (by rw [hrd1.out]; exact e)
        go_wp2_with fail
        refine (cRd _ hD').mono ?_
        rintro e wA ⟨rfl, hbA⟩
        have hDA := hD'.below hbA
        clear hD' hbA
        go_wp2_with fail
        refine (cRd _ hDA).mono ?_
        rintro e wB ⟨rfl, hbB⟩
        have hDB := hDA.below hbB
        clear hDA hbB
        by_cases hp : 0 < rd1
        · have g2 : ¬ (XL.length : Int) < (ND : Int) := by have := hen.out hp; omega
          go_wp2_with fail
          refine (cRd _ hDB).mono ?_
          rintro e wC ⟨rfl, hbC⟩
          have hDC := hDB.below hbC
          clear hDB hbC
          go_wp2_with fail
          refine (cId _ hDC).mono ?_
          rintro e wD ⟨v, rfl, hQD, hbD⟩
          have hDD := hDC.below hbD
          obtain ⟨ia, ic, rfl, _, _⟩ := hQD.form
          clear hDC hbD hQD
          go_wp2_with fail
          refine (cNe _ hDD).mono ?_
          rintro e wE ⟨rfl, rfl⟩
          go_wp2_with fail
          refine (cRd _ hDD).mono ?_
          rintro e wF ⟨rfl, hbF⟩
          have hDF := hDD.below hbF
          clear hDD hbF
          go_wp2
          go_roundw
          case rel => exact ⟨i + 1, d', ids', SD', SP', rd1, ow', by omega, by omega, by go_num, rfl, rfl, hrd1, how', hr10, hr1, hDF, hlow', hSm', hFi'⟩
          case measure => simp [intOf]; omega
        · go_wp2_with fail
          refine (cRd _ hDB).mono ?_
          rintro e wF ⟨rfl, hbF⟩
          have hDF := hDB.below hbF
          clear hDB hbF
          go_wp2
          go_roundw
          case rel => exact ⟨i + 1, d', ids', SD', SP', rd1, ow', by omega, by omega, by go_num, rfl, rfl, hrd1, how', hr10, hr1, hDF, hlow', hSm', hFi'⟩
          case measure => simp [intOf]; omega
    · have hbF : Below w.heap.size w wr := hbw.trans (hD.bel.mono hbw.size)
      rcases (by by_cases h : i < ls.length; exact Or.inl h; exact Or.inr h : i < ls.length ∨ ¬ i < ls.length) with hlt | hlt
      · have g1 : (i : Int) < (ls.length : Int) := by omega
        have g2 : ¬ (i : Int) < 40 := by omega
        go_wp2
        go_ret
        exact ⟨rfl, hbF⟩
      · have g1 : ¬ (i : Int) < (ls.length : Int) := by omega
        go_wp2
        go_ret
        exact ⟨rfl, hbF⟩
end Go.Proofs.YtmjkbdgcnoenbaaGreatDoor

/- How a header that came in is opened; its sizes. -/
namespace Go.Proofs.YtmjkbdgcnoenbaaGreatDoor
open Go.ChangeShapes Go.WideShapes Go.ChangeAt Go.RowKit Go.Joins Go.Deep
set_option linter.unusedVariables false

/-- How a Ref reads. -/
def RefQ {H : Type} (d : DataW H) (r : RefM) : Prop := ∃ y0 y1, d = .agg [y0, y1] ∧ StrQ y0 r.digest ∧ RowD TagQ y1 r.acks

theorem cellsRef6 : Tryz.prog.cellsOf 94 = 2 := by kernel_rfl
theorem cellsHdr6 : Tryz.prog.cellsOf 33 = 4 := by kernel_rfl
theorem cellsRefs6 : Tryz.prog.cellsOf 30 = 1 := by kernel_rfl
theorem bytesRef6 : Tryz.prog.bytesOf 94 = 40 := by kernel_rfl

set_option maxRecDepth 100000 in
theorem open_ref_cells {H : Type} {enc : TypeId × Value → H} {W : World} {fuel : Nat} {cs : List Value} {y : DataW H × List MemPlace}
    (hf : DataW.trod enc Tryz.prog W 0 (fun _ => true) true fuel 94 cs = some y) : ∃ r : RefM, cs = refK.c r ∧ refK.At W r ∧ RefQ y.1 r := by
  obtain ⟨xs, n, _, hx, hcl, hl, hg⟩ := DataW.trod_struct Tryz.underlying94 hf
  obtain ⟨c0, c1, rfl⟩ := list2x (hcl.trans cellsRef6)
  obtain ⟨y0, y1, rfl⟩ := list2x hl
  have g0 := hg 0 _ rfl
  have g1 := hg 1 _ rfl
  simp [cellsTags6, cellsStr6] at g0 g1
  obtain ⟨a0, e0, hy0, s0⟩ := DataW.trod_string Tryz.underlying9 g0
  obtain ⟨ao, len, cap, e1⟩ := slice_form Tryz.underlying46 g1
  simp at e0 e1
  subst e0 e1
  obtain ⟨l, rfl, l1, l2, l3, l4⟩ := open_tagsK g1
  refine ⟨⟨a0, l, ao, cap⟩, rfl, ⟨l1, l2⟩, y0.1, y1.1, ?_, ⟨by rw [hy0], s0⟩, l4⟩
  have := congrArg Prod.fst hx
  simpa using this

/-- How a header reads. -/
def HdrQ {H : Type} (d : DataW H) (x : HdrM) : Prop := ∃ y0 y1 y2 y3, d = .agg [y0, y1, y2, y3] ∧ RowD RefQ y2 x.refs ∧ RowD StrQ y3 x.parents

set_option maxRecDepth 100000 in
theorem open_hdr_cells {H : Type} {enc : TypeId × Value → H} {W : World} {fuel : Nat} {cs : List Value} {y : DataW H × List MemPlace}
    (hf : DataW.trod enc Tryz.prog W 0 (fun _ => true) true fuel 33 cs = some y) : ∃ x : HdrM, cs = hdrK.c x ∧ hdrK.At W x ∧ HdrQ y.1 x := by
  obtain ⟨xs, n, _, hx, hcl, hl, hg⟩ := DataW.trod_struct Tryz.underlying33 hf
  obtain ⟨c0, c1, c2, c3, rfl⟩ := list4x (hcl.trans cellsHdr6)
  obtain ⟨y0, y1, y2, y3, rfl⟩ := list4x hl
  have g0 := hg 0 _ rfl
  have g1 := hg 1 _ rfl
  have g2 := hg 2 _ rfl
  have g3 := hg 3 _ rfl
  simp [cellsInt6, cellsRefs6, cellsStrs6] at g0 g1 g2 g3
  obtain ⟨a0, e0, _, _⟩ := DataW.trod_int Tryz.underlying3 g0
  obtain ⟨a1, e1, _, _⟩ := DataW.trod_int Tryz.underlying3 g1
  obtain ⟨ra, rlen, rc, e2⟩ := slice_form Tryz.underlying30 g2
  obtain ⟨pa, plen, pc, e3⟩ := slice_form Tryz.underlying31 g3
  simp at e0 e1 e2 e3
  subst e0 e1 e2 e3
  obtain ⟨rs, rfl, r1, r2, r3, r4⟩ := open_row refK RefQ Tryz.underlying30 cellsRef6 open_ref_cells g2
  obtain ⟨ps, rfl, p1, p2, p3, p4⟩ := open_row strK StrQ Tryz.underlying31 cellsStr6 open_str_cells g3
  refine ⟨⟨a0, a1, ra, rs, rc, pa, ps, pc⟩, rfl, ⟨r1, r2, p1, p2⟩, y0.1, y1.1, y2.1, y3.1, ?_, r4, p4⟩
  have := congrArg Prod.fst hx
  simpa using this
end Go.Proofs.YtmjkbdgcnoenbaaGreatDoor

/- What the bound of the second form gives: the sizes of strings, and of slices of strings with all that they hold. -/
namespace Go.Proofs.YtmjkbdgcnoenbaaGreatDoor
open Go.ChangeShapes Go.WideShapes Go.ChangeAt Go.RowKit

theorem upto_part {H : Type} {d : DataW H} : ∀ {l : List (DataW H)}, d ∈ l → Rows.uptoBulk d ≤ Rows.uptoBulkAll l
  | [], h => by cases h
  | x :: r, h => by
    simp only [Rows.uptoBulkAll]
    rcases List.mem_cons.1 h with e | e
    · subst e; omega
    · have := upto_part e; omega

theorem upto_bound {H : Type} {l : List (DataW H)} (hk : Rows.uptoSmall H l = true) : Rows.uptoBulkAll l ≤ 1048576 := of_decide_eq_true hk

/-- How many values and letters a row of strings holds. -/
def strsBulk (ss : List ByteArray) : Nat := (ss.map (fun s => s.size + 1)).sum

theorem strsBulk_length : ∀ (ss : List ByteArray), ss.length ≤ strsBulk ss
  | [] => by simp
  | s :: ss => by
    have := strsBulk_length ss
    simp only [strsBulk, List.map_cons, List.sum_cons, List.length_cons] at this ⊢
    omega

theorem flat_bulk : ∀ (ss : List ByteArray), ((bl ss).flatMap txt).length ≤ 10 * strsBulk ss
  | [] => by simp [bl]
  | s :: ss => by
    have ih := flat_bulk ss
    have hg := goInt_length s.size
    have e : (bl (s :: ss)).flatMap txt = txt s.data.toList ++ (bl ss).flatMap txt := by simp [bl]
    rw [e, List.length_append]
    have e2 : (txt s.data.toList).length = (goInt s.size).length + s.size := by simp [txt]
    simp only [strsBulk, List.map_cons, List.sum_cons] at ih ⊢
    omega

theorem lst_bulk (ss : List ByteArray) : (lst (bl ss)).length ≤ 9 + 10 * strsBulk ss := by
  have := flat_bulk ss
  have := goInt_length (bl ss).length
  rw [lst, List.length_append]
  omega
end Go.Proofs.YtmjkbdgcnoenbaaGreatDoor

/- What the bound of the second form gives of a header that came in. -/
namespace Go.Proofs.YtmjkbdgcnoenbaaGreatDoor
open Go.ChangeShapes Go.WideShapes Go.ChangeAt Go.RowKit
set_option linter.unusedVariables false

/-- What a Ref holds. -/
def refBulk (r : RefM) : Nat := r.digest.size + 1 + tagsBulk r.acks

theorem refQ_bulk {H : Type} (y : DataW H) (r : RefM) (h : RefQ y r) : refBulk r ≤ Rows.uptoBulk y := by
  obtain ⟨y0, y1, rfl, h0, h1⟩ := h
  have q0 := h0.bulk
  have q1 := h1.bulk tagQ_bulk
  simp only [Rows.uptoBulk, Rows.uptoBulkAll, refBulk, tagsBulk]
  omega

def refsBulk (l : List RefM) : Nat := (l.map refBulk).sum

theorem refsBulk_len : ∀ (l : List RefM), l.length ≤ refsBulk l
  | [] => by simp
  | r :: l => by
    have := refsBulk_len l
    simp only [refsBulk, refBulk, List.map_cons, List.sum_cons, List.length_cons] at this ⊢
    omega

theorem refsBulk_mem : ∀ {l : List RefM} {r : RefM}, r ∈ l → refBulk r ≤ refsBulk l
  | [], r, h => by cases h
  | x :: l, r, h => by
    simp only [refsBulk, List.map_cons, List.sum_cons]
    rcases List.mem_cons.1 h with rfl | h
    · omega
    · have := refsBulk_mem h
      simp only [refsBulk] at this
      omega

theorem refs_flat_le : ∀ (l : List RefM), ((rd l).flatMap refB).length ≤ 36 * refsBulk l
  | [] => by simp [rd]
  | r :: l => by
    have ih := refs_flat_le l
    have h1 := txt_len_le r.digest.data.toList
    have h2 := tagsB_len_le r.acks
    have h3 : r.digest.data.toList.length = r.digest.size := by simp
    have e : (rd (r :: l)).flatMap refB = refB r.d ++ (rd l).flatMap refB := by simp [rd]
    have e2 : refB r.d = txt r.digest.data.toList ++ tagsB r.acks := rfl
    rw [e, List.length_append, e2, List.length_append]
    simp only [refsBulk, refBulk, List.map_cons, List.sum_cons] at ih ⊢
    omega

theorem hdr_bulk {H : Type} {d : DataW H} {x : HdrM} (h : HdrQ d x) (hk : Rows.uptoBulk d ≤ 1048576) : x.Lens ∧ x.Fit ∧ (encH x.d).length ≤ 1073741824 := by
  obtain ⟨y0, y1, y2, y3, rfl, h2, h3⟩ := h
  have q2 := h2.bulk refQ_bulk
  have q3 := h3.bulk StrQ.bulk
  simp only [Rows.uptoBulk, Rows.uptoBulkAll] at hk
  have b2 : refsBulk x.refs ≤ 1048576 := by unfold refsBulk; omega
  have b3 : strsBulk x.parents ≤ 1048576 := by unfold strsBulk; omega
  have l2 := refsBulk_len x.refs
  have l3 := strsBulk_length x.parents
  have la : ∀ r ∈ x.refs, tagsBulk r.acks ≤ 1048576 := fun r hr => by
    have := refsBulk_mem hr
    unfold refBulk at this
    omega
  have f2 := refs_flat_le x.refs
  have f3 := lst_bulk x.parents
  have g0 := goInt_length x.author
  have g1 := goInt_length x.round
  have g2 := goInt_length ((rd x.refs).length : Int)
  have hl : (encH x.d).length ≤ 1073741824 := by
    show (goInt x.author ++ goInt x.round ++ goInt ((rd x.refs).length : Int) ++ (rd x.refs).flatMap refB ++ lst (bl x.parents)).length ≤ _
    simp only [List.length_append]
    omega
  refine ⟨⟨by omega, by omega, fun r hr => ?_⟩, ⟨by omega, by omega, fun r hr => ?_, fun r hr t ht => ?_, by omega⟩, hl⟩
  · have := la r hr; have := tagsBulk_len r.acks; omega
  · have := la r hr; have := tagsBulk_len r.acks; omega
  · have := la r hr; have := tagsBulk_mem ht; omega
end Go.Proofs.YtmjkbdgcnoenbaaGreatDoor
