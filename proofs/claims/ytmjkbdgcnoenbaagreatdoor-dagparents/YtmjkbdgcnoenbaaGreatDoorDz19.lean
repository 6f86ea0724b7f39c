/- DagParents: for every input the statement answers true, and each argument reads afterwards as it read before. Condition: the two tables of package mix read as the program's text lays them; no other. -/
import Derived.Test.YtmjkbdgcnoenbaaGreatDoorDz18
import Derived.Test.YtmjkbdgcnoenbaaGreatDoorDz11
import Derived.Test.YtmjkbdgcnoenbaaGreatDoorDz02
import Derived.Deep.DeepCutAuto
import Derived.Lib.QuietBelow
import Derived.BigQuiet
import Derived.Test.YtmjkbdgcnoenbaaGreatDoorDz06
import Derived.Test.YtmjkbdgcnoenbaaGreatDoorDz04
import Derived.Test.YtmjkbdgcnoenbaaGreatDoorCards
import Derived.Test.YtmjkbdgcnoenbaaGreatDoorTie
import Derived.SevenTiedAt
/- tusklaw14.DagParents answers true; nothing old in memory is turned. -/
namespace Go.Proofs.YtmjkbdgcnoenbaaGreatDoor
open Go Go.RowKit Go.Sort
set_option linter.unusedVariables false

set_option maxRecDepth 100000 in
set_option maxHeartbeats 4000000 in
theorem dagParents_walk (f self : Int) (ao : Option Addr) (cap : Nat) (ts : List Int) (w : World) (hR : RowAt intK w ao ts) (hn : ts.length ≤ maxLen) (hG : Mx.Glob w) :
    Calls Tryz.prog 7 #[.int .i64 f, .int .i64 self, .slice ao ts.length cap] w fun e w' => e = .returned (.bool true) ∧ Below w.heap.size w w' := by
  have hln : (ts.length : Int) ≤ 9223372036854775807 := by unfold maxLen at hn; omega
  have cW := works14_any w hG
  go_enter Tryz.func7, Tryz.ntmps7
  go_wp2_with fail
  refine cW.mono ?_
  rintro e w1 ⟨rfl, hb1⟩
  have cB := both14_any f self w1 (hG.below hb1)
  generalize nF f = n at cB
  clear cW
  go_wp2_with fail
  refine cB.mono ?_
  rintro e w2 ⟨V, tb, rt, db, gb, pb, S, rfl, hB⟩
  have hE := hB.env
  have h2 := hB.d1
  have hbw := hb1.trans (hB.bw.mono hb1.size)
  have hRV := hR.below hbw
  generalize pickN self (3 * n + 1) = me at *
  have hkl : Hid ((ksF n).length = 3 * n + 1) := hE.T.kl
  have hn2 := hE.T.f2
  have hn1 := hE.T.f1
  have hme : Hid (me < 3 * n + 1) := hE.hs
  obtain ⟨ND, hND⟩ : ∃ z, Hid (2 * n + 1 = z) := ⟨_, rfl⟩
  have hN7 : 3 ≤ ND ∧ ND ≤ 5 := by have := hND.out; omega
  obtain ⟨i0, z0, hi0, hz0, hz1, hz2, hz3⟩ := certInfo14
  clear cB hB hb1 hR
  go_wp2_with fail
  go_loopw [12, 13, 14] (fun v12 v13 _ wr => ∃ (i : Nat) (L : List CertM), i ≤ ND ∧ v13 = .int .i64 (i : Int) ∧ D1 V n tb rt db pb me S (fun k => k = pb) dag0 [] wr ∧ LP V n S (fun k => k = pb) v12 L (List.range i) wr) (fun _ v _ _ => ND - (intOf v).toNat)
  case atStart => exact ⟨0, [], Nat.zero_le _, rfl, h2, ⟨KQ.empty _ _ _ _, rfl, (fun c hc => by cases hc), (fun k hk => by simp [Value.ownBlock] at hk), (fun c hc => by cases hc)⟩⟩
  case round =>
    obtain ⟨i, L, hi, rfl, hD, hL⟩ := hrel
    clear h2
    have cNe := Mx.need_any tb n (ksF n) wr (hE.T.below hD.bel).T hn2
    rw [hND.out] at cNe
    obtain ⟨la, lc, rfl, hln, hlr⟩ := hL.row.form
    have hLl : Hid (L.length = i) := hL.len.trans List.length_range
    clear hln hlr
    go_wp2_with fail
    refine cNe.mono ?_
    rintro e wx ⟨rfl, rfl⟩
    clear cNe
    by_cases hil : i < ND
    · have g1 : (i : Int) < (ND : Int) := by omega
      have cC := hD.cert hE (opA_in V (i : Int) 3)
      rw [certO_first (ksF n) n i 3 (by have := hND.out; omega) hn2] at cC
      unfold opA OpM.v at cC
      simp only [List.length_nil] at cC
      go_wp2_with fail
      refine cC.mono ?_
      rintro e w4 ⟨c, rfl, hcd, hcA, hcf, hcl, hcL, hcv, hcfo, hb4⟩
      replace hcd : Hid _ := hcd
      have hb5 := belowNew w4 (.cells #[.int .i64 c.hdr.author, .int .i64 c.hdr.round, .slice c.hdr.ra c.hdr.refs.length c.hdr.rc, .slice c.hdr.pa c.hdr.parents.length c.hdr.pc, .slice c.va c.votes.length c.vc] 48)
      have hC5 := Arr.new w4 48 [.int .i64 c.hdr.author, .int .i64 c.hdr.round, .slice c.hdr.ra c.hdr.refs.length c.hdr.rc, .slice c.hdr.pa c.hdr.parents.length c.hdr.pc, .slice c.va c.votes.length c.vc]
      have hcA5 := hcA.below hb5
      have hb45 := hb4.trans (hb5.mono hb4.size)
      have hb6 := belowNew (w4.alloc (.cells #[.int .i64 c.hdr.author, .int .i64 c.hdr.round, .slice c.hdr.ra c.hdr.refs.length c.hdr.rc, .slice c.hdr.pa c.hdr.parents.length c.hdr.pc, .slice c.va c.votes.length c.vc] 48)) (.cells #[.int .i64 c.hdr.author, .int .i64 c.hdr.round, .slice c.hdr.ra c.hdr.refs.length c.hdr.rc, .slice c.hdr.pa c.hdr.parents.length c.hdr.pc, .slice c.va c.votes.length c.vc] 48)
      have hR6 := certOne (w4.alloc (.cells #[.int .i64 c.hdr.author, .int .i64 c.hdr.round, .slice c.hdr.ra c.hdr.refs.length c.hdr.rc, .slice c.hdr.pa c.hdr.parents.length c.hdr.pc, .slice c.va c.votes.length c.vc] 48)) c hcA5
      have hsz : Hid ((w4.alloc (.cells #[.int .i64 c.hdr.author, .int .i64 c.hdr.round, .slice c.hdr.ra c.hdr.refs.length c.hdr.rc, .slice c.hdr.pa c.hdr.parents.length c.hdr.pc, .slice c.va c.votes.length c.vc] 48)).heap.size = w4.heap.size + 1) := alloc_size _ _
      have hnw := hR6.news
      rw [flatK_single] at hnw
      rw [hsz.out] at hnw
      have hcA6 := hcA5.below hb6
      have hb46 := hb45.trans (hb6.mono hb45.size)
      have hD6 := hD.below hb46
      have hL6 := hL.below hb46
      have hbs6 := hD6.bel.size
      have hco : ∀ b, certK.foot c b → (Value.slice la L.length lc).ownBlock ≠ some b := fun b hf e => by
        have h1 := hL.row.lt b e
        rcases hcfo b hf with h | h
        · omega
        · omega
      have hcS := fun b hf => hD.old (hcfo b hf)
      have m1 : L.length + 1 ≤ maxLen := by have := hLl.out; unfold maxLen; omega
      have m2 : (L.length + 1) * 88 ≤ 140737488355328 := by have := hLl.out; omega
      have x0 := hC5.cell (i := 0) rfl
      have x1 := hC5.cell (i := 1) rfl
      have x2 := hC5.cell (i := 2) rfl
      have x3 := hC5.cell (i := 3) rfl
      have x4 := hC5.cell (i := 4) rfl
      unfold CertM.v
      clear cC hb4 hb5 hC5 hcA5 hb45 hb6 hR6 hsz hcA
      go_wp2_with (at_builtin; refine wpList_pushF (K := certK) rfl _ _ 82 rfl V.heap.size 48 i0 _ 88 Tryz.underlying82 hi0 hz0 hz1 hz2 hz3 _ L rfl hL6.row c hcA6 hco ⟨w4.heap.size + 1, 0, none⟩ 1 rfl hnw m1 m2 hbs6 ?_)
      intro ao3 cap3 w7 hQ7 hk7 hf7
      have hD7 := hD6.kept hk7 (fun k hk => ⟨(hL6.row.lt k hk).1, hL6.offq k hk⟩)
      have hL7 : LP V n S (fun k => k = pb) (.slice ao3 (L.length + 1) cap3) (L ++ [c]) (List.range (i + 1)) w7 := by
        refine ⟨hQ7, ?_, fun y hy => ?_, fun k hk => ?_, fun y hy => ?_⟩
        · rw [List.map_append, List.range_succ, List.map_append, hL6.dat]
          show _ ++ [c.d] = _ ++ [certA (ksF n) n i]
          rw [hcd.out]
        · rcases List.mem_append.1 hy with h | h
          · exact hL6.fit y h
          · rw [List.mem_singleton.1 h]; exact ⟨hcf, hcl, hcL, hcv⟩
        · rcases hf7 k hk with h | h
          · exact hL6.offq k h
          · exact hD6.old (Or.inr h)
        · rcases List.mem_append.1 hy with h | h
          · exact hL6.off y h
          · rw [List.mem_singleton.1 h]; exact hcS
      clear hQ7 hk7 hf7 hD6 hL6 hL hD hcA6 hnw hb46 x0 x1 x2 x3 x4 m1 m2 hbs6 hco hcS
      go_wp2
      go_roundw
      case rel => exact ⟨i + 1, L ++ [c], by omega, by go_num, hD7, hL7⟩
      case measure => simp [intOf]; omega
    · have g1 : ¬ (i : Int) < (ND : Int) := by omega
      obtain rfl : ND = i := by omega
      rw [hLl.out] at hL ⊢
      have hlt : Hid (L.length = ND) := hLl
      clear hLl hil hi hi0 hz0 hz1 hz2 hz3
      go_wp2_with fail
      go_loopw [15] (fun v15 wr => ∃ (i : Nat) (SP : Nat → Prop), i ≤ ND ∧ v15 = .int .i64 (i : Int) ∧ D1 V n tb rt db pb me S SP dag0 (if i = 0 then [] else [upIds i]) wr ∧ LP V n S SP (.slice la ND lc) L (List.range ND) wr) (fun v _ => ND - (intOf v).toNat)
      case atStart => exact ⟨0, _, Nat.zero_le _, rfl, hD, hL⟩
      case round =>
        obtain ⟨i, SP, hi, rfl, hD2, hL2⟩ := hrel
        clear hD hL
        by_cases hil : i < ND
        · have g2 : (i : Int) < (ND : Int) := by omega
          obtain ⟨c, a, hci, hai, hcd⟩ := hL2.get (i := i) (by have := hlt.out; omega)
          obtain rfl : i = a := by
            rw [List.getElem?_range hil] at hai
            simpa using hai
          have hcm := List.mem_of_getElem? hci
          have hrow : RowAt certK wr la L := by
            obtain ⟨la', lc', e1, _, h1⟩ := hL2.row.form
            simp only [Value.slice.injEq] at e1
            rw [e1.1]; exact h1
          obtain ⟨b, off, hla, hbl, y0, y1, y2, y3, y4⟩ := hrow.cert5 hci
          have hch : c.hdr.d = hdr1 i := congrArg CertD.header hcd
          have hcr : c.hdr.round = 1 := congrArg HdrD.round hch
          have hfit := hL2.fit c hcm
          have hup := upIds_is i (by omega)
          have cI := hD2.ins hE c (hL2.row.at_ c hcm) (by omega) (by omega) hfit.1 hfit.2.1 (by split <;> simp) (fun l hl => by
            split at hl
            · cases hl
            · rw [List.mem_singleton.1 hl, hup.len]; omega) (fun b hf => (hL2.off c hcm b (Or.inl hf)).2)
          have e1 : inI (2 * n + 1) (if i = 0 then [] else [upIds i]) c.hdr.round.toNat (idB c.hdr.d) = [upIds (i + 1)] := by rw [hcr, hch]; exact inI_first _ _
          rw [e1] at cI
          unfold CertM.v at cI
          subst hla
          clear e1 hfit hup hch hcr hcd hrow hai
          go_wp2_with fail
          refine cI.mono ?_
          rintro e w4 ⟨rfl, SP', hD4, hf4, hk4⟩
          have hL4 := hL2.move hL2 hk4 (fun k e => Or.inr e) (fun k e => Or.inl e) hf4
          clear cI hf4 hk4 y0 y1 y2 y3 y4 hD2 hL2
          go_wp2
          go_roundw
          case rel => exact ⟨i + 1, SP', by omega, by go_num, by rw [if_neg (by omega)]; exact hD4, hL4⟩
          case measure => simp [intOf]; omega
        · have g2 : ¬ (i : Int) < (ND : Int) := by omega
          obtain rfl : ND = i := by omega
          rw [if_neg (by omega)] at hD2
          have cH := hD2.header hE (opA_in V 1 0)
          have e2 : hdrO (ksF n) n [upIds ND] (opA 1 0) = hdrUp ND := by
            have h := hdrO_up (ksF n) n hn1 hn2
            rw [hND.out] at h
            exact h
          rw [e2] at cH
          unfold opA OpM.v at cH
          simp only [List.length_nil] at cH
          clear e2
          go_wp2_with fail
          refine cH.mono ?_
          rintro e w4 ⟨x, rfl, hxd, hxA, hxf, hxl, hxL, hxfo, hb4⟩
          replace hxd : Hid _ := hxd
          have hD4 := hD2.below hb4
          have hL4 := hL2.below hb4
          have hb5 := belowNew w4 (.cells #[.int .i64 x.author, .int .i64 x.round, .slice x.ra x.refs.length x.rc, .slice x.pa x.parents.length x.pc] 33)
          have hH5 := Arr.new w4 33 [.int .i64 x.author, .int .i64 x.round, .slice x.ra x.refs.length x.rc, .slice x.pa x.parents.length x.pc]
          have hD5 := hD4.below hb5
          have hL5 := hL4.below hb5
          have hown : ∀ k, (Value.slice la ND lc).ownBlock = some k → V.heap.size ≤ k ∧ k < wr.heap.size := fun k e => hL2.row.lt k e
          have hP5 : HP V ND S SP (.slice la ND lc) w4.heap.size x _ := ⟨hH5, hxA.below hb5, hxd.out, hxf, hxl, hxL, ⟨hD4.bel.size, (hD4.old (Or.inr (Nat.le_refl _))).1, (hD4.old (Or.inr (Nat.le_refl _))).2, fun e => by have := (hown _ e).2; have := hb4.size; omega⟩, fun b hf => ⟨(hD2.old (hxfo b hf)).1, (hD2.old (hxfo b hf)).2, fun e => by have := hown b e; rcases hxfo b hf with h | h <;> omega⟩⟩
          have hT := Turned.range ND
          clear cH hb4 hD2 hL2 hD4 hL4 hH5 hxA hxfo hb5 hown
          unfold HdrM.v
          go_wp2_with fail
          obtain ⟨hb, hhb⟩ : ∃ z, Hid (w4.heap.size = z) := ⟨_, rfl⟩
          rw [hhb.out] at hP5 ⊢
          generalize w4.alloc _ = w5 at *
          generalize List.range ND = qs at *
          go_loopw [17, 18, 19] (fun v17 _ _ wr => ∃ (i : Nat) (L : List CertM) (qs : List Nat), i ≤ 20 ∧ i ≤ ts.length ∧ v17 = .int .i64 (i : Int) ∧ D1 V n tb rt db pb me S SP dag0 [upIds ND] wr ∧ LP V n S SP (.slice la ND lc) L qs wr ∧ Turned ND qs ∧ HP V ND S SP (.slice la ND lc) hb x wr) (fun v _ _ _ => 20 - (intOf v).toNat)
          case atStart => exact ⟨0, L, qs, by omega, by omega, rfl, hD5, hL5, hT, hP5⟩
          case round =>
            clear hD5 hL5 hT hP5 hlt
            obtain ⟨i, L, qs, hi20, his, rfl, hD, hL, hT, hP⟩ := hrel
            by_cases hgo : i < ts.length ∧ i < 20
            · have g1 : (i : Int) < (ts.length : Int) := by omega
              have g2 : (i : Int) < 20 := by omega
              obtain ⟨t, ht⟩ : ∃ t, ts[i]? = some t := ⟨_, List.getElem?_eq_getElem hgo.1⟩
              obtain ⟨tbk, toff, hao, htl, t0⟩ := (hRV.below hD.bel).int ht
              obtain ⟨hja, hje, hje2⟩ := pickN_spec t ND (by omega) (by omega)
              have hjb : i % ND < ND := Nat.mod_lt _ (by omega)
              have hjbe : (i : Int).tmod (ND : Int) = ((i % ND : Nat) : Int) := by rw [Int.tmod_eq_emod_of_nonneg (by omega)]; rfl
              have hu : IntKind.u64.wrap (ND : Int) = (ND : Int) := by rw [Mx.wrap_u64]; omega
              have hNz : ¬ (ND : Int) = 0 := by omega
              generalize pickN t ND = a at *
              generalize i % ND = b at *
              subst hao
              go_upto_region 20 with fail
              go_quiet (fail)
              have hb1 := below_drewN (Below.refl wr.heap.size wr) nq
              have hD6 := hD.below hb1
              have hL6 := hL.below hb1
              have hP6 := hP.below hb1
              generalize wr.drewN nq = w6 at *
              clear hb1 hD hL hP t0 hje hje2 hjbe hu hNz
              obtain ⟨c, qa, hca, hqa, _⟩ := hL6.get (i := a) (by rw [hL6.len, hT.len]; exact hja)
              obtain ⟨e, qb, heb, hqb, _⟩ := hL6.get (i := b) (by rw [hL6.len, hT.len]; exact hjb)
              have ga1 : ¬ (a : Int) < 0 := by omega
              have ga2 : (a : Int) < (ND : Int) := by omega
              have gb1 : ¬ (b : Int) < 0 := by omega
              have gb2 : (b : Int) < (ND : Int) := by omega
              obtain ⟨g, off, hla, hgl, sf, se, sc, hk8, hL8⟩ := (hL6.below (below_drewN (Below.refl w6.heap.size w6) 1)).swap hca heb hqa hqb
              subst hla
              have hD7 := hD6.below (below_drewN (Below.refl w6.heap.size w6) 1)
              have hP7 := hP6.below (below_drewN (Below.refl w6.heap.size w6) 1)
              have hL7 := hL6.below (below_drewN (Below.refl w6.heap.size w6) 1)
              have hth1 : w6.drew.there g (off + a * 5) 5 := fun j hj => by
                obtain ⟨u, hu⟩ : ∃ u, c.c[j]? = some u := ⟨_, List.getElem?_eq_getElem (by show j < 5; exact hj)⟩
                exact ⟨by rw [show w6.drew = w6.drewN 1 from rfl, sc j u hu]; rfl, sf _⟩
              have hth2 : (w6.drew.setCells g (off + a * 5) [.int .i64 e.hdr.author, .int .i64 e.hdr.round, .slice e.hdr.ra e.hdr.refs.length e.hdr.rc, .slice e.hdr.pa e.hdr.parents.length e.hdr.pc, .slice e.va e.votes.length e.vc]).there g (off + b * 5) 5 := World.there_setCells (fun j hj => by
                obtain ⟨u, hu⟩ : ∃ u, e.c[j]? = some u := ⟨_, List.getElem?_eq_getElem (by show j < 5; exact hj)⟩
                exact ⟨by rw [show w6.drew = w6.drewN 1 from rfl, se j u hu]; rfl, sf _⟩) g (off + a * 5) e.c
              have rc : w6.drew.rangeAt g (off + a * 5) [.int .i64 c.hdr.author, .int .i64 c.hdr.round, .slice c.hdr.ra c.hdr.refs.length c.hdr.rc, .slice c.hdr.pa c.hdr.parents.length c.hdr.pc, .slice c.va c.votes.length c.vc] := fun j u hu => sc j u hu
              have re : w6.drew.rangeAt g (off + b * 5) [.int .i64 e.hdr.author, .int .i64 e.hdr.round, .slice e.hdr.ra e.hdr.refs.length e.hdr.rc, .slice e.hdr.pa e.hdr.parents.length e.hdr.pc, .slice e.va e.votes.length e.vc] := fun j u hu => se j u hu
              have hof := hL7.row.lt g rfl
              have hoq := hL7.offq g rfl
              have hD8 : D1 V n tb rt db pb me S SP dag0 [upIds ND] ((w6.drew.setCells g (off + a * 5) [.int .i64 e.hdr.author, .int .i64 e.hdr.round, .slice e.hdr.ra e.hdr.refs.length e.hdr.rc, .slice e.hdr.pa e.hdr.parents.length e.hdr.pc, .slice e.va e.votes.length e.vc]).setCells g (off + b * 5) [.int .i64 c.hdr.author, .int .i64 c.hdr.round, .slice c.hdr.ra c.hdr.refs.length c.hdr.rc, .slice c.hdr.pa c.hdr.parents.length c.hdr.pc, .slice c.va c.votes.length c.vc]) := hD7.kept hk8 (fun k hk => by have e' : k = g := hk; rw [e']; exact ⟨hof.1, hoq⟩)
              have hP8 : HP V ND S SP (.slice (some ⟨g, off, none⟩) ND lc) hb x ((w6.drew.setCells g (off + a * 5) [.int .i64 e.hdr.author, .int .i64 e.hdr.round, .slice e.hdr.ra e.hdr.refs.length e.hdr.rc, .slice e.hdr.pa e.hdr.parents.length e.hdr.pc, .slice e.va e.votes.length e.vc]).setCells g (off + b * 5) [.int .i64 c.hdr.author, .int .i64 c.hdr.round, .slice c.hdr.ra c.hdr.refs.length c.hdr.rc, .slice c.hdr.pa c.hdr.parents.length c.hdr.pc, .slice c.va c.votes.length c.vc]) := hP7.turned (hk8.mono (fun k _ e' => by have e'' : k = g := e'; rw [e'']; rfl))
              have hL8 : LP V n S SP (.slice (some ⟨g, off, none⟩) ND lc) ((L.set a e).set b c) ((qs.set a qb).set b qa) ((w6.drew.setCells g (off + a * 5) [.int .i64 e.hdr.author, .int .i64 e.hdr.round, .slice e.hdr.ra e.hdr.refs.length e.hdr.rc, .slice e.hdr.pa e.hdr.parents.length e.hdr.pc, .slice e.va e.votes.length e.vc]).setCells g (off + b * 5) [.int .i64 c.hdr.author, .int .i64 c.hdr.round, .slice c.hdr.ra c.hdr.refs.length c.hdr.rc, .slice c.hdr.pa c.hdr.parents.length c.hdr.pc, .slice c.va c.votes.length c.vc]) := hL8
              have hT8 := hT.swap hqa hqb
              have hiC : (Tryz.prog.info? 48).map (·.size) = some 5 := infoCert7
              have hoE : (#[.int .i64 e.hdr.author, .int .i64 e.hdr.round, .slice e.hdr.ra e.hdr.refs.length e.hdr.rc, .slice e.hdr.pa e.hdr.parents.length e.hdr.pc, .slice e.va e.votes.length e.vc] : Array Value).all (·.oneCell') = true := all_oneCell_toArray (certK.one e)
              have hoC : (#[.int .i64 c.hdr.author, .int .i64 c.hdr.round, .slice c.hdr.ra c.hdr.refs.length c.hdr.rc, .slice c.hdr.pa c.hdr.parents.length c.hdr.pc, .slice c.va c.votes.length c.vc] : Array Value).all (·.oneCell') = true := all_oneCell_toArray (certK.one c)
              clear hD6 hL6 hP6 hD7 hL7 hP7 hk8 se sc sf hof hoq
              go_upto_region 21 with fail
              refine wp_region_any (by kernel_rfl) ?_
              show wpAny _ _ _ _ 16 (Array.replicate 16 false) _ w6.drew
              refine wpAny_takeD (i := 0) (v := ?_) (some 93) rfl rfl (by kernel_rfl) (by kernel_rfl) (by kernel_rfl) (fun _ _ _ h => h) (Or.inl ⟨by rfl, ?_⟩) ?_
              rotate_left 1
              · intro w'
                go_simp
                first | done | with_reducible rfl
              simp only [Act.put, List.setIfInBounds_toArray, List.set_cons_zero, List.set_cons_succ]
              refine wpAny_takeD (i := 1) (v := ?_) (some 94) rfl rfl (by kernel_rfl) (by kernel_rfl) (by kernel_rfl) (fun _ _ _ h => h) (Or.inl ⟨by rfl, ?_⟩) ?_
              rotate_left 1
              · intro w'
                go_simp
                first | done | with_reducible rfl
              simp only [Act.put, List.setIfInBounds_toArray, List.set_cons_zero, List.set_cons_succ]
              refine wpAny_takeD (i := 2) (v := ?_) (some 95) rfl rfl (by kernel_rfl) (by kernel_rfl) (by kernel_rfl) (fun _ _ _ h => h) (Or.inl ⟨by rfl, ?_⟩) ?_
              rotate_left 1
              · intro w'
                go_simp
                first | done | with_reducible rfl
              simp only [Act.put, List.setIfInBounds_toArray, List.set_cons_zero, List.set_cons_succ]
              refine wpAny_takeD (i := 3) (v := ?_) (some 96) rfl rfl (by kernel_rfl) (by kernel_rfl) (by kernel_rfl) (fun _ _ _ h => h) (Or.inl ⟨by rfl, ?_⟩) ?_
              rotate_left 1
              · intro w'
                go_simp
                first | done | with_reducible rfl
              simp only [Act.put, List.setIfInBounds_toArray, List.set_cons_zero, List.set_cons_succ]
              refine wpAny_takeD (i := 4) (v := ?_) (some 97) rfl rfl (by kernel_rfl) (by kernel_rfl) (by kernel_rfl) (fun _ _ _ h => h) (Or.inl ⟨by rfl, ?_⟩) ?_
              rotate_left 1
              · intro w'
                go_simp
                first | done | with_reducible rfl
              simp only [Act.put, List.setIfInBounds_toArray, List.set_cons_zero, List.set_cons_succ]
              refine wpAny_takeD (i := 5) (v := ?_) (some 98) rfl rfl (by kernel_rfl) (by kernel_rfl) (by kernel_rfl) (fun _ _ _ h => h) (Or.inl ⟨by rfl, ?_⟩) ?_
              rotate_left 1
              · intro w'
                go_simp
                first | done | with_reducible rfl
              simp only [Act.put, List.setIfInBounds_toArray, List.set_cons_zero, List.set_cons_succ]
              refine wpAny_takeD (i := 6) (v := ?_) (some 99) rfl rfl (by kernel_rfl) (by kernel_rfl) (by kernel_rfl) (fun _ _ _ h => h) (Or.inl ⟨by rfl, ?_⟩) ?_
              rotate_left 1
              · intro w'
                go_simp
                first | done | with_reducible rfl
              simp only [Act.put, List.setIfInBounds_toArray, List.set_cons_zero, List.set_cons_succ]
              refine wpAny_takeD (i := 8) (v := ?_) (some 101) rfl rfl (by kernel_rfl) (by kernel_rfl) (by kernel_rfl) (fun _ _ _ h => h) (Or.inl ⟨by rfl, ?_⟩) ?_
              rotate_left 1
              · intro w'
                go_simp
                first | done | with_reducible rfl
              simp only [Act.put, List.setIfInBounds_toArray, List.set_cons_zero, List.set_cons_succ]
              refine wpAny_takeD (i := 9) (v := ?_) (some 102) rfl rfl (by kernel_rfl) (by kernel_rfl) (by kernel_rfl) (fun _ _ _ h => h) (Or.inl ⟨by rfl, ?_⟩) ?_
              rotate_left 1
              · intro w'
                go_simp
                first | done | with_reducible rfl
              simp only [Act.put, List.setIfInBounds_toArray, List.set_cons_zero, List.set_cons_succ]
              refine wpAny_takeD (i := 10) (v := ?_) (some 103) rfl rfl (by kernel_rfl) (by kernel_rfl) (by kernel_rfl) (fun _ _ _ h => h) (Or.inl ⟨by rfl, ?_⟩) ?_
              rotate_left 1
              · intro w'
                go_simp
                first | done | with_reducible rfl
              simp only [Act.put, List.setIfInBounds_toArray, List.set_cons_zero, List.set_cons_succ]
              refine wpAny_ready (rs := [7, 11]) (by kernel_rfl) (by simp) ?_
              refine allReady_wantD (some 100) rfl rfl rfl (fun K' hK => ?_) (allReady_wantD (some 104) rfl rfl rfl (fun K' hK => ?_) (AllReady.nil))
              focus
                refine wp_load_mid 48 (.tmp 99) rfl g (off + b * 5) rfl [.int .i64 e.hdr.author, .int .i64 e.hdr.round, .slice e.hdr.ra e.hdr.refs.length e.hdr.rc, .slice e.hdr.pa e.hdr.parents.length e.hdr.pc, .slice e.va e.votes.length e.vc] _ re Tryz.underlying48 rfl hiC (hK _ _ ?_)
                simp only [Act.put, List.setIfInBounds_toArray, List.set_cons_zero, List.set_cons_succ]
                refine wpAny_ready (rs := [11]) (by kernel_rfl) (by simp) ?_
                refine allReady_wantD (some 104) rfl rfl rfl (fun K' hK => ?_) (AllReady.nil)
                refine wp_load_mid 48 (.tmp 103) rfl g (off + a * 5) rfl [.int .i64 c.hdr.author, .int .i64 c.hdr.round, .slice c.hdr.ra c.hdr.refs.length c.hdr.rc, .slice c.hdr.pa c.hdr.parents.length c.hdr.pc, .slice c.va c.votes.length c.vc] _ rc Tryz.underlying48 rfl hiC (hK _ _ ?_)
                simp only [Act.put, List.setIfInBounds_toArray, List.set_cons_zero, List.set_cons_succ]
              rotate_left 1
              focus
                refine wp_load_mid 48 (.tmp 103) rfl g (off + a * 5) rfl [.int .i64 c.hdr.author, .int .i64 c.hdr.round, .slice c.hdr.ra c.hdr.refs.length c.hdr.rc, .slice c.hdr.pa c.hdr.parents.length c.hdr.pc, .slice c.va c.votes.length c.vc] _ rc Tryz.underlying48 rfl hiC (hK _ _ ?_)
                simp only [Act.put, List.setIfInBounds_toArray, List.set_cons_zero, List.set_cons_succ]
                refine wpAny_ready (rs := [7]) (by kernel_rfl) (by simp) ?_
                refine allReady_wantD (some 100) rfl rfl rfl (fun K' hK => ?_) (AllReady.nil)
                refine wp_load_mid 48 (.tmp 99) rfl g (off + b * 5) rfl [.int .i64 e.hdr.author, .int .i64 e.hdr.round, .slice e.hdr.ra e.hdr.refs.length e.hdr.rc, .slice e.hdr.pa e.hdr.parents.length e.hdr.pc, .slice e.va e.votes.length e.vc] _ re Tryz.underlying48 rfl hiC (hK _ _ ?_)
                simp only [Act.put, List.setIfInBounds_toArray, List.set_cons_zero, List.set_cons_succ]
              all_goals
                refine wpAny_takeD (i := 12) (v := ?_) (some 105) rfl rfl (by kernel_rfl) (by kernel_rfl) (by kernel_rfl) (fun _ _ _ h => h) (Or.inl ⟨by rfl, ?_⟩) ?_
                rotate_left 1
                · intro w'
                  go_simp
                  first | done | with_reducible rfl
                simp only [Act.put, List.setIfInBounds_toArray, List.set_cons_zero, List.set_cons_succ]
                refine wpAny_ready (rs := [13]) (by kernel_rfl) (by simp) ?_
                refine allReady_wantD none rfl rfl rfl (fun K' hK => ?_) (AllReady.nil)
                refine wp_store_mid 48 (.tmp 105) (.tmp 100) rfl g (off + a * 5) #[.int .i64 e.hdr.author, .int .i64 e.hdr.round, .slice e.hdr.ra e.hdr.refs.length e.hdr.rc, .slice e.hdr.pa e.hdr.parents.length e.hdr.pc, .slice e.va e.votes.length e.vc] rfl rfl hth1 hiC hoE (hK _ _ ?_)
                simp only [Act.put]
                try rw [show (#[.int .i64 e.hdr.author, .int .i64 e.hdr.round, .slice e.hdr.ra e.hdr.refs.length e.hdr.rc, .slice e.hdr.pa e.hdr.parents.length e.hdr.pc, .slice e.va e.votes.length e.vc] : Array Value).toList = [.int .i64 e.hdr.author, .int .i64 e.hdr.round, .slice e.hdr.ra e.hdr.refs.length e.hdr.rc, .slice e.hdr.pa e.hdr.parents.length e.hdr.pc, .slice e.va e.votes.length e.vc] from rfl]
                generalize w6.drew.setCells g (off + a * 5) [.int .i64 e.hdr.author, .int .i64 e.hdr.round, .slice e.hdr.ra e.hdr.refs.length e.hdr.rc, .slice e.hdr.pa e.hdr.parents.length e.hdr.pc, .slice e.va e.votes.length e.vc] = w8 at *
                refine wpAny_takeD (i := 14) (v := ?_) (some 106) rfl rfl (by kernel_rfl) (by kernel_rfl) (by kernel_rfl) (fun _ _ _ h => h) (Or.inl ⟨by rfl, ?_⟩) ?_
                rotate_left 1
                · intro w'
                  go_simp
                  first | done | with_reducible rfl
                simp only [Act.put, List.setIfInBounds_toArray, List.set_cons_zero, List.set_cons_succ]
                refine wpAny_ready (rs := [15]) (by kernel_rfl) (by simp) ?_
                refine allReady_wantD none rfl rfl rfl (fun K' hK => ?_) (AllReady.nil)
                refine wp_store_mid 48 (.tmp 106) (.tmp 104) rfl g (off + b * 5) #[.int .i64 c.hdr.author, .int .i64 c.hdr.round, .slice c.hdr.ra c.hdr.refs.length c.hdr.rc, .slice c.hdr.pa c.hdr.parents.length c.hdr.pc, .slice c.va c.votes.length c.vc] rfl rfl hth2 hiC hoC (hK _ _ ?_)
                simp only [Act.put]
                try rw [show (#[.int .i64 c.hdr.author, .int .i64 c.hdr.round, .slice c.hdr.ra c.hdr.refs.length c.hdr.rc, .slice c.hdr.pa c.hdr.parents.length c.hdr.pc, .slice c.va c.votes.length c.vc] : Array Value).toList = [.int .i64 c.hdr.author, .int .i64 c.hdr.round, .slice c.hdr.ra c.hdr.refs.length c.hdr.rc, .slice c.hdr.pa c.hdr.parents.length c.hdr.pc, .slice c.va c.votes.length c.vc] from rfl]
                generalize w8.setCells g (off + b * 5) [.int .i64 c.hdr.author, .int .i64 c.hdr.round, .slice c.hdr.ra c.hdr.refs.length c.hdr.rc, .slice c.hdr.pa c.hdr.parents.length c.hdr.pc, .slice c.va c.votes.length c.vc] = w9 at *
                refine wpAny_done (by kernel_rfl) ?_ _
                go_wp2
                go_roundw
                case rel => exact ⟨i + 1, _, _, by omega, by omega, by go_num, hD8, hL8, hT8, hP8⟩
                case measure => simp [intOf]; omega
            · rcases (by by_cases h : i < ts.length; exact Or.inl h; exact Or.inr h : i < ts.length ∨ ¬ i < ts.length) with hlt | hlt
              focus
                have g1 : (i : Int) < (ts.length : Int) ∧ ¬ (i : Int) < 20 := by omega
                obtain ⟨g1, g2⟩ := g1
              rotate_left 1
              focus
                have g1 : ¬ (i : Int) < (ts.length : Int) := by omega
              all_goals
                go_wp2_with fail
                have hF0 : First (ksF n) n (qs.take 0).reverse dag0 := ⟨fun y => by simp [dag0], rfl, rfl, by simp, fun a ha => by simp at ha⟩
                go_loopw [20, 21, 22, 23, 24, 25, 26] (fun v20 _ _ _ _ _ _ wr => ∃ (i : Nat) (d : DagD) (SD : Nat → Prop), i ≤ ND + 1 ∧ v20 = .int .i64 (i : Int) ∧ D1 V n tb rt db pb me SD SP d [upIds ND] wr ∧ LP V n SD SP (.slice la ND lc) L qs wr ∧ HP V ND SD SP (.slice la ND lc) hb x wr ∧ First (ksF n) n (qs.take i).reverse d ∧ Hid (i ≤ ND → d.V = [])) (fun v _ _ _ _ _ _ _ => ND + 1 - (intOf v).toNat)
                case atStart => exact ⟨0, dag0, S, by omega, rfl, hD, hL, hP, hF0, fun _ => rfl⟩
                case round =>
                  clear hD hL hP hF0 g1
                  obtain ⟨i, d, SD, hi, rfl, hD4, hL4, hP4, hF4, hV4⟩ := hrel
                  by_cases hle : i ≤ ND
                  · have g1 : (i : Int) ≤ (ND : Int) := by omega
                    have cO := own6_any x wr hP4.at_ hP4.lens
                    unfold HdrM.v at cO
                    have x0 := hP4.box.cell (i := 0) rfl
                    have x1 := hP4.box.cell (i := 1) rfl
                    have x2 := hP4.box.cell (i := 2) rfl
                    have x3 := hP4.box.cell (i := 3) rfl
                    have hxU := hP4.dat
                    replace hxU : Hid _ := hxU
                    go_wp2_with fail
                    refine cO.mono ?_
                    rintro e w5 ⟨y, rfl, hyd, hyA, hyf, hb5⟩
                    have hD5 := hD4.below hb5
                    have hL5 := hL4.below hb5
                    have hP5 := hP4.below hb5
                    have hups := upIds_is ND (by omega)
                    have hyU : y.d = hdrUp ND := hyd.trans hxU.out
                    have hyp : y.parents = upIds ND := congrArg HdrD.parents hyU
                    have cM := pdMissing_any y hD5.dag hyA (by rw [hyp, hups.len]; omega) (fun p hp => by
                      rw [hyp] at hp
                      obtain ⟨a, _, rfl⟩ := (hups.mem p).1 hp
                      rw [idB_size]
                      decide)
                    rw [hyU, hF4.miss] at cM
                    have hMl := hF4.miss_len hT (by omega)
                    have hMm : Hid (∀ k a, i ≤ k → qs[k]? = some a → idB (hdr1 a) ∈ missL d.L (upIds ND)) := fun k a hk ha => by
                      refine (hF4.miss_mem hT (by omega) _).2 (List.mem_map.2 ⟨a, ?_, rfl⟩)
                      refine List.mem_of_getElem? (i := k - i) ?_
                      rw [List.getElem?_drop, show i + (k - i) = k by omega]
                      exact ha
                    replace hMl : Hid _ := hMl
                    generalize missL d.L (upIds ND) = M at *
                    unfold HdrM.v at cM ⊢
                    clear cO x0 x1 x2 x3 hyd hyU hyp hb5 hyA hyf hups hD4 hL4 hP4
                    go_wp2_with fail
                    refine cM.mono ?_
                    rintro e w6 ⟨vm, rfl, hQ6, hb6⟩
                    have hD6 := hD5.below hb6
                    have hL6 := hL5.below hb6
                    have hP6 := hP5.below hb6
                    have hmo : ∀ k, vm.ownBlock = some k → ¬ SD k := fun k hk e => by
                      have h1 := (hQ6.lt k hk).1
                      have h2 := hD5.dag.lt e
                      omega
                    obtain ⟨ma, mc, rfl, _, _⟩ := hQ6.form
                    have cO := own6_any x w6 hP6.at_ hP6.lens
                    unfold HdrM.v at cO
                    have x0 := hP6.box.cell (i := 0) rfl
                    have x1 := hP6.box.cell (i := 1) rfl
                    have x2 := hP6.box.cell (i := 2) rfl
                    have x3 := hP6.box.cell (i := 3) rfl
                    clear cM hb6 hD5 hL5 hP5
                    go_wp2_with fail
                    refine cO.mono ?_
                    rintro e w7 ⟨z, rfl, hzd, hzA, hzf, hb7⟩
                    have hD7 := hD6.below hb7
                    have hL7 := hL6.below hb7
                    have hP7 := hP6.below hb7
                    have hQ7 := hQ6.below hb7
                    have hzU : z.d = hdrUp ND := hzd.trans hxU.out
                    have cV := hD7.vote hE z hzA (fit_same14 hzd hP6.fit) (by rw [hzd]; exact hP6.len) (fun b hf e => by have := hzf b hf; have := hD6.dag.lt e; omega) (by rw [hV4.out hle]; decide)
                    have hck : chkA (ksF n) n (hdrUp ND) = 0 := by rw [← hND.out]; exact chk_up hn2 hn1 _
                    have hve := hF4.voteUp hT (by omega) hle (hV4.out hle) (idB (hdrUp ND))
                    rw [hzU, hck, hve] at cV
                    have hF8 : First (ksF n) n (qs.take i).reverse (voteD 0 d (hdrUp ND) (idB (hdrUp ND))) := by
                      unfold voteD
                      split
                      · exact ⟨hF4.mem, hF4.len, hF4.low, hF4.nod, hF4.lt⟩
                      · exact hF4
                    have hV8 : Hid (i < ND → (voteD 0 d (hdrUp ND) (idB (hdrUp ND))).V = []) := fun e => by
                      unfold voteD
                      rw [hve, if_pos e, if_neg (by decide)]
                      exact hV4.out hle
                    obtain ⟨VE, hVE⟩ : ∃ z : Nat, Hid ((if i < ND then 14 else 0) = z) := ⟨_, rfl⟩
                    rw [hVE.out] at cV
                    generalize (voteT (ksF n) me VE (idB (hdrUp ND))).who = tw at *
                    generalize (voteT (ksF n) me VE (idB (hdrUp ND))).mac = tm at *
                    generalize voteD 0 d (hdrUp ND) (idB (hdrUp ND)) = d8 at *
                    unfold HdrM.v at cV ⊢
                    clear cO x0 x1 x2 x3 hzd hzU hzA hzf hb7 hck hve hF4 hV4 hD6 hL6 hP6 hQ6
                    go_wp2_with fail
                    refine cV.mono ?_
                    rintro e w8 ⟨rfl, SD', hD8, hf8, hk8⟩
                    have hL8 := hL7.move hL7 hk8 (fun k e => Or.inl e) hf8 (fun k e => Or.inl e)
                    have hP8 := hP7.move hP7 hk8 (fun k e => Or.inl e) hf8 (fun k e => Or.inl e)
                    have hQ8 := hQ7.kept hk8 hmo (fun _ _ _ h => h.elim)
                    have hb9 := belowNew w8 (.cells #[.int .i64 tw, .string tm] 42)
                    have hD9 := hD8.below hb9
                    have hL9 := hL8.below hb9
                    have hP9 := hP8.below hb9
                    have hQ9 := hQ8.below hb9
                    clear cV hf8 hk8 hD7 hL7 hP7 hQ7 hmo hD8 hL8 hP8 hQ8 hb9
                    obtain ⟨ml, hml⟩ : ∃ z, Hid (M.length = z) := ⟨_, rfl⟩
                    rw [hml.out] at hMl hQ9 ⊢
                    have hml5 : ml ≤ 5 := by have := hMl.out; omega
                    have hws : IntKind.i64.wrap ((ND : Int) - (i : Int)) = (ml : Int) := by
                      rw [wrap_i64P, Mx.wrap64_small _ (by omega) (by omega)]
                      have := hMl.out
                      omega
                    rcases (by omega : i < ND ∨ i = ND) with hiN | hiN
                    focus
                      obtain rfl : VE = 14 := by have := hVE.out; rw [if_pos hiN] at this; omega
                      have g2 : (i : Int) < (ND : Int) := by omega
                      have g3 : ((i : Int) == (ND : Int)) = false := by rw [beq_eq_false_iff_ne]; omega
                      have g4 : (i == ND) = false := by rw [beq_eq_false_iff_ne]; omega
                      replace hiN : Hid _ := hiN
                    rotate_left 1
                    focus
                      obtain rfl : VE = 0 := by have := hVE.out; rw [if_neg (by omega)] at this; omega
                      have g2 : ¬ (i : Int) < (ND : Int) := by omega
                      have g3 : ((i : Int) == (ND : Int)) = true := by rw [beq_iff_eq]; omega
                      have g4 : (i == ND) = true := by rw [beq_iff_eq]; omega
                      replace hiN : Hid _ := hiN
                    all_goals
                      go_wp2_with fail
                      generalize w8.alloc _ = w9 at *
                      go_loopw [24, 25, 26] (fun v24 _ _ wr => ∃ k : Nat, i ≤ k ∧ k ≤ ND ∧ v24 = .int .i64 (k : Int) ∧ Below w9.heap.size w9 wr) (fun v _ _ _ => ND - (intOf v).toNat)
                      case atStart => exact ⟨i, Nat.le_refl _, hle, rfl, Below.refl _ _⟩
                      case round =>
                        obtain ⟨k, hik, hkN, rfl, hbk⟩ := hrel
                        by_cases hkl2 : k < ND
                        · try (have := hiN.out; exfalso; omega)
                          all_goals
                            have g5 : (k : Int) < (ND : Int) := by omega
                            have hLk := hL9.below hbk
                            obtain ⟨c, a, hck, hak, hcd⟩ := hLk.get (i := k) (by rw [hLk.len, hT.len]; exact hkl2)
                            have hcm := List.mem_of_getElem? hck
                            have hfit := hLk.fit c hcm
                            have hch : Hid (c.hdr.d = hdr1 a) := congrArg CertD.header hcd
                            obtain ⟨ID, hID⟩ : ∃ z, Hid (idB (hdr1 a) = z) := ⟨_, rfl⟩
                            have hin := hMm.out k a hik hak
                            rw [hID.out] at hin
                            replace hin : Hid _ := hin
                            clear hcd hak hLk
                            go_wp2_with fail
                            go_loopw [25, 26] (fun v25 v26 wr => ∃ j : Nat, j ≤ ml ∧ v26 = .int .i64 (j : Int) ∧ v25 = .bool ((M.take j).any (fun y => y.toList == ID.toList)) ∧ Below w9.heap.size w9 wr) (fun _ v _ => ml - (intOf v).toNat)
                            case atStart => exact ⟨0, Nat.zero_le _, rfl, rfl, hbk⟩
                            case round =>
                              obtain ⟨j, hjm, rfl, rfl, hbj⟩ := hrel
                              clear hbk
                              obtain ⟨BB, hBB⟩ : ∃ z, Hid ((M.take j).any (fun y => y.toList == ID.toList) = z) := ⟨_, rfl⟩
                              rw [hBB.out]
                              by_cases hjl : j < ml
                              · have g6 : (j : Int) < (ml : Int) := by omega
                                obtain ⟨m, hmj⟩ : ∃ m, M[j]? = some m := ⟨_, List.getElem?_eq_getElem (by have := hml.out; omega)⟩
                                have hnx : Hid ((M.take (j + 1)).any (fun y => y.toList == ID.toList) = (BB || (m.toList == ID.toList))) := by
                                  show _ = _
                                  rw [List.take_add_one, hmj, List.any_append, hBB.out]
                                  simp
                                have hQj := hQ9.below hbj
                                have hmr : RowAt strK wr ma M := by
                                  obtain ⟨la', lc', e1, _, h1⟩ := hQj.form
                                  simp only [Value.slice.injEq] at e1
                                  rw [e1.1]; exact h1
                                obtain ⟨mb, mo, hma, hmlt, m0⟩ := hmr.strs j (List.getElem?_eq_some_iff.1 hmj).1
                                rw [(List.getElem?_eq_some_iff.1 hmj).2] at m0
                                have hLj := hL9.below hbj
                                have hrow : RowAt certK wr la L := by
                                  obtain ⟨la', lc', e1, _, h1⟩ := hLj.row.form
                                  simp only [Value.slice.injEq] at e1
                                  rw [e1.1]; exact h1
                                obtain ⟨b, off, hla, hbl, y0, y1, y2, y3, y4⟩ := hrow.cert5 hck
                                have hcA := hLj.row.at_ c hcm
                                clear hrow hmr hQj hmj
                                subst hma
                                subst hla
                                cases BB with
                                | true =>
                                  have hbN := hbj.trans ((below_drewN (Below.refl wr.heap.size wr) 1).mono hbj.size)
                                  go_upto_region 36 with fail
                                  go_region
                                  go_wp2
                                  go_roundw
                                  case rel => exact ⟨j + 1, by omega, by go_num, by rw [hnx.out]; rfl, hbN⟩
                                  case measure => simp [intOf]; omega
                                | false =>
                                  go_upto_region 36 with fail
                                  have bl := fun d os => below_regrown wr d os
                                  have kI : ∀ d os, Calls Tryz.prog 28 #[.agg #[.int .i64 c.hdr.author, .int .i64 c.hdr.round, .slice c.hdr.ra c.hdr.refs.length c.hdr.rc, .slice c.hdr.pa c.hdr.parents.length c.hdr.pc]] (grow (redrawn wr d) os) fun e w'' => e = .returned (.string ID) ∧ ∃ p : Regrown, w'' = grow (redrawn wr p.d) p.os := fun d os => Calls.regrown_of (by
                                    have h1 := refHdrId_any c.hdr _ (hcA.below (bl d os)).hdr hfit.1 hfit.2.1
                                    have e1 : Mx.bytes (Mx.sumL (encH c.hdr.d)) = ID := by rw [hch.out]; exact hID.out
                                    rw [e1] at h1
                                    exact h1)
                                  have A0 := cell_regrown y0
                                  have A1 := cell_regrown y1
                                  have A2 := cell_regrown y2
                                  have A3 := cell_regrown y3
                                  have A5 := cell_regrown m0
                                  refine wp_region_quiet_below (by kernel_rfl) (by kernel_rfl) ?_
                                  iterate 11 (go_big_quiet_step (fail))
                                  go_big_quiet_step (exact kI _ _)
                                  iterate 3 (go_big_quiet_step (fail))
                                  refine wpQuiet_nil ?_
                                  rintro w' ⟨p, rfl⟩
                                  have hbN := hbj.trans ((bl p.d p.os).mono hbj.size)
                                  generalize grow (redrawn wr p.d) p.os = wn at hbN ⊢
                                  clear kI bl A0 A1 A2 A3 A5 y0 y1 y2 y3 y4 m0
                                  go_wp2
                                  go_roundw
                                  case rel => exact ⟨j + 1, by omega, by go_num, by rw [hnx.out]; rfl, hbN⟩
                                  case measure => simp [intOf]; omega
                              · have g6 : ¬ (j : Int) < (ml : Int) := by omega
                                have hBt : BB = true := by
                                  rw [← hBB.out, List.take_of_length_le (by have := hml.out; omega)]
                                  exact List.any_eq_true.2 ⟨ID, hin.out, by simp⟩
                                subst hBt
                                go_wp2
                                go_roundw
                                case rel => exact ⟨k + 1, by omega, by omega, by go_num, hbj⟩
                                case measure => simp [intOf]; omega
                        · have g5 : ¬ (k : Int) < (ND : Int) := by omega
                          have hDk := hD9.below hbk
                          have hLk := hL9.below hbk
                          have hPk := hP9.below hbk
                          clear hD9 hL9 hP9 hQ9
                          by_cases hq : i < ND
                          · try (have := hiN.out; exfalso; omega)
                            all_goals
                              obtain ⟨c, a, hci, hai, hcd⟩ := hLk.get (i := i) (by rw [hLk.len, hT.len]; exact hq)
                              have hcm := List.mem_of_getElem? hci
                              have hfit := hLk.fit c hcm
                              have hrow : RowAt certK wr la L := by
                                obtain ⟨la', lc', e1, _, h1⟩ := hLk.row.form
                                simp only [Value.slice.injEq] at e1
                                rw [e1.1]; exact h1
                              obtain ⟨b, off, hla, hbl, y0, y1, y2, y3, y4⟩ := hrow.cert5 hci
                              have cO := own14_any c wr (hLk.row.at_ c hcm) hfit.2.2.1 (by have := hfit.2.2.2; omega)
                              have haN : a < ND := (hT.mem a).1 (List.mem_of_getElem? hai)
                              have hna : a ∉ (qs.take i).reverse := fun e => by
                                have h1 : a ∈ qs.drop i := List.mem_of_getElem? (i := 0) (by rw [List.getElem?_drop]; exact hai)
                                exact ((hT.split i a).1 h1).2 (List.mem_reverse.1 e)
                              have hql : (qs.take i).reverse.length < 32 := by rw [List.length_reverse, List.length_take]; omega
                              have ha3 : a < 3 * n + 1 := by have := hND.out; omega
                              have e0 := hF8.addE hn2 hkl.out (a := a) ha3 hna hql
                              have hF9 := hF8.add hn2 hkl.out (a := a) ha3 hna hql
                              have hch : Hid (c.hdr.d = hdr1 a) := congrArg CertD.header hcd
                              replace hcd : Hid _ := hcd
                              have hF9' : First (ksF n) n (qs.take (i + 1)).reverse (addD (chkC (ksF n) n (certA (ksF n) n a)) (3 * n + 1) d8 (certA (ksF n) n a) (idB (hdr1 a))) := by
                                rw [List.take_add_one, hai]
                                simp only [Option.toList_some, List.reverse_append, List.reverse_cons, List.reverse_nil, List.nil_append, List.singleton_append]
                                exact hF9
                              have hV9 : Hid (i + 1 ≤ ND → (addD (chkC (ksF n) n (certA (ksF n) n a)) (3 * n + 1) d8 (certA (ksF n) n a) (idB (hdr1 a))).V = []) := fun _ => by
                                unfold addD
                                split
                                · exact hV8.out hq
                                · exact hV8.out hq
                              subst hla
                              unfold CertM.v at cO
                              replace hfit : Hid _ := hfit
                              clear hF9 hrow hai
                              go_wp2_with fail
                              refine cO.mono ?_
                              rintro e wa ⟨y, rfl, hyd, hyA, hyf, hba⟩
                              have hDa := hDk.below hba
                              have hLa := hLk.below hba
                              have hPa := hPk.below hba
                              have hyh : y.hdr.d = c.hdr.d := congrArg CertD.header hyd
                              have hyv : y.votes = c.votes := congrArg CertD.votes hyd
                              have hszk : V.heap.size ≤ wr.heap.size := hDk.bel.size
                              have cA := hDa.add hE y hyA (fit_same14 hyh hfit.out.1) (by rw [hyh]; exact hfit.out.2.1) (by rw [hyv]; have := hfit.out.2.2.2; omega) (fun b hf => by
                                have h1 := hyf b hf
                                exact ⟨Nat.le_trans hszk h1, fun e => by have := hDk.dag.lt e; omega, fun e => by have := (hDk.ply.lt e).2; omega⟩)
                              rw [hyd, hcd.out, hyh, hch.out, e0] at cA
                              generalize addD (chkC (ksF n) n (certA (ksF n) n a)) (3 * n + 1) d8 (certA (ksF n) n a) (idB (hdr1 a)) = d9 at *
                              clear cO y0 y1 y2 y3 y4 hyd hyh hyv e0
                              unfold CertM.v at cA ⊢
                              go_wp2_with fail
                              refine cA.mono ?_
                              rintro e wb ⟨rfl, SDb, hDb, hfb, hkb⟩
                              have hfb' : ∀ k, SDb k → SD' k ∨ wr.heap.size ≤ k := fun k e => by
                                rcases hfb k e with e | e | e
                                · exact Or.inl e
                                · exact Or.inr (hyf k e)
                                · exact Or.inr (Nat.le_trans hba.size e)
                              have hLb := hLk.move hLa hkb (fun k e => Or.inl e) hfb' (fun k e => Or.inl e)
                              have hPb := hPk.move hPa hkb (fun k e => Or.inl e) hfb' (fun k e => Or.inl e)
                              clear cA hfb hkb hfb' hDa hLa hPa hba hDk hLk hPk hyA hyf
                              go_wp2
                              go_roundw
                              case rel => exact ⟨i + 1, d9, SDb, by omega, by go_num, hDb, hLb, hPb, hF9', hV9⟩
                              case measure => simp [intOf]; omega
                          · try (have := hiN.out; exfalso; omega)
                            all_goals
                              have hF9 : First (ksF n) n (qs.take (i + 1)).reverse d8 := by
                                have e1 : qs.take (i + 1) = qs.take i := by rw [List.take_of_length_le (by rw [hT.len]; omega), List.take_of_length_le (by rw [hT.len]; omega)]
                                rw [e1]
                                exact hF8
                              go_wp2
                              go_roundw
                              case rel => exact ⟨i + 1, d8, SD', by omega, by go_num, hDk, hLk, hPk, hF9, fun e => by omega⟩
                              case measure => simp [intOf]; omega
                  · have g1 : ¬ (i : Int) ≤ (ND : Int) := by omega
                    have hids := hF4.idsUp hT (by omega) (by omega) hD4.dag.ok.rise
                    have hups := upIds_is ND (by omega)
                    have hul : Hid ((upIds ND).length = ND) := hups.len
                    obtain ⟨q, ys, hys, hSq, hPl⟩ := hD4.ply
                    obtain ⟨yy, hyy, hyl⟩ : ∃ yy, ys[0]? = some yy ∧ yy.l = upIds ND := by
                      cases ys with
                      | nil => simp at hys
                      | cons yy r =>
                        simp only [List.map_cons, List.cons.injEq] at hys
                        exact ⟨yy, rfl, hys.1.symm⟩
                    have hy1 : ys.length = 1 := by have := congrArg List.length hys; simpa using this.symm
                    obtain ⟨qa, qc, hqe, _, _⟩ := hPl.row.form
                    subst hqe
                    obtain ⟨g, off, hqa, _, _, _, _, _⟩ := hPl.row.setIds hyy
                    subst hqa
                    have hkp : ∀ U, Below wr.heap.size wr U → (U.cell? ⟨pb, 1, none⟩ = some (.slice (some ⟨g, off, none⟩) 1 qc) ∧ U.cell? ⟨g, off, none⟩ = some (.slice yy.ao ND yy.cap) ∧ RowAt strK U yy.ao (upIds ND)) := fun U hU => by
                      obtain ⟨g', off', e', _, _, c', _, _⟩ := (hPl.row.below hU).setIds hyy
                      simp only [Option.some.injEq, Addr.mk.injEq, and_true] at e'
                      obtain ⟨rfl, rfl⟩ := e'
                      have h1 := (hPl.box.below hU hPl.box.lt).cell (i := 1) rfl
                      rw [hy1] at h1
                      rw [hyl, hul.out] at c'
                      refine ⟨h1, c', ?_⟩
                      have h2 := (hPl.row.at_ yy (List.mem_of_getElem? hyy)).1
                      rw [hyl] at h2
                      exact h2.below hU
                    have cId : ∀ w1, Below wr.heap.size wr w1 → Calls Tryz.prog 34 #[.pointer (some ⟨db, 0, none⟩), .int .i64 1] w1 fun e w' => ∃ v, e = .returned v ∧ KQ strK 9 w' w1.heap.size v (upIds ND) ∧ Below w1.heap.size w1 w' := fun w1 hb1 => by
                      have h1 := pdIds_any 1 (hD4.below hb1).dag
                      rw [hids] at h1
                      exact h1
                    have cSa : ∀ w1 ia ic, RowAt strK w1 ia (upIds ND) → RowAt strK w1 yy.ao (upIds ND) → Calls Tryz.prog 12 #[.slice ia ND ic, .slice yy.ao ND yy.cap] w1 fun e w' => e = .returned (.bool true) ∧ Below w1.heap.size w1 w' := fun w1 ia ic h1 h2 => by
                      have h3 := same_any ia yy.ao ic yy.cap (upIds ND) w1 h1.strs h2.strs (by rw [hul.out]; omega)
                      rw [hul.out] at h3
                      exact h3
                    have bd : Below wr.heap.size wr wr.drew := below_drewN (Below.refl _ wr) 1
                    have hS0 := hkp _ bd
                    have hbF : Below w.heap.size w wr := hbw.trans (hD4.bel.mono hbw.size)
                    clear hids hups hys hSq hPl hyy hyl hy1 hD4 hL4 hP4 hF4 hV4
                    go_upto_region 41 with fail
                    go_region_held3 (fun w' => w'.cell? ⟨pb, 1, none⟩ = some (.slice (some ⟨g, off, none⟩) 1 qc) ∧ w'.cell? ⟨g, off, none⟩ = some (.slice yy.ao ND yy.cap) ∧ RowAt strK w' yy.ao (upIds ND)) (exact hkp _ (by assumption))
                      (first
                      | (go_at_call 34; refine (cId _ bd).mono ?_; rintro e wI ⟨v, rfl, hQI, bI0⟩; have bI : Below wr.heap.size wr wI := bd.trans bI0; obtain ⟨ia, ic, rfl, _, hrI⟩ := hQI.form; rw [hul.out])
                      | (go_at_call 12; refine (cSa _ _ _ hrI (hkp _ bI).2.2).mono ?_; rintro e wJ ⟨rfl, bJ0⟩; have bJ : Below wr.heap.size wr wJ := bI.trans (bJ0.mono bI.size)))
                    all_goals
                      have hbJ := hbF.trans (bJ.mono hbF.size)
                      go_wp2
                      go_ret
                      exact ⟨rfl, hbJ⟩
end Go.Proofs.YtmjkbdgcnoenbaaGreatDoor

/- How a row of numbers that came in is opened. -/
namespace Go.Proofs.YtmjkbdgcnoenbaaGreatDoor
open Go.ChangeShapes Go.WideShapes Go.ChangeAt Go.RowKit Go.Joins Go.Deep
set_option linter.unusedVariables false

theorem cellsInt7 : Tryz.prog.cellsOf 3 = 1 := by kernel_rfl

/-- How a number reads. -/
def IntQ {H : Type} (d : DataW H) (v : Int) : Prop := True

set_option maxRecDepth 100000 in
theorem open_int_cells7 {H : Type} {enc : TypeId × Value → H} {W : World} {fuel : Nat} {cs : List Value} {y : DataW H × List MemPlace}
    (hf : DataW.trod enc Tryz.prog W 0 (fun _ => true) true fuel 3 cs = some y) : ∃ v : Int, cs = intK.c v ∧ intK.At W v ∧ IntQ y.1 v := by
  obtain ⟨a0, e0, _, _⟩ := DataW.trod_int Tryz.underlying3 hf
  exact ⟨a0, e0, trivial, trivial⟩

theorem open_intsK {H : Type} {enc : TypeId × Value → H} {W : World} {a : Option Addr} {len cap : Nat} {d : DataW H} {p : List MemPlace}
    (h : DataW.Trod enc Tryz.prog W 0 (fun _ => true) true 85 (.slice a len cap) d p) :
    ∃ l : List Int, l.length = len ∧ RowAt intK W a l ∧ len ≤ maxLen := by
  obtain ⟨fuel, hf⟩ := h
  obtain ⟨l, h1, h2, _, h4, _⟩ := open_row intK IntQ Tryz.underlying85 cellsInt7 open_int_cells7 hf
  exact ⟨l, h1, h2, h4⟩
end Go.Proofs.YtmjkbdgcnoenbaaGreatDoor

/- DagParents: for every input the statement answers true, and each argument reads afterwards as it read before. Condition: the two tables of package mix read as the program's text lays them; no other. -/
namespace Go.Proofs.YtmjkbdgcnoenbaaGreatDoor
open Go.ChangeShapes Go.WideShapes Go.ChangeAt Go.RowKit
open Go.ChangeMaps (open_string shut_string)
set_option linter.unusedVariables false

set_option maxRecDepth 100000 in
theorem dagParents_lifted (os : Os) (started : os.Started) (H : Type) (enc : TypeId × Value → H) :
    ReturnsInHanded {} Tryz.checked os 7 .any (fun w args => (Rows.dagParentsSpec.pre enc Tryz.prog Tryz.f7 [] false w args ∧ laidMetH Tryz.prog Mx.laid2 w) ∧ sizedMet enc Tryz.prog Tryz.f7 (OpenSpec.ofChange Rows.dagParentsSpec) false w args)
      (Rows.dagParentsSpec.post enc Tryz.prog Tryz.f7 false true false false) := by
  refine returnsInHanded_of_change_and (C := Tryz.checked) (X := fun w _ => laidMetH Tryz.prog Mx.laid2 w) (fun _ _ _ hh h => h.of_heap hh) ownKnob_none started (by kernel_rfl) Tryz.func7
    (ChangeSpec.witness_shaped (enc := enc) (C := Tryz.checked) (os := os) (X := fun w _ => laidMetH Tryz.prog Mx.laid2 w) false (World.doorLaid Tryz.prog 400 os) #[.int .i64 0, .int .i64 0, .slice none 0 0] 8 rfl (World.shaped_of_RefB (by kernel_rfl) (by kernel_rfl)) (by kernel_rfl) (by kernel_rfl) (by kernel_rfl) (Mx.door_met os _)) ?_
  intro W base args ds gs before hval0 hW hcnd hsz0 hL _
  have hval : ∀ (j : Nat) t v, Tryz.f7.params[j]? = some t → args[j]? = some v → Value.okWide Tryz.prog W .any base t v := hval0
  have hsz : (DataW.weightsEach Tryz.prog (Tryz.f7.params.toList ++ Rows.dagParentsSpec.plain.varTypes Tryz.prog) (ds ++ gs)).all (· ≤ reachBytes) = true := hsz0
  have hW' := hW
  obtain ⟨p, q, hA0, hV, rfl, hfz, hnd⟩ := hW
  have hA : DataW.TrodAll enc Tryz.prog W 0 (fun _ => true) true Tryz.f7.params.toList args.toList ds p := hA0
  rw [Tryz.params7] at hA hval hsz
  obtain ⟨v0, vs0, d0, ds0, p0, q0, hargs, rfl, rfl, h0, r0⟩ := trodAll_cons hA
  obtain ⟨v1, vs1, d1, ds1, p1, q1, rfl, rfl, rfl, h1, r1⟩ := trodAll_cons r0
  obtain ⟨v2, vs2, d2, ds2, p2, q2, rfl, rfl, rfl, h2, r2⟩ := trodAll_cons r1
  obtain ⟨rfl, rfl, rfl⟩ := trodAll_nil r2
  obtain rfl : args = #[v0, v1, v2] := by cases args; simp_all
  obtain ⟨rfl, rfl⟩ := trodVars_none hV
  have k0 := h0
  have lt0 : ∀ x ∈ p0, x.block < W.heap.size := by obtain ⟨m, hm⟩ := k0; exact DataW.trod_lt m _ _ _ hm
  obtain ⟨a0, rfl, hd0, hp0, w0⟩ := open_int Tryz.underlying3 (hval 0 3 v0 rfl rfl) h0
  have k1 := h1
  have lt1 : ∀ x ∈ p1, x.block < W.heap.size := by obtain ⟨m, hm⟩ := k1; exact DataW.trod_lt m _ _ _ hm
  obtain ⟨a1, rfl, hd1, hp1, w1⟩ := open_int Tryz.underlying3 (hval 1 3 v1 rfl rfl) h1
  have k2 := h2
  have lt2 : ∀ x ∈ p2, x.block < W.heap.size := by obtain ⟨m, hm⟩ := k2; exact DataW.trod_lt m _ _ _ hm
  obtain ⟨a2, len2, cap2, rfl⟩ := okWide_slice Tryz.underlying85 (hval 2 85 v2 rfl rfl)
  obtain ⟨l2, rfl, st2, sm2⟩ := open_intsK h2
  clear hA0 hval0 hsz0
  refine (dagParents_walk a0 a1 a2 cap2 l2 W st2 sm2 (Mx.of_laid hL)).mono fun e W' ⟨he, bel⟩ => ?_
  subst he
  exact ⟨_, rfl, _, _, _, [], _, [], hW', trodAll_mk1 (shut_bool Tryz.underlying4 _), (trodAll_cons_mk (Below.trod laidOut_true (by kernel_rfl) (of_decide_eq_true (by kernel_rfl)) k0 bel lt0) (trodAll_cons_mk (Below.trod laidOut_true (by kernel_rfl) (of_decide_eq_true (by kernel_rfl)) k1 bel lt1) (trodAll_cons_mk (Below.trod laidOut_true (by kernel_rfl) (of_decide_eq_true (by kernel_rfl)) k2 bel lt2) trodAll_mk0))), rfl, bel.frame _, fun h => by cases h⟩

theorem dagParents_holds : Rows.DagParentsSaid :=
  OpenClaim.holds_of_wide 7 Tryz.f7 rfl rfl rfl rfl rfl rfl rfl ⟨rfl, rfl, rfl, rfl, rfl⟩ rfl rfl rfl rfl rfl (by kernel_rfl) Tryz.func7 (by kernel_rfl)
    (of_decide_eq_true (by kernel_rfl)) (by unfold Func.isWrapper; rw [if_neg (of_decide_eq_false (by kernel_rfl))]; exact ⟨rfl, rfl⟩)
    (fun os started H enc _ => dagParents_lifted os started H enc)

theorem dagParents_card : Rows.DagParentsCardSaid :=
  Claim7.holds_tied_plain_at .later [] [.data, .data] true (true, "cb9ec11f0cffbdc1ea1207431f7b5a121590a4829560b15185c4dfb95d7ea019") false
    dagParents_holds (fun _ h => by cases h) (by kernel_rfl) (fun _ h => by cases h) dagParents_row_tie rfl ⟨rfl, rfl⟩ (by kernel_rfl) rfl
    (fun f fn hf hfn => by
      obtain rfl : f = 7 := Option.some.inj ((show Tryz.prog.funcNamed "tusk/tusklaw14.DagParents" = some 7 by kernel_rfl).symm.trans hf) |>.symm
      obtain rfl : fn = Tryz.f7 := (Option.some.inj (Tryz.func7.symm.trans hfn)).symm
      exact ⟨by kernel_rfl, fun j t ht => by
        rw [Tryz.params7] at ht
        have hall : ∀ t ∈ (#[3, 3, 85] : Array TypeId).toList, Tryz.prog.wantsStandIn t = false := by
          show ∀ t ∈ ([3, 3, 85] : List TypeId), Tryz.prog.wantsStandIn t = false
          refine List.forall_mem_cons.2 ⟨by kernel_rfl, ?_⟩
          refine List.forall_mem_cons.2 ⟨by kernel_rfl, ?_⟩
          refine List.forall_mem_cons.2 ⟨by kernel_rfl, ?_⟩
          exact fun _ h => by cases h
        exact hall t (Array.mem_toList_iff.2 (Array.mem_of_getElem? ht))⟩)
    (by kernel_rfl)
end Go.Proofs.YtmjkbdgcnoenbaaGreatDoor
