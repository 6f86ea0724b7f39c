/- DagCerts: for every input the statement answers true, and each argument reads afterwards as it read before. Condition: the two tables of package mix read as the program's text lays them; no other. -/
import Derived.Test.YtmjkbdgcnoenbaaGreatDoorDz24
import Derived.Test.YtmjkbdgcnoenbaaGreatDoorDz11
import Derived.Deep.DeepCutAuto
import Derived.BigQuiet
import Derived.Test.YtmjkbdgcnoenbaaGreatDoorDz04
import Derived.Test.YtmjkbdgcnoenbaaGreatDoorCards
import Derived.Test.YtmjkbdgcnoenbaaGreatDoorTie
import Derived.SevenTiedAt
/- tusklaw14.DagCerts answers true; nothing old in memory is turned. -/
namespace Go.Proofs.YtmjkbdgcnoenbaaGreatDoor
open Go Go.RowKit Go.Sort
set_option linter.unusedVariables false

theorem zeroInt14 (w : World) : (zeroValue 3).run Tryz.prog w = .ok (.int .i64 0) w := by kernel_rfl
theorem zeroBool14 (w : World) : (zeroValue 4).run Tryz.prog w = .ok (.bool false) w := by kernel_rfl
theorem zeroPlace14 (w : World) : (zeroValue 76).run Tryz.prog w = .ok (.agg #[.int .i64 0, .int .i64 0]) w := by kernel_rfl
theorem zeroStr14 (w : World) : (zeroValue 9).run Tryz.prog w = .ok (.string ⟨#[]⟩) w := by kernel_rfl

set_option maxRecDepth 100000 in
set_option maxHeartbeats 4000000 in
theorem dagCerts_walk (f : Int) (ao : Option Addr) (cap : Nat) (ls : List OpsM) (w : World) (hR : RowAt opsK w ao ls) (hI : ∀ x ∈ ls, x.l.length ≤ maxLen ∧ ∀ o ∈ x.l, o.votes.length ≤ maxLen) (hn : ls.length ≤ maxLen) (hG : Mx.Glob w) :
    Calls Tryz.prog 5 #[.int .i64 f, .slice ao ls.length cap] w fun e w' => e = .returned (.bool true) ∧ Below w.heap.size w w' := by
  have hln : (ls.length : Int) ≤ 9223372036854775807 := by unfold maxLen at hn; omega
  have cW := works14_any w hG
  go_enter Tryz.func5, Tryz.ntmps5
  go_wp2_with fail
  refine cW.mono ?_
  rintro e w1 ⟨rfl, hb1⟩
  have cB := both14_any f 0 w1 (hG.below hb1)
  generalize nF f = n at cB
  clear cW
  go_wp2_with fail
  refine cB.mono ?_
  rintro e w2 ⟨V, tb, rt, db0, gb, pb, S, rfl, hB⟩
  have hE := hB.env
  have h2 := hB.d1
  have hbw := hb1.trans (hB.bw.mono hb1.size)
  have hRV := hR.below hbw
  generalize pickN 0 (3 * n + 1) = me at *
  have hn2 := hE.T.f2
  have hn1 := hE.T.f1
  have hT := hE.T
  have hRt := hE.R
  obtain ⟨ND, hND⟩ : ∃ z, Hid (2 * n + 1 = z) := ⟨_, rfl⟩
  obtain ⟨N3, hN3⟩ : ∃ z, Hid (3 * n + 1 = z) := ⟨_, rfl⟩
  have hN7 : 3 ≤ ND ∧ ND ≤ 5 := by have := hND.out; omega
  have hN37 : 4 ≤ N3 ∧ N3 ≤ 7 := by have := hN3.out; omega
  have hb3 := belowNew w2 (.map #[] 0)
  have hM1 := SMap.new w2
  have hb4 := belowNew (w2.alloc (.map #[] 0)) (.map #[] 0)
  have hM2 := SMap.new (w2.alloc (.map #[] 0))
  have hC4 : CO V rt pb w2.heap.size (w2.heap.size + 1) (fun _ => none) (fun _ => none) 0 0 ((w2.alloc (.map #[] 0)).alloc (.map #[] 0)) := by
    have h4 := (h2.below hb3).below hb4
    rw [alloc_size] at hM2
    have g1 := h2.bel.size
    have g2 := (h2.ply.lt (k := pb) rfl).2
    exact ⟨h4.bel, h4.ply, h2.plt pb rfl, hM1.below hb4, hM2, g1, by omega, ⟨by omega, by omega, by omega⟩⟩
  clear cB hB hb1 hR hb3 hM1 hb4 hM2 h2 hE
  have hmm := @run_makeMap Tryz.prog
  go_upto_region 8 with fail
  obtain ⟨m1, hm1⟩ : ∃ z, Hid (w2.heap.size = z) := ⟨_, rfl⟩
  rw [hm1.out] at hC4 ⊢
  obtain ⟨m2, hm2⟩ : ∃ z, Hid (m1 + 1 = z) := ⟨_, rfl⟩
  rw [hm2.out] at hC4 ⊢
  generalize World.alloc _ _ = w4 at *
  clear hm1 hm2
  go_wp2_with fail
  go_loopw [12, 13, 14, 15, 16, 17, 18, 19, 20, 21] (fun v12 _ _ _ _ _ _ _ _ _ wr => ∃ (i : Nat) (c : Nat → Bool → Nat) (F1 F2 : ByteArray → Option Value) (k1 k2 : Nat), i ≤ N3 ∧ i ≤ ls.length ∧ v12 = .int .i64 (i : Int) ∧ CO V rt pb m1 m2 F1 F2 k1 k2 wr ∧ Cnt n i c none2 ∧ Maps4 n c F1 F2 ∧ k1 ≤ 12 * i ∧ k2 ≤ 12 * i) (fun v _ _ _ _ _ _ _ _ _ _ => N3 - (intOf v).toNat)
  case atStart => exact ⟨0, _, _, _, 0, 0, by omega, by omega, rfl, hC4, Cnt.zero n, Maps4.zero n, by omega, by omega⟩
  case round =>
    clear hC4
    obtain ⟨i, c, F1, F2, k1, k2, hi3, hil, rfl, hC, hCn, hMp, hk1, hk2⟩ := hrel
    have cN := Mx.n_any tb n (ksF n) wr (hT.below hC.bel).T hn2
    rw [hN3.out] at cN
    go_wp2_with fail
    refine cN.mono ?_
    rintro e wx ⟨rfl, rfl⟩
    clear cN
    rcases (by by_cases h : i < ls.length ∧ i < N3; exact Or.inl h; exact Or.inr h : (i < ls.length ∧ i < N3) ∨ ¬ (i < ls.length ∧ i < N3)) with hgo | hgo
    · have g1 : (i : Int) < (N3 : Int) := by omega
      have g2 : (i : Int) < (ls.length : Int) := by omega
      obtain ⟨x, hx⟩ : ∃ x, ls[i]? = some x := ⟨_, List.getElem?_eq_getElem hgo.1⟩
      have hxm := List.mem_of_getElem? hx
      have hIx := hI x hxm
      have hxl : (x.l.length : Int) ≤ 9223372036854775807 := by have := hIx.1; unfold maxLen at this; omega
      have hEi : DEnv V n tb rt i := ⟨hT, hRt, by have := hN3.out; omega⟩
      have cD := pdNew_any (me := i) (hT.below hC.bel) (by have := hN3.out; omega)
      go_wp2_with fail
      refine cD.mono ?_
      rintro e w3 ⟨db, rfl, SD, hd, hSD, hb3⟩
      have hJ := hC.in_ hb3 hd hSD
      clear cD hd hSD hb3 hC
      go_upto_region 15 with fail
      obtain ⟨m3, hm3⟩ : ∃ z, Hid (w3.heap.size = z) := ⟨_, rfl⟩
      rw [hm3.out] at hJ ⊢
      generalize World.alloc _ _ = w4 at *
      go_wp2_with fail
      go_loopw [16, 17, 18, 19, 20, 21] (fun v16 _ _ _ _ _ wr => ∃ (k : Nat) (d : DagD) (SD : Nat → Prop) (c : Nat → Bool → Nat) (s : Nat → Bool → Bool) (F1 F2 F3 : ByteArray → Option Value) (k1 k2 k3 : Nat), k ≤ 12 ∧ k ≤ x.l.length ∧ v16 = .int .i64 (k : Int) ∧ CI V n tb rt db pb i SD d m1 m2 m3 F1 F2 F3 k1 k2 k3 wr ∧ Cnt n i c s ∧ Maps4 n c F1 F2 ∧ SeenF n s F3 ∧ Voted n s d ∧ d.V.length ≤ k ∧ k1 ≤ 12 * i + k ∧ k2 ≤ 12 * i + k ∧ k3 ≤ k) (fun v _ _ _ _ _ _ => 12 - (intOf v).toNat)
      case atStart => exact ⟨0, dag0, SD, c, none2, F1, F2, _, k1, k2, 0, by omega, by omega, rfl, hJ, hCn, hMp, (fun _ _ _ => rfl), (fun _ _ h => by cases h), Nat.le_refl _, by omega, by omega, by omega⟩
      case round =>
        clear hJ hCn hMp hk1 hk2 F1 F2 k1 k2 c SD
        obtain ⟨k, d, SD, c, s, F1, F2, F3, k1, k2, k3, hk12, hkx, rfl, hJ, hCn, hMp, hSn, hVt, hdv, hk1, hk2, hk3⟩ := hrel
        obtain ⟨xb, xo, hxa, hxbl, x0⟩ := (hRV.below hJ.D.bel).ops hx
        subst hxa
        rcases (by by_cases h : k < x.l.length ∧ k < 12; exact Or.inl h; exact Or.inr h : (k < x.l.length ∧ k < 12) ∨ ¬ (k < x.l.length ∧ k < 12)) with hgk | hgk
        · have g3 : (k : Int) < (x.l.length : Int) := by omega
          have g4 : (k : Int) < 12 := by omega
          obtain ⟨o, ho⟩ : ∃ o, x.l[k]? = some o := ⟨_, List.getElem?_eq_getElem hgk.1⟩
          have hom := List.mem_of_getElem? ho
          have hxA : RowAt opK V x.ao x.l := hRV.at_ x hxm
          have hO : OpIn V o.tame := tame_in (hxA.at_ o hom).2 (hIx.2 o hom)
          obtain ⟨b, off, hoa, hbl, y0, y1, y2, y3, y4, y5, y6, y7, y8, y9⟩ := (hxA.below hJ.D.bel).op ho
          rw [hoa] at x0
          have hbn := belowNew wr (.cells #[.int .i64 o.kind, .int .i64 o.author, .int .i64 o.back, .int .i64 o.odd, .slice o.va o.votes.length o.vc, .int .i64 o.round, .int .i64 0, .int .i64 0, .slice none 0 0, .slice none 0 0] 35)
          have hX := Arr.new wr 35 [.int .i64 o.kind, .int .i64 o.author, .int .i64 o.back, .int .i64 o.odd, .slice o.va o.votes.length o.vc, .int .i64 o.round, .int .i64 0, .int .i64 0, .slice none 0 0, .slice none 0 0]
          have hJ1 := hJ.below hbn
          go_upto_region 20 with fail
          obtain ⟨w5, hw5⟩ : ∃ z, wr.alloc (.cells #[.int .i64 o.kind, .int .i64 o.author, .int .i64 o.back, .int .i64 o.odd, .slice o.va o.votes.length o.vc, .int .i64 o.round, .int .i64 0, .int .i64 0, .slice none 0 0, .slice none 0 0] 35) = z := ⟨_, rfl⟩
          rw [hw5] at hX hJ1 ⊢
          obtain ⟨ob, hob⟩ : ∃ z, Hid (wr.heap.size = z) := ⟨_, rfl⟩
          rw [hob.out] at hX ⊢
          clear hw5 hbn hJ y0 y1 y2 y3 y4 y5 y6 y7 y8 y9
          have cH := header_pl hJ1.D.bel hJ1.D.ply hRt hO
          rw [hdrO_tame] at cH
          have haN := keyA_lt n hn2 o
          generalize keyA n o = a at *
          generalize keyB o = bb at *
          unfold OpM.tame OpM.v at cH
          simp only [List.length_nil] at cH
          have z0 := hX.cell (i := 0) rfl
          have z1 := hX.cell (i := 1) rfl
          have z2 := hX.cell (i := 2) rfl
          have z3 := hX.cell (i := 3) rfl
          have z4 := hX.cell (i := 4) rfl
          have z5 := hX.cell (i := 5) rfl
          have z6 := hX.cell (i := 6) rfl
          have z7 := hX.cell (i := 7) rfl
          have z8 := hX.cell (i := 8) rfl
          have z9 := hX.cell (i := 9) rfl
          go_wp2_with fail
          refine cH.mono ?_
          rintro e w6 ⟨h, rfl, hhd, hhA, hhf, hhl, hhL, hhfo, hb6⟩
          obtain ⟨xa, xr, xra, xrs, xrc, xpa, xps, xpc⟩ := h
          obtain rfl : xa = (a : Int) := by rw [← hd0_author n a bb]; exact congrArg HdrD.author hhd
          obtain rfl : xr = 1 := by rw [← hd0_round n a bb]; exact congrArg HdrD.round hhd
          replace hhd : Hid _ := hhd
          have hJ6 := hJ1.below hb6
          have hb7 := belowNew w6 (.cells #[.int .i64 (a : Int), .int .i64 1, .slice xra xrs.length xrc, .slice xpa xps.length xpc] 33)
          have hH7 := Arr.new w6 33 [.int .i64 (a : Int), .int .i64 1, .slice xra xrs.length xrc, .slice xpa xps.length xpc]
          have hJ7 := hJ6.below hb7
          have hhA7 := hhA.below hb7
          have hhb : V.heap.size ≤ w6.heap.size ∧ ¬ SD w6.heap.size := ⟨hJ6.D.bel.size, (hJ6.D.old (Or.inr (Nat.le_refl _))).1⟩
          have hhm : w6.heap.size ≠ m1 ∧ w6.heap.size ≠ m2 ∧ w6.heap.size ≠ m3 := ⟨fun e => by have := hJ6.a1.lt; omega, fun e => by have := hJ6.a2.lt; omega, fun e => by have := hJ6.a3.lt; omega⟩
          have hhS : ∀ b, HdrM.foot ⟨(a : Int), 1, xra, xrs, xrc, xpa, xps, xpc⟩ b → ¬ SD b := fun b hf => (hJ1.D.old (hhfo b hf)).1
          clear cH z0 z1 z2 z3 z4 z5 z6 z7 z8 z9 hX hJ1 hb6 hJ6 hhA hb7 hhfo
          unfold HdrM.v
          simp only
          go_upto_region 21 with fail
          obtain ⟨hb, hhbe⟩ : ∃ z, Hid (w6.heap.size = z) := ⟨_, rfl⟩
          rw [hhbe.out] at hH7 hhb hhm ⊢
          generalize World.alloc _ _ = w7 at *
          have cO := own6_any ⟨(a : Int), 1, xra, xrs, xrc, xpa, xps, xpc⟩ w7 hhA7 hhL
          unfold HdrM.v at cO
          simp only at cO
          have e0 := hH7.cell (i := 0) rfl
          have e1 := hH7.cell (i := 1) rfl
          have e2 := hH7.cell (i := 2) rfl
          have e3 := hH7.cell (i := 3) rfl
          go_wp2_with fail
          refine cO.mono ?_
          rintro e w8 ⟨y, rfl, hyd, hyA, hyf, hb8⟩
          have hJ8 := hJ7.below hb8
          have hH8 := hH7.below hb8 hH7.lt
          have hhA8 := hhA7.below hb8
          have cV := hJ8.D.vote hEi y hyA (fit_same14 hyd hhf) (by rw [hyd]; exact hhl) (fun b hf e => by have := hyf b hf; have := hJ7.D.dag.lt e; omega) (by omega)
          rw [hyd, hhd.out, hd0_id] at cV
          obtain ⟨CK, hCK⟩ : ∃ z, Hid (chkA (ksF n) n (hd0 n a bb) = z) := ⟨_, rfl⟩
          rw [hCK.out] at cV
          obtain ⟨VE, hVE⟩ : ∃ z, Hid (voteE CK d (hd0 n a bb) (id0 n a bb) = z) := ⟨_, rfl⟩
          rw [hVE.out] at cV
          generalize (voteT (ksF n) i VE (id0 n a bb)).who = tw at *
          generalize (voteT (ksF n) i VE (id0 n a bb)).mac = tm at *
          have hdv9 := voteD_len CK d (hd0 n a bb) (id0 n a bb)
          have hVtK := hVt.kept CK (hd0 n a bb) (id0 n a bb)
          have hVtA : Hid (VE = 0 → Voted n (addS s a bb) (voteD CK d (hd0 n a bb) (id0 n a bb)) ∧ s a (!bb) = false) := fun e => by
            have he := hVE.out
            rw [e] at he
            exact ⟨hVt.add haN he, hVt.other hn1 hn2 haN he⟩
          generalize voteD CK d (hd0 n a bb) (id0 n a bb) = d9 at *
          unfold HdrM.v at cV ⊢
          clear cO e0 e1 e2 e3 hyd hyA hyf hb8 hJ7 hH7 hhA7
          go_wp2_with fail
          refine cV.mono ?_
          rintro e w9 ⟨rfl, SD9, hD9, hf9, hk9⟩
          have hJ9 := hJ8.voted hD9 hk9 hf9
          have hH9 := hH8.kept hk9 hhb.2
          have hhA9 : HdrM.At w9 ⟨(a : Int), 1, xra, xrs, xrc, xpa, xps, xpc⟩ := Kind.kept hdrK hhA8 hk9 hhS
          have hbt := belowNew w9 (.cells #[.int .i64 tw, .string tm] 42)
          have hJt := hJ9.below hbt
          have hHt := hH9.below hbt hH9.lt
          have hhAt := hhA9.below hbt
          clear cV hD9 hf9 hk9 hJ8 hH8 hhA8 hJ9 hH9 hhA9 hbt
          go_upto_region 22 with fail
          generalize World.alloc _ _ = wt at *
          have cI := refHdrId_any ⟨(a : Int), 1, xra, xrs, xrc, xpa, xps, xpc⟩ wt hhAt hhf hhl
          have ei : Mx.bytes (Mx.sumL (encH (HdrM.d ⟨(a : Int), 1, xra, xrs, xrc, xpa, xps, xpc⟩))) = id0 n a bb := by rw [hhd.out]; rfl
          rw [ei] at cI
          unfold HdrM.v at cI
          simp only at cI
          have e0 := hHt.cell (i := 0) rfl
          have e1 := hHt.cell (i := 1) rfl
          have e2 := hHt.cell (i := 2) rfl
          have e3 := hHt.cell (i := 3) rfl
          go_wp2_with fail
          refine cI.mono ?_
          rintro e wi ⟨rfl, hbi⟩
          have hJi := hJt.below hbi
          have hHi := hHt.below hbi hHt.lt
          clear cI ei e0 e1 e2 e3 hbi hJt hHt hhAt
          have hids : (id0 n a bb).size ≤ maxLen := by rw [← hd0_id, idB_size]; decide
          by_cases hV0 : VE = 0
          · subst hV0
            obtain ⟨hVt9, hso⟩ := hVtA.out rfl
            replace hso : Hid _ := hso
            have hF3 := hSn a bb haN
            cases hs : s a bb with
            | true =>
              rw [if_pos hs] at hF3
              replace hF3 : Hid _ := hF3
              go_wp2_with (at_lookup; refine smap_look (by rfl) _ _ 75 rfl 4 Tryz.underlying75 _ (zeroBool14 _) m3 _ _ rfl hJi.a3 (id0 n a bb) hids rfl ?_; rw [hF3.out]; simp only [Option.getD_some])
              go_wp2
              go_roundw
              case rel => exact ⟨k + 1, d9, SD9, c, s, F1, F2, F3, k1, k2, k3, by omega, by omega, by go_num, hJi, hCn, hMp, hSn, hVtK, by omega, by omega, by omega, by omega⟩
              case measure => simp [intOf]; omega
            | false =>
              rw [if_neg (by rw [hs]; decide)] at hF3
              replace hF3 : Hid _ := hF3
              have hCn9 := hCn.vote hs hso.out
              have hMp9 := hMp.vote hn1 hn2 (b := bb) haN
              have hSn9 := hSn.vote hn1 hn2 (b := bb) haN
              have hF1 := hMp.votes a bb haN
              have hF1' : Hid ((F1 (id0 n a bb)).getD (.int .i64 0) = .int .i64 (c a bb : Int)) := by
                show _ = _
                rw [hF1]
                split
                · rename_i h0; rw [h0]; rfl
                · rfl
              have hcs := hCn.small a bb
              have hq1 : k1 < maxLen := by unfold maxLen; omega
              have hq2 : k2 < maxLen := by unfold maxLen; omega
              have hq3 : k3 < maxLen := by unfold maxLen; omega
              have hne : hb ≠ m1 ∧ hb ≠ m2 ∧ hb ≠ m3 := hhm
              have hwc : IntKind.i64.wrap ((c a bb : Int) + 1) = (c a bb : Int) + 1 := by rw [wrap_i64P]; exact Mx.wrap64_small _ (by omega) (by omega)
              clear hF1
              go_upto_if 109 with (at_lookup; refine smap_look (by rfl) _ _ 75 rfl 4 Tryz.underlying75 _ (zeroBool14 _) m3 _ _ rfl hJi.a3 (id0 n a bb) hids rfl ?_; rw [hF3.out]; simp only [Option.getD_none])
              go_wp2_with (refine smap_put rfl _ _ _ 75 rfl 4 Tryz.underlying75 m3 _ _ rfl hJi.a3 hq3 (id0 n a bb) hids rfl _ rfl ?_)
              intro wj hMj hkj
              have hJj := hJi.put3 hMj hkj
              have hHj := hHi.kept hkj hne.2.2
              clear hMj hkj hJi hHi
              go_wp2_with (first
                | (at_lookup; refine smap_look (by rfl) _ _ 71 rfl 3 Tryz.underlying71 _ (zeroInt14 _) m1 _ _ rfl hJj.a1 (id0 n a bb) hids rfl ?_; rw [hF1'.out])
                | (refine smap_put rfl _ _ _ 71 rfl 3 Tryz.underlying71 m1 _ _ rfl hJj.a1 hq1 (id0 n a bb) hids rfl (.int .i64 ((c a bb : Int) + 1)) rfl ?_))
              intro wk hMk hkk
              have hJk := hJj.put1 hMk hkk
              have hHk := hHj.kept hkk hne.1
              clear hMk hkk hJj hHj
              have e0 := hHk.cell (i := 0) rfl
              have e1 := hHk.cell (i := 1) rfl
              go_wp2_with (refine smap_put rfl _ _ _ 72 rfl 76 Tryz.underlying72 m2 _ _ rfl hJk.a2 hq2 (id0 n a bb) hids rfl (.agg #[.int .i64 (a : Int), .int .i64 1]) rfl ?_)
              intro wl hMl hkl
              have hJl := hJk.put2 hMl hkl
              clear hMl hkl hJk hHk e0 e1
              go_wp2
              go_roundw
              case rel => exact ⟨k + 1, d9, SD9, addC c a bb, addS s a bb, _, _, _, _, _, _, by omega, by omega, by go_num, hJl, hCn9, hMp9, hSn9, hVt9, by omega, Nat.le_trans (putN_le _ _ _) (by omega), Nat.le_trans (putN_le _ _ _) (by omega), Nat.le_trans (putN_le _ _ _) (by omega)⟩
              case measure => simp [intOf]; omega
          · have hV1 : ¬ (VE : Int) = 0 := by omega
            go_wp2
            go_roundw
            case rel => exact ⟨k + 1, d9, SD9, c, s, F1, F2, F3, k1, k2, k3, by omega, by omega, by go_num, hJi, hCn, hMp, hSn, hVtK, by omega, by omega, by omega, by omega⟩
            case measure => simp [intOf]; omega
        · rcases (by by_cases h : k < x.l.length; exact Or.inl h; exact Or.inr h : k < x.l.length ∨ ¬ k < x.l.length) with hlt | hlt
          focus
            have g3 : (k : Int) < (x.l.length : Int) ∧ ¬ (k : Int) < 12 := by omega
            obtain ⟨g3, g4⟩ := g3
          rotate_left 1
          focus
            have g3 : ¬ (k : Int) < (x.l.length : Int) := by omega
          all_goals
            have hC9 := hJ.out
            have hCn9 := hCn.next
            clear hJ hCn hSn hVt
            go_wp2
            go_roundw
            case rel => exact ⟨i + 1, c, F1, F2, k1, k2, by omega, by omega, by go_num, hC9, hCn9, hMp, by omega, by omega⟩
            case measure => simp [intOf]; omega
    · rcases (by by_cases h : i < N3; exact Or.inl h; exact Or.inr h : i < N3 ∨ ¬ i < N3) with hlt | hlt
      focus
        have g1 : (i : Int) < (N3 : Int) ∧ ¬ (i : Int) < (ls.length : Int) := by omega
        obtain ⟨g1, g2⟩ := g1
      rotate_left 1
      focus
        have g1 : ¬ (i : Int) < (N3 : Int) := by omega
      all_goals
        have hiN : i ≤ 3 * n + 1 := by have := hN3.out; omega
        have hM4 := PMap.new wx 76
        have hbm := belowNew wx (.map #[] 0)
        have hC4 := hC.below hbm
        have h4n : V.heap.size ≤ wx.heap.size ∧ wx.heap.size ≠ pb ∧ wx.heap.size ≠ m1 ∧ wx.heap.size ≠ m2 := ⟨hC.bel.size, fun e => by have := (hC.ply.lt (k := pb) rfl).2; omega, fun e => by have := hC.a1.lt; omega, fun e => by have := hC.a2.lt; omega⟩
        have hmm := @run_makeMap Tryz.prog
        go_upto_region 28 with fail
        try generalize decide (i < ls.length) = bz at *
        obtain ⟨m4, hm4⟩ : ∃ z, Hid (wx.heap.size = z) := ⟨_, rfl⟩
        rw [hm4.out] at hM4 h4n ⊢
        generalize World.alloc _ _ = w5 at *
        have hc0 : cntG N3 (fun _ _ => none) = 0 := by unfold cntG; rw [List.filter_eq_nil_iff.2 (fun a _ => by simp)]; rfl
        clear hC hbm hm4 hmm
        go_wp2_with fail
        go_loopw [23, 24, 25, 26, 27, 28] (fun v23 _ _ _ _ _ wr => ∃ (j : Nat) (G : Int → Int → Option ByteArray), j ≤ ls.length ∧ v23 = .int .i64 (j : Int) ∧ CO V rt pb m1 m2 F1 F2 k1 k2 wr ∧ PMap wr 76 m4 (votF G) (cntG N3 G) ∧ DoneG n c G) (fun v _ _ _ _ _ _ => ls.length - (intOf v).toNat)
        case atStart => exact ⟨0, fun _ _ => none, Nat.zero_le _, rfl, hC4, by rw [hc0]; exact hM4, fun _ _ _ h => by cases h⟩
        case round =>
          clear hC4 hM4 hc0
          obtain ⟨j, G, hjl, rfl, hC, hM, hDn⟩ := hrel
          by_cases hjlt : j < ls.length
          · have g5 : (j : Int) < (ls.length : Int) := by omega
            obtain ⟨x, hx⟩ : ∃ x, ls[j]? = some x := ⟨_, List.getElem?_eq_getElem hjlt⟩
            have hxm := List.mem_of_getElem? hx
            have hIx := hI x hxm
            have hxl : (x.l.length : Int) ≤ 9223372036854775807 := by have := hIx.1; unfold maxLen at this; omega
            go_wp2_with fail
            go_loopw [24, 25, 26, 27, 28] (fun v24 _ _ _ _ wr => ∃ (k : Nat) (G : Int → Int → Option ByteArray), k ≤ 12 ∧ k ≤ x.l.length ∧ v24 = .int .i64 (k : Int) ∧ CO V rt pb m1 m2 F1 F2 k1 k2 wr ∧ PMap wr 76 m4 (votF G) (cntG N3 G) ∧ DoneG n c G) (fun v _ _ _ _ _ => 12 - (intOf v).toNat)
            case atStart => exact ⟨0, G, by omega, by omega, rfl, hC, hM, hDn⟩
            case round =>
              clear hC hM hDn G
              obtain ⟨k, G, hk12, hkx, rfl, hC, hM, hDn⟩ := hrel
              obtain ⟨xb, xo, hxa, hxbl, x0⟩ := (hRV.below hC.bel).ops hx
              subst hxa
              rcases (by by_cases h : k < x.l.length ∧ k < 12; exact Or.inl h; exact Or.inr h : (k < x.l.length ∧ k < 12) ∨ ¬ (k < x.l.length ∧ k < 12)) with hgk | hgk
              · have g3 : (k : Int) < (x.l.length : Int) := by omega
                have g4 : (k : Int) < 12 := by omega
                obtain ⟨o, ho⟩ : ∃ o, x.l[k]? = some o := ⟨_, List.getElem?_eq_getElem hgk.1⟩
                have hom := List.mem_of_getElem? ho
                have hxA : RowAt opK V x.ao x.l := hRV.at_ x hxm
                have hO : OpIn V o.tame := tame_in (hxA.at_ o hom).2 (hIx.2 o hom)
                obtain ⟨b, off, hoa, hbl, y0, y1, y2, y3, y4, y5, y6, y7, y8, y9⟩ := (hxA.below hC.bel).op ho
                rw [hoa] at x0
                have hbn := belowNew wr (.cells #[.int .i64 o.kind, .int .i64 o.author, .int .i64 o.back, .int .i64 o.odd, .slice o.va o.votes.length o.vc, .int .i64 o.round, .int .i64 0, .int .i64 0, .slice none 0 0, .slice none 0 0] 35)
                have hX := Arr.new wr 35 [.int .i64 o.kind, .int .i64 o.author, .int .i64 o.back, .int .i64 o.odd, .slice o.va o.votes.length o.vc, .int .i64 o.round, .int .i64 0, .int .i64 0, .slice none 0 0, .slice none 0 0]
                have hC1 := hC.below hbn
                have hM1 := hM.below hbn
                go_upto_region 36 with fail
                obtain ⟨w6, hw6⟩ : ∃ z, wr.alloc (.cells #[.int .i64 o.kind, .int .i64 o.author, .int .i64 o.back, .int .i64 o.odd, .slice o.va o.votes.length o.vc, .int .i64 o.round, .int .i64 0, .int .i64 0, .slice none 0 0, .slice none 0 0] 35) = z := ⟨_, rfl⟩
                rw [hw6] at hX hC1 hM1 ⊢
                obtain ⟨ob, hob⟩ : ∃ z, Hid (wr.heap.size = z) := ⟨_, rfl⟩
                rw [hob.out] at hX ⊢
                clear hw6 hbn hC hM y0 y1 y2 y3 y4 y5 y6 y7 y8 y9
                have cH := header_pl hC1.bel hC1.ply hRt hO
                rw [hdrO_tame] at cH
                have haN := keyA_lt n hn2 o
                generalize keyA n o = a at *
                generalize keyB o = bb at *
                unfold OpM.tame OpM.v at cH
                simp only [List.length_nil] at cH
                have z0 := hX.cell (i := 0) rfl
                have z1 := hX.cell (i := 1) rfl
                have z2 := hX.cell (i := 2) rfl
                have z3 := hX.cell (i := 3) rfl
                have z4 := hX.cell (i := 4) rfl
                have z5 := hX.cell (i := 5) rfl
                have z6 := hX.cell (i := 6) rfl
                have z7 := hX.cell (i := 7) rfl
                have z8 := hX.cell (i := 8) rfl
                have z9 := hX.cell (i := 9) rfl
                go_wp2_with fail
                refine cH.mono ?_
                rintro e w7 ⟨h, rfl, hhd, hhA, hhf, hhl, hhL, hhfo, hb7⟩
                have hC7 := hC1.below hb7
                have hM7 := hM1.below hb7
                have cI := refHdrId_any h w7 hhA hhf hhl
                have ei : Mx.bytes (Mx.sumL (encH h.d)) = id0 n a bb := by rw [hhd]; rfl
                rw [ei] at cI
                clear cH z0 z1 z2 z3 z4 z5 z6 z7 z8 z9 hX hC1 hM1 hb7 ei hhd hhf hhl hhL hhfo hhA
                unfold HdrM.v at cI ⊢
                go_wp2_with fail
                refine cI.mono ?_
                rintro e w8 ⟨rfl, hb8⟩
                have hC8 := hC7.below hb8
                have hM8 := hM7.below hb8
                clear cI hC7 hM7 hb8
                have hids : (id0 n a bb).size ≤ maxLen := by rw [← hd0_id, idB_size]; decide
                have hF1 := hMp.votes a bb haN
                have hF1' : (F1 (id0 n a bb)).getD (.int .i64 0) = .int .i64 (c a bb : Int) := by
                  rw [hF1]
                  split
                  · rename_i h0; rw [h0]; rfl
                  · rfl
                have hlk : ∀ m, (Instr.lookup 71 (.map (some m1)) (.string (id0 n a bb)) false).run Tryz.prog (w8.drewN m) = .ok (.int .i64 (c a bb : Int)) (w8.drewN m) := fun m => by
                  have h := hC8.a1.looks Tryz.underlying71 zeroInt14 hids m
                  rw [hF1'] at h
                  exact h
                have cNe : ∀ m, Calls Tryz.prog 40 #[.pointer (some ⟨tb, 0, none⟩)] (w8.drewN m) fun e w' => e = .returned (.int .i64 (ND : Int)) ∧ w' = w8.drewN m := fun m => by
                  have h := Mx.need_any tb n (ksF n) (w8.drewN m) (hT.below ((hC8.below (below_drewN (Below.refl _ _) m)).bel)).T hn2
                  rw [hND.out] at h
                  exact h
                clear hF1 hF1'
                obtain ⟨ID, hIDe⟩ : ∃ z, Hid (id0 n a bb = z) := ⟨_, rfl⟩
                rw [hIDe.out] at hlk hids ⊢
                obtain ⟨cc, hcc⟩ : ∃ z, Hid (c a bb = z) := ⟨_, rfl⟩
                rw [hcc.out] at hlk
                go_upto_region 37 with fail
                go_quiet (exact Calls.quiet_of_same (cNe _))
                have hbq := below_drewN (Below.refl w8.heap.size w8) nq
                have hC9 := hC8.below hbq
                have hM9 := hM8.below hbq
                generalize w8.drewN nq = w9 at *
                clear hlk cNe hbq hC8 hM8
                by_cases hlo : cc < ND
                · have g6 : (cc : Int) < (ND : Int) := by omega
                  go_wp2
                  go_roundw
                  case rel => exact ⟨k + 1, G, by omega, by omega, by go_num, hC9, hM9, hDn⟩
                  case measure => simp [intOf]; omega
                · have g6 : ¬ (cc : Int) < (ND : Int) := by omega
                  have hcb : 2 * n + 1 ≤ c a bb := by rw [hcc.out, hND.out]; omega
                  have hF2 := hMp.at_ a bb haN (by omega)
                  rw [hIDe.out] at hF2
                  replace hF2 : Hid _ := hF2
                  have hwb : IntKind.i64.min ≤ (a : Int) ∧ (a : Int) ≤ IntKind.i64.max := ⟨Int.le_trans (by decide) (Int.natCast_nonneg a), by show (a : Int) ≤ 9223372036854775807; omega⟩
                  have hwf : (⟨(a : Int), 1⟩ : PlaceD).Wf := ⟨by show (Lit.int .i64 (a : Int)).wf = true; simp [Lit.wf, hwb.1]; omega, by show (Lit.int .i64 1).wf = true; decide⟩
                  clear hwb
                  have hcn : cntG N3 G < maxLen := by have := cntG_le N3 G; unfold maxLen; omega
                  have hDn9 := hDn.put haN hcb
                  have hput : Hid (∀ w', PMap w' 76 m4 (putFP (votF G) ⟨(a : Int), 1⟩ (.string ID)) (putNP (votF G) ⟨(a : Int), 1⟩ (cntG N3 G)) → PMap w' 76 m4 (votF (fun x r => if x = (a : Int) ∧ r = 1 then some (id0 n a bb) else G x r)) (cntG N3 (fun x r => if x = (a : Int) ∧ r = 1 then some (id0 n a bb) else G x r))) := fun w' h => by
                    have e1 : putNP (votF G) ⟨(a : Int), 1⟩ (cntG N3 G) = cntG N3 (fun x r => if x = (a : Int) ∧ r = 1 then some (id0 n a bb) else G x r) := by
                      rw [cntG_put (by have := hN3.out; omega)]
                      unfold putNP votF
                      simp only [Option.isSome_map]
                    rw [← e1]
                    refine h.congr (fun p => ?_)
                    unfold putFP votF
                    obtain ⟨pa, pr⟩ := p
                    simp only [PlaceD.mk.injEq]
                    rw [← hIDe.out]
                    split <;> rfl
                  obtain ⟨was, hwas⟩ : ∃ z, Hid (G (a : Int) 1 = z) := ⟨_, rfl⟩
                  have hv : votF G ⟨(a : Int), 1⟩ = was.map Value.string := by unfold votF; simp only; rw [hwas.out]
                  have hsame : Hid (∀ q, was = some q → q = ID) := fun q hq => by
                    have h := hDn.same hCn hiN hcb (was := q) (by rw [hwas.out, hq])
                    rw [h, hIDe.out]
                  generalize (fun (x r : Int) => if x = (a : Int) ∧ r = 1 then some (id0 n a bb) else G x r) = G9 at *
                  cases was with
                  | none =>
                    go_wp2_with (first
                      | (at_lookup; refine smap_look (by rfl) _ _ 72 rfl 76 Tryz.underlying72 _ (zeroPlace14 _) m2 _ _ rfl hC9.a2 ID hids rfl ?_; rw [hF2.out]; simp only [Option.getD_some])
                      | (at_lookup; refine pmap_look_ok placeKey2 (by rfl) _ _ 77 rfl 9 Tryz.underlying77 _ (zeroStr14 _) m4 _ _ rfl hM9 ⟨(a : Int), 1⟩ hwf rfl ?_; rw [hv]; simp only [Option.map_none, Option.getD_none, Option.isSome_none])
                      | (refine pmap_put placeKey2 rfl _ _ _ 77 rfl 9 Tryz.underlying77 m4 _ _ rfl hM9 hcn ⟨(a : Int), 1⟩ hwf rfl _ rfl ?_))
                    intro wj hMj hkj
                    have hCj := hC9.kept hkj (fun k e => by have e' : k = m4 := e; rw [e']; exact h4n)
                    have hMz := hput.out _ hMj
                    clear hMj hkj hC9 hM9 hput
                    go_wp2
                    go_roundw
                    case rel => exact ⟨k + 1, G9, by omega, by omega, by go_num, hCj, hMz, hDn9⟩
                    case measure => simp [intOf]; omega
                  | some q =>
                    rw [hsame.out q rfl] at hv
                    clear hwas hsame
                    go_wp2_with (first
                      | (at_lookup; refine smap_look (by rfl) _ _ 72 rfl 76 Tryz.underlying72 _ (zeroPlace14 _) m2 _ _ rfl hC9.a2 ID hids rfl ?_; rw [hF2.out]; simp only [Option.getD_some])
                      | (at_lookup; refine pmap_look_ok placeKey2 (by rfl) _ _ 77 rfl 9 Tryz.underlying77 _ (zeroStr14 _) m4 _ _ rfl hM9 ⟨(a : Int), 1⟩ hwf rfl ?_; rw [hv]; simp only [Option.map_some, Option.getD_some, Option.isSome_some])
                      | (refine pmap_put placeKey2 rfl _ _ _ 77 rfl 9 Tryz.underlying77 m4 _ _ rfl hM9 hcn ⟨(a : Int), 1⟩ hwf rfl _ rfl ?_))
                    intro wj hMj hkj
                    have hCj := hC9.kept hkj (fun k e => by have e' : k = m4 := e; rw [e']; exact h4n)
                    have hMz := hput.out _ hMj
                    clear hMj hkj hC9 hM9 hput
                    go_wp2
                    go_roundw
                    case rel => exact ⟨k + 1, G9, by omega, by omega, by go_num, hCj, hMz, hDn9⟩
                    case measure => simp [intOf]; omega
              · rcases (by by_cases h : k < x.l.length; exact Or.inl h; exact Or.inr h : k < x.l.length ∨ ¬ k < x.l.length) with hlt | hlt
                focus
                  have g3 : (k : Int) < (x.l.length : Int) ∧ ¬ (k : Int) < 12 := by omega
                  obtain ⟨g3, g4⟩ := g3
                rotate_left 1
                focus
                  have g3 : ¬ (k : Int) < (x.l.length : Int) := by omega
                all_goals
                  go_wp2
                  go_roundw
                  case rel => exact ⟨j + 1, G, by omega, by go_num, hC, hM, hDn⟩
                  case measure => simp [intOf]; omega
          · have g5 : ¬ (j : Int) < (ls.length : Int) := by omega
            have hbF : Below w.heap.size w wr := hbw.trans (hC.bel.mono hbw.size)
            go_wp2
            go_ret
            exact ⟨rfl, hbF⟩
end Go.Proofs.YtmjkbdgcnoenbaaGreatDoor

/- DagCerts: for every input the statement answers true, and each argument reads afterwards as it read before. Condition: the two tables of package mix read as the program's text lays them; no other. -/
namespace Go.Proofs.YtmjkbdgcnoenbaaGreatDoor
open Go.ChangeShapes Go.WideShapes Go.ChangeAt Go.RowKit
open Go.ChangeMaps (open_string shut_string)
set_option linter.unusedVariables false

set_option maxRecDepth 100000 in
theorem dagCerts_lifted (os : Os) (started : os.Started) (H : Type) (enc : TypeId × Value → H) :
    ReturnsInHanded {} Tryz.checked os 5 .any (fun w args => (Rows.dagCertsSpec.pre enc Tryz.prog Tryz.f5 [] false w args ∧ laidMetH Tryz.prog Mx.laid2 w) ∧ sizedMet enc Tryz.prog Tryz.f5 (OpenSpec.ofChange Rows.dagCertsSpec) false w args)
      (Rows.dagCertsSpec.post enc Tryz.prog Tryz.f5 false true false false) := by
  refine returnsInHanded_of_change_and (C := Tryz.checked) (X := fun w _ => laidMetH Tryz.prog Mx.laid2 w) (fun _ _ _ hh h => h.of_heap hh) ownKnob_none started (by kernel_rfl) Tryz.func5
    (ChangeSpec.witness_shaped (enc := enc) (C := Tryz.checked) (os := os) (X := fun w _ => laidMetH Tryz.prog Mx.laid2 w) false (World.doorLaid Tryz.prog 400 os) #[.int .i64 0, .slice none 0 0] 8 rfl (World.shaped_of_RefB (by kernel_rfl) (by kernel_rfl)) (by kernel_rfl) (by kernel_rfl) (by kernel_rfl) (Mx.door_met os _)) ?_
  intro W base args ds gs before hval0 hW hcnd hsz0 hL _
  have hval : ∀ (j : Nat) t v, Tryz.f5.params[j]? = some t → args[j]? = some v → Value.okWide Tryz.prog W .any base t v := hval0
  have hsz : (DataW.weightsEach Tryz.prog (Tryz.f5.params.toList ++ Rows.dagCertsSpec.plain.varTypes Tryz.prog) (ds ++ gs)).all (· ≤ reachBytes) = true := hsz0
  have hW' := hW
  obtain ⟨p, q, hA0, hV, rfl, hfz, hnd⟩ := hW
  have hA : DataW.TrodAll enc Tryz.prog W 0 (fun _ => true) true Tryz.f5.params.toList args.toList ds p := hA0
  rw [Tryz.params5] at hA hval hsz
  obtain ⟨v0, vs0, d0, ds0, p0, q0, hargs, rfl, rfl, h0, r0⟩ := trodAll_cons hA
  obtain ⟨v1, vs1, d1, ds1, p1, q1, rfl, rfl, rfl, h1, r1⟩ := trodAll_cons r0
  obtain ⟨rfl, rfl, rfl⟩ := trodAll_nil r1
  obtain rfl : args = #[v0, v1] := by cases args; simp_all
  obtain ⟨rfl, rfl⟩ := trodVars_none hV
  have k0 := h0
  have lt0 : ∀ x ∈ p0, x.block < W.heap.size := by obtain ⟨m, hm⟩ := k0; exact DataW.trod_lt m _ _ _ hm
  obtain ⟨a0, rfl, hd0, hp0, w0⟩ := open_int Tryz.underlying3 (hval 0 3 v0 rfl rfl) h0
  have k1 := h1
  have lt1 : ∀ x ∈ p1, x.block < W.heap.size := by obtain ⟨m, hm⟩ := k1; exact DataW.trod_lt m _ _ _ hm
  obtain ⟨a1, len1, cap1, rfl⟩ := okWide_slice Tryz.underlying70 (hval 1 70 v1 rfl rfl)
  obtain ⟨l1, rfl, st1, sm1, vo1⟩ := open_opss14 h1
  clear hA0 hval0 hsz0
  refine (dagCerts_walk a0 a1 cap1 l1 W st1 vo1 sm1 (Mx.of_laid hL)).mono fun e W' ⟨he, bel⟩ => ?_
  subst he
  exact ⟨_, rfl, _, _, _, [], _, [], hW', trodAll_mk1 (shut_bool Tryz.underlying4 _), (trodAll_cons_mk (Below.trod laidOut_true (by kernel_rfl) (of_decide_eq_true (by kernel_rfl)) k0 bel lt0) (trodAll_cons_mk (Below.trod laidOut_true (by kernel_rfl) (of_decide_eq_true (by kernel_rfl)) k1 bel lt1) trodAll_mk0)), rfl, bel.frame _, fun h => by cases h⟩

theorem dagCerts_holds : Rows.DagCertsSaid :=
  OpenClaim.holds_of_wide 5 Tryz.f5 rfl rfl rfl rfl rfl rfl rfl ⟨rfl, rfl, rfl, rfl, rfl⟩ rfl rfl rfl rfl rfl (by kernel_rfl) Tryz.func5 (by kernel_rfl)
    (of_decide_eq_true (by kernel_rfl)) (by unfold Func.isWrapper; rw [if_neg (of_decide_eq_false (by kernel_rfl))]; exact ⟨rfl, rfl⟩)
    (fun os started H enc _ => dagCerts_lifted os started H enc)

theorem dagCerts_card : Rows.DagCertsCardSaid :=
  Claim7.holds_tied_plain_at .later [] [.data, .data] true (true, "cb9ec11f0cffbdc1ea1207431f7b5a121590a4829560b15185c4dfb95d7ea019") false
    dagCerts_holds (fun _ h => by cases h) (by kernel_rfl) (fun _ h => by cases h) dagCerts_row_tie rfl ⟨rfl, rfl⟩ (by kernel_rfl) rfl
    (fun f fn hf hfn => by
      obtain rfl : f = 5 := Option.some.inj ((show Tryz.prog.funcNamed "tusk/tusklaw14.DagCerts" = some 5 by kernel_rfl).symm.trans hf) |>.symm
      obtain rfl : fn = Tryz.f5 := (Option.some.inj (Tryz.func5.symm.trans hfn)).symm
      exact ⟨by kernel_rfl, fun j t ht => by
        rw [Tryz.params5] at ht
        have hall : ∀ t ∈ (#[3, 70] : Array TypeId).toList, Tryz.prog.wantsStandIn t = false := by
          show ∀ t ∈ ([3, 70] : List TypeId), Tryz.prog.wantsStandIn t = false
          refine List.forall_mem_cons.2 ⟨by kernel_rfl, ?_⟩
          refine List.forall_mem_cons.2 ⟨by kernel_rfl, ?_⟩
          exact fun _ h => by cases h
        exact hall t (Array.mem_toList_iff.2 (Array.mem_of_getElem? ht))⟩)
    (by kernel_rfl)
end Go.Proofs.YtmjkbdgcnoenbaaGreatDoor
