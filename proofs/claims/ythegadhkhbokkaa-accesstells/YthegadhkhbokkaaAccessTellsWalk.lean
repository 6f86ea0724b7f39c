/- AccessTells: of any transactions it is told which are in each other's way, and which hang together. -/
import Derived.Test.YthegadhkhbokkaaAccArgs
import Derived.Test.YthegadhkhbokkaaRefAccGroups
import Derived.BigQuiet
import Derived.Deep.QuietTactic
import Derived.Deep.DeepCutAuto
namespace Go.Proofs.Ythegadhkhbokkaa
open Go Go.RowKit
set_option linter.unusedVariables false

/-- What is read behind the calls. -/
structure Tl (W w : World) (x y : TxA) (ea eb ga gb : Option Addr) (E : List (Nat × Nat)) (G : List Nat) : Prop where
  two : Two20 W w W.heap.size (W.heap.size + 1) x y
  e1 : RowAt pairK w ea E
  e2 : RowAt pairK w eb E
  g1 : RowAt natK w ga G
  g2 : RowAt natK w gb G

theorem Tl.below {W w w' : World} {x y : TxA} {ea eb ga gb : Option Addr} {E : List (Nat × Nat)} {G : List Nat} (h : Tl W w x y ea eb ga gb E G) (hb : Below w.heap.size w w') : Tl W w' x y ea eb ga gb E G :=
  ⟨h.two.below hb, h.e1.below hb, h.e2.below hb, h.g1.below hb, h.g2.below hb⟩

set_option maxRecDepth 100000 in
set_option maxHeartbeats 8000000 in
theorem accessTells_walk (ao : Option Addr) (cp : Nat) (l : List TxA) (x y : TxA) (W : World) (hl : RowAt txA W ao l) (hm : l.length ≤ maxLen) (hw : Wide l) (hx : TxA.At W x) (hxf : Fits x) (hy : TxA.At W y) (hyf : Fits y) :
    Calls Try.prog 3 #[.slice ao l.length cp, x.v, y.v] W fun e w' => e = .returned (.bool true) ∧ Below W.heap.size W w' := by
  clear hm
  have hT := Two20.new W x y hx hy
  clear hx hy
  have cO1 : ∀ w, TxA.At w x → x.rs.length ≤ 1000 → x.ws.length ≤ 1000 → Calls Try.prog 14 #[x.v] w fun e w' => GotOwnA w x e w' := fun w h h1 h2 => ownA_any x w h (by omega) (by omega)
  have cO2 : ∀ w, TxA.At w y → y.rs.length ≤ 1000 → y.ws.length ≤ 1000 → Calls Try.prog 14 #[y.v] w fun e w' => GotOwnA w y e w' := fun w h h1 h2 => ownA_any y w h (by omega) (by omega)
  have cRc : ∀ w, TxA.At w x → TxA.At w y → x.rs.length ≤ 1000 → x.ws.length ≤ 1000 → y.rs.length ≤ 1000 → y.ws.length ≤ 1000 → Calls Try.prog 15 #[x.v, y.v] w fun e w' => e = .returned (.bool (clashB x.rw y.rw)) ∧ Below w.heap.size w w' := fun w h h' h1 h2 h3 h4 => refClash_any x y w h h' (by omega) (by omega) (by omega) (by omega)
  have cG : ∀ (w : World) (cp : Nat), Two20 W w W.heap.size (W.heap.size + 1) x y → Calls Try.prog 7 #[.slice (some ⟨w.heap.size, 0, none⟩) 2 cp] (w.alloc (.cells (x.c ++ y.c).toArray 26)) fun e w' => e = .returned (.bool (greatA [x, y])) ∧ Two20 W w' W.heap.size (W.heap.size + 1) x y := fun w cp h => great_two h hxf hyf cp
  have cGl := great_any l ao cp _ (hl.below hT.bel) hw
  unfold TxA.v at cO1 cO2 cRc ⊢
  go_enter Try.func3, Try.ntmps3
  go_wp2_with fail
  refine cGl.mono ?_
  rintro _ w1 ⟨rfl, hb1⟩
  replace hT := hT.below hb1
  clear hb1 cGl
  cases hg : greatA l with
  | true =>
    have hB := hT.bel
    go_wp2
    go_ret
    exact ⟨rfl, hB⟩
  | false =>
    have hf := few_of hg
    clear hg
    obtain ⟨x0, x1, x2, x3, x4, x5, x6, x7, x8⟩ := hT.bx.nine
    obtain ⟨y0, y1, y2, y3, y4, y5, y6, y7, y8⟩ := hT.by'.nine
    go_wp2_with fail
    refine (cG w1 2 hT).mono ?_
    rintro _ w2 ⟨rfl, hT2⟩
    clear hT cG x0 x1 x2 x3 x4 x5 x6 x7 x8 y0 y1 y2 y3 y4 y5 y6 y7 y8
    cases hg : greatA [x, y] with
    | true =>
      have hB := hT2.bel
      go_wp2
      go_ret
      exact ⟨rfl, hB⟩
    | false =>
      obtain ⟨⟨fx1, fx2⟩, fy1, fy2⟩ := few_two hg
      clear hg
      have c1 := ownL_any l ao cp w2 (hl.below hT2.bel) hf
      go_wp2_with fail
      refine c1.mono ?_
      rintro _ w3 ⟨ma, mc, m, rfl, hml, hm, hrw, hb3⟩
      clear hml
      have hT3 := hT2.below hb3
      have c2 := edges_any m ma mc w3 hm (few_same hf hrw)
      rw [hrw] at c2
      replace hrw : Hid _ := hrw
      clear c1 hT2 hb3 hm hrw
      go_wp2_with fail
      refine c2.mono ?_
      rintro _ w4 ⟨ea, ec, rfl, hE1, hb4⟩
      have hT4 := hT3.below hb4
      have hE1r := hE1.rowOf.1
      have c3 := refEdges_any l ao cp w4 (hl.below hT4.bel) hf
      clear c2 hT3 hb4 hE1
      go_wp2_with fail
      refine c3.mono ?_
      rintro _ w5 ⟨eb, ec2, rfl, hE2, hb5⟩
      have hT5 := hT4.below hb5
      have hE1r5 := hE1r.below hb5
      have hE2r := hE2.rowOf.1
      have c4 := ownL_any l ao cp w5 (hl.below hT5.bel) hf
      clear c3 hT4 hb5 hE2 hE1r
      go_wp2_with fail
      refine c4.mono ?_
      rintro _ w6 ⟨ma2, mc2, m2, rfl, hml, hm, hrw, hb6⟩
      clear hml
      have hT6 := hT5.below hb6
      have hE1r6 := hE1r5.below hb6
      have hE2r6 := hE2r.below hb6
      have c5 := groups_any m2 ma2 mc2 w6 hm (few_same hf hrw)
      rw [hrw] at c5
      clear c4 hT5 hb6 hm hrw hE1r5 hE2r
      go_wp2_with fail
      refine c5.mono ?_
      rintro _ w7 ⟨g, gl, rfl, hG1, hs1, hb7⟩
      have hT7 := hT6.below hb7
      have hE1r7 := hE1r6.below hb7
      have hE2r7 := hE2r6.below hb7
      have hG1r := hG1.rowOf.1
      have c6 := refGroups_any l ao cp w7 (hl.below hT7.bel) hf
      clear c5 hT6 hb7 hG1 hE1r6 hE2r6
      go_wp2_with fail
      refine c6.mono ?_
      rintro _ w8 ⟨ga, gc, gl2, rfl, hG2, hs2, hb8⟩
      have hT8 := hT7.below hb8
      have hG1r8 := hG1r.below hb8
      have hG2r := hG2.rowOf.1
      have hE1r8 := hE1r7.below hb8
      have hE2r8 := hE2r7.below hb8
      obtain rfl := hs1.uniq hs2
      have hgl : gl.length = (rwL l).length := hs1.len
      rw [← hgl] at ⊢
      replace hgl : Hid _ := hgl
      have hEl : (edgesL (rwL l)).length ≤ 1000000 := by
        have := edgesN_length (rwL l) (rwL l).length
        unfold edgesL
        rw [rwL_length] at this ⊢
        have h1 := hf.1
        have h2 : l.length * l.length ≤ 1000 * 1000 := Nat.mul_le_mul h1 h1
        omega
      have hGl : gl.length ≤ 1000000 := by
        rw [hgl.out, rwL_length]; have := hf.1; omega
      generalize edgesL (rwL l) = E at *
      have hTL : Tl W w8 x y ea eb (some ⟨g, 0, none⟩) ga E gl := ⟨hT8, hE1r8, hE2r8, hG1r8, hG2r⟩
      clear c6 hT7 hb8 hG2 hE1r7 hE2r7 hG1r hG1r8 hG2r hE1r8 hE2r8 hT8 hs1 hs2 hl hw hf
      generalize (some ⟨g, 0, none⟩ : Option Addr) = gA at *
      have hT0 : Tl W w8.drew x y ea eb gA ga E gl := hTL.below (below_drewN (Below.refl _ _) 1)
      clear hTL
      have hkp : ∀ w', Tl W w' x y ea eb gA ga E gl → (w'.cell? ⟨W.heap.size, 0, none⟩ = some (.int .i64 x.kind) ∧ w'.cell? ⟨W.heap.size, 1, none⟩ = some (.string x.frm) ∧ w'.cell? ⟨W.heap.size, 2, none⟩ = some (.string x.dst) ∧ w'.cell? ⟨W.heap.size, 3, none⟩ = some (.int .u64 x.amt) ∧ w'.cell? ⟨W.heap.size, 4, none⟩ = some (.int .u64 x.non) ∧ w'.cell? ⟨W.heap.size, 5, none⟩ = some (.string x.key) ∧ w'.cell? ⟨W.heap.size, 6, none⟩ = some (.string x.val) ∧ w'.cell? ⟨W.heap.size, 7, none⟩ = some (.slice x.ra x.rs.length x.rc) ∧ w'.cell? ⟨W.heap.size, 8, none⟩ = some (.slice x.wa x.ws.length x.wc)) ∧ (w'.cell? ⟨W.heap.size + 1, 0, none⟩ = some (.int .i64 y.kind) ∧ w'.cell? ⟨W.heap.size + 1, 1, none⟩ = some (.string y.frm) ∧ w'.cell? ⟨W.heap.size + 1, 2, none⟩ = some (.string y.dst) ∧ w'.cell? ⟨W.heap.size + 1, 3, none⟩ = some (.int .u64 y.amt) ∧ w'.cell? ⟨W.heap.size + 1, 4, none⟩ = some (.int .u64 y.non) ∧ w'.cell? ⟨W.heap.size + 1, 5, none⟩ = some (.string y.key) ∧ w'.cell? ⟨W.heap.size + 1, 6, none⟩ = some (.string y.val) ∧ w'.cell? ⟨W.heap.size + 1, 7, none⟩ = some (.slice y.ra y.rs.length y.rc) ∧ w'.cell? ⟨W.heap.size + 1, 8, none⟩ = some (.slice y.wa y.ws.length y.wc)) := fun w' h => ⟨h.two.bx.nine, h.two.by'.nine⟩
      have hTc := hkp _ hT0
      cases hcl : clashB x.rw y.rw
      all_goals
        rw [hcl] at cRc
        have hcl' : Hid _ := hcl
        clear hcl
        go_wp2_with fail
        rename_i K hK
        replace hK : Hid _ := hK
        go_region_held3 (fun w' => (w'.cell? ⟨W.heap.size, 0, none⟩ = some (.int .i64 x.kind) ∧ w'.cell? ⟨W.heap.size, 1, none⟩ = some (.string x.frm) ∧ w'.cell? ⟨W.heap.size, 2, none⟩ = some (.string x.dst) ∧ w'.cell? ⟨W.heap.size, 3, none⟩ = some (.int .u64 x.amt) ∧ w'.cell? ⟨W.heap.size, 4, none⟩ = some (.int .u64 x.non) ∧ w'.cell? ⟨W.heap.size, 5, none⟩ = some (.string x.key) ∧ w'.cell? ⟨W.heap.size, 6, none⟩ = some (.string x.val) ∧ w'.cell? ⟨W.heap.size, 7, none⟩ = some (.slice x.ra x.rs.length x.rc) ∧ w'.cell? ⟨W.heap.size, 8, none⟩ = some (.slice x.wa x.ws.length x.wc)) ∧ (w'.cell? ⟨W.heap.size + 1, 0, none⟩ = some (.int .i64 y.kind) ∧ w'.cell? ⟨W.heap.size + 1, 1, none⟩ = some (.string y.frm) ∧ w'.cell? ⟨W.heap.size + 1, 2, none⟩ = some (.string y.dst) ∧ w'.cell? ⟨W.heap.size + 1, 3, none⟩ = some (.int .u64 y.amt) ∧ w'.cell? ⟨W.heap.size + 1, 4, none⟩ = some (.int .u64 y.non) ∧ w'.cell? ⟨W.heap.size + 1, 5, none⟩ = some (.string y.key) ∧ w'.cell? ⟨W.heap.size + 1, 6, none⟩ = some (.string y.val) ∧ w'.cell? ⟨W.heap.size + 1, 7, none⟩ = some (.slice y.ra y.rs.length y.rc) ∧ w'.cell? ⟨W.heap.size + 1, 8, none⟩ = some (.slice y.wa y.ws.length y.wc))) (exact hkp _ (by assumption))
          (first
          | (go_at_call 14; refine (cO1 _ hT0.two.ax fx1 fx2).mono ?_; rintro _ wA ⟨a, rfl, a1, a2, aA, aQ, af, hbA⟩; have hTA := Tl.below hT0 hbA; clear cO1)
          | (go_at_call 14; refine (cO2 _ hTA.two.ay fy1 fy2).mono ?_; rintro _ wB ⟨c, rfl, b1, b2, bA, bQ, bf, hbB⟩; have hTB := Tl.below hTA hbB; have aB := aA.below hbB)
          | (go_at_call 13; refine (clashA_any a c _ aB bA (by rw [a1]; omega) (by rw [a2]; omega) (by rw [b1]; omega) (by rw [b2]; omega)).mono ?_; rintro _ wC ⟨rfl, hbC⟩; have hTC := Tl.below hTB hbC; rw [rw_eq a1 a2, rw_eq b1 b2, hcl'.out])
          | (go_at_call 15; refine (cRc _ hTC.two.ax hTC.two.ay fx1 fx2 fy1 fy2).mono ?_; rintro _ wD ⟨rfl, hbD⟩; have hTD := Tl.below hTC hbD))
        refine hK.out _ _ ?_
        clear hTc hkp hT0 hTA hTB hTC hbA hbB hbC hbD aA aB bA aQ bQ af bf a1 a2 b1 b2 cO2 cRc hcl' fx1 fx2 fy1 fy2 hxf hyf
        go_wp2_with fail
        go_loopw [11] (fun v11 wr => ∃ i : Nat, i ≤ E.length ∧ v11 = .int .i64 (i : Int) ∧ Tl W wr x y ea eb gA ga E gl) (fun v _ => E.length - (intOf v).toNat)
        case atStart => exact ⟨0, Nat.zero_le _, rfl, hTD⟩
        case round =>
          obtain ⟨i, hi, rfl, hA⟩ := hrel
          clear hTD
          by_cases hil : i < E.length
          · have g1 : (i : Int) < (E.length : Int) := by omega
            obtain ⟨e, he⟩ : ∃ p, E[i]? = some p := ⟨_, List.getElem?_eq_getElem hil⟩
            obtain ⟨b1, o1, rfl, _, p1, p2⟩ := hA.e1.pair he
            obtain ⟨b2, o2, rfl, _, q1, q2⟩ := hA.e2.pair he
            clear he
            go_wp2_with fail
            go_quiet (fail)
            have hAq := hA.below (below_drewN (Below.refl wr.heap.size wr) nq)
            clear hA p1 p2 q1 q2
            go_wp2
            go_roundw
            case rel => exact ⟨i + 1, by omega, by go_num, hAq⟩
            case measure => simp [intOf]; omega
          · have g1 : ¬ (i : Int) < (E.length : Int) := by omega
            go_wp2_with fail
            go_loopw [12] (fun v12 W2 => ∃ i : Nat, i ≤ gl.length ∧ v12 = .int .i64 (i : Int) ∧ Tl W W2 x y ea eb gA ga E gl) (fun v _ => gl.length - (intOf v).toNat)
            case atStart => exact ⟨0, Nat.zero_le _, rfl, hA⟩
            case round =>
              clear hA
              obtain ⟨k, hk, rfl, hA⟩ := hrel
              by_cases hkl : k < gl.length
              · have g2 : (k : Int) < (gl.length : Int) := by omega
                obtain ⟨v, hv⟩ : ∃ p, gl[k]? = some p := ⟨_, List.getElem?_eq_getElem hkl⟩
                obtain ⟨b1, o1, rfl, _, p1⟩ := hA.g1.nat hv
                obtain ⟨b2, o2, rfl, _, q1⟩ := hA.g2.nat hv
                clear hv
                go_wp2_with fail
                go_quiet (fail)
                have hAq := hA.below (below_drewN (Below.refl wr.heap.size wr) nq)
                clear hA p1 q1
                go_wp2
                go_roundw
                case rel => exact ⟨k + 1, by omega, by go_num, hAq⟩
                case measure => simp [intOf]; omega
              · have g2 : ¬ (k : Int) < (gl.length : Int) := by omega
                have hB := hA.two.bel
                clear hA
                go_wp2
                go_ret
                exact ⟨rfl, hB⟩
end Go.Proofs.Ythegadhkhbokkaa
