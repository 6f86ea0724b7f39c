/- WavesCut: a plan with a number less, or twice, is refused; with its waves turned, too. -/
import Derived.Test.YtkgidmifgfoeiaaWavCutSt
import Derived.Test.YtkgidmifgfoeiaaAccOwnL
import Derived.Deep.DeepCutAuto
namespace Go.Proofs.Ytkgidmifgfoeiaa
open Go Go.RowKit
set_option linter.unusedVariables false

theorem emptyInt (w : World) (B : Nat) (hB : B ≤ w.heap.size) : KQ intK 3 (w.alloc (.cells #[] 3)) B (.slice (some ⟨w.heap.size, 0, none⟩) 0 0) [] := KQ.madeA (K := intK) w B hB

/-- A new row of numbers, as one of a row. -/
theorem KQ.irowI {w : World} {B : Nat} {ao : Option Addr} {n cap : Nat} {l : List Int} (h : KQ intK 3 w B (.slice ao n cap) l) : irowK.At w ⟨l, ao, cap⟩ ∧ (∀ b, rowFoot intK ao l b → B ≤ b) := by
  obtain ⟨h1, h2⟩ := h.rowOf
  refine ⟨⟨h1, fun e => h.nil n cap (by have e' : ao = none := e; rw [e'])⟩, fun b hb => ?_⟩
  rcases hb with ⟨_, off, e⟩ | ⟨y, _, hy⟩
  · exact (h.lt b (by rw [e]; rfl)).1
  · exact hy.elim

set_option maxRecDepth 100000 in
set_option maxHeartbeats 4000000 in
theorem wavesCut_walk (ao : Option Addr) (cp : Nat) (l : List TxA) (at_ : Int) (W : World) (hl : RowAt txA W ao l) (hm : l.length ≤ maxLen) (hw : Wide l) (hwf : (Lit.int .i64 at_).wf = true) :
    Calls Try.prog 6 #[.slice ao l.length cp, .int .i64 at_] W fun e w' => e = .returned (.bool true) ∧ Below W.heap.size W w' := by
  have cW := works21_any W
  clear hm hwf
  by_cases hgr : greatA l = true ∨ l.length = 0
  · have hE : Hid (greatA l = false → l.length = 0) := fun h => hgr.elim (fun e => by rw [h] at e; cases e) id
    cases hg : greatA l with
    | true =>
      go_enter Try.func6, Try.ntmps6
      go_wp2_with (first
        | (go_at_call 17; refine cW.mono ?_; rintro _ w0 ⟨rfl, hb0⟩; have cG := great_any l ao cp w0 (hl.below hb0) hw; rw [hg] at cG)
        | (go_at_call 8; refine cG.mono ?_; rintro _ w1 ⟨rfl, hb1⟩))
      go_ret
      exact ⟨rfl, hb0.trans (hb1.mono hb0.size)⟩
    | false =>
      have h0 := hE.out hg
      have g0 : ((l.length : Int) == 0) = true := by rw [h0]; rfl
      clear hgr h0 hE
      go_enter Try.func6, Try.ntmps6
      go_wp2_with (first
        | (go_at_call 17; refine cW.mono ?_; rintro _ w0 ⟨rfl, hb0⟩; have cG := great_any l ao cp w0 (hl.below hb0) hw; rw [hg] at cG)
        | (go_at_call 8; refine cG.mono ?_; rintro _ w1 ⟨rfl, hb1⟩))
      go_ret
      exact ⟨rfl, hb0.trans (hb1.mono hb0.size)⟩
  · have hg : greatA l = false := by
      cases h : greatA l with
      | true => exact absurd (Or.inl h) hgr
      | false => rfl
    have hpos : 0 < l.length := by
      rcases Nat.eq_zero_or_pos l.length with h | h
      · exact absurd (Or.inr h) hgr
      · exact h
    clear hgr
    have hf := few_of hg
    have hl1 := hf.1
    have g0 : ((l.length : Int) == 0) = false := beq_eq_false_iff_ne.2 (by omega)
    have hlen : Hid ((rwL l).length = l.length) := rwL_length l
    obtain ⟨i0, z0, hi0, hz0, hs0, hbb0, hzs0⟩ := intsInfo
    obtain ⟨i1, z1, hi1, hz1, hs1, hbb1, hzs1⟩ := intInfoA
    go_enter Try.func6, Try.ntmps6
    go_wp2_with (first
      | (go_at_call 17; refine cW.mono ?_; rintro _ w0 ⟨rfl, hb0⟩; have cG := great_any l ao cp w0 (hl.below hb0) hw; rw [hg] at cG; clear cW)
      | (go_at_call 8; refine cG.mono ?_; rintro _ w1 ⟨rfl, hb1'⟩; have hb1 := hb0.trans (hb1'.mono hb0.size); have cP := refPlan_any l ao cp w1 (hl.below hb1) hf; clear cG)
      | (go_at_call 14; refine cP.mono ?_; rintro _ w2 ⟨q, p, rfl, hP, hls, hb2'⟩
         have hb2 := hb1.trans (hb2'.mono hb1.size)
         obtain ⟨qa, qc, rfl, -, hr⟩ := hP.form
         have hpl : p.length = nwN (rwL l) (rwL l).length := by rw [lsP_len hls, planN_length]
         have hp0 : 0 < p.length := by rw [hpl]; exact nwN_pos (by rw [hlen.out]; exact hpos)
         have hp1 : p.length ≤ 1000 := (plan_fit hls (by rw [hlen.out]; exact hl1)).1.1
         obtain ⟨i, hi, hie⟩ := pick_atC at_ p.length hp0 (by omega)
         have gp : ((p.length : Int) == 0) = false := beq_eq_false_iff_ne.2 (by omega)
         have gu : IntKind.u64.wrap (p.length : Int) = (p.length : Int) := by rw [Mx.wrap_u64]; omega
         replace hpl : Hid _ := hpl
         replace hls : Hid _ := hls
         clear cP hb1'))
    rw [hie]
    have hiP : i < (planN (rwL l) (rwL l).length).length := by rw [planN_length, ← hpl.out]; exact hi
    obtain ⟨y0, q0, hyq⟩ := plan_full (l := rwL l) (w := i) (by rw [← planN_length]; exact hiP)
    have hPl : Hid (p.length = (planN (rwL l) (rwL l).length).length) := by unfold Hid; rw [planN_length]; exact hpl.out
    have hfin1 : Hid (chkN (rwL l) (planI ((planN (rwL l) (rwL l).length).set i q0)) = 12) := chk_few hyq
    have hfin2 : Hid (chkN (rwL l) (planI ((planN (rwL l) (rwL l).length).set i (y0 :: q0 ++ [y0]))) = 13) := chk_twice hyq
    have hfin3 : Hid (chkN (rwL l) (planI (planN (rwL l) (rwL l).length).reverse) = if p.length ≤ 1 then 0 else 9) := by unfold Hid; rw [hpl.out]; exact chk_turned (rwL l)
    have hrow : Hid (∀ (k : Nat) (x : IRow), p[k]? = some x → ∃ r, (planN (rwL l) (rwL l).length)[k]? = some r ∧ x.l = rowI r ∧ r.length ≤ 1000 ∧ 0 < r.length) := fun k x hx => by
      have hk : k < (planN (rwL l) (rwL l).length).length := by rw [← hPl.out]; exact (List.getElem?_eq_some_iff.1 hx).1
      obtain ⟨z, e1, e2⟩ := lsP_row hls.out (List.getElem?_eq_getElem hk)
      rw [hx] at e1
      obtain rfl : x = z := by simpa using e1
      have h1 := planI_row hls.out (List.mem_of_getElem? hx)
      have h2 := (wave_row' hls.out hx)
      rw [e2, rowI_len] at h1 h2
      exact ⟨_, List.getElem?_eq_getElem hk, e2, Nat.le_trans h1 (by rw [hlen.out]; exact hl1), h2⟩
    have hPPl : Hid (∀ r ∈ planN (rwL l) (rwL l).length, r.length ≤ 1000) := fun r hr => by
      obtain ⟨w, _, rfl⟩ := List.mem_map.1 hr
      exact Nat.le_trans (waveL_length _ _ _) (by rw [hlen.out]; exact hl1)
    generalize planN (rwL l) (rwL l).length = PP at *
    clear hie hiP hpl
    have hpo : Hid (∀ (x : IRow), x ∈ p → ∀ b, rowFoot intK x.ao x.l b → b < w2.heap.size) := fun x hx b hb => (hr.at_ x hx).1.lt hb
    have hC0 := Cut3.empty w2 w2.heap.size
    clear hP
    go_loopw [10, 7, 8, 9] (fun v10 v7 v8 v9 wr => ∃ (k : Nat) (fa ta ua : Option Addr) (fc tc uc : Nat) (LF LT LU : List IRow), k ≤ p.length ∧ v10 = .int .i64 (k : Int) ∧ v7 = .slice fa LF.length fc ∧ v8 = .slice ta LT.length tc ∧ v9 = .slice ua LU.length uc ∧ Cut3 wr w2.heap.size (.slice fa LF.length fc) (.slice ta LT.length tc) (.slice ua LU.length uc) LF LT LU ∧ Hid (lsP LF = planI ((PP.set i q0).take k)) ∧ Hid (lsP LT = planI ((PP.set i (y0 :: q0 ++ [y0])).take k)) ∧ Hid (lsP LU = planI (PP.take k).reverse) ∧ LF.length = k ∧ LT.length = k ∧ LU.length = k ∧ Below w2.heap.size w2 wr) (fun v _ _ _ _ => p.length - (intOf v).toNat)
    case atStart => exact ⟨0, none, none, none, 0, 0, 0, [], [], [], Nat.zero_le _, rfl, rfl, rfl, rfl, hC0, rfl, rfl, rfl, rfl, rfl, rfl, Below.refl _ _⟩
    case round =>
      obtain ⟨k, fa, ta, ua, fc, tc, uc, LF, LT, LU, hk, rfl, rfl, rfl, rfl, hC, hLF, hLT, hLU, hnF, hnT, hnU, hb⟩ := hrel
      have hbb := hb2.trans (hb.mono hb2.size)
      clear hC0
      by_cases hkl : k < p.length
      · have g1 : (k : Int) < (p.length : Int) := by omega
        obtain ⟨x, hx⟩ : ∃ q, p[k]? = some q := ⟨_, List.getElem?_eq_getElem hkl⟩
        obtain ⟨r, hr1, hr2, hr3, hr4⟩ := hrow.out k x hx
        obtain ⟨bp, op, rfl, hbp, cr, hri, hrn⟩ := (hr.below hb).irow hx
        have hxo := hpo.out x (List.mem_of_getElem? hx)
        have hx' : Hid _ := hx
        have hr2' : Hid _ := hr2
        have hxn : x.l.length ≤ 1000 := by rw [hr2, rowI_len]; exact hr3
        have hx0 : 0 < x.l.length := by rw [hr2, rowI_len]; exact hr4
        have hB2 : w2.heap.size ≤ wr.heap.size := hb.size
        have hb3 := belowNew wr (.cells #[] 3)
        have hX0 := emptyInt wr wr.heap.size (Nat.le_refl _)
        have cr3 : (wr.alloc (.cells #[] 3)).cell? ⟨bp, op + k, none⟩ = some (.slice x.ao x.l.length x.cap) := by rw [cell_same (hb3.block _ hbp)]; exact cr
        have hri3 := hri.below hb3
        have m1 : ([] : List Int).length + x.l.length ≤ maxLen := by unfold maxLen; simp; omega
        have m2 : (([] : List Int).length + x.l.length) * 8 ≤ 140737488355328 := by simp; omega
        have p1 : LF.length + 1 ≤ maxLen := by unfold maxLen; omega
        have p2 : (LF.length + 1) * 24 ≤ 140737488355328 := by omega
        have p3 : LT.length + 1 ≤ maxLen := by unfold maxLen; omega
        have p4 : (LT.length + 1) * 24 ≤ 140737488355328 := by omega
        have p5 : ([x] : List IRow).length + LU.length ≤ maxLen := by unfold maxLen; simp; omega
        have p6 : (([x] : List IRow).length + LU.length) * 24 ≤ 140737488355328 := by simp; omega
        replace hnF : Hid _ := hnF
        replace hnT : Hid _ := hnT
        replace hnU : Hid _ := hnU
        clear hx hr2 hr3 hr4
        by_cases hki : k = i
        · have g2 : ((k : Int) == (i : Int)) = true := by rw [hki]; simp
          have hre : r = y0 :: q0 := by rw [hki, hyq] at hr1; simpa using hr1.symm
          have hN1 : Hid ((PP.set i q0).take (k + 1) = (PP.set i q0).take k ++ [q0]) := by unfold Hid; rw [cut_next hr1 hyq, if_pos hki]
          have hN2 : Hid ((PP.set i (y0 :: q0 ++ [y0])).take (k + 1) = (PP.set i (y0 :: q0 ++ [y0])).take k ++ [y0 :: q0 ++ [y0]]) := by unfold Hid; rw [cut_next hr1 hyq, if_pos hki]
          have hN3 : Hid ((PP.take (k + 1)).reverse = r :: (PP.take k).reverse) := turn_next hr1
          have hR : Hid (x.l = rowI (y0 :: q0)) := by unfold Hid; rw [hr2'.out, hre]
          replace hki : Hid _ := hki
          replace hre : Hid _ := hre
          clear hr2'
          obtain ⟨xl, xo, xcap⟩ := x
          have hR2 : xl = (y0 : Int) :: rowI q0 := hR.out
          subst hR2
          have hRR : Hid (rowI q0 = rowI q0) := rfl
          have hF1 : Hid (∀ X : IRow, X.l = rowI q0 → lsP (LF ++ [X]) = planI ((PP.set i q0).take (k + 1))) := fun X hX => by rw [hN1.out]; exact lsP_snoc hLF.out hX
          have hF2 : Hid (∀ Y : IRow, Y.l = (y0 : Int) :: rowI q0 ++ [(y0 : Int)] → lsP (LT ++ [Y]) = planI ((PP.set i (y0 :: q0 ++ [y0])).take (k + 1))) := fun Y hY => by rw [hN2.out]; exact lsP_snoc hLT.out (by rw [hY, rowI_snoc]; rfl)
          have hF3 : Hid (lsP ([(⟨(y0 : Int) :: rowI q0, xo, xcap⟩ : IRow)] ++ LU) = planI (PP.take (k + 1)).reverse) := by unfold Hid; rw [hN3.out, hre.out]; exact lsP_front hLU.out rfl
          clear hR hRR hN1 hN2 hN3 hLF hLT hLU
          generalize rowI q0 = R at *
          replace cr : wr.cell? ⟨bp, op + k, none⟩ = some (.slice xo ((y0 : Int) :: R).length xcap) := cr
          replace cr3 : (wr.alloc (.cells #[] 3)).cell? ⟨bp, op + k, none⟩ = some (.slice xo ((y0 : Int) :: R).length xcap) := cr3
          replace hri : RowAt intK wr xo ((y0 : Int) :: R) := hri
          replace hri3 : RowAt intK (wr.alloc (.cells #[] 3)) xo ((y0 : Int) :: R) := hri3
          replace m1 : ([] : List Int).length + ((y0 : Int) :: R).length ≤ maxLen := m1
          replace m2 : (([] : List Int).length + ((y0 : Int) :: R).length) * 8 ≤ 140737488355328 := m2
          replace hxn : ((y0 : Int) :: R).length ≤ 1000 := hxn
          have hRn : R.length ≤ 1000 := by rw [List.length_cons] at hxn; omega
          have m3 : ((y0 : Int) :: R).length + 1 ≤ maxLen := by unfold maxLen; omega
          have m4 : (((y0 : Int) :: R).length + 1) * 8 ≤ 140737488355328 := by omega
          go_upto_region 13 with (first
            | (at_builtin; refine wpList_joins (K := intK) rfl _ _ 24 rfl wr.heap.size 3 i1 _ 8 Try.underlying24 hi1 hz1 hs1 hbb1 hzs1 _ [] ((y0 : Int) :: R) rfl hX0 (fun _ _ h => h) xo xcap rfl hri3 m1 m2 hb3.size ?_
               intro xa xc w4 hX hkx hfx
               simp only [List.nil_append] at hX hfx; (try simp only [List.nil_append])
               have hb4 : Below wr.heap.size wr w4 := hb3.trans (hkx.below hb3.size (fun b e => (hX0.lt b e).1))
               have hb5 := belowNew w4 (.cells #[] 3)
               have hb45 := hb4.trans (hb5.mono hb4.size)
               have hY0 := emptyInt w4 w4.heap.size (Nat.le_refl _)
               have cr5 : (w4.alloc (.cells #[] 3)).cell? ⟨bp, op + k, none⟩ = some (.slice xo ((y0 : Int) :: R).length xcap) := by rw [cell_same (hb45.block _ hbp)]; exact cr
               have hri5 := hri.below hb45
               clear hkx hfx)
            | (at_builtin; refine wpList_joins (K := intK) rfl _ _ 24 rfl w4.heap.size 3 i1 _ 8 Try.underlying24 hi1 hz1 hs1 hbb1 hzs1 _ [] ((y0 : Int) :: R) rfl hY0 (fun _ _ h => h) xo xcap rfl hri5 m1 m2 hb5.size ?_
               intro ya yc w6 hY hky hfy
               simp only [List.nil_append] at hY hfy; (try simp only [List.nil_append])
               have hb46 : Below w4.heap.size w4 w6 := hb5.trans (hky.below hb5.size (fun b e => (hY0.lt b e).1))
               have hb6 := hb4.trans (hb46.mono hb4.size)
               have hX6 := hX.below hb46
               obtain ⟨gx, ox, rfl, hgx1, hgx2, -, hgx3⟩ := hX6.spot (by simp)
               obtain ⟨gy, oy, rfl, hgy1, hgy2, -, hgy3⟩ := hY.spot (by simp)
               obtain ⟨cy0, -⟩ := hY.intSet (i := 0) rfl
               simp only [Nat.add_zero] at cy0
               have hgx4 : gx < w4.heap.size := by
                 have := (hX.lt gx rfl).2
                 omega
               have hb7' := belowNew w6 (.cells #[.int .i64 (y0 : Int)] 3)
               have hY7 := hY.below hb7'
               have hNY := new_int w6 (y0 : Int)
               have hBY : w4.heap.size ≤ (w6.alloc (.cells #[.int .i64 (y0 : Int)] 3)).heap.size := Nat.le_trans hb46.size hb7'.size
               have hAY : Hid (∀ (U : World), Below w4.heap.size w4 U → RowAt intK U (some ⟨gx, ox, none⟩) ((y0 : Int) :: R)) := fun U hU => (hX.below hU).rowOf.1
               clear hky hfy hX hY0 hX6 hY)
            | fail)
          by_cases hxc : xc = 1
          · have hR0 : Hid (R = []) := by
              have : R.length = 0 := by rw [List.length_cons] at hgx3; omega
              exact List.eq_nil_of_length_eq_zero this
            subst hxc
            clear hgx3
            go_wp2_with (first
              | (at_builtin; refine wpList_pushN (K := intK) rfl _ _ 24 rfl w4.heap.size 3 i1 _ 8 Try.underlying24 hi1 hz1 hs1 hbb1 hzs1 _ ((y0 : Int) :: R) rfl hY7 (y0 : Int) trivial (fun _ h => h.elim) ⟨w6.heap.size, 0, none⟩ 1 rfl hNY m3 m4 hBY ?_
                 intro yb ycb w6b hQb hkb hfb
                 generalize hYL : ((y0 : Int) :: R) ++ [(y0 : Int)] = YL at hQb hfb ⊢
                 replace hYL : Hid _ := hYL
                 have hbY : Below w4.heap.size w4 w6b := (hb46.trans (hb7'.mono hb46.size)).trans (hkb.below hBY (fun b e => (hY7.lt b e).1))
                 have hY9 := hQb.irowI
                 have hX9 := hAY.out w6b hbY
                 have hb6b := hb4.trans (hbY.mono hb4.size)
                 have hW6 : New2 w6b wr.heap.size ⟨R, some ⟨gx, ox, none⟩, 0⟩ ⟨YL, yb, ycb⟩ := ⟨⟨by rw [hR0.out]; exact nil_row _ _, fun e => by cases e⟩, hY9.1, fun b hb => by
                   rcases hb with ⟨_, off, e⟩ | ⟨_, _, e⟩
                   · simp only [Option.some.injEq, Addr.mk.injEq] at e
                     omega
                   · exact e.elim, fun b hb => Nat.le_trans hb4.size (hY9.2 b hb)⟩
                 have hb7 := belowNew w6b (.cells #[.slice (some ⟨gx, ox, none⟩) R.length 0] 24)
                 have hW7 := hW6.below hb7
                 have hbr7 := hb6b.trans (hb7.mono hb6b.size)
                 have hC7 := hC.below hbr7
                 have hfa : ∀ b, (Value.slice fa LF.length fc).ownBlock = some b → b < wr.heap.size := fun b e => (hC.f.out.lt b e).2
                 have hta : ∀ b, (Value.slice ta LT.length tc).ownBlock = some b → b < wr.heap.size := fun b e => (hC.t.out.lt b e).2
                 have hbB7 := hb.trans (hbr7.mono hb.size)
                 have hB7 := hbB7.size
                 have hN7 := new_slot w6b ⟨R, some ⟨gx, ox, none⟩, 0⟩
                 clear hkb hfb hX9 hY9 hW6 hQb hY7 hNY)
              | (at_builtin; refine wpList_pushN (K := slotK) rfl _ _ 28 rfl w2.heap.size 24 i0 _ 24 Try.underlying28 hi0 hz0 hs0 hbb0 hzs0 _ LF rfl hC7.f.out ⟨R, (some ⟨gx, ox, none⟩), 0⟩ trivial (fun _ h => h.elim) ⟨w6b.heap.size, 0, none⟩ 1 rfl hN7 p1 p2 hB7 ?_
                 intro fa8 fc8 w8 hQ8 hk8 hf8
                 obtain ⟨hC8, hy8, hyo8, hb8⟩ := hC7.putX hW7 hfa hta hQ8 hk8 hf8
                 have hbB8 : Below w2.heap.size w2 w8 := hbB7.trans (hb8 _ (Nat.le_refl _) hB7)
                 have hb9 := belowNew w8 (.cells #[.slice yb YL.length ycb] 24)
                 have hC9 := hC8.below hb9
                 have hy9 := irowK.below hy8 hb9
                 have hbB9 := hbB8.trans (hb9.mono hbB8.size)
                 have hB9 := hbB9.size
                 have hN9 := new_slot w8 ⟨YL, yb, ycb⟩
                 clear hQ8 hk8 hf8 hC7 hN7 hb8 hC8)
              | (at_builtin; refine wpList_pushN (K := slotK) rfl _ _ 28 rfl w2.heap.size 24 i0 _ 24 Try.underlying28 hi0 hz0 hs0 hbb0 hzs0 _ LT rfl hC9.t.out ⟨YL, yb, ycb⟩ trivial (fun _ h => h.elim) ⟨w8.heap.size, 0, none⟩ 1 rfl hN9 p3 p4 hB9 ?_
                 intro ta10 tc10 w10 hQ10 hk10 hf10
                 have hC10 := (hC9.swap.pushF hQ10 hk10 hf10 hy9 (fun b hb => (hyo8 b hb).2) (fun b hb => (hyo8 b hb).1)).swap
                 have hbB10 : Below w2.heap.size w2 w10 := hbB9.trans (hk10.below hB9 (fun b e => (hC9.t.out.lt b e).1))
                 obtain ⟨bp', op', e', -, cr10, -, -⟩ := (hr.below hbB10).irow hx'.out
                 simp only [Option.some.injEq, Addr.mk.injEq, and_true] at e'
                 obtain ⟨rfl, rfl⟩ := e'
                 replace cr10 : w10.cell? ⟨bp, op + k, none⟩ = some (.slice xo ((y0 : Int) :: R).length xcap) := cr10
                 have hq11 := oneSlot w10 (⟨(y0 : Int) :: R, xo, xcap⟩ : IRow)
                 have hb11 := belowNew w10 (.cells #[.slice xo ((y0 : Int) :: R).length xcap] 24)
                 obtain ⟨ua', uc', eu, hru⟩ := (hC10.u.below hb11).out.form
                 simp only [Value.slice.injEq, true_and] at eu
                 obtain ⟨rfl, rfl⟩ := eu
                 have hru2 := hru.2
                 have hxa10 := (hr.below hbB10).at_ _ (List.mem_of_getElem? hx'.out)
                 clear hQ10 hk10 hf10 hC9 hN9)
              | (at_builtin; refine wpList_joins (K := slotK) rfl _ _ 28 rfl w10.heap.size 24 i0 _ 24 Try.underlying28 hi0 hz0 hs0 hbb0 hzs0 _ [(⟨(y0 : Int) :: R, xo, xcap⟩ : IRow)] LU rfl hq11 (fun _ _ h => h) ua uc rfl hru2 p5 p6 hb11.size ?_
                 intro ua12 uc12 w12 hQ12 hk12 hf12
                 have hb12 : Below w10.heap.size w10 w12 := hb11.trans (hk12.below hb11.size (fun b e => (hq11.lt b e).1))
                 have hC12 := hC10.front hbB10.size hb12 hQ12 hxa10 hxo
                 have hbB12 := hbB10.trans (hb12.mono hbB10.size)
                 clear hQ12 hk12 hf12 hq11 hru hru2 hC10))
            go_roundw
            case rel => exact ⟨k + 1, fa8, ta10, ua12, fc8, tc10, uc12, _, _, _, by omega, by go_num, by rw [List.length_append]; rfl, by rw [List.length_append]; rfl, by rw [List.length_append, Nat.add_comm]; rfl, hC12, hF1.out _ rfl, hF2.out _ hYL.out.symm, hF3.out, (by rw [List.length_append, hnF.out]; rfl), (by rw [List.length_append, hnT.out]; rfl), (by rw [List.length_append, hnU.out, Nat.add_comm]; rfl), hbB12⟩
            case measure => simp [intOf]; omega
          · have g9 : ¬ xc - 1 = 0 := by rw [List.length_cons] at hgx3; omega
            clear hgx3
            go_wp2_with (first
              | (at_builtin; refine wpList_pushN (K := intK) rfl _ _ 24 rfl w4.heap.size 3 i1 _ 8 Try.underlying24 hi1 hz1 hs1 hbb1 hzs1 _ ((y0 : Int) :: R) rfl hY7 (y0 : Int) trivial (fun _ h => h.elim) ⟨w6.heap.size, 0, none⟩ 1 rfl hNY m3 m4 hBY ?_
                 intro yb ycb w6b hQb hkb hfb
                 generalize hYL : ((y0 : Int) :: R) ++ [(y0 : Int)] = YL at hQb hfb ⊢
                 replace hYL : Hid _ := hYL
                 have hbY : Below w4.heap.size w4 w6b := (hb46.trans (hb7'.mono hb46.size)).trans (hkb.below hBY (fun b e => (hY7.lt b e).1))
                 have hY9 := hQb.irowI
                 have hX9 := hAY.out w6b hbY
                 have hb6b := hb4.trans (hbY.mono hb4.size)
                 have hW6 : New2 w6b wr.heap.size ⟨R, some ⟨gx, ox + 1, none⟩, (xc - 1)⟩ ⟨YL, yb, ycb⟩ := ⟨⟨by have := hX9.dropG 1; exact this, fun e => by cases e⟩, hY9.1, fun b hb => by
                   rcases hb with ⟨_, off, e⟩ | ⟨_, _, e⟩
                   · simp only [Option.some.injEq, Addr.mk.injEq] at e
                     omega
                   · exact e.elim, fun b hb => Nat.le_trans hb4.size (hY9.2 b hb)⟩
                 have hb7 := belowNew w6b (.cells #[.slice (some ⟨gx, ox + 1, none⟩) R.length (xc - 1)] 24)
                 have hW7 := hW6.below hb7
                 have hbr7 := hb6b.trans (hb7.mono hb6b.size)
                 have hC7 := hC.below hbr7
                 have hfa : ∀ b, (Value.slice fa LF.length fc).ownBlock = some b → b < wr.heap.size := fun b e => (hC.f.out.lt b e).2
                 have hta : ∀ b, (Value.slice ta LT.length tc).ownBlock = some b → b < wr.heap.size := fun b e => (hC.t.out.lt b e).2
                 have hbB7 := hb.trans (hbr7.mono hb.size)
                 have hB7 := hbB7.size
                 have hN7 := new_slot w6b ⟨R, some ⟨gx, ox + 1, none⟩, (xc - 1)⟩
                 clear hkb hfb hX9 hY9 hW6 hQb hY7 hNY)
              | (at_builtin; refine wpList_pushN (K := slotK) rfl _ _ 28 rfl w2.heap.size 24 i0 _ 24 Try.underlying28 hi0 hz0 hs0 hbb0 hzs0 _ LF rfl hC7.f.out ⟨R, (some ⟨gx, ox + 1, none⟩), (xc - 1)⟩ trivial (fun _ h => h.elim) ⟨w6b.heap.size, 0, none⟩ 1 rfl hN7 p1 p2 hB7 ?_
                 intro fa8 fc8 w8 hQ8 hk8 hf8
                 obtain ⟨hC8, hy8, hyo8, hb8⟩ := hC7.putX hW7 hfa hta hQ8 hk8 hf8
                 have hbB8 : Below w2.heap.size w2 w8 := hbB7.trans (hb8 _ (Nat.le_refl _) hB7)
                 have hb9 := belowNew w8 (.cells #[.slice yb YL.length ycb] 24)
                 have hC9 := hC8.below hb9
                 have hy9 := irowK.below hy8 hb9
                 have hbB9 := hbB8.trans (hb9.mono hbB8.size)
                 have hB9 := hbB9.size
                 have hN9 := new_slot w8 ⟨YL, yb, ycb⟩
                 clear hQ8 hk8 hf8 hC7 hN7 hb8 hC8)
              | (at_builtin; refine wpList_pushN (K := slotK) rfl _ _ 28 rfl w2.heap.size 24 i0 _ 24 Try.underlying28 hi0 hz0 hs0 hbb0 hzs0 _ LT rfl hC9.t.out ⟨YL, yb, ycb⟩ trivial (fun _ h => h.elim) ⟨w8.heap.size, 0, none⟩ 1 rfl hN9 p3 p4 hB9 ?_
                 intro ta10 tc10 w10 hQ10 hk10 hf10
                 have hC10 := (hC9.swap.pushF hQ10 hk10 hf10 hy9 (fun b hb => (hyo8 b hb).2) (fun b hb => (hyo8 b hb).1)).swap
                 have hbB10 : Below w2.heap.size w2 w10 := hbB9.trans (hk10.below hB9 (fun b e => (hC9.t.out.lt b e).1))
                 obtain ⟨bp', op', e', -, cr10, -, -⟩ := (hr.below hbB10).irow hx'.out
                 simp only [Option.some.injEq, Addr.mk.injEq, and_true] at e'
                 obtain ⟨rfl, rfl⟩ := e'
                 replace cr10 : w10.cell? ⟨bp, op + k, none⟩ = some (.slice xo ((y0 : Int) :: R).length xcap) := cr10
                 have hq11 := oneSlot w10 (⟨(y0 : Int) :: R, xo, xcap⟩ : IRow)
                 have hb11 := belowNew w10 (.cells #[.slice xo ((y0 : Int) :: R).length xcap] 24)
                 obtain ⟨ua', uc', eu, hru⟩ := (hC10.u.below hb11).out.form
                 simp only [Value.slice.injEq, true_and] at eu
                 obtain ⟨rfl, rfl⟩ := eu
                 have hru2 := hru.2
                 have hxa10 := (hr.below hbB10).at_ _ (List.mem_of_getElem? hx'.out)
                 clear hQ10 hk10 hf10 hC9 hN9)
              | (at_builtin; refine wpList_joins (K := slotK) rfl _ _ 28 rfl w10.heap.size 24 i0 _ 24 Try.underlying28 hi0 hz0 hs0 hbb0 hzs0 _ [(⟨(y0 : Int) :: R, xo, xcap⟩ : IRow)] LU rfl hq11 (fun _ _ h => h) ua uc rfl hru2 p5 p6 hb11.size ?_
                 intro ua12 uc12 w12 hQ12 hk12 hf12
                 have hb12 : Below w10.heap.size w10 w12 := hb11.trans (hk12.below hb11.size (fun b e => (hq11.lt b e).1))
                 have hC12 := hC10.front hbB10.size hb12 hQ12 hxa10 hxo
                 have hbB12 := hbB10.trans (hb12.mono hbB10.size)
                 clear hQ12 hk12 hf12 hq11 hru hru2 hC10))
            go_roundw
            case rel => exact ⟨k + 1, fa8, ta10, ua12, fc8, tc10, uc12, _, _, _, by omega, by go_num, by rw [List.length_append]; rfl, by rw [List.length_append]; rfl, by rw [List.length_append, Nat.add_comm]; rfl, hC12, hF1.out _ rfl, hF2.out _ hYL.out.symm, hF3.out, (by rw [List.length_append, hnF.out]; rfl), (by rw [List.length_append, hnT.out]; rfl), (by rw [List.length_append, hnU.out, Nat.add_comm]; rfl), hbB12⟩
            case measure => simp [intOf]; omega
        · have g2 : ((k : Int) == (i : Int)) = false := beq_eq_false_iff_ne.2 (by omega)
          have hN1 : Hid ((PP.set i q0).take (k + 1) = (PP.set i q0).take k ++ [r]) := by unfold Hid; rw [cut_next hr1 hyq, if_neg hki]
          have hN2 : Hid ((PP.set i (y0 :: q0 ++ [y0])).take (k + 1) = (PP.set i (y0 :: q0 ++ [y0])).take k ++ [r]) := by unfold Hid; rw [cut_next hr1 hyq, if_neg hki]
          have hN3 : Hid ((PP.take (k + 1)).reverse = r :: (PP.take k).reverse) := turn_next hr1
          go_wp2_with (first
            | (at_builtin; refine wpList_joins (K := intK) rfl _ _ 24 rfl wr.heap.size 3 i1 _ 8 Try.underlying24 hi1 hz1 hs1 hbb1 hzs1 _ [] x.l rfl hX0 (fun _ _ h => h) x.ao x.cap rfl hri3 m1 m2 hb3.size ?_
               intro xa xc w4 hX hkx hfx
               simp only [List.nil_append] at hX hfx; (try simp only [List.nil_append])
               have hb4 : Below wr.heap.size wr w4 := hb3.trans (hkx.below hb3.size (fun b e => (hX0.lt b e).1))
               have hb5 := belowNew w4 (.cells #[] 3)
               have hb45 := hb4.trans (hb5.mono hb4.size)
               have hY0 := emptyInt w4 w4.heap.size (Nat.le_refl _)
               have cr5 : (w4.alloc (.cells #[] 3)).cell? ⟨bp, op + k, none⟩ = some (.slice x.ao x.l.length x.cap) := by rw [cell_same (hb45.block _ hbp)]; exact cr
               have hri5 := hri.below hb45
               clear hkx hfx)
            | (at_builtin; refine wpList_joins (K := intK) rfl _ _ 24 rfl w4.heap.size 3 i1 _ 8 Try.underlying24 hi1 hz1 hs1 hbb1 hzs1 _ [] x.l rfl hY0 (fun _ _ h => h) x.ao x.cap rfl hri5 m1 m2 hb5.size ?_
               intro ya yc w6 hY hky hfy
               simp only [List.nil_append] at hY hfy; (try simp only [List.nil_append])
               have hb46 : Below w4.heap.size w4 w6 := hb5.trans (hky.below hb5.size (fun b e => (hY0.lt b e).1))
               have hb6 := hb4.trans (hb46.mono hb4.size)
               have hX6 := hX.below hb46
               have hX9 := hX6.irowI
               have hY9 := hY.irowI
               have hW6 : New2 w6 wr.heap.size ⟨x.l, xa, xc⟩ ⟨x.l, ya, yc⟩ := ⟨hX9.1, hY9.1, hX9.2, fun b hb => Nat.le_trans hb4.size (hY9.2 b hb)⟩
               have hb7 := belowNew w6 (.cells #[.slice xa x.l.length xc] 24)
               have hW7 := hW6.below hb7
               have hbr7 := hb6.trans (hb7.mono hb6.size)
               have hC7 := hC.below hbr7
               have hfa : ∀ b, (Value.slice fa LF.length fc).ownBlock = some b → b < wr.heap.size := fun b e => (hC.f.out.lt b e).2
               have hta : ∀ b, (Value.slice ta LT.length tc).ownBlock = some b → b < wr.heap.size := fun b e => (hC.t.out.lt b e).2
               have hbB7 := hb.trans (hbr7.mono hb.size)
               have hB7 := hbB7.size
               have hN7 := new_slot w6 ⟨x.l, xa, xc⟩
               clear hky hfy hX hY0 hX9 hY9 hW6 hX6 hY)
            | (at_builtin; refine wpList_pushN (K := slotK) rfl _ _ 28 rfl w2.heap.size 24 i0 _ 24 Try.underlying28 hi0 hz0 hs0 hbb0 hzs0 _ LF rfl hC7.f.out ⟨x.l, xa, xc⟩ trivial (fun _ h => h.elim) ⟨w6.heap.size, 0, none⟩ 1 rfl hN7 p1 p2 hB7 ?_
               intro fa8 fc8 w8 hQ8 hk8 hf8
               obtain ⟨hC8, hy8, hyo8, hb8⟩ := hC7.putX hW7 hfa hta hQ8 hk8 hf8
               have hbB8 : Below w2.heap.size w2 w8 := hbB7.trans (hb8 _ (Nat.le_refl _) hB7)
               have hb9 := belowNew w8 (.cells #[.slice ya x.l.length yc] 24)
               have hC9 := hC8.below hb9
               have hy9 := irowK.below hy8 hb9
               have hbB9 := hbB8.trans (hb9.mono hbB8.size)
               have hB9 := hbB9.size
               have hN9 := new_slot w8 ⟨x.l, ya, yc⟩
               clear hQ8 hk8 hf8 hC7 hN7 hb8 hC8)
            | (at_builtin; refine wpList_pushN (K := slotK) rfl _ _ 28 rfl w2.heap.size 24 i0 _ 24 Try.underlying28 hi0 hz0 hs0 hbb0 hzs0 _ LT rfl hC9.t.out ⟨x.l, ya, yc⟩ trivial (fun _ h => h.elim) ⟨w8.heap.size, 0, none⟩ 1 rfl hN9 p3 p4 hB9 ?_
               intro ta10 tc10 w10 hQ10 hk10 hf10
               have hC10 := (hC9.swap.pushF hQ10 hk10 hf10 hy9 (fun b hb => (hyo8 b hb).2) (fun b hb => (hyo8 b hb).1)).swap
               have hbB10 : Below w2.heap.size w2 w10 := hbB9.trans (hk10.below hB9 (fun b e => (hC9.t.out.lt b e).1))
               obtain ⟨bp', op', e', -, cr10, -, -⟩ := (hr.below hbB10).irow hx'.out
               simp only [Option.some.injEq, Addr.mk.injEq, and_true] at e'
               obtain ⟨rfl, rfl⟩ := e'
               replace cr10 : w10.cell? ⟨bp, op + k, none⟩ = some (.slice x.ao x.l.length x.cap) := cr10
               have hq11 := oneSlot w10 x
               have hb11 := belowNew w10 (.cells #[.slice x.ao x.l.length x.cap] 24)
               obtain ⟨ua', uc', eu, hru⟩ := (hC10.u.below hb11).out.form
               simp only [Value.slice.injEq, true_and] at eu
               obtain ⟨rfl, rfl⟩ := eu
               have hru2 := hru.2
               have hxa10 := (hr.below hbB10).at_ _ (List.mem_of_getElem? hx'.out)
               clear hQ10 hk10 hf10 hC9 hN9)
            | (at_builtin; refine wpList_joins (K := slotK) rfl _ _ 28 rfl w10.heap.size 24 i0 _ 24 Try.underlying28 hi0 hz0 hs0 hbb0 hzs0 _ [x] LU rfl hq11 (fun _ _ h => h) ua uc rfl hru2 p5 p6 hb11.size ?_
               intro ua12 uc12 w12 hQ12 hk12 hf12
               have hb12 : Below w10.heap.size w10 w12 := hb11.trans (hk12.below hb11.size (fun b e => (hq11.lt b e).1))
               have hC12 := hC10.front hbB10.size hb12 hQ12 hxa10 hxo
               have hbB12 := hbB10.trans (hb12.mono hbB10.size)
               clear hQ12 hk12 hf12 hq11 hru hru2 hC10))
          go_roundw
          case rel => exact ⟨k + 1, fa8, ta10, ua12, fc8, tc10, uc12, _, _, _, by omega, by go_num, by rw [List.length_append]; rfl, by rw [List.length_append]; rfl, by rw [List.length_append, Nat.add_comm]; rfl, hC12, (by unfold Hid; rw [hN1.out]; exact lsP_snoc hLF.out hr2'.out), (by unfold Hid; rw [hN2.out]; exact lsP_snoc hLT.out hr2'.out), (by unfold Hid; rw [hN3.out]; exact lsP_front hLU.out hr2'.out), (by rw [List.length_append, hnF.out]; rfl), (by rw [List.length_append, hnT.out]; rfl), (by rw [List.length_append, hnU.out, Nat.add_comm]; rfl), hbB12⟩
          case measure => simp [intOf]; omega
      · have g1 : ¬ (k : Int) < (p.length : Int) := by omega
        have hkp : k = p.length := by omega
        have hkP : ∀ Q : List (List Nat), Q.length = PP.length → Q.take k = Q := fun Q hQ => List.take_of_length_le (by rw [hQ, hkp, hPl.out]; exact Nat.le_refl _)
        have hF2 := hLF.out
        have hT2 := hLT.out
        have hU2 := hLU.out
        rw [hkP _ (List.length_set ..)] at hF2 hT2
        rw [hkP _ rfl] at hU2
        have hPn : PP.length ≤ 1000 := by rw [← hPl.out]; exact hp1
        have hyl := hPPl.out _ (List.mem_of_getElem? hyq)
        have hfF := fit_of hF2 (by rw [List.length_set]; exact hPn) (set_short hPPl.out i (by rw [List.length_cons] at hyl; omega))
        have hfT := fit_of hT2 (by rw [List.length_set]; exact hPn) (set_short hPPl.out i (by rw [List.length_append]; simp at hyl ⊢; omega))
        have hfU := fit_of hU2 (by rw [List.length_reverse]; exact hPn) (fun r hr => by have := hPPl.out r (List.mem_reverse.1 hr); omega)
        have hcF : Hid (chkN (rwL l) (lsP LF) = 12) := by unfold Hid; rw [hF2]; exact hfin1.out
        have hcT : Hid (chkN (rwL l) (lsP LT) = 13) := by unfold Hid; rw [hT2]; exact hfin2.out
        have hcU : Hid (chkN (rwL l) (lsP LU) = if p.length ≤ 1 then 0 else 9) := by unfold Hid; rw [hU2]; exact hfin3.out
        obtain ⟨fa', fc', e1, hrF⟩ := hC.f.form
        simp only [Value.slice.injEq, true_and] at e1
        obtain ⟨rfl, rfl⟩ := e1
        obtain ⟨ta', tc', e1, hrT⟩ := hC.t.form
        simp only [Value.slice.injEq, true_and] at e1
        obtain ⟨rfl, rfl⟩ := e1
        obtain ⟨ua', uc', e1, hrU⟩ := hC.u.form
        simp only [Value.slice.injEq, true_and] at e1
        obtain ⟨rfl, rfl⟩ := e1
        have cO := ownL_any l ao cp wr (hl.below hbb) hf
        replace hnF : Hid _ := hnF
        replace hnT : Hid _ := hnT
        replace hnU : Hid _ := hnU
        clear hkP hF2 hT2 hU2 hLF hLT hLU hfin1 hfin2 hfin3 hrow hkp hC hPn hyl hkl
        by_cases hp2 : p.length ≤ 1
        · have g3 : ((p.length : Int) == 1) = true := beq_iff_eq.2 (by omega)
          rw [if_pos hp2] at hcU
          replace hcU : Hid _ := hcU
          clear hp2
          go_wp2_with (first
            | (go_at_call 10; refine cO.mono ?_; rintro _ w3 ⟨oa, oc, m, rfl, hml, hmr, hmw, hb3⟩
               have hb03 := hbb.trans (hb3.mono hbb.size)
               have hf3 := few_same hf hmw
               have cC := check_any m oa oc LF fa fc w3 hmr hf3 (hrF.below hb3) hfF
               rw [hmw, hcF.out] at cC
               replace hml : Hid _ := hml
               clear cO)
            | (go_at_call 15; refine cC.mono ?_; rintro _ w4 ⟨rfl, hb4⟩
               have hb34 := hb3.trans (hb4.mono hb3.size)
               have hb04 := hb03.trans (hb4.mono hb03.size)
               have cO2 := ownL_any l ao cp w4 (hl.below hb04) hf
               clear cC hmr)
            | (go_at_call 10; refine cO2.mono ?_; rintro _ w5 ⟨oa2, oc2, m2, rfl, hml2, hmr2, hmw2, hb5⟩
               have hb35 := hb34.trans (hb5.mono hb34.size)
               have hb05 := hb04.trans (hb5.mono hb04.size)
               have hf5 := few_same hf hmw2
               have cC2 := check_any m2 oa2 oc2 LT ta tc w5 hmr2 hf5 (hrT.below hb35) hfT
               rw [hmw2, hcT.out] at cC2
               replace hml2 : Hid _ := hml2
               clear cO2)
            | (go_at_call 15; refine cC2.mono ?_; rintro _ w6 ⟨rfl, hb6⟩
               have hb36 := hb35.trans (hb6.mono hb35.size)
               have hb06 := hb05.trans (hb6.mono hb05.size)
               have cO3 := ownL_any l ao cp w6 (hl.below hb06) hf
               clear cC2 hmr2)
            | (go_at_call 10; refine cO3.mono ?_; rintro _ w7 ⟨oa3, oc3, m3, rfl, hml3, hmr3, hmw3, hb7⟩
               have hb37 := hb36.trans (hb7.mono hb36.size)
               have hb07 := hb06.trans (hb7.mono hb06.size)
               have hf7 := few_same hf hmw3
               have cC3 := check_any m3 oa3 oc3 LU ua uc w7 hmr3 hf7 (hrU.below hb37) hfU
               rw [hmw3, hcU.out] at cC3
               replace hml3 : Hid _ := hml3
               clear cO3)
            | (go_at_call 15; refine cC3.mono ?_; rintro _ w8 ⟨rfl, hb8⟩))
          go_ret
          exact ⟨by first | rfl | simp, hb07.trans (hb8.mono hb07.size)⟩
        · have g3 : ((p.length : Int) == 1) = false := beq_eq_false_iff_ne.2 (by omega)
          have g4 : (1 : Int) < (p.length : Int) := by omega
          rw [if_neg hp2] at hcU
          replace hcU : Hid _ := hcU
          clear hp2
          go_wp2_with (first
            | (go_at_call 10; refine cO.mono ?_; rintro _ w3 ⟨oa, oc, m, rfl, hml, hmr, hmw, hb3⟩
               have hb03 := hbb.trans (hb3.mono hbb.size)
               have hf3 := few_same hf hmw
               have cC := check_any m oa oc LF fa fc w3 hmr hf3 (hrF.below hb3) hfF
               rw [hmw, hcF.out] at cC
               replace hml : Hid _ := hml
               clear cO)
            | (go_at_call 15; refine cC.mono ?_; rintro _ w4 ⟨rfl, hb4⟩
               have hb34 := hb3.trans (hb4.mono hb3.size)
               have hb04 := hb03.trans (hb4.mono hb03.size)
               have cO2 := ownL_any l ao cp w4 (hl.below hb04) hf
               clear cC hmr)
            | (go_at_call 10; refine cO2.mono ?_; rintro _ w5 ⟨oa2, oc2, m2, rfl, hml2, hmr2, hmw2, hb5⟩
               have hb35 := hb34.trans (hb5.mono hb34.size)
               have hb05 := hb04.trans (hb5.mono hb04.size)
               have hf5 := few_same hf hmw2
               have cC2 := check_any m2 oa2 oc2 LT ta tc w5 hmr2 hf5 (hrT.below hb35) hfT
               rw [hmw2, hcT.out] at cC2
               replace hml2 : Hid _ := hml2
               clear cO2)
            | (go_at_call 15; refine cC2.mono ?_; rintro _ w6 ⟨rfl, hb6⟩
               have hb36 := hb35.trans (hb6.mono hb35.size)
               have hb06 := hb05.trans (hb6.mono hb05.size)
               have cO3 := ownL_any l ao cp w6 (hl.below hb06) hf
               clear cC2 hmr2)
            | (go_at_call 10; refine cO3.mono ?_; rintro _ w7 ⟨oa3, oc3, m3, rfl, hml3, hmr3, hmw3, hb7⟩
               have hb37 := hb36.trans (hb7.mono hb36.size)
               have hb07 := hb06.trans (hb7.mono hb06.size)
               have hf7 := few_same hf hmw3
               have cC3 := check_any m3 oa3 oc3 LU ua uc w7 hmr3 hf7 (hrU.below hb37) hfU
               rw [hmw3, hcU.out] at cC3
               replace hml3 : Hid _ := hml3
               clear cO3)
            | (go_at_call 15; refine cC3.mono ?_; rintro _ w8 ⟨rfl, hb8⟩))
          go_ret
          exact ⟨by first | rfl | simp, hb07.trans (hb8.mono hb07.size)⟩
end Go.Proofs.Ytkgidmifgfoeiaa
