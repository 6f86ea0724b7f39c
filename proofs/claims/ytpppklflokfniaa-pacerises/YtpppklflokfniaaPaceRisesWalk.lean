/- PaceRises: the walk. -/
import Derived.Test.YtpppklflokfniaaPaceWorks
import Derived.Test.YtpppklflokfniaaPaceOpen
import Derived.Test.YtpppklflokfniaaInts
namespace Go.Proofs.Ytpppklflokfniaa
open Go.RowKit
set_option linter.unusedVariables false

theorem tick_view (d : PaD) : d.view ≤ (tickP d).view := by
  unfold tickP
  split
  · split
    · exact Int.le_refl _
    · show d.view ≤ d.view + 1; omega
  · exact Int.le_refl _

theorem enter_view (d : PaD) (v : Int) : d.view ≤ (enterP d v).view := by
  unfold enterP
  split
  · rename_i h
    simp only [upB, Bool.and_eq_true, decide_eq_true_eq] at h
    show d.view ≤ v; omega
  · exact Int.le_refl _

theorem follow_view (d : PaD) (v : Int) : d.view ≤ (followP d v).view := by
  unfold followP
  split
  · rename_i h
    simp only [upB, Bool.and_eq_true, decide_eq_true_eq] at h
    show d.view ≤ v; omega
  · exact Int.le_refl _

theorem tick_most (d : PaD) : (tickP d).most = d.most := by
  unfold tickP
  split
  · split <;> rfl
  · rfl

theorem enter_most (d : PaD) (v : Int) : (enterP d v).most = d.most := by unfold enterP; split <;> rfl
theorem follow_most (d : PaD) (v : Int) : (followP d v).most = d.most := by unfold followP; split <;> rfl

/-- A tick that does not end the view. -/
theorem tick_on {d : PaD} (hv : d.view < 4611686018427387903) (h : d.ticks + 1 < waitN d.fails d.most) : tickB d = false ∧ tickP d = { d with ticks := d.ticks + 1 } := by
  unfold tickB tickP
  rw [if_pos hv, if_pos h, decide_eq_false (by omega : ¬ waitN d.fails d.most ≤ d.ticks + 1), Bool.and_false]
  exact ⟨rfl, rfl⟩

theorem tick_end {d : PaD} (hv : d.view < 4611686018427387903) (h : ¬ d.ticks + 1 < waitN d.fails d.most) : tickB d = true ∧ (tickP d).view = d.view + 1 := by
  unfold tickB tickP
  rw [if_pos hv, if_neg h, decide_eq_true (by omega : waitN d.fails d.most ≤ d.ticks + 1), decide_eq_true hv]
  exact ⟨rfl, rfl⟩

set_option maxRecDepth 100000 in
set_option maxHeartbeats 2000000 in
theorem paceRises_walk (n most : Int) (ao : Option Addr) (cap : Nat) (l : List OpP) (W : World) (_ : (Lit.int .i64 n).wf = true) (_ : (Lit.int .i64 most).wf = true) (hL : RowAt opP W ao l) (hl : l.length ≤ maxLen) :
    Calls Try.prog 4 #[.int .i64 n, .int .i64 most, .slice ao l.length cap] W fun e w' => e = .returned (.bool true) ∧ Below W.heap.size W w' := by
  have hl' : l.length ≤ 9223372036854775807 := by unfold maxLen at hl; omega
  clear hl
  obtain ⟨m, hm, hme⟩ := pick_atC n 7 (by omega) (by omega)
  obtain ⟨q, hq, hqe⟩ := pick_atC most 300 (by omega) (by omega)
  have hme' : Hid (wrap64 ((IntKind.u64.wrap n).tmod 7) = (m : Int)) := hme
  have hqe' : Hid (wrap64 ((IntKind.u64.wrap most).tmod 300) = (q : Int)) := hqe
  have hme2 : Hid (wrap64 (1 + wrap64 ((IntKind.u64.wrap n).tmod 7)) = ((1 + m : Nat) : Int)) := by
    show _ = _
    rw [hme'.out, Mx.wrap64_small _ (by omega) (by omega)]
    omega
  have hqe2 : Hid (wrap64 (1 + wrap64 ((IntKind.u64.wrap most).tmod 300)) = ((1 + q : Nat) : Int)) := by
    show _ = _
    rw [hqe'.out, Mx.wrap64_small _ (by omega) (by omega)]
    omega
  clear hme hqe hme' hqe'
  have cWk := works18_any W
  obtain ⟨N, hN⟩ : ∃ N : Nat, N = 1 + m := ⟨_, rfl⟩
  obtain ⟨M, hM⟩ : ∃ M : Nat, M = 1 + q := ⟨_, rfl⟩
  rw [← hN] at hme2
  rw [← hM] at hqe2
  have cN := fun w => paNew_yes N M w (by omega) (by omega) (by omega) (by omega)
  have hM1 : 1 ≤ M := by omega
  have hM2 : M ≤ 300 := by omega
  have hoN : PaOk ⟨N, M, 1, 0, 0⟩ := PaOk.new (by omega) (by omega) (by omega) (by omega)
  clear hN hM
  go_enter Try.func4, Try.ntmps4
  go_wp2_with fail
  refine cWk.mono ?_
  rintro e w0 ⟨rfl, hb0⟩
  clear cWk
  go_wp2_with fail
  rw [hme2.out, hqe2.out]
  refine (cN w0).mono ?_
  rintro e w1 ⟨rfl, h1, hb1⟩
  have hO : One18 W w1 w0.heap.size ⟨N, M, 1, 0, 0⟩ := One18.new hb0 h1 hb1 hoN
  clear cN h1 hb1 hb0 hoN hme2 hqe2
  generalize w0.heap.size = b at hO ⊢
  go_wp2_with fail
  go_loopw [9, 10] (fun v9 _ wr => ∃ (i : Nat) (d : PaD), i ≤ l.length ∧ i ≤ 40 ∧ v9 = .int .i64 (i : Int) ∧ d.most = M ∧ d.fails ≤ i ∧ One18 W wr b d) (fun v _ _ => 40 - (intOf v).toNat)
  case atStart => exact ⟨0, _, by omega, by omega, rfl, rfl, Nat.le_refl _, hO⟩
  case round =>
    obtain ⟨i, d, hil, hi4, rfl, hdm, hdf, hR⟩ := hrel
    clear hO
    have hdm' : Hid (d.most = M) := hdm
    clear hdm
    by_cases hlt : i < l.length ∧ i < 40
    · obtain ⟨hl1, hl4⟩ := hlt
      have g1 : (i : Int) < (l.length : Int) := by omega
      have g2 : (i : Int) < 40 := by omega
      obtain ⟨x, hx⟩ : ∃ x, l[i]? = some x := ⟨_, List.getElem?_eq_getElem hl1⟩
      obtain ⟨g, off, rfl, hg, y0, y1⟩ := (hL.below hR.bel).op18 hx
      have cV := paView_any b _ _ hR.at_
      generalize hxk : x.kind = xk at y0
      generalize hxn : x.n = xn at y1
      clear hx hxk hxn
      rcases (by omega : xk = 0 ∨ xk = 1 ∨ xk = 2 ∨ (xk ≠ 0 ∧ xk ≠ 1 ∧ xk ≠ 2)) with rfl | rfl | rfl | ⟨k0, k1, k2⟩
      · have cT := paTick_any b _ _ hR.at_ hR.ok (by omega)
        have hv := tick_view d
        have hf' := tick_fails d
        have hm' := tick_most d
        have hoT := hR.ok.tick
        generalize tickP d = d' at cT hv hf' hm' hoT
        have hm2 : Hid (d'.most = M) := by show _ = _; rw [hm', hdm'.out]
        have gv : ¬ d'.view < d.view := by omega
        clear hm'
        go_wp2_with fail
        refine cV.mono ?_
        rintro e w2 ⟨rfl, rfl⟩
        go_wp2_with fail
        refine cT.mono ?_
        rintro e w3 ⟨rfl, h3, hk3⟩
        have hR3 := hR.step h3 hk3 hoT
        have cV2 := paView_any b _ _ hR3.at_
        clear cV cT hR h3 hk3 hoT y0 y1
        go_wp2_with fail
        refine cV2.mono ?_
        rintro e w4 ⟨rfl, rfl⟩
        go_wp2
        go_roundw
        case rel => exact ⟨i + 1, d', by omega, by omega, by go_num, hm2.out, by omega, hR3⟩
        case measure => simp [intOf]; omega
      · have cT := paEnter_any xn b _ _ hR.at_
        have hv := enter_view d xn
        have hf' := enter_fails d xn
        have hm' := enter_most d xn
        have hoT := hR.ok.enter xn
        generalize enterP d xn = d' at cT hv hf' hm' hoT
        have hm2 : Hid (d'.most = M) := by show _ = _; rw [hm', hdm'.out]
        have gv : ¬ d'.view < d.view := by omega
        clear hm'
        go_wp2_with fail
        refine cV.mono ?_
        rintro e w2 ⟨rfl, rfl⟩
        go_wp2_with fail
        refine cT.mono ?_
        rintro e w3 ⟨rfl, h3, hk3⟩
        have hR3 := hR.step h3 hk3 hoT
        have cV2 := paView_any b _ _ hR3.at_
        clear cV cT hR h3 hk3 hoT y0 y1
        go_wp2_with fail
        refine cV2.mono ?_
        rintro e w4 ⟨rfl, rfl⟩
        go_wp2
        go_roundw
        case rel => exact ⟨i + 1, d', by omega, by omega, by go_num, hm2.out, by omega, hR3⟩
        case measure => simp [intOf]; omega
      · have cT := paFollow_any xn b _ _ hR.at_
        have hv := follow_view d xn
        have hf' := Nat.le_of_eq (follow_fails d xn)
        have hm' := follow_most d xn
        have hoT := hR.ok.follow xn
        generalize followP d xn = d' at cT hv hf' hm' hoT
        have hm2 : Hid (d'.most = M) := by show _ = _; rw [hm', hdm'.out]
        have gv : ¬ d'.view < d.view := by omega
        clear hm'
        go_wp2_with fail
        refine cV.mono ?_
        rintro e w2 ⟨rfl, rfl⟩
        go_wp2_with fail
        refine cT.mono ?_
        rintro e w3 ⟨rfl, h3, hk3⟩
        have hR3 := hR.step h3 hk3 hoT
        have cV2 := paView_any b _ _ hR3.at_
        clear cV cT hR h3 hk3 hoT y0 y1
        go_wp2_with fail
        refine cV2.mono ?_
        rintro e w4 ⟨rfl, rfl⟩
        go_wp2
        go_roundw
        case rel => exact ⟨i + 1, d', by omega, by omega, by go_num, hm2.out, by omega, hR3⟩
        case measure => simp [intOf]; omega
      · have gv : ¬ d.view < d.view := by omega
        have q0 : (xk == 0) = false := beq_eq_false_iff_ne.2 k0
        have q1 : (xk == 1) = false := beq_eq_false_iff_ne.2 k1
        have q2 : (xk == 2) = false := beq_eq_false_iff_ne.2 k2
        clear k0 k1 k2
        go_wp2_with fail
        refine cV.mono ?_
        rintro e w2 ⟨rfl, rfl⟩
        go_wp2_with fail
        refine cV.mono ?_
        rintro e w4 ⟨rfl, rfl⟩
        go_wp2
        go_roundw
        case rel => exact ⟨i + 1, d, by omega, by omega, by go_num, hdm'.out, by omega, hR⟩
        case measure => simp [intOf]; omega
    · have cV := paView_any b _ _ hR.at_
      rcases (by omega : ¬ (i : Int) < (l.length : Int) ∨ ((i : Int) < (l.length : Int) ∧ ¬ (i : Int) < 40)) with hd | ⟨hd0, hd⟩
      all_goals
        clear hlt
        have hcase : (1152921504606846976 : Int) < d.view ∨ ¬ (1152921504606846976 : Int) < d.view := by omega
        rcases hcase with hbig | hsm
        · go_wp2_with fail
          refine cV.mono ?_
          rintro e w2 ⟨rfl, rfl⟩
          go_wp2
          go_ret
          exact ⟨rfl, hR.bel⟩
        · go_wp2_with fail
          refine cV.mono ?_
          rintro e w2 ⟨rfl, rfl⟩
          have hwM : waitN d.fails d.most ≤ M := by rw [← hdm'.out]; exact wait_le _ _
          have hv1 := hR.ok.v1
          generalize hdv : d.view = V at cV hsm hv1 ⊢
          have hS : ∃ (k : Nat) (d' : PaD), k ≤ M ∧ d'.view = V ∧ d'.fails ≤ 40 ∧ Hid (waitN d'.fails d'.most ≤ M) ∧ Hid (k + waitN d'.fails d'.most ≤ M + d'.ticks) ∧ k = 0 ∧ One18 W w2 b d' := ⟨0, d, by omega, hdv, by omega, hwM, by show _ ≤ _; omega, rfl, hR⟩
          clear hdm' hwM hR cV hdv
          go_wp2_with fail
          go_loopw [12] (fun v12 wr => ∃ (k : Nat) (d : PaD), k < M ∧ v12 = .int .i64 (k : Int) ∧ Hid (d.view = V) ∧ d.fails ≤ 40 ∧ Hid (k + waitN d.fails d.most ≤ M + d.ticks) ∧ One18 W wr b d) (fun v _ => M - (intOf v).toNat)
          case atStart =>
            obtain ⟨k, d', h1, h2, h3, h4, h5, rfl, h7⟩ := hS
            exact ⟨0, d', by omega, rfl, h2, h3, h5, h7⟩
          case round =>
            obtain ⟨k, d2, hkM, rfl, hd2, hf2, hk2, hQ⟩ := hrel
            clear hS
            have gk : (k : Int) < (M : Int) := by omega
            have cT := paTick_any b _ _ hQ.at_ hQ.ok (by omega)
            have hoT := hQ.ok.tick
            have htl := hQ.ok.tL
            by_cases he : d2.ticks + 1 < waitN d2.fails d2.most
            · obtain ⟨t1, t2⟩ := tick_on (by rw [hd2.out]; omega) he
              have hk3 : Hid (k + 1 + waitN d2.fails d2.most ≤ M + (d2.ticks + 1)) := by have := hk2.out; show _ ≤ _; omega
              have hk4 : k + 1 < M := by have := hk2.out; omega
              rw [t1, t2] at cT
              rw [t2] at hoT
              clear hk2 htl he t1 t2
              go_wp2_with fail
              refine cT.mono ?_
              rintro e w3 ⟨rfl, h3, hkk⟩
              have hQ3 := hQ.step h3 hkk hoT
              clear cT hQ h3 hkk hoT
              go_wp2
              go_roundw
              case rel => exact ⟨k + 1, { d2 with ticks := d2.ticks + 1 }, hk4, by go_num, hd2, hf2, hk3, hQ3⟩
              case measure => simp [intOf]; omega
            · obtain ⟨t1, t2⟩ := tick_end (by rw [hd2.out]; omega) he
              rw [hd2.out] at t2
              rw [t1] at cT
              generalize tickP d2 = d3 at t2 cT hoT
              have t3 : Hid (d3.view = V + 1) := t2
              clear t1 t2 he hk2 htl
              go_wp2_with fail
              refine cT.mono ?_
              rintro e w3 ⟨rfl, h3, hkk⟩
              have hQ3 := hQ.step h3 hkk hoT
              have cV := paView_any b _ _ hQ3.at_
              rw [t3.out] at cV
              clear cT hQ h3 hkk hoT hd2
              go_wp2_with fail
              refine cV.mono ?_
              rintro e w4 ⟨rfl, rfl⟩
              go_wp2
              go_ret
              exact ⟨rfl, hQ3.bel⟩
end Go.Proofs.Ytpppklflokfniaa
