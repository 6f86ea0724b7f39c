/- WavesRight: the plan is right, and has as few waves as can be. -/
import Derived.Test.YtkgidmifgfoeiaaWavWorks
import Derived.Test.YtkgidmifgfoeiaaAccOwnL
namespace Go.Proofs.Ytkgidmifgfoeiaa
open Go Go.RowKit
set_option linter.unusedVariables false

/-- A wave of the plan, as it lies. -/
theorem wave_row {l : List RwD} {p : List IRow} (h : lsP p = planI (planN l l.length)) {i : Nat} {x : IRow} (hx : p[i]? = some x) : 0 < x.l.length ∧ ∀ (k : Nat) (v : Int), x.l[k]? = some v → ∃ y : Nat, v = (y : Int) ∧ y < l.length ∧ wv l y = i := by
  have hlt : i < (planN l l.length).length := by rw [← lsP_len h]; exact (List.getElem?_eq_some_iff.1 hx).1
  have hlt2 := hlt
  rw [planN_length] at hlt2
  obtain ⟨z, q1, q2⟩ := lsP_row h (planN_get hlt2)
  rw [hx] at q1
  obtain rfl : x = z := by simpa using q1
  obtain ⟨y, q, e⟩ := plan_full hlt2
  rw [planN_get hlt2] at e
  have e2 := Option.some.inj e
  rw [q2]
  refine ⟨by rw [rowI_len, e2]; simp, fun k v hv => ?_⟩
  unfold rowI at hv
  rw [List.getElem?_map] at hv
  cases hk : (waveL l l.length i)[k]? with
  | none => rw [hk] at hv; cases hv
  | some y =>
    rw [hk] at hv
    have hv2 : (y : Int) = v := by simpa using hv
    obtain ⟨h1, h2⟩ := waveL_mem.1 (List.mem_of_getElem? hk)
    exact ⟨y, hv2.symm, h1, h2⟩

set_option maxRecDepth 100000 in
set_option maxHeartbeats 2000000 in
theorem wavesRight_walk (ao : Option Addr) (cp : Nat) (l : List TxA) (W : World) (hl : RowAt txA W ao l) (hm : l.length ≤ maxLen) (hw : Wide l) :
    Calls Try.prog 5 #[.slice ao l.length cp] W fun e w' => e = .returned (.bool true) ∧ Below W.heap.size W w' := by
  have cW := works21_any W
  clear hm
  cases hg : greatA l with
  | true =>
    go_enter Try.func5, Try.ntmps5
    go_wp2_with (first
      | (go_at_call 17; refine cW.mono ?_; rintro _ w0 ⟨rfl, hb0⟩; have cG := great_any l ao cp w0 (hl.below hb0) hw; rw [hg] at cG)
      | (go_at_call 8; refine cG.mono ?_; rintro _ w1 ⟨rfl, hb1⟩))
    go_ret
    exact ⟨rfl, hb0.trans (hb1.mono hb0.size)⟩
  | false =>
    have hf := few_of hg
    have hl1 := hf.1
    have hlen : Hid ((rwL l).length = l.length) := rwL_length l
    go_enter Try.func5, Try.ntmps5
    go_wp2_with (first
      | (go_at_call 17; refine cW.mono ?_; rintro _ w0 ⟨rfl, hb0⟩; have cG := great_any l ao cp w0 (hl.below hb0) hw; rw [hg] at cG; clear cW)
      | (go_at_call 8; refine cG.mono ?_; rintro _ w1 ⟨rfl, hb1'⟩; have hb1 := hb0.trans (hb1'.mono hb0.size); have cO := ownL_any l ao cp w1 (hl.below hb1) hf; clear cG)
      | (go_at_call 10; refine cO.mono ?_; rintro _ w2 ⟨oa, oc, m, rfl, hml, hmr, hmw, hb2⟩
         have hb12 := hb1.trans (hb2.mono hb1.size)
         have cP := plan_any m oa oc w2 hmr (few_same hf hmw)
         replace hml : Hid _ := hml
         clear cO)
      | (go_at_call 13; refine cP.mono ?_; rintro _ w3 ⟨q, p, rfl, hP, hls, hb3⟩
         rw [hmw] at hls
         replace hls : Hid _ := hls
         have hb13 := hb12.trans (hb3.mono hb12.size)
         obtain ⟨qa, qc, rfl, -, hr⟩ := hP.form
         have cO2 := ownL_any l ao cp w3 (hl.below hb13) hf
         have hpf := (plan_fit hls.out (by rw [hlen.out]; exact hl1)).1
         clear cP hmr)
      | (go_at_call 10; refine cO2.mono ?_; rintro _ w4 ⟨oa2, oc2, m2, rfl, hml2, hmr2, hmw2, hb4⟩
         have hb14 := hb13.trans (hb4.mono hb13.size)
         have cC := check_any m2 oa2 oc2 p qa qc w4 hmr2 (few_same hf hmw2) (hr.below hb4) hpf
         rw [hmw2, show chkN (rwL l) (lsP p) = 0 from by rw [hls.out]; exact chk_plan (rwL l)] at cC
         replace hml2 : Hid _ := hml2
         clear cO2)
      | (go_at_call 15; refine cC.mono ?_; rintro _ w5 ⟨rfl, hb5⟩
         have hb15 := hb14.trans (hb5.mono hb14.size)
         have cR := refOf_any l ao cp w5 (hl.below hb15) hf
         clear cC hmr2)
      | (go_at_call 11; refine cR.mono ?_; rintro _ w6 ⟨ra, rc, rfl, hq, hb6⟩
         have hb16 := hb15.trans (hb6.mono hb15.size)
         have hr6 := ((hr.below hb4).below (hb5)).below hb6
         clear cR))
    have hpl : p.length ≤ 1000 := hpf.1
    have hrw : Hid (∀ (i : Nat) (x : IRow), p[i]? = some x → 0 < x.l.length ∧ x.l.length ≤ 1000 ∧ ∀ (k : Nat) (v : Int), x.l[k]? = some v → ∃ y : Nat, v = (y : Int) ∧ y < (rwL l).length ∧ wv (rwL l) y = i) := fun i x hx => by
      obtain ⟨q1, q2⟩ := wave_row hls.out hx
      have := planI_row hls.out (List.mem_of_getElem? hx)
      rw [hlen.out] at this
      exact ⟨q1, by omega, q2⟩
    go_loopw [5] (fun v5 wr => ∃ (i : Nat), i ≤ p.length ∧ v5 = .int .i64 (i : Int) ∧ wr = w6) (fun v _ => p.length - (intOf v).toNat)
    case atStart => exact ⟨0, Nat.zero_le _, rfl, rfl⟩
    case round =>
      obtain ⟨i, hi, rfl, rfl⟩ := hrel
      by_cases hil : i < p.length
      · have g1 : (i : Int) < (p.length : Int) := by omega
        obtain ⟨x, hx⟩ : ∃ q, p[i]? = some q := ⟨_, List.getElem?_eq_getElem hil⟩
        obtain ⟨hx0, hx1, hx2⟩ := hrw.out i x hx
        obtain ⟨bp, op, rfl, hbp, cr, hri, _⟩ := hr6.irow hx
        have g2 : ((x.l.length : Int) == 0) = false := beq_eq_false_iff_ne.2 (by omega)
        clear hx
        go_wp2_with fail
        go_loopw [6] (fun v6 w7 => ∃ (k : Nat), k ≤ x.l.length ∧ v6 = .int .i64 (k : Int) ∧ w7 = wr) (fun v _ => x.l.length - (intOf v).toNat)
        case atStart => exact ⟨0, Nat.zero_le _, rfl, rfl⟩
        case round =>
          obtain ⟨k, hk, rfl, rfl⟩ := hrel
          by_cases hkl : k < x.l.length
          · have g3 : (k : Int) < (x.l.length : Int) := by omega
            obtain ⟨v, hv⟩ : ∃ q, x.l[k]? = some q := ⟨_, List.getElem?_eq_getElem hkl⟩
            obtain ⟨y, rfl, hy1, hy2⟩ := hx2 k v hv
            obtain ⟨br, orr, hxa, hbr, cy⟩ := hri.int hv
            rw [hxa] at cr
            have g4 : ¬ ((rwL l).length : Int) ≤ (y : Int) := by omega
            have g5 : (y : Int) < ((rwL l).length : Int) := by omega
            obtain ⟨g, og, rfl, -, -, -, -⟩ := hq.spot (by rw [wvN_length]; exact Nat.lt_of_le_of_lt (Nat.zero_le y) hy1)
            have cw := (hq.natSet (wvN_get (rwL l) hy1)).1
            rw [hy2] at cw
            clear hv hxa hy2 hri
            go_wp2_with fail
            go_roundw
            case rel => exact ⟨k + 1, by omega, by go_num, by first | rfl | trivial⟩
            case measure => simp [intOf]; omega
          · have g3 : ¬ (k : Int) < (x.l.length : Int) := by omega
            go_wp2_with fail
            go_roundw
            case rel => exact ⟨i + 1, by omega, by go_num, by first | rfl | trivial⟩
            case measure => simp [intOf]; omega
      · have g1 : ¬ (i : Int) < (p.length : Int) := by omega
        go_wp2_with fail
        go_ret
        exact ⟨rfl, hb16⟩
end Go.Proofs.Ytkgidmifgfoeiaa
