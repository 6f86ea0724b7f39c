/- What tuskref21.Plan does. -/
import Derived.Test.YtkgidmifgfoeiaaRefWavOf
import Derived.Test.YtkgidmifgfoeiaaWavPlan
import Derived.Deep.RegionHeld3
namespace Go.Proofs.Ytkgidmifgfoeiaa
open Go Go.RowKit
set_option linter.unusedVariables false

theorem roomN_len (l : List RwD) (i : Nat) : wv l i < (roomN l i).length := (List.getElem?_eq_some_iff.1 (roomN_get l i)).1

theorem roomN_of (l : List RwD) (i : Nat) (h : wv l i < (planN l i).length) : roomN l i = planN l i := by
  unfold roomN
  rw [planN_length] at h
  exact if_neg (by omega)

theorem roomN_grow (l : List RwD) (i : Nat) (h : (planN l i).length ≤ wv l i) : roomN l i = planN l i ++ [[]] := by
  unfold roomN
  rw [planN_length] at h
  have := wv_le_nw l i
  exact if_pos (by omega)

theorem PlanQ.putsN {w w' : World} {B k g off : Nat} {n cap m : Nat} {p : List IRow} {L : List Int} {xa ya : Option Addr} {xc yc : Nat} {M : List Int} (h : PlanQ w B (.slice (some ⟨g, off, none⟩) n cap) p) (hx : p[k]? = some ⟨L, xa, xc⟩) (hm : m = M.length)
    (hy : KQ intK 3 w' B (.slice ya m yc) M) (hk : Kept (fun k => (Value.slice xa L.length xc).ownBlock = some k) w w') (hf : Fresh w (.slice xa L.length xc) (.slice ya m yc)) :
    w'.cell? ⟨g, off + k, none⟩ = some (.slice xa L.length xc) ∧ w'.frozen? ⟨g, off + k, none⟩ = false ∧ PlanQ (w'.setCell ⟨g, off + k, none⟩ (.slice ya m yc)) B (.slice (some ⟨g, off, none⟩) n cap) (p.set k ⟨M, ya, yc⟩) ∧ ∀ A, A ≤ B → B ≤ w.heap.size → Below A w (w'.setCell ⟨g, off + k, none⟩ (.slice ya m yc)) := by
  subst hm
  exact h.puts hx hy hk hf

def lenP : Value → Nat
  | .slice _ n _ => n
  | _ => 0

theorem new_intD (w : World) (v : Int) : ∀ j u, (intK.c v)[j]? = some u → (w.alloc (.cells #[.int .i64 v] 3)).drew.cell? ((⟨w.heap.size, 0, none⟩ : Addr).add j) = some u := by
  intro j u hu
  rw [Go.WideShapes.add_plain, Nat.zero_add]
  exact (Arr.new w 3 [.int .i64 v]).drew.cell hu

set_option maxRecDepth 100000 in
set_option maxHeartbeats 2000000 in
theorem refPlan_any (l : List TxA) (ao : Option Addr) (cp : Nat) (w : World) (hl : RowAt txA w ao l) (hf : Few l) :
    Calls Try.prog 14 #[.slice ao l.length cp] w fun e w' => GotPlan w (rwL l) e w' := by
  have hl1 := hf.1
  have hlen := rwL_length l
  have cO := refOf_any l ao cp w hl hf
  obtain ⟨i0, z0, hi0, hz0, hs0, hbb0, hzs0⟩ := intsInfo
  obtain ⟨i1, z1, hi1, hz1, hs1, hbb1, hzs1⟩ := intInfoA
  go_enter Try.func14, Try.ntmps14
  go_wp2_with (go_at_call 11; refine cO.mono ?_; rintro _ w1 ⟨ra, rc, rfl, hq, hb1⟩; rw [hlen] at hq ⊢)
  have hP0 := PlanQ.empty w1 w1.heap.size
  go_loopw [5, 4] (fun v5 v4 wr => ∃ (i : Nat) (qa : Option Addr) (qc : Nat) (p : List IRow), i ≤ l.length ∧ v5 = .int .i64 (i : Int) ∧ v4 = .slice qa p.length qc ∧ PlanQ wr w1.heap.size (.slice qa p.length qc) p ∧ Hid (lsP p = planI (planN (rwL l) i)) ∧ Below w1.heap.size w1 wr) (fun v _ _ => l.length - (intOf v).toNat)
  case atStart => exact ⟨0, none, 0, [], Nat.zero_le _, rfl, rfl, hP0, rfl, Below.refl _ _⟩
  case round =>
    obtain ⟨i, qa, qc, p, hi, rfl, rfl, hP, hls, hb⟩ := hrel
    clear hP0 cO
    by_cases hil : i < l.length
    · have g1 : (i : Int) < (l.length : Int) := by omega
      have hgi : (wvN (rwL l) l.length)[i]? = some (wv (rwL l) i) := wvN_get _ hil
      obtain ⟨g, og, rfl, hgB, hgw, -, -⟩ := hq.spot (by rw [wvN_length]; omega)
      have hcg : Hid (∀ w2, Below w1.heap.size w1 w2 → w2.cell? ⟨g, og + i, none⟩ = some (.int .i64 (wv (rwL l) i : Nat))) := fun w2 h => ((hq.below h).natSet hgi).1
      have hnw := nwN_le (rwL l) i
      have hle := wv_le_nw (rwL l) i
      have hlp : Hid (lsP p = planI (planN (rwL l) i) → p.length = nwN (rwL l) i) := fun h => by rw [lsP_len h, planN_length]
      have hgrow : Hid (∀ p1 : List IRow, lsP p1 = planI (planN (rwL l) i) ∨ lsP p1 = planI (roomN (rwL l) i) → p1.length ≤ wv (rwL l) i → lsP (p1 ++ [⟨[], none, 0⟩]) = planI (roomN (rwL l) i)) := by
        intro p1 h1 h2
        rcases h1 with h1 | h1
        · rw [roomN_grow (rwL l) i (by rw [← lsP_len h1]; exact h2)]
          exact lsP_grow h1
        · have := roomN_len (rwL l) i
          rw [← lsP_len h1] at this
          omega
      have hdone : Hid (∀ p1 : List IRow, lsP p1 = planI (planN (rwL l) i) ∨ lsP p1 = planI (roomN (rwL l) i) → ¬ p1.length ≤ wv (rwL l) i → lsP p1 = planI (roomN (rwL l) i)) := by
        intro p1 h1 h2
        rcases h1 with h1 | h1
        · rw [roomN_of (rwL l) i (by rw [← lsP_len h1]; omega)]
          exact h1
        · exact h1
      have hroom : Hid (∀ p1 : List IRow, lsP p1 = planI (roomN (rwL l) i) → ∃ x, p1[wv (rwL l) i]? = some x ∧ x.l = rowI (waveL (rwL l) i (wv (rwL l) i)) ∧ ∀ y : IRow, y.l = x.l ++ [(i : Int)] → lsP (p1.set (wv (rwL l) i) y) = planI (planN (rwL l) (i + 1))) := by
        intro p1 h1
        obtain ⟨x, q1, q2⟩ := lsP_row h1 (roomN_get (rwL l) i)
        refine ⟨x, q1, q2, fun y hy => ?_⟩
        rw [← roomN_set]
        exact lsP_set h1 (by rw [hy, q2, rowI_snoc])
      have hrl : Hid ((rowI (waveL (rwL l) i (wv (rwL l) i))).length ≤ i) := by unfold rowI Hid; rw [List.length_map]; exact waveL_length _ _ _
      have hwi : wv (rwL l) i ≤ i := wv_le _ _
      generalize rowI (waveL (rwL l) i (wv (rwL l) i)) = R at *
      generalize hv : wv (rwL l) i = v at *
      replace hv : Hid _ := hv
      have hls2 : Hid (lsP p = planI (planN (rwL l) i) ∨ lsP p = planI (roomN (rwL l) i)) := Or.inl hls.out
      clear hgi hls hlp hnw hle
      go_wp2_with fail
      go_loopw [4] (fun v4 wr => ∃ (qa : Option Addr) (qc : Nat) (p : List IRow), v4 = .slice qa p.length qc ∧ PlanQ wr w1.heap.size (.slice qa p.length qc) p ∧ Hid (lsP p = planI (planN (rwL l) i) ∨ lsP p = planI (roomN (rwL l) i)) ∧ Below w1.heap.size w1 wr) (fun v4 _ => v + 1 - lenP v4)
      case atStart => exact ⟨qa, qc, p, rfl, hP, hls2, hb⟩
      case round =>
        obtain ⟨qa, qc, p, rfl, hP, hls, hb⟩ := hrel
        clear hls2
        have cg := hcg.out wr hb
        have e1 : (p ++ [(⟨[], none, 0⟩ : IRow)]).length = p.length + 1 := by rw [List.length_append]; rfl
        have hBw : w1.heap.size ≤ wr.heap.size := hb.size
        by_cases hpv : p.length ≤ v
        · have g2 : (p.length : Int) ≤ (v : Int) := by omega
          have hls3 : Hid (lsP (p ++ [⟨[], none, 0⟩]) = planI (planN (rwL l) i) ∨ lsP (p ++ [⟨[], none, 0⟩]) = planI (roomN (rwL l) i)) := Or.inr (hgrow.out p hls.out hpv)
          have hb4 := belowNew wr (.cells #[.slice none 0 0] 24)
          have hP4 := hP.below hb4
          have hNW := new_slot wr ⟨[], none, 0⟩
          have hB4 : w1.heap.size ≤ (wr.alloc (.cells #[.slice none 0 0] 24)).heap.size := Nat.le_trans hBw hb4.size
          have hb44 : Below w1.heap.size w1 (wr.alloc (.cells #[.slice none 0 0] 24)) := hb.trans (hb4.mono hBw)
          have m1 : p.length + 1 ≤ maxLen := by unfold maxLen; omega
          have m2 : (p.length + 1) * 24 ≤ 140737488355328 := by omega
          clear hls hgrow hdone hroom hb4
          go_wp2_with (at_builtin; refine wpList_pushN (K := slotK) rfl _ _ 28 rfl w1.heap.size 24 i0 _ 24 Try.underlying28 hi0 hz0 hs0 hbb0 hzs0 _ p rfl hP4.out ⟨[], none, 0⟩ trivial (fun _ h => h.elim) ⟨wr.heap.size, 0, none⟩ 1 rfl hNW m1 m2 hB4 ?_; intro ao3 cap3 w5 hQ5 hk5 hf5)
          have hP5 := hP4.grow hQ5 hk5 hf5
          have hb5 : Below w1.heap.size w1 w5 := hb44.trans (hk5.below hB4 (fun k e => (hP4.out.lt k e).1))
          clear hP4 hQ5 hk5 hf5 hNW hb44
          go_roundw
          case rel => exact ⟨ao3, cap3, _, by rw [e1], hP5, hls3, hb5⟩
          case measure => simp [lenP]; omega
        · have g2 : ¬ (p.length : Int) ≤ (v : Int) := by omega
          have g3 : (v : Int) < (p.length : Int) := by omega
          obtain ⟨⟨L, xa, xc⟩, hx1, hxl, hy1⟩ := hroom.out _ (hdone.out p hls.out hpv)
          replace hxl : L = R := hxl
          subst hxl
          have hLi := hrl.out
          have hx1' : Hid _ := hx1
          have hy1' : Hid (∀ (a : Option Addr) (c : Nat), lsP (p.set v ⟨L ++ [(i : Int)], a, c⟩) = planI (planN (rwL l) (i + 1))) := fun a c => hy1 ⟨L ++ [(i : Int)], a, c⟩ rfl
          have hb6 : Below wr.heap.size wr (wr.alloc (.cells #[.int .i64 (i : Int)] 3)).drew := (belowNew wr (.cells #[.int .i64 (i : Int)] 3)).trans ((below_drewN (Below.refl (wr.alloc (.cells #[.int .i64 (i : Int)] 3)).heap.size (wr.alloc (.cells #[.int .i64 (i : Int)] 3))) 1).mono (belowNew wr (.cells #[.int .i64 (i : Int)] 3)).size)
          have hP6 := hP.below hb6
          obtain ⟨gq, oq, rfl, hgqB, hgqw, cx, hK6⟩ := hP6.at hx1
          have hNI := new_intD wr (i : Int)
          have hb66 := hb.trans (hb6.mono hBw)
          have hB6 := hb66.size
          have m3 : L.length + 1 ≤ maxLen := by unfold maxLen; omega
          have m4 : (L.length + 1) * 8 ≤ 140737488355328 := by omega
          have hcr : wr.cell? ⟨gq, oq + v, none⟩ = some (.slice xa L.length xc) := by
            obtain ⟨g2, o2, e2, _, _, c2, _⟩ := hP.at hx1
            simp only [Option.some.injEq, Addr.mk.injEq, and_true] at e2
            obtain ⟨rfl, rfl⟩ := e2
            exact c2
          have hgr : gq < wr.heap.size := by
            obtain ⟨g2, o2, e2, _, h2, _, _⟩ := hP.at hx1
            simp only [Option.some.injEq, Addr.mk.injEq, and_true] at e2
            obtain ⟨rfl, rfl⟩ := e2
            exact h2
          have hggr : g < wr.heap.size := by have := (hq.lt g rfl).2; omega
          have hkp : ∀ U, Below wr.heap.size wr U → (U.cell? ⟨g, og + i, none⟩ = some (.int .i64 (v : Int)) ∧ U.cell? ⟨gq, oq + v, none⟩ = some (.slice xa L.length xc)) := fun U hU =>
            ⟨(hU.cell (p := ⟨g, og + i, none⟩) hggr).trans cg, (hU.cell (p := ⟨gq, oq + v, none⟩) hgr).trans hcr⟩
          have uD : Below wr.heap.size wr wr.drew := below_drewN (Below.refl _ _) 1
          have hS0 := hkp _ uD
          have hS6 := hkp _ hb6
          clear hls hgrow hdone hroom hx1 hy1 hrl
          go_wp2_with fail
          have e2 : Hid (L.length + 1 = (L ++ [(i : Int)]).length) := by unfold Hid; rw [List.length_append]; rfl
          have hS8 : ∀ w8, Kept (fun k => (Value.slice xa L.length xc).ownBlock = some k) (wr.alloc (.cells #[.int .i64 (i : Int)] 3)).drew w8 → w8.cell? ⟨g, og + i, none⟩ = some (.int .i64 (v : Int)) := fun w8 hk8 => by
            have hgB2 : g < w1.heap.size := (hq.lt g rfl).2
            have hinl := hK6
            refine (hk8.cell (p := ⟨g, og + i, none⟩) (Nat.lt_of_lt_of_le hggr hb6.size) (fun e => ?_)).trans hS6.1
            have := (hinl.lt g e).1
            omega
          go_region_law (first
            | (refine step_pushF (K := intK) _ (by rfl) _ _ 24 (by rfl) w1.heap.size 3 i1 _ 8 Try.underlying24 hi1 hz1 hs1 hbb1 hzs1 _ L (by rfl) hK6 (i : Int) trivial (fun _ h => h.elim) ⟨wr.heap.size, 0, none⟩ 1 (by rfl) hNI m3 m4 hB6 ?_
               intro ao8 cap8 w8 hQ8 hk8 hf8
               obtain ⟨c8, f8, hP8, hb8⟩ := hP6.putsN hx1'.out e2.out hQ8 hk8 hf8
               have hg8 := hS8 w8 hk8))
          all_goals
            have e3 : (p.set v ⟨L ++ [(i : Int)], ao8, cap8⟩).length = p.length := by rw [List.length_set]
            have h4 := hy1'.out ao8 cap8
            have hb9 := hb66.trans (hb8 _ (Nat.le_refl _) hB6)
            clear hx1' hy1' hNI hK6 c8 f8 hg8 hQ8 hk8 hf8 hP6 cx hcr hb8 hS8 hkp hS0 hS6 cg
            go_wp2
            go_roundw
            case rel => exact ⟨i + 1, _, qc, _, by omega, by go_num, by rw [e3], by rw [e3]; exact hP8, h4, hb9⟩
            case measure => simp [intOf]; omega
    · have g1 : ¬ (i : Int) < (l.length : Int) := by omega
      have hil2 : i = l.length := by omega
      have hfin : GotPlan w (rwL l) (.returned (.slice qa p.length qc)) wr := by
        have h4 := hls.out
        rw [hil2] at h4
        exact ⟨_, p, rfl, hP.rebase hb1.size, by rw [hlen]; exact h4, hb1.trans (hb.mono hb1.size)⟩
      clear hP hil2 hls hlen
      go_wp2
      go_ret
      exact hfin
end Go.Proofs.Ytkgidmifgfoeiaa
