/- What tuskref21.Check does. -/
import Derived.Test.YtkgidmifgfoeiaaWavCheck
import Derived.Test.YtkgidmifgfoeiaaRefAccEdges
import Derived.BigQuiet
import Derived.Deep.QuietTactic
namespace Go.Proofs.Ytkgidmifgfoeiaa
open Go Go.RowKit
set_option linter.unusedVariables false

theorem chk_err {l : List RwD} {P : List (List Int)} {e : Nat} (h : markP l.length 0 (List.replicate l.length 0) P = .error e) : chkN l P = e := by
  unfold chkN
  rw [h]

theorem chk_of {l : List RwD} {P : List (List Int)} {m : List Nat} (h : markP l.length 0 (List.replicate l.length 0) P = .ok m) : chkN l P = chkM l m := by
  unfold chkN
  rw [h]

theorem chkM_full {l : List RwD} {m : List Nat} (h : ∀ x, x < m.length → m.getD x 0 ≠ 0) : chkM l m = if (edgesL l).any (fun e => decide (m.getD e.1 0 = m.getD e.2 0)) = true then 15 else if (edgesL l).any (fun e => decide (m.getD e.2 0 < m.getD e.1 0)) = true then 9 else 0 := by
  unfold chkM
  rw [if_neg]
  intro h2
  obtain ⟨v, hv, h3⟩ := List.any_eq_true.1 h2
  obtain ⟨x, hx, e⟩ := List.mem_iff_getElem.1 hv
  refine h x hx ?_
  rw [getD_of hx, e]
  exact of_decide_eq_true h3

theorem any_at {α : Type} {l : List α} {f : α → Bool} {i : Nat} {x : α} (hx : l[i]? = some x) (h : f x = true) : l.any f = true := List.any_eq_true.2 ⟨x, List.mem_of_getElem? hx, h⟩

theorem any_none {α : Type} {l : List α} {f : α → Bool} (h : ∀ (i : Nat) (x : α), l[i]? = some x → f x = false) : l.any f = false := by
  rw [List.any_eq_false]
  intro x hx
  obtain ⟨i, hi⟩ := List.mem_iff_getElem?.1 hx
  rw [h i x hi]
  simp

set_option maxRecDepth 100000 in
set_option maxHeartbeats 4000000 in
theorem refCheck_any (l : List TxA) (ao : Option Addr) (cp : Nat) (p : List IRow) (pa : Option Addr) (pc : Nat) (w : World) (hl : RowAt txA w ao l) (hf : Few l) (hp : RowAt irowK w pa p) (hpf : RowsFit p) :
    Calls Try.prog 16 #[.slice ao l.length cp, .slice pa p.length pc] w fun e w' => e = .returned (.int .i64 (chkN (rwL l) (lsP p) : Nat)) ∧ Below w.heap.size w w' := by
  have hl1 := hf.1
  have hlen := rwL_length l
  obtain ⟨hp1, hp2⟩ := hpf
  generalize hGOT : (fun e w' => e = Ending.returned (.int .i64 (chkN (rwL l) (lsP p) : Nat)) ∧ Below w.heap.size w w') = GOT
  have hG : Hid (∀ w' k, Below w.heap.size w w' → chkN (rwL l) (lsP p) = k → GOT (.returned (.int .i64 (k : Int))) w') := by
    intro w' k h1 h2
    rw [← hGOT, h2]
    exact ⟨rfl, h1⟩
  clear hGOT
  obtain ⟨w1, hms, hQ1, hB1, hs1⟩ := make_nats 24 Try.underlying24 l.length (by omega) w
  obtain ⟨B, hB⟩ : ∃ B, B = w.heap.size := ⟨_, rfl⟩
  have hQ1' := hQ1.rebase (show B ≤ w.heap.size by omega)
  have hgB : B ≤ w.heap.size := by omega
  generalize hg : w.heap.size = g at hQ1' hms hs1 hgB
  have hMs : Hid (∀ e, markP l.length 0 (List.replicate l.length 0) (lsP p) = .error e → chkN (rwL l) (lsP p) = e) := fun e h => chk_err (by rw [hlen]; exact h)
  have hMo : Hid (∀ m, markP l.length 0 (List.replicate l.length 0) (lsP p) = .ok m → chkN (rwL l) (lsP p) = chkM (rwL l) m) := fun m h => chk_of (by rw [hlen]; exact h)
  clear hQ1
  go_enter Try.func16, Try.ntmps16
  go_wp2_with fail
  go_loopw [6] (fun v6 wr => ∃ (j : Nat) (m : List Nat), j ≤ p.length ∧ v6 = .int .i64 (j : Int) ∧ KQ natK 3 wr B (.slice (some ⟨g, 0, none⟩) l.length l.length) m ∧ Hid (m.length = l.length) ∧ Hid (markP l.length 0 (List.replicate l.length 0) ((lsP p).take j) = .ok m) ∧ Below w.heap.size w wr) (fun v _ => p.length - (intOf v).toNat)
  case atStart => exact ⟨0, List.replicate l.length 0, Nat.zero_le _, rfl, hQ1', by unfold Hid; rw [List.length_replicate], rfl, hB1⟩
  case round =>
    obtain ⟨j, m, hj, rfl, hq, hml, hmk, hb⟩ := hrel
    clear hQ1' hB1
    by_cases hjl : j < p.length
    · have g1 : (j : Int) < (p.length : Int) := by omega
      obtain ⟨x, hx⟩ : ∃ q, p[j]? = some q := ⟨_, List.getElem?_eq_getElem hjl⟩
      have hx' : Hid _ := hx
      have hri0 := (hp.at_ x (List.mem_of_getElem? hx)).1
      have hxl := hp2 x (List.mem_of_getElem? hx)
      obtain ⟨bp, op, rfl, -, -, -, -⟩ := (hp.below hb).irow hx
      have hrow : Hid (∀ m', markR l.length j m x.l = .ok m' → markP l.length 0 (List.replicate l.length 0) ((lsP p).take (j + 1)) = .ok m') := fun m' h => by
        rw [markP_step hmk.out (lsP_take hx)]; exact h
      have hrer : Hid (∀ e, markR l.length j m x.l = .error e → markP l.length 0 (List.replicate l.length 0) (lsP p) = .error e) := fun e h => by
        refine markP_err (i := j + 1) ?_
        rw [markP_step hmk.out (lsP_take hx)]; exact h
      have hjw : j ≤ 1000 := by omega
      clear hx hmk
      go_wp2_with fail
      go_loopw [7] (fun v7 wr => ∃ (k : Nat) (m' : List Nat), k ≤ x.l.length ∧ v7 = .int .i64 (k : Int) ∧ KQ natK 3 wr B (.slice (some ⟨g, 0, none⟩) l.length l.length) m' ∧ Hid (m'.length = l.length) ∧ Hid (markR l.length j m (x.l.take k) = .ok m') ∧ Below w.heap.size w wr) (fun v _ => x.l.length - (intOf v).toNat)
      case atStart => exact ⟨0, m, Nat.zero_le _, rfl, hq, hml, rfl, hb⟩
      case round =>
        obtain ⟨k, m', hk, rfl, hq, hml, hmk, hb⟩ := hrel
        obtain ⟨bp', op', e1, hbp, cr, hri, _⟩ := (hp.below hb).irow hx'.out
        simp only [Option.some.injEq, Addr.mk.injEq, and_true] at e1
        obtain ⟨rfl, rfl⟩ := e1
        by_cases hkl : k < x.l.length
        · have g2 : (k : Int) < (x.l.length : Int) := by omega
          obtain ⟨y, hy⟩ : ∃ q, x.l[k]? = some q := ⟨_, List.getElem?_eq_getElem hkl⟩
          obtain ⟨br, orr, hxa, hbr, cy⟩ := hri.int hy
          rw [hxa] at cr
          have hst := markR_step hmk.out hy
          have hstep : Hid (∀ m2, mark1 l.length j m' y = .ok m2 → markR l.length j m (x.l.take (k + 1)) = .ok m2) := fun m2 h => by rw [hst]; exact h
          have hserr : Hid (∀ e, mark1 l.length j m' y = .error e → chkN (rwL l) (lsP p) = e) := fun e h => hMs.out e (hrer.out e (markR_err (i := k + 1) (by rw [hst]; exact h)))
          clear hst hy hxa hri
          by_cases hy0 : y < 0
          · have hE := hG.out wr 2 hb (hserr.out 2 (mark1_range (Or.inl hy0)))
            clear hserr hstep hrer hrow hmk hq
            go_wp2_with fail
            exact hE
          · by_cases hyn : (l.length : Int) ≤ y
            · have hE := hG.out wr 2 hb (hserr.out 2 (mark1_range (Or.inr hyn)))
              have g3 : ¬ y < (l.length : Int) := by omega
              clear hserr hstep hrer hrow hmk hq
              go_wp2_with fail
              exact hE
            · obtain ⟨z, rfl⟩ : ∃ z : Nat, y = (z : Int) := ⟨y.toNat, by omega⟩
              have hzn : z < l.length := by omega
              have g4 : ¬ (l.length : Int) ≤ (z : Int) := hyn
              have g3 : (z : Int) < (l.length : Int) := by omega
              obtain ⟨v, hv⟩ : ∃ v, m'[z]? = some v := ⟨_, List.getElem?_eq_getElem (by rw [hml.out]; exact hzn)⟩
              obtain ⟨c1, f1, hBg, hgw, s1⟩ := hq.natSet hv
              simp only [Nat.zero_add] at c1 f1 s1
              by_cases hv0 : v = 0
              · subst hv0
                have h1 := hstep.out _ (mark1_set hzn hv)
                have h2 : Hid (markR l.length j m (x.l.take (k + 1)) = .ok (m'.set z (j + 1))) := h1
                have hq2 := s1 (j + 1)
                have hl2 : Hid ((m'.set z (j + 1)).length = l.length) := by unfold Hid; rw [List.length_set]; exact hml.out
                have hb2 : Below w.heap.size w (wr.setCell ⟨g, z, none⟩ (.int .i64 ((j + 1 : Nat) : Int))) := hb.trans ((Kept.setCell wr ⟨g, z, none⟩ (.int .i64 ((j + 1 : Nat) : Int))).below hb.size (fun k e => by have e' : k = g := e; omega))
                have g6 : ¬ ((0 : Nat) : Int) > 0 := by omega
                clear h1 hserr hstep hrer hrow hmk hml s1 hq hv
                go_wp2_with fail
                go_roundw
                case rel => exact ⟨k + 1, _, by omega, by go_num, hq2, hl2, h2, hb2⟩
                case measure => simp [intOf]; omega
              · have hE := hG.out wr 13 hb (hserr.out 13 (mark1_err hzn hv hv0))
                have g6 : (0 : Int) < (v : Int) := by omega
                clear hserr hstep hrer hrow s1 hq hv hmk
                go_wp2_with fail
                exact hE
        · have g2 : ¬ (k : Int) < (x.l.length : Int) := by omega
          have hkr : k = x.l.length := by omega
          have h1 := hmk.out
          rw [hkr, List.take_length] at h1
          have h2 : Hid (markP l.length 0 (List.replicate l.length 0) ((lsP p).take (j + 1)) = .ok m') := hrow.out _ h1
          clear h1 hkr hmk hrow hrer hri
          go_wp2_with fail
          go_roundw
          case rel => exact ⟨j + 1, m', by omega, by go_num, hq, hml, h2, hb⟩
          case measure => simp [intOf]; omega
    · have g1 : ¬ (j : Int) < (p.length : Int) := by omega
      have hjr : j = p.length := by omega
      have h1 : markP l.length 0 (List.replicate l.length 0) (lsP p) = .ok m := by
        have := hmk.out
        rw [hjr, List.take_of_length_le (by unfold lsP; rw [List.length_map]; exact Nat.le_refl _)] at this
        exact this
      have hch : Hid (chkN (rwL l) (lsP p) = chkM (rwL l) m) := hMo.out m h1
      clear h1 hjr hmk hMs hMo
      go_wp2_with fail
      go_loopw [9] (fun v9 w2 => ∃ (i : Nat), i ≤ l.length ∧ v9 = .int .i64 (i : Int) ∧ Hid (∀ q, q < i → m.getD q 0 ≠ 0) ∧ w2 = wr) (fun v _ => l.length - (intOf v).toNat)
      case atStart => exact ⟨0, Nat.zero_le _, rfl, fun q h => by omega, rfl⟩
      case round =>
        obtain ⟨i, hi, rfl, hno, rfl⟩ := hrel
        by_cases hil : i < l.length
        · have g2 : (i : Int) < (l.length : Int) := by omega
          have him : i < m.length := by rw [hml.out]; exact hil
          have c1 := (hq.natSet (List.getElem?_eq_getElem him)).1
          simp only [Nat.zero_add] at c1
          have hgd : Hid (m.getD i 0 = m[i]) := getD_of him
          by_cases hv0 : m[i] = 0
          · have hE := hG.out wr 12 hb (by rw [hch.out]; exact chkM_few him (by rw [hgd.out, hv0]))
            rw [hv0] at c1
            clear hno hgd
            go_wp2_with fail
            exact hE
          · have g3 : ((m[i] : Int) == 0) = false := by simp; omega
            have hno2 : Hid (∀ q, q < i + 1 → m.getD q 0 ≠ 0) := fun q h => by
              by_cases e : q = i
              · subst e
                rw [hgd.out]
                exact hv0
              · exact hno.out q (by omega)
            generalize m[i] = v at *
            clear hno hgd
            go_wp2_with fail
            go_roundw
            case rel => exact ⟨i + 1, by omega, by go_num, hno2, by first | rfl | trivial⟩
            case measure => simp [intOf]; omega
        · have g2 : ¬ (i : Int) < (l.length : Int) := by omega
          have hch2 : Hid (chkN (rwL l) (lsP p) = if (edgesL (rwL l)).any (fun e => decide (m.getD e.1 0 = m.getD e.2 0)) = true then 15 else if (edgesL (rwL l)).any (fun e => decide (m.getD e.2 0 < m.getD e.1 0)) = true then 9 else 0) := by
            unfold Hid
            rw [hch.out]
            exact chkM_full (fun x hx => hno.out x (by rw [hml.out] at hx; omega))
          have cE := refEdges_any l ao cp wr (hl.below hb) hf
          clear hno hch
          go_wp2_with (go_at_call 24; refine cE.mono ?_; rintro _ w2 ⟨ea, ec, rfl, hqe, hb2⟩)
          have hbb := hb.trans (hb2.mono hb.size)
          have hq2 := hq.below hb2
          have hEl : (edgesL (rwL l)).length ≤ 1000000 := by
            have h1 := edgesN_length (rwL l) (rwL l).length
            have h2 : (rwL l).length * (rwL l).length ≤ 1000 * 1000 := Nat.mul_le_mul (by omega) (by omega)
            unfold edgesL
            omega
          have hEm : Hid (∀ (q : Nat) (x : Nat × Nat), (edgesL (rwL l))[q]? = some x → x.1 < l.length ∧ x.2 < l.length) := fun q x h => by
            obtain ⟨a, b⟩ := x
            obtain ⟨_, h3⟩ := edgesL_mem.1 (List.mem_of_getElem? h)
            have := adjB_lt h3
            rw [hlen] at this
            exact this
          have hre := hqe.rowOf.1
          have hgw2 : g < w2.heap.size := (hq2.lt g rfl).2
          have hmg : Hid (∀ (q : Nat), q < l.length → ∃ v, m.getD q 0 = v ∧ m[q]? = some v) := fun q h => by
            have h2 : q < m.length := by rw [hml.out]; exact h
            exact ⟨m[q], getD_of h2, List.getElem?_eq_getElem h2⟩
          clear cE hq hqe hml hb hb2
          generalize edgesL (rwL l) = E at *
          go_loopw [11] (fun v11 W3 => ∃ (i : Nat), i ≤ E.length ∧ v11 = .int .i64 (i : Int) ∧ Hid (∀ (q : Nat) (x : Nat × Nat), q < i → E[q]? = some x → decide (m.getD x.1 0 = m.getD x.2 0) = false) ∧ Below w2.heap.size w2 W3) (fun v _ => E.length - (intOf v).toNat)
          case atStart => exact ⟨0, Nat.zero_le _, rfl, fun q x h => by omega, Below.refl _ _⟩
          case round =>
            obtain ⟨i, hi, rfl, hno, hb3⟩ := hrel
            have hb4 := hbb.trans (hb3.mono hbb.size)
            by_cases hil : i < E.length
            · have g3 : (i : Int) < (E.length : Int) := by omega
              obtain ⟨⟨x1, x2⟩, hx⟩ : ∃ q, E[i]? = some q := ⟨_, List.getElem?_eq_getElem hil⟩
              obtain ⟨h1, h2⟩ := hEm.out i _ hx
              replace h1 : x1 < l.length := h1
              replace h2 : x2 < l.length := h2
              obtain ⟨be, oe, rfl, hbe, c1, c2⟩ := (hre.below hb3).pair hx
              obtain ⟨v1, d1, e1⟩ := hmg.out x1 h1
              obtain ⟨v2, d2, e2⟩ := hmg.out x2 h2
              have c3 := ((hq2.below hb3).natSet e1).1
              have c4 := ((hq2.below hb3).natSet e2).1
              simp only [Nat.zero_add] at c3 c4
              have g4 : (x1 : Int) < (l.length : Int) := by omega
              have g5 : (x2 : Int) < (l.length : Int) := by omega
              have hx' : Hid _ := hx
              by_cases hv : v1 = v2
              · have hE := hG.out
                have hE2 : Hid (∀ w', Below w.heap.size w w' → GOT (.returned (.int .i64 ((15 : Nat) : Int))) w') := fun w' h => hG.out w' 15 h (by
                  rw [hch2.out, if_pos (any_at hx (decide_eq_true (by show m.getD x1 0 = m.getD x2 0; rw [d1, d2, hv])))])
                subst hv
                clear hE hno d1 d2 e1 e2 hx
                go_wp2_with fail
                go_quiet (fail)
                go_wp2_with fail
                exact hE2.out _ (below_drewN hb4 _)
              · have g6 : ((v1 : Int) == (v2 : Int)) = false := by simp; omega
                have hno2 : Hid (∀ (q : Nat) (x : Nat × Nat), q < i + 1 → E[q]? = some x → decide (m.getD x.1 0 = m.getD x.2 0) = false) := fun q x hq hxq => by
                  by_cases e : q = i
                  · subst e
                    rw [hx] at hxq
                    obtain rfl : (x1, x2) = x := by simpa using hxq
                    exact decide_eq_false (by show ¬ m.getD x1 0 = m.getD x2 0; rw [d1, d2]; exact hv)
                  · exact hno.out q x (by omega) hxq
                clear hno d1 d2 e1 e2 hx
                go_wp2_with fail
                go_quiet (fail)
                go_wp2_with fail
                go_roundw
                case rel => exact ⟨i + 1, by omega, by go_num, hno2, below_drewN hb3 _⟩
                case measure => simp [intOf]; omega
            · have g3 : ¬ (i : Int) < (E.length : Int) := by omega
              have hch3 : Hid (chkN (rwL l) (lsP p) = if E.any (fun e => decide (m.getD e.2 0 < m.getD e.1 0)) = true then 9 else 0) := by
                unfold Hid
                rw [hch2.out, if_neg]
                rw [any_none (fun q x h => hno.out q x (by have := (List.getElem?_eq_some_iff.1 h).1; omega) h)]
                simp
              clear hno hch2
              go_wp2_with fail
              go_loopw [12] (fun v12 W4 => ∃ (i : Nat), i ≤ E.length ∧ v12 = .int .i64 (i : Int) ∧ Hid (∀ (q : Nat) (x : Nat × Nat), q < i → E[q]? = some x → decide (m.getD x.2 0 < m.getD x.1 0) = false) ∧ Below w2.heap.size w2 W4) (fun v _ => E.length - (intOf v).toNat)
              case atStart => exact ⟨0, Nat.zero_le _, rfl, fun q x h => by omega, hb3⟩
              case round =>
                obtain ⟨i, hi, rfl, hno, hb3⟩ := hrel
                have hb4 := hbb.trans (hb3.mono hbb.size)
                by_cases hil : i < E.length
                · have g3 : (i : Int) < (E.length : Int) := by omega
                  obtain ⟨⟨x1, x2⟩, hx⟩ : ∃ q, E[i]? = some q := ⟨_, List.getElem?_eq_getElem hil⟩
                  obtain ⟨h1, h2⟩ := hEm.out i _ hx
                  replace h1 : x1 < l.length := h1
                  replace h2 : x2 < l.length := h2
                  obtain ⟨be, oe, rfl, hbe, c1, c2⟩ := (hre.below hb3).pair hx
                  obtain ⟨v1, d1, e1⟩ := hmg.out x1 h1
                  obtain ⟨v2, d2, e2⟩ := hmg.out x2 h2
                  have c3 := ((hq2.below hb3).natSet e1).1
                  have c4 := ((hq2.below hb3).natSet e2).1
                  simp only [Nat.zero_add] at c3 c4
                  have g4 : (x1 : Int) < (l.length : Int) := by omega
                  have g5 : (x2 : Int) < (l.length : Int) := by omega
                  have hx' : Hid _ := hx
                  by_cases hv : v2 < v1
                  · have hE2 : Hid (∀ w', Below w.heap.size w w' → GOT (.returned (.int .i64 ((9 : Nat) : Int))) w') := fun w' h => hG.out w' 9 h (by
                      rw [hch3.out, if_pos (any_at hx (decide_eq_true (by show m.getD x2 0 < m.getD x1 0; rw [d1, d2]; exact hv)))])
                    have g6 : (v2 : Int) < (v1 : Int) := by omega
                    clear hno d1 d2 e1 e2 hx
                    go_wp2_with fail
                    go_quiet (fail)
                    go_wp2_with fail
                    exact hE2.out _ (below_drewN hb4 _)
                  · have g6 : ¬ (v2 : Int) < (v1 : Int) := by omega
                    have hno2 : Hid (∀ (q : Nat) (x : Nat × Nat), q < i + 1 → E[q]? = some x → decide (m.getD x.2 0 < m.getD x.1 0) = false) := fun q x hq hxq => by
                      by_cases e : q = i
                      · subst e
                        rw [hx] at hxq
                        obtain rfl : (x1, x2) = x := by simpa using hxq
                        exact decide_eq_false (by show ¬ m.getD x2 0 < m.getD x1 0; rw [d1, d2]; exact hv)
                      · exact hno.out q x (by omega) hxq
                    clear hno d1 d2 e1 e2 hx
                    go_wp2_with fail
                    go_quiet (fail)
                    go_wp2_with fail
                    go_roundw
                    case rel => exact ⟨i + 1, by omega, by go_num, hno2, below_drewN hb3 _⟩
                    case measure => simp [intOf]; omega
                · have g3 : ¬ (i : Int) < (E.length : Int) := by omega
                  have hE := hG.out wr 0 hb4 (by
                    rw [hch3.out, if_neg]
                    rw [any_none (fun q x h => hno.out q x (by have := (List.getElem?_eq_some_iff.1 h).1; omega) h)]
                    simp)
                  clear hno hch3
                  go_wp2_with fail
                  exact hE
end Go.Proofs.Ytkgidmifgfoeiaa
