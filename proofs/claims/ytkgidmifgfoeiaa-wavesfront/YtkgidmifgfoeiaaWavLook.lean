/- What waves.look does. -/
import Derived.Test.YtkgidmifgfoeiaaWavMark
import Derived.Test.YtkgidmifgfoeiaaAccGrp
namespace Go.Proofs.Ytkgidmifgfoeiaa
open Go Go.RowKit
set_option linter.unusedVariables false

def GotLook (W : World) (n : Nat) (P : List (List Int)) (e : Ending) (w : World) : Prop :=
  Below W.heap.size W w ∧ match lookN n P with
    | .error k => e = .returned (.tuple #[.slice none 0 0, .int .i64 (k : Int)])
    | .ok m => m.length = n ∧ ∃ g, e = .returned (.tuple #[.slice (some ⟨g, 0, none⟩) n n, .int .i64 0]) ∧ KQ intK 3 w W.heap.size (.slice (some ⟨g, 0, none⟩) n n) (markI m)

/-- Rows that a machine has. -/
def RowsFit (p : List IRow) : Prop := p.length ≤ 1000 ∧ ∀ x ∈ p, x.l.length ≤ 140737488355328

theorem lsP_take {p : List IRow} {j : Nat} {x : IRow} (h : p[j]? = some x) : (lsP p)[j]? = some x.l := by
  unfold lsP
  rw [List.getElem?_map, h]
  rfl

set_option maxRecDepth 100000 in
set_option maxHeartbeats 4000000 in
theorem look_any (p : List IRow) (pa : Option Addr) (pc n : Nat) (w : World) (hp : RowAt irowK w pa p) (hf : RowsFit p) (hn : n ≤ 1000000) :
    Calls Try.prog 22 #[.slice pa p.length pc, .int .i64 (n : Int)] w fun e w' => GotLook w n (lsP p) e w' := by
  obtain ⟨hp1, hp2⟩ := hf
  generalize hGOT : (fun e w' => GotLook w n (lsP p) e w') = GOT
  have hGe : Hid (∀ w' k, Below w.heap.size w w' → lookN n (lsP p) = .error k → GOT (.returned (.tuple #[.slice none 0 0, .int .i64 (k : Int)])) w') := by
    intro w' k h1 h2
    rw [← hGOT]
    refine ⟨h1, ?_⟩
    rw [h2]
  have hGo : Hid (∀ w' m g, Below w.heap.size w w' → lookN n (lsP p) = .ok m → m.length = n → KQ intK 3 w' w.heap.size (.slice (some ⟨g, 0, none⟩) n n) (markI m) → GOT (.returned (.tuple #[.slice (some ⟨g, 0, none⟩) n n, .int .i64 0])) w') := by
    intro w' m g h1 h2 h3 h4
    rw [← hGOT]
    refine ⟨h1, ?_⟩
    rw [h2]
    exact ⟨h3, g, rfl, h4⟩
  clear hGOT
  obtain ⟨w1, hms, hQ1, hB1, hs1⟩ := make_nats 24 Try.underlying24 n hn w
  obtain ⟨B, hB⟩ : ∃ B, B = w.heap.size := ⟨_, rfl⟩
  have hQ1' := hQ1.natInt.rebase (show B ≤ w.heap.size by omega)
  have hgB : B ≤ w.heap.size := by omega
  generalize hg : w.heap.size = g at hQ1' hms hs1 hgB
  go_enter Try.func22, Try.ntmps22
  go_wp2_with fail
  refine wp_scope_straight ?_
  go_wp2_with fail
  go_loopw [18] (fun v18 wr => ∃ (i : Nat) (al : List Int), i ≤ n ∧ v18 = .int .i64 (i : Int) ∧ KQ intK 3 wr B (.slice (some ⟨g, 0, none⟩) n n) al ∧ Hid (al.length = n) ∧ Hid (al.take i = List.replicate i (-1)) ∧ Below w.heap.size w wr) (fun v _ => n - (intOf v).toNat)
  case atStart => exact ⟨0, rowI (List.replicate n 0), Nat.zero_le _, rfl, hQ1', by unfold Hid rowI; rw [List.length_map, List.length_replicate], rfl, hB1⟩
  case round =>
    obtain ⟨i, al, hi, rfl, hq, hal, hat, hb⟩ := hrel
    clear hQ1 hQ1' hB1
    by_cases hil : i < n
    · have g1 : (i : Int) < (n : Int) := by omega
      obtain ⟨x, hx⟩ : ∃ p, al[i]? = some p := ⟨_, List.getElem?_eq_getElem (by rw [hal.out]; exact hil)⟩
      obtain ⟨c1, f1, hBg, hgw, s1⟩ := hq.intSet hx
      simp only [Nat.zero_add] at c1 f1 s1
      have hq2 := s1 (-1)
      have hl2 : Hid ((al.set i (-1)).length = n) := by unfold Hid; rw [List.length_set]; exact hal.out
      have ht2 : Hid ((al.set i (-1)).take (i + 1) = List.replicate (i + 1) (-1)) := by
        unfold Hid
        rw [List.take_add_one, List.getElem?_set_self (by rw [hal.out]; exact hil), List.take_set_of_le (Nat.le_refl _), hat.out, List.replicate_succ']
        rfl
      have hb2 : Below w.heap.size w (wr.setCell ⟨g, i, none⟩ (.int .i64 (-1))) := hb.trans ((Kept.setCell wr ⟨g, i, none⟩ (.int .i64 (-1))).below hb.size (fun k e => by have e' : k = g := e; omega))
      clear hx hal hat s1 hq
      go_wp2_with fail
      go_roundw
      case rel => exact ⟨i + 1, _, by omega, by go_num, hq2, hl2, ht2, hb2⟩
      case measure => simp [intOf]; omega
    · have g1 : ¬ (i : Int) < (n : Int) := by omega
      have hin : i = n := by omega
      have hq3 : KQ intK 3 wr B (.slice (some ⟨g, 0, none⟩) n n) (markI (List.replicate n 0)) := by
        have h1 := hat.out
        rw [hin] at h1
        rw [List.take_of_length_le (by rw [hal.out]; exact Nat.le_refl _)] at h1
        rw [markI_zero, ← h1]
        exact hq
      clear hq hat hal hin
      go_wp2_with fail
      refine wp_label ?_
      go_wp2_with fail
      go_loopw [28, 8, 9] (fun v28 v8 v9 wr => ∃ (j : Nat) (m : List Nat) (left : Nat), j ≤ p.length ∧ v28 = .int .i64 (j : Int) ∧ v8 = .int .i64 (left : Int) ∧ v9 = .int .i64 0 ∧ KQ intK 3 wr B (.slice (some ⟨g, 0, none⟩) n n) (markI m) ∧ Hid (m.length = n) ∧ Hid (left = openN m) ∧ left ≤ n ∧ Hid (markP n 0 (List.replicate n 0) ((lsP p).take j) = .ok m) ∧ Below w.heap.size w wr) (fun v _ _ _ => p.length - (intOf v).toNat)
      case atStart => exact ⟨0, List.replicate n 0, n, Nat.zero_le _, rfl, rfl, rfl, hq3, by unfold Hid; rw [List.length_replicate], (openN_zero n).symm, Nat.le_refl _, rfl, hb⟩
      case round =>
        obtain ⟨j, m, left, hj, rfl, rfl, rfl, hq, hml, hlf, hln, hmk, hb⟩ := hrel
        clear hq3
        by_cases hjl : j < p.length
        · have g1 : (j : Int) < (p.length : Int) := by omega
          obtain ⟨x, hx⟩ : ∃ q, p[j]? = some q := ⟨_, List.getElem?_eq_getElem hjl⟩
          obtain ⟨bp, op, rfl, hbp, cr, hri, _⟩ := (hp.below hb).irow hx
          have hri0 := (hp.at_ x (List.mem_of_getElem? hx)).1
          have hxl := hp2 x (List.mem_of_getElem? hx)
          have hx' : Hid _ := hx
          have hrow : Hid (∀ m', markR n j m x.l = .ok m' → markP n 0 (List.replicate n 0) ((lsP p).take (j + 1)) = .ok m') := fun m' h => by
            rw [markP_step hmk.out (lsP_take hx)]; exact h
          have hrer : Hid (∀ e, markR n j m x.l = .error e → lookN n (lsP p) = .error e) := fun e h => by
            refine lookN_err (markP_err (i := j + 1) ?_)
            rw [markP_step hmk.out (lsP_take hx)]; exact h
          have hmk' : Hid (Hid (markP n 0 (List.replicate n 0) ((lsP p).take j) = .ok m)) := hmk
          have hjw : j ≤ 1000 := by omega
          clear hx hmk hri
          go_wp2_with fail
          go_loopw [35, 8, 9] (fun v35 v8 v9 wr => ∃ (k : Nat) (m' : List Nat) (left : Nat), k ≤ x.l.length ∧ v35 = .int .i64 (k : Int) ∧ v8 = .int .i64 (left : Int) ∧ v9 = .int .i64 0 ∧ KQ intK 3 wr B (.slice (some ⟨g, 0, none⟩) n n) (markI m') ∧ Hid (m'.length = n) ∧ Hid (left = openN m') ∧ left ≤ n ∧ Hid (markR n j m (x.l.take k) = .ok m') ∧ Below w.heap.size w wr) (fun v _ _ _ => x.l.length - (intOf v).toNat)
          case atStart => exact ⟨0, m, left, Nat.zero_le _, rfl, rfl, rfl, hq, hml, hlf, hln, rfl, hb⟩
          case round =>
            obtain ⟨k, m', left, hk, rfl, rfl, rfl, hq, hml, hlf, hln, hmk, hb⟩ := hrel
            by_cases hkl : k < x.l.length
            · have g1 : (k : Int) < (x.l.length : Int) := by omega
              obtain ⟨y, hy⟩ : ∃ q, x.l[k]? = some q := ⟨_, List.getElem?_eq_getElem hkl⟩
              obtain ⟨br, orr, hxa, hbr, cy⟩ := (hri0.below hb).int hy
              have hst := markR_step hmk.out hy
              have hstep : Hid (∀ m2, mark1 n j m' y = .ok m2 → markR n j m (x.l.take (k + 1)) = .ok m2) := fun m2 h => by rw [hst]; exact h
              have hserr : Hid (∀ e, mark1 n j m' y = .error e → lookN n (lsP p) = .error e) := fun e h => hrer.out e (markR_err (i := k + 1) (by rw [hst]; exact h))
              clear hst
              rw [hxa]
              by_cases hy0 : y < 0
              · have hE := hGe.out wr 2 hb (hserr.out 2 (mark1_range (Or.inl hy0)))
                clear hserr hstep hrer hrow
                go_wp2_with fail
                exact hE
              · by_cases hyn : (n : Int) ≤ y
                · have hE := hGe.out wr 2 hb (hserr.out 2 (mark1_range (Or.inr hyn)))
                  have g2 : ¬ y < (n : Int) := by omega
                  clear hserr hstep hrer hrow
                  go_wp2_with fail
                  exact hE
                · obtain ⟨z, rfl⟩ : ∃ z : Nat, y = (z : Int) := ⟨y.toNat, by omega⟩
                  have hzn : z < n := by omega
                  have g2 : ¬ (n : Int) ≤ (z : Int) := hyn
                  have g3 : (z : Int) < (n : Int) := by omega
                  obtain ⟨v, hv⟩ : ∃ v, m'[z]? = some v := ⟨_, List.getElem?_eq_getElem (by rw [hml.out]; exact hzn)⟩
                  obtain ⟨c1, f1, hBg, hgw, s1⟩ := hq.intSet (markI_get hv)
                  simp only [Nat.zero_add] at c1 f1 s1
                  by_cases hv0 : v = 0
                  · subst hv0
                    have h1 := hstep.out _ (mark1_set hzn hv)
                    have h2 : Hid (markR n j m (x.l.take (k + 1)) = .ok (m'.set z (j + 1))) := h1
                    have hq2 := s1 (j : Int)
                    rw [← markI_set] at hq2
                    have hop := openN_set (j := j) hv
                    have hl2 : Hid ((m'.set z (j + 1)).length = n) := by unfold Hid; rw [List.length_set]; exact hml.out
                    have hlp : 1 ≤ left := by rw [hlf.out]; omega
                    have ho2 : Hid (left - 1 = openN (m'.set z (j + 1))) := by unfold Hid; rw [hlf.out]; omega
                    have g5 : ((left : Int) - 1) = ((left - 1 : Nat) : Int) := by omega
                    have hb2 : Below w.heap.size w (wr.setCell ⟨g, z, none⟩ (.int .i64 (j : Int))) := hb.trans ((Kept.setCell wr ⟨g, z, none⟩ (.int .i64 (j : Int))).below hb.size (fun k e => by have e' : k = g := e; omega))
                    have g6 : (((0 : Nat) : Int) - 1 == -1) = true := rfl
                    clear h1 hserr hstep hrer hrow hop hlf hmk hml s1 hq hv hy
                    go_wp2_with fail
                    go_roundw
                    case rel => exact ⟨k + 1, _, left - 1, by omega, by go_num, by go_num, rfl, hq2, hl2, ho2, by omega, h2, hb2⟩
                    case measure => simp [intOf]; omega
                  · have hE := hGe.out wr 13 hb (hserr.out 13 (mark1_err hzn hv hv0))
                    have g6 : ((v : Int) - 1 == -1) = false := by simp; omega
                    clear hserr hstep hrer hrow s1 hq hv hy
                    go_wp2_with fail
                    exact hE
            · have g1 : ¬ (k : Int) < (x.l.length : Int) := by omega
              have hkr : k = x.l.length := by omega
              have h1 := hmk.out
              rw [hkr, List.take_length] at h1
              have h2 : Hid (markP n 0 (List.replicate n 0) ((lsP p).take (j + 1)) = .ok m') := hrow.out _ h1
              clear h1 hkr hmk hrow hrer
              go_wp2_with fail
              go_roundw
              case rel => exact ⟨j + 1, m', left, by omega, by go_num, rfl, rfl, hq, hml, hlf, hln, h2, hb⟩
              case measure => simp [intOf]; omega
        · have g1 : ¬ (j : Int) < (p.length : Int) := by omega
          have hjr : j = p.length := by omega
          have h1 : markP n 0 (List.replicate n 0) (lsP p) = .ok m := by
            have := hmk.out
            rw [hjr, List.take_of_length_le (by unfold lsP; rw [List.length_map]; exact Nat.le_refl _)] at this
            exact this
          by_cases hl0 : 0 < left
          · have g2 : (0 : Int) < (left : Int) := by omega
            have hE := hGe.out wr 12 hb (lookN_few h1 (by rw [← hlf.out]; exact hl0))
            clear h1 hjr hmk hlf
            go_wp2_with fail
            exact hE
          · have g2 : ¬ (0 : Int) < (left : Int) := by omega
            have hE := hGo.out wr m g hb (lookN_ok h1 (by rw [← hlf.out]; exact hl0)) hml.out (by rw [← hB]; exact hq)
            clear h1 hjr hmk hlf
            go_wp2_with fail
            exact hE
end Go.Proofs.Ytkgidmifgfoeiaa
