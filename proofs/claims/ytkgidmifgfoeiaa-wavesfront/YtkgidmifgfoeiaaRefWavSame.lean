/- What tuskref21.Same does. -/
import Derived.Test.YtkgidmifgfoeiaaWavRows
import Derived.BigQuiet
import Derived.Deep.QuietTactic
namespace Go.Proofs.Ytkgidmifgfoeiaa
open Go Go.RowKit
set_option linter.unusedVariables false

/-- Lengths that a machine has. -/
def RowsLen (p : List IRow) : Prop := p.length ≤ 140737488355328 ∧ ∀ x ∈ p, x.l.length ≤ 140737488355328

theorem ls_ne {a b : List IRow} {i : Nat} {x y : IRow} (hx : a[i]? = some x) (hy : b[i]? = some y) (h : x.l ≠ y.l) : lsP a ≠ lsP b := by
  intro e
  have h1 : (lsP a)[i]? = some x.l := by unfold lsP; rw [List.getElem?_map, hx]; rfl
  have h2 : (lsP b)[i]? = some y.l := by unfold lsP; rw [List.getElem?_map, hy]; rfl
  rw [e, h2] at h1
  exact h (by simpa using h1.symm)

theorem ls_step {a b : List IRow} {i : Nat} {x y : IRow} (h : (lsP a).take i = (lsP b).take i) (hx : a[i]? = some x) (hy : b[i]? = some y) (e : x.l = y.l) : (lsP a).take (i + 1) = (lsP b).take (i + 1) := by
  have h1 : (lsP a)[i]? = some x.l := by unfold lsP; rw [List.getElem?_map, hx]; rfl
  have h2 : (lsP b)[i]? = some y.l := by unfold lsP; rw [List.getElem?_map, hy]; rfl
  rw [List.take_add_one, List.take_add_one, h, h1, h2, e]

set_option maxRecDepth 100000 in
set_option maxHeartbeats 2000000 in
theorem refSame21_any (a b : List IRow) (pa pb : Option Addr) (ca cb : Nat) (w : World) (ha : RowAt irowK w pa a) (hb : RowAt irowK w pb b) (la : RowsLen a) (lb : RowsLen b) :
    Calls Try.prog 12 #[.slice pa a.length ca, .slice pb b.length cb] w fun e w' => e = .returned (.bool (decide (lsP a = lsP b))) ∧ Below w.heap.size w w' := by
  obtain ⟨la1, la2⟩ := la
  obtain ⟨lb1, lb2⟩ := lb
  have hla : (lsP a).length = a.length := by unfold lsP; rw [List.length_map]
  have hlb : (lsP b).length = b.length := by unfold lsP; rw [List.length_map]
  generalize hGOT : (fun e w' => e = Ending.returned (.bool (decide (lsP a = lsP b))) ∧ Below w.heap.size w w') = GOT
  have hN : Hid (∀ w', Below w.heap.size w w' → lsP a ≠ lsP b → GOT (.returned (.bool false)) w') := by
    intro w' h1 h2
    rw [← hGOT]
    exact ⟨by rw [decide_eq_false h2], h1⟩
  have hY : Hid (∀ w', Below w.heap.size w w' → lsP a = lsP b → GOT (.returned (.bool true)) w') := by
    intro w' h1 h2
    rw [← hGOT]
    exact ⟨by rw [decide_eq_true h2], h1⟩
  clear hGOT
  go_enter Try.func12, Try.ntmps12
  by_cases hab : a.length = b.length
  · have g0 : ((a.length : Int) == (b.length : Int)) = true := by simp; omega
    have hab' : Hid _ := hab
    clear hab
    go_wp2_with fail
    go_loopw [5] (fun v5 wr => ∃ (i : Nat), i ≤ a.length ∧ v5 = .int .i64 (i : Int) ∧ Hid ((lsP a).take i = (lsP b).take i) ∧ Below w.heap.size w wr) (fun v _ => a.length - (intOf v).toNat)
    case atStart => exact ⟨0, Nat.zero_le _, rfl, rfl, Below.refl _ _⟩
    case round =>
      obtain ⟨i, hi, rfl, hls, hbw⟩ := hrel
      by_cases hil : i < a.length
      · have g1 : (i : Int) < (a.length : Int) := by omega
        have g1' : (i : Int) < (b.length : Int) := by have := hab'.out; omega
        obtain ⟨x, hx⟩ : ∃ p, a[i]? = some p := ⟨_, List.getElem?_eq_getElem hil⟩
        obtain ⟨y, hy⟩ : ∃ p, b[i]? = some p := ⟨_, List.getElem?_eq_getElem (by have := hab'.out; omega)⟩
        have hx' : Hid _ := hx
        have hy' : Hid _ := hy
        obtain ⟨b1, o1, rfl, hb1, c1, hr1, _⟩ := (ha.below hbw).irow hx
        obtain ⟨b2, o2, rfl, hb2, c2, hr2, _⟩ := (hb.below hbw).irow hy
        have lx := la2 x (List.mem_of_getElem? hx)
        have ly := lb2 y (List.mem_of_getElem? hy)
        have hne : Hid (x.l ≠ y.l → lsP a ≠ lsP b) := ls_ne hx hy
        have hst : Hid (x.l = y.l → (lsP a).take (i + 1) = (lsP b).take (i + 1)) := ls_step hls.out hx hy
        have hxr := (ha.at_ x (List.mem_of_getElem? hx)).1
        have hyr := (hb.at_ y (List.mem_of_getElem? hy)).1
        clear hx hy hr1 hr2 hls
        by_cases hxy : x.l.length = y.l.length
        · have g2 : ((x.l.length : Int) == (y.l.length : Int)) = true := by simp; omega
          have hxy' : Hid _ := hxy
          clear hxy
          go_wp2_with fail
          go_quiet (fail)
          go_wp2_with fail
          have hbq := below_drewN hbw nq
          generalize wr.drewN nq = wq at *
          clear c1 c2 hb1 hb2
          go_loopw [6] (fun v6 wr => ∃ (k : Nat), k ≤ x.l.length ∧ v6 = .int .i64 (k : Int) ∧ Hid (x.l.take k = y.l.take k) ∧ Below w.heap.size w wr) (fun v _ => x.l.length - (intOf v).toNat)
          case atStart => exact ⟨0, Nat.zero_le _, rfl, rfl, hbq⟩
          case round =>
            obtain ⟨k, hk, rfl, hlk, hbk⟩ := hrel
            obtain ⟨b1', o1', e1, hb1, c1, hr1, _⟩ := (ha.below hbk).irow hx'.out
            obtain ⟨b2', o2', e2, hb2, c2, hr2, _⟩ := (hb.below hbk).irow hy'.out
            simp only [Option.some.injEq, Addr.mk.injEq, and_true] at e1 e2
            obtain ⟨rfl, rfl⟩ := e1
            obtain ⟨rfl, rfl⟩ := e2
            by_cases hkl : k < x.l.length
            · have g3 : (k : Int) < (x.l.length : Int) := by omega
              have g3' : (k : Int) < (y.l.length : Int) := by have := hxy'.out; omega
              obtain ⟨u, hu⟩ : ∃ q, x.l[k]? = some q := ⟨_, List.getElem?_eq_getElem hkl⟩
              obtain ⟨v, hv⟩ : ∃ q, y.l[k]? = some q := ⟨_, List.getElem?_eq_getElem (by have := hxy'.out; omega)⟩
              obtain ⟨b3, o3, h3, hb3, c3⟩ := hr1.int hu
              obtain ⟨b4, o4, h4, hb4, c4⟩ := hr2.int hv
              rw [h3] at c1
              rw [h4] at c2
              have hst2 : Hid (u = v → x.l.take (k + 1) = y.l.take (k + 1)) := fun e => by rw [List.take_add_one, List.take_add_one, hlk.out, hu, hv, e]
              have hne2 : Hid (u ≠ v → x.l ≠ y.l) := fun e e2 => e (by rw [e2, hv] at hu; simpa using hu.symm)
              clear hu hv hr1 hr2 hlk h3 h4
              by_cases huv : u = v
              · have h5 := hst2.out huv
                have h6 : Hid _ := h5
                subst huv
                clear hst2 hne2 h5
                go_wp2_with fail
                go_quiet (fail)
                go_wp2_with fail
                go_roundw
                case rel => exact ⟨k + 1, by omega, by go_num, h6, below_drewN hbk _⟩
                case measure => simp [intOf]; omega
              · have g4 : (u == v) = false := by simp; exact huv
                have hE : Hid (∀ w', Below w.heap.size w w' → GOT (.returned (.bool false)) w') := fun w' h => hN.out w' h (hne.out (hne2.out huv))
                clear hst2 hne2 hst hne huv
                go_wp2_with fail
                go_quiet (fail)
                go_wp2_with fail
                exact hE.out _ (below_drewN hbk _)
            · have g3 : ¬ (k : Int) < (x.l.length : Int) := by omega
              have h5 := hst.out (by
                have h := hlk.out
                rw [List.take_of_length_le (by omega), List.take_of_length_le (by have := hxy'.out; omega)] at h
                exact h)
              have h6 : Hid _ := h5
              clear h5 hlk hr1 hr2
              go_wp2_with fail
              go_roundw
              case rel => exact ⟨i + 1, by omega, by go_num, h6, hbk⟩
              case measure => simp [intOf]; omega
        · have g2 : ((x.l.length : Int) == (y.l.length : Int)) = false := by simp; omega
          have hE : Hid (∀ w', Below w.heap.size w w' → GOT (.returned (.bool false)) w') := fun w' h => hN.out w' h (hne.out (fun e => hxy (by rw [e])))
          clear hxy hne hst
          go_wp2_with fail
          go_quiet (fail)
          go_wp2_with fail
          exact hE.out _ (below_drewN hbw _)
      · have g1 : ¬ (i : Int) < (a.length : Int) := by omega
        have hE := hY.out wr hbw (by
          have h := hls.out
          rw [List.take_of_length_le (by omega), List.take_of_length_le (by have := hab'.out; omega)] at h
          exact h)
        clear hls
        go_wp2_with fail
        exact hE
  · have g0 : ((a.length : Int) == (b.length : Int)) = false := by simp; omega
    have hE := hN.out w (Below.refl _ _) (fun e => hab (by rw [← hla, ← hlb, e]))
    go_wp2_with fail
    exact hE
end Go.Proofs.Ytkgidmifgfoeiaa
