/- NetOrder: the walk. -/
import Derived.Test.YtmbfidegcebbdaaNetWorks
namespace Go.Proofs.Ytmbfidegcebbdaa
open Go.RowKit
set_option linter.unusedVariables false

theorem RowAt.env {w : World} {ao : Option Addr} {l : List EnvD} (h : RowAt envK w ao l) {i : Nat} {x : EnvD} (hx : l[i]? = some x) :
    ∃ g off, ao = some ⟨g, off, none⟩ ∧ g < w.heap.size ∧ w.cell? ⟨g, off + i * 3, none⟩ = some (.int .i64 x.fr) ∧ w.cell? ⟨g, off + i * 3 + 1, none⟩ = some (.int .i64 x.to) ∧ w.cell? ⟨g, off + i * 3 + 2, none⟩ = some (.string x.by_) := by
  obtain ⟨g, off, h1, h2, h3⟩ := h.cell i x hx
  exact ⟨g, off, h1, h2, h3 0 _ rfl, h3 1 _ rfl, h3 2 _ rfl⟩

theorem send_take {l : List EnvD} {i : Nat} {x : EnvD} (hx : l[i]? = some x) :
    sendL (l.take (min i 256)) x = l.take (min (i + 1) 256) ∧ sendN (l.take (min i 256)) (i - 256) = i + 1 - 256 ∧ decide ((l.take (min i 256)).length < 256) = decide (i < 256) := by
  have hi := (List.getElem?_eq_some_iff.1 hx).1
  have hl : (l.take (min i 256)).length = min i 256 := by rw [List.length_take]; omega
  unfold sendL sendN
  rw [hl]
  by_cases h : i < 256
  · have e1 : min i 256 = i := by omega
    have e2 : min (i + 1) 256 = i + 1 := by omega
    rw [e1, e2, if_pos h, if_pos h]
    refine ⟨?_, by omega, rfl⟩
    rw [List.take_add_one, hx]
    rfl
  · have e1 : min i 256 = 256 := by omega
    have e2 : min (i + 1) 256 = 256 := by omega
    rw [e1, e2, if_neg (by omega), if_neg (by omega)]
    refine ⟨rfl, by omega, ?_⟩
    rw [decide_eq_false h]
    rfl

theorem take_front {l : List EnvD} {N j : Nat} {x : EnvD} (hx : l[j]? = some x) (hj : j < N) :
    atE ((l.take N).drop j) 0 = x ∧ atB ((l.take N).drop j) 0 = true ∧ takeL ((l.take N).drop j) 0 = (l.take N).drop (j + 1) := by
  have hjl := (List.getElem?_eq_some_iff.1 hx).1
  have e : (l.take N).drop j = x :: (l.take N).drop (j + 1) := by
    have hlt : j < (l.take N).length := by rw [List.length_take]; omega
    rw [List.drop_eq_getElem_cons hlt]
    congr 1
    rw [List.getElem_take]
    exact (List.getElem?_eq_some_iff.1 hx).2
  have hb : atB (x :: (l.take N).drop (j + 1)) 0 = true := by
    unfold atB
    simp
  rw [e]
  refine ⟨?_, hb, ?_⟩
  · unfold atE
    rw [hb]
    rfl
  · unfold takeL
    rw [hb]
    rfl

set_option maxRecDepth 100000 in
set_option maxHeartbeats 2000000 in
theorem netOrder_walk (ao : Option Addr) (cap : Nat) (l : List EnvD) (W : World) (hR : RowAt envK W ao l) (hm : l.length ≤ maxLen) :
    Calls Try.prog 4 #[.slice ao l.length cap] W fun e w' => e = .returned (.bool true) ∧ Below W.heap.size W w' := by
  have hm' : l.length ≤ 9223372036854775807 := by unfold maxLen at hm; omega
  clear hm
  go_enter Try.func4, Try.ntmps4
  go_wp2_with fail
  refine (netWorks_any W).mono ?_
  rintro e w0 ⟨rfl, hb0⟩
  go_wp2_with fail
  refine (netNew_any w0).mono ?_
  rintro e w1 ⟨rfl, h1, hb1⟩
  have hB1 := hb0.trans (hb1.mono hb0.size)
  obtain ⟨bb, hbb⟩ : ∃ b, Hid (w0.heap.size = b) := ⟨_, rfl⟩
  have hWb : W.heap.size ≤ bb := by have := hb0.size; have := hbb.out; omega
  rw [hbb.out] at h1 ⊢
  clear hb0 hb1 hbb
  go_wp2_with fail
  go_loopw [4, 5] (fun v4 v5 wr => ∃ i : Nat, i ≤ l.length ∧ i ≤ 400 ∧ v4 = .int .i64 ((min i 256 : Nat) : Int) ∧ v5 = .int .i64 (i : Int) ∧ ∃ q, BagAt 46 wr bb q (l.take (min i 256)) (i - 256) ∧ Below W.heap.size W wr) (fun _ v _ => 400 - (intOf v).toNat)
  case atStart => exact ⟨0, by omega, by omega, rfl, rfl, _, h1, hB1⟩
  case round =>
    obtain ⟨i, hil, hi4, rfl, rfl, q, hB, hbr⟩ := hrel
    clear h1 hB1
    by_cases hlt : i < l.length ∧ i < 400
    · obtain ⟨hl1, hl4⟩ := hlt
      have g1 : (i : Int) < (l.length : Int) := by omega
      have g2 : (i : Int) < 400 := by omega
      obtain ⟨x, hx⟩ : ∃ x, l[i]? = some x := ⟨_, List.getElem?_eq_getElem hl1⟩
      obtain ⟨g, off, rfl, hg, y0, y1, y2⟩ := (hR.below hbr).env hx
      obtain ⟨e1, e2, e3⟩ := send_take hx
      have cS := send_any x bb q _ (i - 256) wr hB (by omega)
      rw [e1, e2, e3] at cS
      unfold EnvD.v at cS
      clear e1 e2 e3 hx
      by_cases h256 : i < 256
      · have d1 : decide (i < 256) = true := decide_eq_true h256
        have d2 : min i 256 = i := by omega
        have d3 : min (i + 1) 256 = i + 1 := by omega
        rw [d1] at cS
        rw [d3] at cS
        rw [d2]
        clear d1 d2 d3
        have g3 : (i : Int) + 1 < 256 ∨ (i : Int) + 1 = 256 := by omega
        go_wp2_with fail
        refine cS.mono ?_
        rintro e w2 ⟨q2, rfl, h2, _, hk2⟩
        have hb2 := hB.old hbr hWb hk2 hbr.size
        clear cS hk2 hB hbr y0 y1 y2
        go_wp2
        go_roundw
        case rel => exact ⟨i + 1, by omega, by omega, by have : min (i + 1) 256 = i + 1 := by omega
                                                         rw [this]; go_num, by go_num, q2, by have : min (i + 1) 256 = i + 1 := by omega
                                                                                              rw [this]; exact h2, hb2⟩
        case measure => simp [intOf]; omega
      · have d1 : decide (i < 256) = false := decide_eq_false h256
        have d2 : min i 256 = 256 := by omega
        have d3 : min (i + 1) 256 = 256 := by omega
        rw [d1] at cS
        rw [d3] at cS
        rw [d2]
        clear d1 d2 d3
        have g3 : ¬ (i : Int) + 1 < 256 := by omega
        go_wp2_with fail
        refine cS.mono ?_
        rintro e w2 ⟨q2, rfl, h2, _, hk2⟩
        have hb2 := hB.old hbr hWb hk2 hbr.size
        clear cS hk2 hB hbr y0 y1 y2
        go_wp2
        go_roundw
        case rel => exact ⟨i + 1, by omega, by omega, by have : min (i + 1) 256 = 256 := by omega
                                                         rw [this]; go_num, by go_num, q2, by have : min (i + 1) 256 = 256 := by omega
                                                                                              rw [this]; exact h2, hb2⟩
        case measure => simp [intOf]; omega
    · obtain ⟨N, hN⟩ : ∃ N, Hid (min i 256 = N) := ⟨_, rfl⟩
      obtain ⟨L, hL⟩ : ∃ L, Hid (i - 256 = L) := ⟨_, rfl⟩
      have hNl : N ≤ l.length := by have := hN.out; omega
      have hN6 : N ≤ 256 := by have := hN.out; omega
      rw [hN.out, hL.out] at hB
      rw [hN.out]
      have hds : (i : Int) < (l.length : Int) → ¬ (i : Int) < 400 := by omega
      rcases (by omega : ¬ (i : Int) < (l.length : Int) ∨ ((i : Int) < (l.length : Int) ∧ ¬ (i : Int) < 400)) with hd | ⟨hd0, hd⟩
      all_goals
        go_wp2_with fail
        go_loopw [6] (fun v6 wq => ∃ j : Nat, j ≤ N ∧ v6 = .int .i64 (j : Int) ∧ ∃ q, BagAt 46 wq bb q ((l.take N).drop j) L ∧ Below W.heap.size W wq) (fun v _ => N - (intOf v).toNat)
        case atStart => exact ⟨0, by omega, rfl, q, hB, hbr⟩
        case round =>
          obtain ⟨j, hj, rfl, q1, hB1, hb1⟩ := hrel
          clear hB hbr hds hd hlt
          have cT := take_any 0 bb q1 _ L _ hB1
          by_cases hjN : j < N
          · have g1 : (j : Int) < (N : Int) := by omega
            have g2 : (j : Int) < (l.length : Int) := by omega
            obtain ⟨x, hx⟩ : ∃ x, l[j]? = some x := ⟨_, List.getElem?_eq_getElem (by omega)⟩
            obtain ⟨t1, t2, t3⟩ := take_front hx hjN
            rw [t1, t2, t3] at cT
            unfold EnvD.v at cT
            clear t1 t2 t3
            go_wp2_with fail
            refine cT.mono ?_
            rintro e w2 ⟨q2, rfl, h2, _, hk2⟩
            have hb2 := hB1.old hb1 hWb hk2 hb1.size
            clear cT hk2 hB1 hb1
            obtain ⟨g, off, rfl, hg, y0, y1, y2⟩ := (hR.below hb2).env hx
            have hA := belowNew w2 (.cells #[.int .i64 x.fr, .int .i64 x.to, .string x.by_] 30)
            have hX := Arr.new w2 30 [.int .i64 x.fr, .int .i64 x.to, .string x.by_]
            have h3 := h2.below hA
            have hb3 := hb2.trans (hA.mono hb2.size)
            have x0 := hX.cell (i := 0) rfl
            have x1 := hX.cell (i := 1) rfl
            have x2 := hX.cell (i := 2) rfl
            have z0 := (hA.cell (p := ⟨g, off + j * 3, none⟩) hg).trans y0
            have z1 := (hA.cell (p := ⟨g, off + j * 3 + 1, none⟩) hg).trans y1
            have z2 := (hA.cell (p := ⟨g, off + j * 3 + 2, none⟩) hg).trans y2
            clear h2 hb2 hX
            go_wp2_with fail
            generalize World.alloc _ _ = w3 at hA h3 hb3 x0 x1 x2 z0 z1 z2 ⊢
            go_quiet (fail)
            have h4 := h3.below (below_drewN (Below.refl _ w3) nq)
            have hb4 := hb3.trans ((below_drewN (Below.refl w3.heap.size w3) nq).mono hb3.size)
            generalize w3.drewN nq = w4 at h4 hb4 ⊢
            clear h3 hb3 x0 x1 x2 y0 y1 y2 z0 z1 z2 hA
            go_wp2
            go_roundw
            case rel => exact ⟨j + 1, by omega, by go_num, q2, h4, hb4⟩
            case measure => simp [intOf]; omega
          · obtain rfl : j = N := by omega
            have g1 : ¬ (j : Int) < (j : Int) := by omega
            have e0 : (l.take j).drop j = [] := List.drop_of_length_le (by rw [List.length_take]; omega)
            rw [e0] at cT hB1
            have t1 : atE [] 0 = env0 := rfl
            have t2 : atB [] 0 = false := rfl
            have t3 : takeL [] 0 = [] := rfl
            rw [t1, t2, t3] at cT
            unfold EnvD.v env0 at cT
            go_wp2_with fail
            refine cT.mono ?_
            rintro e w2 ⟨q2, rfl, h2, _, hk2⟩
            have hb2 := hB1.old hb1 hWb hk2 hb1.size
            have hA := belowNew w2 (.cells #[.int .i64 0, .int .i64 0, .string ⟨#[]⟩] 30)
            have h3 := h2.below hA
            have hb3 := hb2.trans (hA.mono hb2.size)
            have cL := len_any bb q2 _ L _ h3
            clear cT hk2 hB1 hb1 h2 hb2 h3
            go_wp2_with fail
            refine cL.mono ?_
            rintro e w4 ⟨rfl, rfl⟩
            go_wp2
            go_ret
            exact ⟨rfl, hb3⟩
end Go.Proofs.Ytmbfidegcebbdaa
