/- tusklaw07.CertCollects answers true; nothing old in memory is turned. -/
import Derived.Test.YtjebfkgigijnhaaDoorCertCollectsSt
import Derived.Test.YtjebfkgigijnhaaDoorHdrWorks
import Derived.Deep.QuietTactic
import Derived.Test.YtjebfkgigijnhaaDoorRegionHand
namespace Go.Proofs.YtjebfkgigijnhaaDoor
open Go.RowKit
set_option linter.unusedVariables false

set_option maxRecDepth 100000 in
set_option maxHeartbeats 4000000 in
theorem certCollects_walk (f : Int) (kind word : ByteArray) (la : Option Addr) (lc : Nat) (l : List TagD) (w : World) (hwf : (Lit.int .i64 f).wf = true) (hsk : kind.size ≤ 140737488351232) (hsw : word.size ≤ 140737488351232) (hA : RowAt tagK w la l) (hnil : la = none → lc = 0) (hLm : l.length ≤ maxLen) (hG : Mx.Glob w) :
    Calls Tryd.prog 4 #[.int .i64 f, .string kind, .string word, .slice la l.length lc] w fun e w' => e = .returned (.bool true) ∧ Below w.heap.size w w' := by
  have cB := both_any f w hG
  go_enter Tryd.func4, Tryd.ntmps4
  go_wp2_with fail
  refine cB.mono ?_
  rintro e w2 ⟨n, tb, rt, n2, n1, rfl, hT2, hR2, hB2⟩
  have hk32 : ∀ k ∈ Mx.keysL seedW (3 * n + 1), k.size ≤ 32 := Mx.keysL_size _ _
  have hkl : Hid ((Mx.keysL seedW (3 * n + 1)).length = 3 * n + 1) := Mx.keysL_len _ _
  generalize Mx.keysL seedW (3 * n + 1) = ks at *
  clear cB
  by_cases hkb : 300 < kind.size
  · have hkb' : (300 : Int) < (kind.size : Int) := by omega
    go_wp2
    go_ret
    exact ⟨rfl, hB2⟩
  have hkb' : ¬ (300 : Int) < (kind.size : Int) := by omega
  by_cases hwb : 500 < word.size
  · have hwb' : (500 : Int) < (word.size : Int) := by omega
    go_wp2
    go_ret
    exact ⟨rfl, hB2⟩
  have hwb' : ¬ (500 : Int) < (word.size : Int) := by omega
  have hE : VEnv w2 tb n ks kind word := ⟨hT2, n2, hkl.out, hk32, by omega, by omega, hG.below hB2⟩
  have cC := hE.collect (Below.refl _ w2)
  go_wp2_with fail
  refine cC.mono ?_
  rintro e w3 ⟨vb, rfl, hv3, hS3, hb3⟩
  have cR := refCollect_any rt kind word w3
  have hvl := hS3.lt
  clear cC hkb' hwb' hkb hwb
  go_wp2_with fail
  refine cR.mono ?_
  rintro e w4 ⟨rfl, hr4, hb4⟩
  have hC4 : CSt w2 tb rt n ks kind word vb w3.heap.size w4.heap.size none 0 noP noP w4 := ⟨hE, hR2, hS3.below hb4, hr4, places_none _ _, Nat.lt_of_lt_of_le hvl hb4.size, hb3.size, by omega, Nat.le_refl _⟩
  have hA2 := hA.below hB2
  generalize w3.heap.size = rb at *
  generalize w4.heap.size = B at *
  clear cR hb4 hr4 hS3 hb3 hvl hv3 hE hT2 hR2 hk32 hkl
  go_wp2_with fail
  go_loopw [14] (fun v14 wr => ∃ (i : Nat) (P : List (Option TagD)) (ao : Option Addr) (cap : Nat), i ≤ l.length ∧ v14 = .int .i64 (i : Int) ∧ CSt w2 tb rt n ks kind word vb rb B ao cap P P wr) (fun v _ => l.length - (intOf v).toNat)
  case atStart => exact ⟨0, noP, none, 0, Nat.zero_le _, rfl, hC4⟩
  case round =>
    obtain ⟨i, P, ao, cap, hil, rfl, hC⟩ := hrel
    clear hC4
    by_cases hgo : i < l.length ∧ i < 40
    · have g1 : (i : Int) < (l.length : Int) := by omega
      have g2 : (i : Int) < 40 := by omega
      have g0 : (0 : Int) ≤ (i : Int) := by omega
      obtain ⟨t, ht⟩ : ∃ t, l[i]? = some t := ⟨_, List.getElem?_eq_getElem hgo.1⟩
      obtain ⟨b, off, rfl, hbl, _, _⟩ := hA2.tag ht
      have hkp : ∀ w', Below w2.heap.size w2 w' → w'.cell? ⟨b, off + i * 2, none⟩ = some (.int .i64 t.who) ∧ w'.cell? ⟨b, off + i * 2 + 1, none⟩ = some (.string t.mac) := fun w' hb => by
        obtain ⟨b', off', e', _, y0, y1⟩ := (hA2.below hb).tag ht
        obtain ⟨rfl, rfl⟩ : b' = b ∧ off' = off := by simp at e'; exact ⟨e'.1.symm, e'.2.symm⟩
        exact ⟨y0, y1⟩
      obtain ⟨eo, heo⟩ : ∃ q, Hid (q = addE (chkT ks kind word) P t) := ⟨_, rfl⟩
      obtain ⟨P2, hP2⟩ : ∃ q, Hid (q = addP (chkT ks kind word) P t) := ⟨_, rfl⟩
      obtain ⟨fb, hfb⟩ : ∃ q : Bool, Hid (q = decide (2 * n + 1 ≤ (inL P2).length)) := ⟨_, rfl⟩
      have cA := fun W (h : CSt w2 tb rt n ks kind word vb rb B ao cap P P W) => h.add t
      have cRA := fun W (h : CSt w2 tb rt n ks kind word vb rb B ao cap P2 P W) => h.radd t
      rw [← heo.out, ← hP2.out] at cA cRA
      have cF := fun W a c (h : CSt w2 tb rt n ks kind word vb rb B a c P2 P2 W) => h.full
      have cG := fun W a c (h : CSt w2 tb rt n ks kind word vb rb B a c P2 P2 W) => h.rfull
      rw [← hfb.out] at cF cG
      have cT := fun W a c (h : CSt w2 tb rt n ks kind word vb rb B a c P2 P2 W) => h.tags
      have cS := fun W a c (h : CSt w2 tb rt n ks kind word vb rb B a c P2 P2 W) a1 c1 h1 => h.same (a1 := a1) (c1 := c1) h1
      have cc := fun W a c (h : CSt w2 tb rt n ks kind word vb rb B a c P2 P2 W) => h.cell
      generalize hL2 : inL P2 = L2 at cT cS cc
      have hC1 := hC.below (below_drewN (Below.refl _ wr) 1)
      have b1 : Below w2.heap.size w2 wr.drew := hC1.v.bel
      have hS1 := hkp _ b1
      clear heo hP2 hfb hL2 hA hA2 hG ht hnil hC
      go_wp2_with fail
      refine wp_region_held_drew (S := fun w' => w'.cell? ⟨b, off + i * 2, none⟩ = some (.int .i64 t.who) ∧ w'.cell? ⟨b, off + i * 2 + 1, none⟩ = some (.string t.mac)) (by kernel_rfl) hS1 (fun hHeld => ?_)
      refine wpAnyH_takeD (i := 0) (v := ?_) (some 51) rfl rfl (by kernel_rfl) (by kernel_rfl) (by kernel_rfl) (fun _ _ _ h => h) (Or.inl ⟨by rfl, ?_⟩) (by assumption) ?_
      rotate_left 1
      · intro w' hSw
        obtain ⟨s0, s1⟩ := hSw
        go_simp
        first | done | with_reducible rfl
      simp only [Act.put, List.setIfInBounds_toArray, List.set_cons_zero, List.set_cons_succ]
      refine wpAnyH_takeD (i := 1) (v := ?_) (some 52) rfl rfl (by kernel_rfl) (by kernel_rfl) (by kernel_rfl) (fun _ _ _ h => h) (Or.inl ⟨by rfl, ?_⟩) (by assumption) ?_
      rotate_left 1
      · intro w' hSw
        obtain ⟨s0, s1⟩ := hSw
        go_simp
        first | done | with_reducible rfl
      simp only [Act.put, List.setIfInBounds_toArray, List.set_cons_zero, List.set_cons_succ]
      refine wpAnyH_takeD (i := 2) (v := ?_) (some 53) rfl rfl (by kernel_rfl) (by kernel_rfl) (by kernel_rfl) (fun _ _ _ h => h) (Or.inl ⟨by rfl, ?_⟩) (by assumption) ?_
      rotate_left 1
      · intro w' hSw
        obtain ⟨s0, s1⟩ := hSw
        go_simp
        first | done | with_reducible rfl
      simp only [Act.put, List.setIfInBounds_toArray, List.set_cons_zero, List.set_cons_succ]
      refine wpAnyH_takeD (i := 3) (v := ?_) (some 54) rfl rfl (by kernel_rfl) (by kernel_rfl) (by kernel_rfl) (fun _ _ _ h => h) (Or.inl ⟨by rfl, ?_⟩) (by assumption) ?_
      rotate_left 1
      · intro w' hSw
        obtain ⟨s0, s1⟩ := hSw
        go_simp
        first | done | with_reducible rfl
      simp only [Act.put, List.setIfInBounds_toArray, List.set_cons_zero, List.set_cons_succ]
      refine wpAnyH_takeD (i := 4) (v := ?_) (some 55) rfl rfl (by kernel_rfl) (by kernel_rfl) (by kernel_rfl) (fun _ _ _ h => h) (Or.inl ⟨by rfl, ?_⟩) (by assumption) ?_
      rotate_left 1
      · intro w' hSw
        obtain ⟨s0, s1⟩ := hSw
        go_simp
        first | done | with_reducible rfl
      simp only [Act.put, List.setIfInBounds_toArray, List.set_cons_zero, List.set_cons_succ]
      refine wpAnyH_takeD (i := 6) (v := ?_) (some 57) rfl rfl (by kernel_rfl) (by kernel_rfl) (by kernel_rfl) (fun _ _ _ h => h) (Or.inl ⟨by rfl, ?_⟩) (by assumption) ?_
      rotate_left 1
      · intro w' hSw
        obtain ⟨s0, s1⟩ := hSw
        go_simp
        first | done | with_reducible rfl
      simp only [Act.put, List.setIfInBounds_toArray, List.set_cons_zero, List.set_cons_succ]
      refine wpAnyH_takeD (i := 7) (v := ?_) (some 58) rfl rfl (by kernel_rfl) (by kernel_rfl) (by kernel_rfl) (fun _ _ _ h => h) (Or.inl ⟨by rfl, ?_⟩) (by assumption) ?_
      rotate_left 1
      · intro w' hSw
        obtain ⟨s0, s1⟩ := hSw
        go_simp
        first | done | with_reducible rfl
      simp only [Act.put, List.setIfInBounds_toArray, List.set_cons_zero, List.set_cons_succ]
      refine wpAnyH_takeD (i := 8) (v := ?_) (some 59) rfl rfl (by kernel_rfl) (by kernel_rfl) (by kernel_rfl) (fun _ _ _ h => h) (Or.inl ⟨by rfl, ?_⟩) (by assumption) ?_
      rotate_left 1
      · intro w' hSw
        obtain ⟨s0, s1⟩ := hSw
        go_simp
        first | done | with_reducible rfl
      simp only [Act.put, List.setIfInBounds_toArray, List.set_cons_zero, List.set_cons_succ]
      refine wpAnyH_takeD (i := 9) (v := ?_) (some 60) rfl rfl (by kernel_rfl) (by kernel_rfl) (by kernel_rfl) (fun _ _ _ h => h) (Or.inl ⟨by rfl, ?_⟩) (by assumption) ?_
      rotate_left 1
      · intro w' hSw
        obtain ⟨s0, s1⟩ := hSw
        go_simp
        first | done | with_reducible rfl
      simp only [Act.put, List.setIfInBounds_toArray, List.set_cons_zero, List.set_cons_succ]
      refine wpAnyH_takeD (i := 10) (v := ?_) (some 61) rfl rfl (by kernel_rfl) (by kernel_rfl) (by kernel_rfl) (fun _ _ _ h => h) (Or.inl ⟨by rfl, ?_⟩) (by assumption) ?_
      rotate_left 1
      · intro w' hSw
        obtain ⟨s0, s1⟩ := hSw
        go_simp
        first | done | with_reducible rfl
      simp only [Act.put, List.setIfInBounds_toArray, List.set_cons_zero, List.set_cons_succ]
      refine wpAnyH_ready (rs := [5]) (by kernel_rfl) (by simp) ?_
      refine AllReadyH.cons rfl (fun K' hK => ?_) ?_
      · go_simp
        refine (cA _ hC1).mono ?_
        rintro e w5 ⟨rfl, hC5⟩
        have b5 := hC5.v.bel
        refine hK.out _ _ (hkp _ b5) (fun hHeld => ?_)
        clear hK K'
        refine wpAnyH_ready (rs := [11]) (by kernel_rfl) (by simp) ?_
        refine AllReadyH.cons rfl (fun K' hK => ?_) ?_
        · go_simp
          refine (cRA _ hC5).mono ?_
          rintro e w6 ⟨ao6, cap6, rfl, hC6⟩
          have b6 := hC6.v.bel
          refine hK.out _ _ (hkp _ b6) (fun hHeld => ?_)
          clear hK K'
          refine wpAnyH_takeD (i := 12) (v := ?_) (some 63) rfl rfl (by kernel_rfl) (by kernel_rfl) (by kernel_rfl) (fun _ _ _ h => h) (Or.inl ⟨by rfl, ?_⟩) (by assumption) ?_
          rotate_left 1
          · intro w' hSw
            obtain ⟨s0, s1⟩ := hSw
            go_simp
            first | done | with_reducible rfl
          simp only [Act.put, List.setIfInBounds_toArray, List.set_cons_zero, List.set_cons_succ]
          refine wpAnyH_takeD (i := 13) (v := ?_) (some 64) rfl rfl (by kernel_rfl) (by kernel_rfl) (by kernel_rfl) (fun _ _ _ h => h) (Or.inl ⟨by rfl, ?_⟩) (by assumption) ?_
          rotate_left 1
          · intro w' hSw
            obtain ⟨s0, s1⟩ := hSw
            go_simp
            first | done | with_reducible rfl
          simp only [Act.put, List.setIfInBounds_toArray, List.set_cons_zero, List.set_cons_succ]
          refine wpAnyH_takeD (i := 14) (v := ?_) (some 65) rfl rfl (by kernel_rfl) (by kernel_rfl) (by kernel_rfl) (fun _ _ _ h => h) (Or.inl ⟨by rfl, ?_⟩) (by assumption) ?_
          rotate_left 1
          · intro w' hSw
            obtain ⟨s0, s1⟩ := hSw
            go_simp
            first | done | with_reducible rfl
          simp only [Act.put, List.setIfInBounds_toArray, List.set_cons_zero, List.set_cons_succ]
          refine wpAnyH_takeD (i := 16) (v := ?_) (some 67) rfl rfl (by kernel_rfl) (by kernel_rfl) (by kernel_rfl) (fun _ _ _ h => h) (Or.inl ⟨by rfl, ?_⟩) (by assumption) ?_
          rotate_left 1
          · intro w' hSw
            obtain ⟨s0, s1⟩ := hSw
            go_simp
            first | done | with_reducible rfl
          simp only [Act.put, List.setIfInBounds_toArray, List.set_cons_zero, List.set_cons_succ]
          refine wpAnyH_ready (rs := [15]) (by kernel_rfl) (by simp) ?_
          refine AllReadyH.cons rfl (fun K' hK => ?_) ?_
          · go_simp
            refine (cF _ _ _ hC6).mono ?_
            rintro e w7 ⟨rfl, hC7⟩
            have b7 := hC7.v.bel
            refine hK.out _ _ (hkp _ b7) (fun hHeld => ?_)
            clear hK K'
            refine wpAnyH_ready (rs := [17]) (by kernel_rfl) (by simp) ?_
            refine AllReadyH.cons rfl (fun K' hK => ?_) ?_
            · go_simp
              refine (cG _ _ _ hC7).mono ?_
              rintro e w8 ⟨rfl, hC8⟩
              have b8 := hC8.v.bel
              have c8 := cc _ _ _ hC8
              refine hK.out _ _ (hkp _ b8) (fun hHeld => ?_)
              clear hK K'
              refine wpAnyH_takeD (i := 18) (v := ?_) (some 69) rfl rfl (by kernel_rfl) (by kernel_rfl) (by kernel_rfl) (fun _ _ _ h => h) (Or.inl ⟨by rfl, ?_⟩) (by assumption) ?_
              rotate_left 1
              · intro w' hSw
                obtain ⟨s0, s1⟩ := hSw
                go_simp
                first | done | with_reducible rfl
              simp only [Act.put, List.setIfInBounds_toArray, List.set_cons_zero, List.set_cons_succ]
              refine wpAnyH_takeD (i := 19) (v := ?_) (some 70) rfl rfl (by kernel_rfl) (by kernel_rfl) (by kernel_rfl) (fun _ _ _ h => h) (Or.inl ⟨by rfl, ?_⟩) (by assumption) ?_
              rotate_left 1
              · intro w' hSw
                obtain ⟨s0, s1⟩ := hSw
                go_simp
                first | done | with_reducible rfl
              simp only [Act.put, List.setIfInBounds_toArray, List.set_cons_zero, List.set_cons_succ]
              refine wpAnyH_takeD (i := 20) (v := ?_) (some 71) rfl rfl (by kernel_rfl) (by kernel_rfl) (by kernel_rfl) (fun _ _ _ h => h) (Or.inl ⟨by rfl, ?_⟩) (by assumption) ?_
              rotate_left 1
              · intro w' hSw
                obtain ⟨s0, s1⟩ := hSw
                go_simp
                first | done | with_reducible rfl
              simp only [Act.put, List.setIfInBounds_toArray, List.set_cons_zero, List.set_cons_succ]
              refine wpAnyH_takeD (i := 21) (v := ?_) (some 72) rfl rfl (by kernel_rfl) (by kernel_rfl) (by kernel_rfl) (fun _ _ _ h => h) (Or.inl ⟨by rfl, ?_⟩) (by assumption) ?_
              rotate_left 1
              · intro w' hSw
                obtain ⟨s0, s1⟩ := hSw
                go_simp
                first | done | with_reducible rfl
              simp only [Act.put, List.setIfInBounds_toArray, List.set_cons_zero, List.set_cons_succ]
              refine wpAnyH_takeD (i := 23) (v := ?_) (some 74) rfl rfl (by kernel_rfl) (by kernel_rfl) (by kernel_rfl) (fun _ _ _ h => h) (Or.inl ⟨by rfl, ?_⟩) (by assumption) ?_
              rotate_left 1
              · intro w' hSw
                obtain ⟨s0, s1⟩ := hSw
                go_simp
                first | done | with_reducible rfl
              simp only [Act.put, List.setIfInBounds_toArray, List.set_cons_zero, List.set_cons_succ]
              refine wpAnyH_takeD (i := 24) (v := ?_) (some 75) rfl rfl (by kernel_rfl) (by kernel_rfl) (by kernel_rfl) (fun _ _ _ h => h) (Or.inl ⟨by rfl, ?_⟩) (by assumption) ?_
              rotate_left 1
              · intro w' hSw
                obtain ⟨s0, s1⟩ := hSw
                go_simp
                first | done | with_reducible rfl
              simp only [Act.put, List.setIfInBounds_toArray, List.set_cons_zero, List.set_cons_succ]
              refine wpAnyH_takeD (i := 25) (v := ?_) (some 76) rfl rfl (by kernel_rfl) (by kernel_rfl) (by kernel_rfl) (fun _ _ _ h => h) (Or.inl ⟨by rfl, ?_⟩) (by assumption) ?_
              rotate_left 1
              · intro w' hSw
                obtain ⟨s0, s1⟩ := hSw
                go_simp
                first | done | with_reducible rfl
              simp only [Act.put, List.setIfInBounds_toArray, List.set_cons_zero, List.set_cons_succ]
              refine wpAnyH_ready (rs := [22, 26]) (by kernel_rfl) (by simp) ?_
              refine AllReadyH.cons rfl (fun K' hK => ?_) ?_
              · go_simp
                refine (cT _ _ _ hC8).mono ?_
                rintro e w9 ⟨a1, c1, rfl, hr9, hC9⟩
                have b9 := hC9.v.bel
                have c9 := cc _ _ _ hC9
                refine hK.out _ _ (hkp _ b9) (fun hHeld => ?_)
                clear hK K'
                refine wpAnyH_ready (rs := [26]) (by kernel_rfl) (by simp) ?_
                refine AllReadyH.cons rfl (fun K' hK => ?_) ?_
                · go_simp
                  refine hK.out _ _ (by assumption) (fun hHeld => ?_)
                  clear hK K'
                  refine wpAnyH_ready (rs := [27]) (by kernel_rfl) (by simp) ?_
                  refine AllReadyH.cons rfl (fun K' hK => ?_) ?_
                  · go_simp
                    refine (cS _ _ _ hC9 _ _ hr9).mono ?_
                    rintro e w10 ⟨rfl, hC10⟩
                    have b10 := hC10.v.bel
                    refine hK.out _ _ (hkp _ b10) (fun hHeld => ?_)
                    clear hK K'
                    refine wpAnyH_takeD (i := 28) (v := ?_) (some 79) rfl rfl (by kernel_rfl) (by kernel_rfl) (by kernel_rfl) (fun _ _ _ h => h) (Or.inl ⟨by rfl, ?_⟩) (by assumption) ?_
                    rotate_left 1
                    · intro w' hSw
                      obtain ⟨s0, s1⟩ := hSw
                      go_simp
                      first | done | with_reducible rfl
                    simp only [Act.put, List.setIfInBounds_toArray, List.set_cons_zero, List.set_cons_succ]
                    refine wpAnyH_takeD (i := 29) (v := ?_) (some 80) rfl rfl (by kernel_rfl) (by kernel_rfl) (by kernel_rfl) (fun _ _ _ h => h) (Or.inl ⟨by rfl, ?_⟩) (by assumption) ?_
                    rotate_left 1
                    · intro w' hSw
                      obtain ⟨s0, s1⟩ := hSw
                      go_simp
                      first | done | with_reducible rfl
                    simp only [Act.put, List.setIfInBounds_toArray, List.set_cons_zero, List.set_cons_succ]
                    refine wpAnyH_done (by kernel_rfl) ?_ _
                    clear cA cRA cF cG cT cS cc hkp
                    go_wp2
                    go_roundw
                    case rel => exact ⟨i + 1, P2, ao6, cap6, by omega, by go_num, hC10⟩
                    case measure => simp [intOf]; omega
                  exact AllReadyH.nil
                exact AllReadyH.nil
              refine AllReadyH.cons rfl (fun K' hK => ?_) ?_
              · go_simp
                refine hK.out _ _ (by assumption) (fun hHeld => ?_)
                clear hK K'
                refine wpAnyH_ready (rs := [22]) (by kernel_rfl) (by simp) ?_
                refine AllReadyH.cons rfl (fun K' hK => ?_) ?_
                · go_simp
                  refine (cT _ _ _ hC8).mono ?_
                  rintro e w9 ⟨a1, c1, rfl, hr9, hC9⟩
                  have b9 := hC9.v.bel
                  have c9 := cc _ _ _ hC9
                  refine hK.out _ _ (hkp _ b9) (fun hHeld => ?_)
                  clear hK K'
                  refine wpAnyH_ready (rs := [27]) (by kernel_rfl) (by simp) ?_
                  refine AllReadyH.cons rfl (fun K' hK => ?_) ?_
                  · go_simp
                    refine (cS _ _ _ hC9 _ _ hr9).mono ?_
                    rintro e w10 ⟨rfl, hC10⟩
                    have b10 := hC10.v.bel
                    refine hK.out _ _ (hkp _ b10) (fun hHeld => ?_)
                    clear hK K'
                    refine wpAnyH_takeD (i := 28) (v := ?_) (some 79) rfl rfl (by kernel_rfl) (by kernel_rfl) (by kernel_rfl) (fun _ _ _ h => h) (Or.inl ⟨by rfl, ?_⟩) (by assumption) ?_
                    rotate_left 1
                    · intro w' hSw
                      obtain ⟨s0, s1⟩ := hSw
                      go_simp
                      first | done | with_reducible rfl
                    simp only [Act.put, List.setIfInBounds_toArray, List.set_cons_zero, List.set_cons_succ]
                    refine wpAnyH_takeD (i := 29) (v := ?_) (some 80) rfl rfl (by kernel_rfl) (by kernel_rfl) (by kernel_rfl) (fun _ _ _ h => h) (Or.inl ⟨by rfl, ?_⟩) (by assumption) ?_
                    rotate_left 1
                    · intro w' hSw
                      obtain ⟨s0, s1⟩ := hSw
                      go_simp
                      first | done | with_reducible rfl
                    simp only [Act.put, List.setIfInBounds_toArray, List.set_cons_zero, List.set_cons_succ]
                    refine wpAnyH_done (by kernel_rfl) ?_ _
                    clear cA cRA cF cG cT cS cc hkp
                    go_wp2
                    go_roundw
                    case rel => exact ⟨i + 1, P2, ao6, cap6, by omega, by go_num, hC10⟩
                    case measure => simp [intOf]; omega
                  exact AllReadyH.nil
                exact AllReadyH.nil
              exact AllReadyH.nil
            exact AllReadyH.nil
          exact AllReadyH.nil
        exact AllReadyH.nil
      exact AllReadyH.nil
    · have hBr := hB2.trans (hC.v.bel.mono hB2.size)
      have hgi : ¬ ((i : Int) < (l.length : Int) ∧ (i : Int) < 40) := by omega
      by_cases hl1 : i < l.length
      · have g1 : (i : Int) < (l.length : Int) := by omega
        have g2 : ¬ (i : Int) < 40 := by omega
        clear hgi hgo
        go_wp2
        go_ret
        exact ⟨rfl, hBr⟩
      · have g1 : ¬ (i : Int) < (l.length : Int) := by omega
        clear hgi hgo
        go_wp2
        go_ret
        exact ⟨rfl, hBr⟩
end Go.Proofs.YtjebfkgigijnhaaDoor
