/- What the reference's Put does. (Laid by gen_reftabput.py.) -/
import Derived.Test.YtegahpgokmcjhaaRefTab
namespace Go.Proofs.Ytegahpgokmcjhaa
open Go.RowKit
set_option linter.unusedVariables false

set_option maxRecDepth 100000 in
set_option maxHeartbeats 8000000 in
theorem refPut_any (id : ByteArray) (round : Int) (s : ByteArray) (rb : Nat) (q : Value) (most : Int) (l : List ThingD) (cut : Bool) (low : Int) (w : World) (h : RTab w rb q most l cut low) (hl6 : l.length ≤ 900000) :
    Calls Try.prog 11 #[.pointer (some ⟨rb, 0, none⟩), .string id, .int .i64 round, .string s] w fun e w' => e = .returned (.int .i64 (putE most l cut low id round : Int)) ∧ ∃ q', RTab w' rb q' most (putT most l cut low ⟨id, round, s⟩) cut low ∧ FreshQ w q q' ∧ Kept (BoxS rb q) w w' := by
  obtain ⟨i0, z0, hi0, hz0, hz1, hz2, hz3⟩ := thingInfo
  obtain ⟨ao, cap, rfl, hnil, hRow0⟩ := h.row.form
  have hlc : l.length ≤ cap := by
    obtain ⟨a', c', e, hle, _⟩ := h.row.row.form
    simp only [Value.slice.injEq, true_and] at e
    omega
  have hpn : ¬ cap = l.length → ∀ ad, ao = some ad → ad.spot = none := by
    intro hcn ad e
    rcases h.row.row.2 with ⟨ao', hv, hn⟩ | ⟨g, pre, post, c, hv, _⟩
    · simp only [Value.slice.injEq] at hv
      omega
    · simp only [Value.slice.injEq] at hv
      rw [hv.1] at e
      cases e
      rfl
  have cG := refGet_any id rb _ most l cut low w h
  obtain ⟨g, hg⟩ : ∃ g, Hid (getR l id = g) := ⟨_, rfl⟩
  obtain ⟨er, her⟩ : ∃ n, Hid (putE most l cut low id round = n) := ⟨_, rfl⟩
  obtain ⟨lo, hlo⟩ : ∃ z, Hid (putT most l cut low ⟨id, round, s⟩ = z) := ⟨_, rfl⟩
  have hE : Hid (er = if g.isSome = true then 13 else if cut = true ∧ round < low then 11 else if most ≤ (l.length : Int) then 4 else 0) := by show er = _; rw [← her.out, ← hg.out]; rfl
  have hL : Hid (lo = if er = 0 then putL l ⟨id, round, s⟩ else l) := by show lo = _; rw [← hlo.out, ← her.out]; rfl
  rw [hg.out] at cG
  rw [her.out, hlo.out]
  obtain ⟨gs, hgs⟩ : ∃ z, Hid (gotS g = z) := ⟨_, rfl⟩
  obtain ⟨gr, hgr⟩ : ∃ z, Hid (gotR g = z) := ⟨_, rfl⟩
  rw [hgs.out, hgr.out] at cG
  clear hg her hlo hgs hgr
  go_enter Try.func11, Try.ntmps11
  go_wp2_with fail
  refine cG.mono ?_
  rintro e w2 ⟨rfl, hb2⟩
  have h2 := h.below hb2
  have hk2 : Kept (BoxS rb (.slice ao l.length cap)) w w2 := Kept.of_below hb2
  have c0 := h2.box.cell (i := 0) rfl
  have c1 := h2.box.cell (i := 1) rfl
  have c2 := h2.box.cell (i := 2) rfl
  have c3 := h2.box.cell (i := 3) rfl
  clear cG
  cases hgi : g.isSome with
  | true =>
    have hE2 : Hid (er = 13) := by show er = 13; rw [hE.out, hgi]; rfl
    have hL2 : Hid (lo = l) := by show lo = l; rw [hL.out, if_neg (by rw [hE2.out]; decide)]
    clear hE hL
    go_wp2
    go_ret
    exact ⟨by rw [hE2.out]; rfl, _, by rw [hL2.out]; exact h2, FreshQ.refl _ _, hk2⟩
  | false =>
    have hE2 : Hid (er = if cut = true ∧ round < low then 11 else if most ≤ (l.length : Int) then 4 else 0) := by show er = _; rw [hE.out, hgi]; rfl
    clear hE
    by_cases hcl : cut = true ∧ round < low
    · have hE3 : Hid (er = 11) := by show er = 11; rw [hE2.out, if_pos hcl]
      have hL2 : Hid (lo = l) := by show lo = l; rw [hL.out, if_neg (by rw [hE3.out]; decide)]
      obtain ⟨rfl, hlw⟩ := hcl
      clear hE2 hL
      go_wp2
      go_ret
      exact ⟨by rw [hE3.out]; rfl, _, by rw [hL2.out]; exact h2, FreshQ.refl _ _, hk2⟩
    · have hE3 : Hid (er = if most ≤ (l.length : Int) then 4 else 0) := by show er = _; rw [hE2.out, if_neg hcl]
      clear hE2
      have hcc : cut = false ∨ (cut = true ∧ ¬ round < low) := by
        cases cut
        · exact Or.inl rfl
        · exact Or.inr ⟨rfl, fun h => hcl ⟨rfl, h⟩⟩
      clear hcl
      by_cases hmo : most ≤ (l.length : Int)
      · have hE4 : Hid (er = 4) := by show er = 4; rw [hE3.out, if_pos hmo]
        have hL2 : Hid (lo = l) := by show lo = l; rw [hL.out, if_neg (by rw [hE4.out]; decide)]
        clear hE3 hL
        rcases hcc with rfl | ⟨rfl, hlw⟩
        all_goals
          go_wp2_with fail
          go_big_quiet (fail)
          have h3 := h2.below (below_drewN (Below.refl _ w2) nq)
          have hk3 := hk2.trans (Kept.of_below (below_drewN (Below.refl _ w2) nq))
          generalize w2.drewN nq = w3 at h3 hk3 ⊢
          clear c0 c1 c2 c3 h2 hk2
          go_wp2
          go_ret
          exact ⟨by rw [hE4.out]; rfl, _, by rw [hL2.out]; exact h3, FreshQ.refl _ _, hk3⟩
      · have hE4 : Hid (er = 0) := by show er = 0; rw [hE3.out, if_neg hmo]
        have hL2 : Hid (lo = putL l ⟨id, round, s⟩) := by show lo = _; rw [hL.out, if_pos hE4.out]
        clear hE3 hL
        rcases hcc with rfl | ⟨rfl, hlw⟩
        all_goals
          go_wp2_with fail
          go_big_quiet (fail)
          have hbq := hb2.trans ((below_drewN (Below.refl w2.heap.size w2) nq).mono hb2.size)
          have h3 := h2.below (below_drewN (Below.refl _ w2) nq)
          generalize w2.drewN nq = w3 at h3 hbq ⊢
          clear c0 c1 c2 c3 h2 hk2
          have hRow := hRow0.below hbq
          have c1 := h3.box.cell (i := 1) rfl
          go_wp2_with fail
          go_loopw [12] (fun v12 wr => ∃ i : Nat, i ≤ putAt l id ∧ v12 = .int .i64 (i : Int) ∧ wr = w3) (fun v _ => putAt l id - (intOf v).toNat)
          case atStart => exact ⟨0, Nat.zero_le _, rfl, rfl⟩
          case round =>
            obtain ⟨i, hia, rfl, hwr⟩ := hrel
            have hpl := putAt_le l id
            by_cases hlt : i < l.length
            · have g1 : (i : Int) < (l.length : Int) := by omega
              obtain ⟨x, hx⟩ : ∃ x, l[i]? = some x := ⟨_, List.getElem?_eq_getElem hlt⟩
              have hst := putAt_step hx hia
              obtain ⟨b, off, hao, hbl, y0, _, _⟩ := hRow.thing hx
              subst hwr
              cases hls : Op.bytesLess x.id.toList id.toList with
              | true =>
                have hlt2 := hst.2 hls
                subst hao
                go_wp2
                go_roundw
                case rel => exact ⟨i + 1, by omega, by go_num, trivial⟩
                case measure => simp [intOf]; omega
              | false =>
                have hip : i = putAt l id := by
                  have : ¬ i < putAt l id := fun h => by rw [hst.1 h] at hls; cases hls
                  omega
                have Hip : Hid (i = putAt l id) := hip
                subst hao
                clear hst hip hia
                have hci : (cap = i) = False := by simp; omega
                have hrD : ∀ U, Below wr.heap.size wr U → RowAt thingK U (some ⟨b, off + i * 3, none⟩) (l.drop i) := fun U hb => (hRow.below hb).dropG i
                have hnD : Hid (some (⟨b, off + i * 3, none⟩ : Addr) = none → cap - i = 0) := fun h => by cases h
                have hc := fun w' (hb : Below wr.heap.size wr w') => (h3.box.below hb h3.box.lt).cell (i := 1) rfl
                have hbox := h3.box
                have j1 : (0 : Int) ≤ (i : Int) := by omega
                have j2 : (i : Int) ≤ (cap : Int) := by have := Hip.out; omega
                have j3 : (i : Int) ≤ (l.length : Int) := by have := Hip.out; omega
                have hTl : (l.take i).length = i := by rw [List.length_take]; have := Hip.out; omega
                have hDl : (l.drop i).length = l.length - i := List.length_drop
                have hN3 : Hid (i + 1 + (l.length - i) = l.length + 1) := by show i + 1 + (l.length - i) = l.length + 1; have := Hip.out; omega
                have hrT := fun U (hb : Below wr.heap.size wr U) => (hRow.below hb).take i
                have hnT : Hid _ := hnil
                have m1 : i ≤ maxLen := by have := Hip.out; unfold maxLen; omega
                have m2 : i * 40 ≤ 140737488355328 := by have := Hip.out; omega
                have m3 : i + 1 ≤ maxLen := by have := Hip.out; unfold maxLen; omega
                have m4 : (i + 1) * 40 ≤ 140737488355328 := by have := Hip.out; omega
                have m5 : l.length + 1 ≤ maxLen := by unfold maxLen; omega
                have m6 : (l.length + 1) * 40 ≤ 140737488355328 := by omega
                have HL : Hid (lo = l.take i ++ ⟨id, round, s⟩ :: l.drop i) := by show lo = _; rw [hL2.out]; unfold putL; rw [Hip.out]
                have HN : Hid (l.length + 1 = lo.length) := by
                  show l.length + 1 = lo.length
                  rw [HL.out, List.length_append, List.length_cons, hTl, hDl]
                  have := Hip.out
                  omega
                have hbd : Below wr.heap.size wr wr.drew := below_drewN (Below.refl _ wr) 1
                go_wp2_with fail
                refine wp_region_K (fun w' => Below wr.heap.size wr w') 24 (by kernel_rfl) ?_
                generalize wr.drew = w5 at hbd ⊢
                refine wpAnyK_takeD (i := 0) (v := ?_) (some 67) rfl rfl (by kernel_rfl) (by kernel_rfl) (by kernel_rfl) (by kernel_rfl) (by decide) (fun _ _ _ h => h) (by assumption) (Or.inl ⟨by rfl, ?_⟩) ?_
                rotate_left 1
                · intro w' hSw
                  have cF := hc w' hSw
                  go_simp
                  first | done | with_reducible rfl
                simp only [Act.put, List.setIfInBounds_toArray, List.set_cons_zero, List.set_cons_succ]
                refine wpAnyK_takeD (i := 2) (v := ?_) (some 69) rfl rfl (by kernel_rfl) (by kernel_rfl) (by kernel_rfl) (by kernel_rfl) (by decide) (fun _ _ _ h => h) (by assumption) (Or.inl ⟨by rfl, ?_⟩) ?_
                rotate_left 1
                · intro w' hSw
                  have cF := hc w' hSw
                  go_simp
                  first | done | with_reducible rfl
                simp only [Act.put, List.setIfInBounds_toArray, List.set_cons_zero, List.set_cons_succ]
                refine wpAnyK_takeD (i := 3) (v := ?_) (some 70) rfl rfl (by kernel_rfl) (by kernel_rfl) (by kernel_rfl) (by kernel_rfl) (by decide) (fun _ _ _ h => h) (by assumption) (Or.inl ⟨by rfl, ?_⟩) ?_
                rotate_left 1
                · intro w' hSw
                  have cF := hc w' hSw
                  go_simp
                  first | done | with_reducible rfl
                simp only [Act.put, List.setIfInBounds_toArray, List.set_cons_zero, List.set_cons_succ]
                refine wpAnyK_takeD (i := 4) (v := ?_) (some 71) rfl rfl (by kernel_rfl) (by kernel_rfl) (by kernel_rfl) (by kernel_rfl) (by decide) (fun _ _ _ h => h) (by assumption) (Or.inl ⟨by rfl, ?_⟩) ?_
                rotate_left 1
                · intro w' hSw
                  have cF := hc w' hSw
                  go_simp
                  first | done | with_reducible rfl
                simp only [Act.put, List.setIfInBounds_toArray, List.set_cons_zero, List.set_cons_succ]
                refine wpAnyK_takeD (i := 5) (v := ?_) (some 72) rfl rfl (by kernel_rfl) (by kernel_rfl) (by kernel_rfl) (by kernel_rfl) (by decide) (fun _ _ _ h => h) (by assumption) (Or.inl ⟨by rfl, ?_⟩) ?_
                rotate_left 1
                · intro w' hSw
                  have cF := hc w' hSw
                  go_simp
                  first | done | with_reducible rfl
                simp only [Act.put, List.setIfInBounds_toArray, List.set_cons_zero, List.set_cons_succ]
                refine wpAnyK_takeD (i := 6) (v := ?_) (some 73) rfl rfl (by kernel_rfl) (by kernel_rfl) (by kernel_rfl) (by kernel_rfl) (by decide) (fun _ _ _ h => h) (by assumption) (Or.inl ⟨by rfl, ?_⟩) ?_
                rotate_left 1
                · intro w' hSw
                  have cF := hc w' hSw
                  go_simp
                  first | done | with_reducible rfl
                simp only [Act.put, List.setIfInBounds_toArray, List.set_cons_zero, List.set_cons_succ]
                refine wpAnyK_takeD (i := 7) (v := ?_) (some 74) rfl rfl (by kernel_rfl) (by kernel_rfl) (by kernel_rfl) (by kernel_rfl) (by decide) (fun _ _ _ h => h) (by assumption) (Or.inl ⟨by rfl, ?_⟩) ?_
                rotate_left 1
                · intro w' hSw
                  have cF := hc w' hSw
                  go_simp
                  first | done | with_reducible rfl
                simp only [Act.put, List.setIfInBounds_toArray, List.set_cons_zero, List.set_cons_succ]
                refine wpAnyK_takeD (i := 9) (v := ?_) (some 76) rfl rfl (by kernel_rfl) (by kernel_rfl) (by kernel_rfl) (by kernel_rfl) (by decide) (fun _ _ _ h => h) (by assumption) (Or.inl ⟨by rfl, ?_⟩) ?_
                rotate_left 1
                · intro w' hSw
                  have cF := hc w' hSw
                  go_simp
                  first | done | with_reducible rfl
                simp only [Act.put, List.setIfInBounds_toArray, List.set_cons_zero, List.set_cons_succ]
                refine wpAnyK_takeD (i := 10) (v := ?_) (some 77) rfl rfl (by kernel_rfl) (by kernel_rfl) (by kernel_rfl) (by kernel_rfl) (by decide) (fun _ _ _ h => h) (by assumption) (Or.inl ⟨by rfl, ?_⟩) ?_
                rotate_left 1
                · intro w' hSw
                  have cF := hc w' hSw
                  go_simp
                  first | done | with_reducible rfl
                simp only [Act.put, List.setIfInBounds_toArray, List.set_cons_zero, List.set_cons_succ]
                refine wpAnyK_takeD (i := 11) (v := ?_) (some 78) rfl rfl (by kernel_rfl) (by kernel_rfl) (by kernel_rfl) (by kernel_rfl) (by decide) (fun _ _ _ h => h) (by assumption) (Or.inl ⟨by rfl, ?_⟩) ?_
                rotate_left 1
                · intro w' hSw
                  have cF := hc w' hSw
                  go_simp
                  first | done | with_reducible rfl
                simp only [Act.put, List.setIfInBounds_toArray, List.set_cons_zero, List.set_cons_succ]
                refine wpAnyK_takeD (i := 12) (v := ?_) (some 79) rfl rfl (by kernel_rfl) (by kernel_rfl) (by kernel_rfl) (by kernel_rfl) (by decide) (fun _ _ _ h => h) (by assumption) (Or.inl ⟨by rfl, ?_⟩) ?_
                rotate_left 1
                · intro w' hSw
                  have cF := hc w' hSw
                  go_simp
                  first | done | with_reducible rfl
                simp only [Act.put, List.setIfInBounds_toArray, List.set_cons_zero, List.set_cons_succ]
                refine wpAnyK_takeD (i := 15) (v := ?_) (some 82) rfl rfl (by kernel_rfl) (by kernel_rfl) (by kernel_rfl) (by kernel_rfl) (by decide) (fun _ _ _ h => h) (by assumption) (Or.inl ⟨by rfl, ?_⟩) ?_
                rotate_left 1
                · intro w' hSw
                  have cF := hc w' hSw
                  go_simp
                  first | done | with_reducible rfl
                simp only [Act.put, List.setIfInBounds_toArray, List.set_cons_zero, List.set_cons_succ]
                refine wpAnyK_takeD (i := 16) (v := ?_) (some 83) rfl rfl (by kernel_rfl) (by kernel_rfl) (by kernel_rfl) (by kernel_rfl) (by decide) (fun _ _ _ h => h) (by assumption) (Or.inl ⟨by rfl, ?_⟩) ?_
                rotate_left 1
                · intro w' hSw
                  have cF := hc w' hSw
                  go_simp
                  first | done | with_reducible rfl
                simp only [Act.put, List.setIfInBounds_toArray, List.set_cons_zero, List.set_cons_succ]
                refine wpAnyK_takeD (i := 17) (v := ?_) (some 84) rfl rfl (by kernel_rfl) (by kernel_rfl) (by kernel_rfl) (by kernel_rfl) (by decide) (fun _ _ _ h => h) (by assumption) (Or.inl ⟨by rfl, ?_⟩) ?_
                rotate_left 1
                · intro w' hSw
                  have cF := hc w' hSw
                  go_simp
                  first | done | with_reducible rfl
                simp only [Act.put, List.setIfInBounds_toArray, List.set_cons_zero, List.set_cons_succ]
                refine wpAnyK_takeD (i := 18) (v := ?_) (some 85) rfl rfl (by kernel_rfl) (by kernel_rfl) (by kernel_rfl) (by kernel_rfl) (by decide) (fun _ _ _ h => h) (by assumption) (Or.inl ⟨by rfl, ?_⟩) ?_
                rotate_left 1
                · intro w' hSw
                  have cF := hc w' hSw
                  go_simp
                  first | done | with_reducible rfl
                simp only [Act.put, List.setIfInBounds_toArray, List.set_cons_zero, List.set_cons_succ]
                refine wpAnyK_takeD (i := 19) (v := ?_) (some 86) rfl rfl (by kernel_rfl) (by kernel_rfl) (by kernel_rfl) (by kernel_rfl) (by decide) (fun _ _ _ h => h) (by assumption) (Or.inl ⟨by rfl, ?_⟩) ?_
                rotate_left 1
                · intro w' hSw
                  have cF := hc w' hSw
                  go_simp
                  first | done | with_reducible rfl
                simp only [Act.put, List.setIfInBounds_toArray, List.set_cons_zero, List.set_cons_succ]
                refine wpAnyK_takeD (i := 20) (v := ?_) (some 87) rfl rfl (by kernel_rfl) (by kernel_rfl) (by kernel_rfl) (by kernel_rfl) (by decide) (fun _ _ _ h => h) (by assumption) (Or.inl ⟨by rfl, ?_⟩) ?_
                rotate_left 1
                · intro w' hSw
                  have cF := hc w' hSw
                  go_simp
                  first | done | with_reducible rfl
                simp only [Act.put, List.setIfInBounds_toArray, List.set_cons_zero, List.set_cons_succ]
                refine wpAnyK_ready (rs := [1, 13]) (by kernel_rfl) (by simp) ?_
                refine AllReadyK.cons rfl (fun K' hK => ?_) ?_
                · go_simp
                  have bw6 := hbd.trans ((belowNew w5 (.cells #[] 55)).mono hbd.size)
                  have hOw6 : (w5.alloc (.cells #[] 55)).ownsRow wr.heap.size 55 thingK.n (.slice (some ⟨w5.heap.size, 0, none⟩) 0 0) 0 [] := World.ownsRow_made w5 #[] 0 hbd.size (by unfold maxLen; omega) (by simp)
                  have hsw6 : w5.heap.size < (w5.alloc (.cells #[] 55)).heap.size := by rw [alloc_size]; omega
                  obtain ⟨w6, hww6⟩ : ∃ q, w5.alloc (.cells #[] 55) = q := ⟨_, rfl⟩
                  rw [hww6] at bw6 hOw6 hsw6 ⊢
                  refine hK.out _ _ (fun _ => bw6) ?_
                  clear hK K' hww6
                  refine wpAnyK_ready (rs := [8, 13]) (by kernel_rfl) (by simp) ?_
                  refine AllReadyK.consD (some 75) rfl rfl (fun K' hK => ?_) ?_
                  · refine step_ownR (K := thingK) w6 (by rfl) _ _ 35 (by rfl) wr.heap.size 55 i0 _ 40 Try.underlying35 hi0 hz0 hz1 hz2 hz3 _ _ _ _ _ (by rfl) hOw6 _ _ _ hTl (Nat.zero_add _) (by rfl) (hrT _ bw6) hnT.out m1 m2 bw6.size ?_
                    intro aw7 cw7 w7 hOw7 hkw7
                    have bw7 := bw6.trans (Kept.below hkw7 bw6.size (fun k hk => (hOw6.lt k hk).1))
                    refine hK.out _ _ (fun _ => bw7) ?_
                    clear hK K' hkw7
                    simp only [Act.put, List.setIfInBounds_toArray, List.set_cons_zero, List.set_cons_succ]
                    refine wpAnyK_ready (rs := [13]) (by kernel_rfl) (by simp) ?_
                    refine AllReadyK.cons rfl (fun K' hK => ?_) ?_
                    · go_simp
                      have bw8 := bw7.trans ((belowNew w7 (.cells #[.string id, .int .i64 round, .string s] 55)).mono bw7.size)
                      have hRw8 := thingOne w7 ⟨id, round, s⟩
                      have hsw8 : w7.heap.size < (w7.alloc (.cells #[.string id, .int .i64 round, .string s] 55)).heap.size := by rw [alloc_size]; omega
                      have hOw8 := own_belowT hOw7 (belowNew w7 (.cells #[.string id, .int .i64 round, .string s] 55))
                      obtain ⟨w8, hww8⟩ : ∃ q, w7.alloc (.cells #[.string id, .int .i64 round, .string s] 55) = q := ⟨_, rfl⟩
                      rw [hww8] at bw8 hRw8 hsw8 hOw8 ⊢
                      refine hK.out _ _ (fun _ => bw8) ?_
                      clear hK K' hww8
                      refine wpAnyK_ready (rs := [14]) (by kernel_rfl) (by simp) ?_
                      refine AllReadyK.consD (some 81) rfl rfl (fun K' hK => ?_) ?_
                      · refine step_ownR (K := thingK) w8 (by rfl) _ _ 35 (by rfl) wr.heap.size 55 i0 _ 40 Try.underlying35 hi0 hz0 hz1 hz2 hz3 _ _ _ _ _ (by rfl) hOw8 _ _ _ rfl rfl (by rfl) hRw8 (fun h => by cases h) m3 m4 bw8.size ?_
                        intro aw9 cw9 w9 hOw9 hkw9
                        have bw9 := bw8.trans (Kept.below hkw9 bw8.size (fun k hk => (hOw8.lt k hk).1))
                        refine hK.out _ _ (fun _ => bw9) ?_
                        clear hK K' hkw9
                        simp only [Act.put, List.setIfInBounds_toArray, List.set_cons_zero, List.set_cons_succ]
                        refine wpAnyK_ready (rs := [21]) (by kernel_rfl) (by simp) ?_
                        refine AllReadyK.consD (some 88) rfl rfl (fun K' hK => ?_) ?_
                        · refine step_ownR (K := thingK) w9 (by rfl) _ _ 35 (by rfl) wr.heap.size 55 i0 _ 40 Try.underlying35 hi0 hz0 hz1 hz2 hz3 _ _ _ _ _ (by rfl) hOw9 _ _ _ hDl hN3.out (by rfl) (hrD _ bw9) hnD.out m5 m6 bw9.size ?_
                          intro aw10 cw10 w10 hOw10 hkw10
                          have bw10 := bw9.trans (Kept.below hkw10 bw9.size (fun k hk => (hOw9.lt k hk).1))
                          refine hK.out _ _ (fun _ => bw10) ?_
                          clear hK K' hkw10
                          simp only [Act.put, List.setIfInBounds_toArray, List.set_cons_zero, List.set_cons_succ]
                          refine wpAnyK_ready (rs := [22]) (by kernel_rfl) (by simp) ?_
                          refine AllReadyK.cons rfl (fun K' hK => ?_) AllReadyK.nil
                          go_simp
                          refine hK.out _ _ (fun _ => bw10) ?_
                          clear hK K'
                          refine wpAnyK_ready (rs := [23]) (by kernel_rfl) (by simp) ?_
                          refine AllReadyK.cons rfl (fun K' hK => ?_) AllReadyK.nil
                          go_simp
                          refine hK.out _ _ (fun _ => bw10) ?_
                          clear hK K'
                          refine wpAnyK_ready (rs := [24]) (by kernel_rfl) (by simp) ?_
                          refine AllReadyK.cons rfl (fun K' hK => ?_) AllReadyK.nil
                          have cF := hc w10 bw10
                          have fF := (hbox.below bw10 hbox.lt).frozen 1
                          go_simp
                          have hq := KQ.joined (K := thingK) (T := 55) (lo := lo) (fun _ _ h => h.elim) (fun _ => trivial) hOw10 HL.out HN.out
                          obtain ⟨hF, hfr, hkF⟩ := h3.newRow bw10 hq (by have := HN.out; omega)
                          have hfrF : FreshQ w _ _ := fun g hg => (hfr g hg).imp (fun e => e) (fun e => by have := hbq.size; omega)
                          have hkG := (Kept.of_below (S := BoxS rb _) hbq).trans hkF
                          refine hK.out _ _ (fun h => absurd rfl h) ?_
                          clear hK K'
                          refine wpAnyK_done (by kernel_rfl) ?_ _
                          go_wp2
                          go_ret
                          exact ⟨by rw [hE4.out]; rfl, _, hF, hfrF, hkG⟩
                        exact AllReadyK.nil
                      exact AllReadyK.nil
                    exact AllReadyK.nil
                  refine AllReadyK.cons rfl (fun K' hK => ?_) ?_
                  · go_simp
                    have bw11 := bw6.trans ((belowNew w6 (.cells #[.string id, .int .i64 round, .string s] 55)).mono bw6.size)
                    have hRw11 := thingOne w6 ⟨id, round, s⟩
                    have hsw11 : w6.heap.size < (w6.alloc (.cells #[.string id, .int .i64 round, .string s] 55)).heap.size := by rw [alloc_size]; omega
                    have hOw11 := own_belowT hOw6 (belowNew w6 (.cells #[.string id, .int .i64 round, .string s] 55))
                    obtain ⟨w11, hww11⟩ : ∃ q, w6.alloc (.cells #[.string id, .int .i64 round, .string s] 55) = q := ⟨_, rfl⟩
                    rw [hww11] at bw11 hRw11 hsw11 hOw11 ⊢
                    refine hK.out _ _ (fun _ => bw11) ?_
                    clear hK K' hww11
                    refine wpAnyK_ready (rs := [8]) (by kernel_rfl) (by simp) ?_
                    refine AllReadyK.consD (some 75) rfl rfl (fun K' hK => ?_) ?_
                    · refine step_ownR (K := thingK) w11 (by rfl) _ _ 35 (by rfl) wr.heap.size 55 i0 _ 40 Try.underlying35 hi0 hz0 hz1 hz2 hz3 _ _ _ _ _ (by rfl) hOw11 _ _ _ hTl (Nat.zero_add _) (by rfl) (hrT _ bw11) hnT.out m1 m2 bw11.size ?_
                      intro aw12 cw12 w12 hOw12 hkw12
                      have bw12 := bw11.trans (Kept.below hkw12 bw11.size (fun k hk => (hOw11.lt k hk).1))
                      have hRw12 := hRw11.kept hkw12 (fun k hk e => by
                        rcases hk with ⟨_, off', e'⟩ | ⟨_, _, f'⟩
                        · simp at e'
                          simp [Value.ownBlock] at e
                          omega
                        · exact f'.elim)
                      refine hK.out _ _ (fun _ => bw12) ?_
                      clear hK K' hkw12
                      simp only [Act.put, List.setIfInBounds_toArray, List.set_cons_zero, List.set_cons_succ]
                      refine wpAnyK_ready (rs := [14]) (by kernel_rfl) (by simp) ?_
                      refine AllReadyK.consD (some 81) rfl rfl (fun K' hK => ?_) ?_
                      · refine step_ownR (K := thingK) w12 (by rfl) _ _ 35 (by rfl) wr.heap.size 55 i0 _ 40 Try.underlying35 hi0 hz0 hz1 hz2 hz3 _ _ _ _ _ (by rfl) hOw12 _ _ _ rfl rfl (by rfl) hRw12 (fun h => by cases h) m3 m4 bw12.size ?_
                        intro aw13 cw13 w13 hOw13 hkw13
                        have bw13 := bw12.trans (Kept.below hkw13 bw12.size (fun k hk => (hOw12.lt k hk).1))
                        refine hK.out _ _ (fun _ => bw13) ?_
                        clear hK K' hkw13
                        simp only [Act.put, List.setIfInBounds_toArray, List.set_cons_zero, List.set_cons_succ]
                        refine wpAnyK_ready (rs := [21]) (by kernel_rfl) (by simp) ?_
                        refine AllReadyK.consD (some 88) rfl rfl (fun K' hK => ?_) ?_
                        · refine step_ownR (K := thingK) w13 (by rfl) _ _ 35 (by rfl) wr.heap.size 55 i0 _ 40 Try.underlying35 hi0 hz0 hz1 hz2 hz3 _ _ _ _ _ (by rfl) hOw13 _ _ _ hDl hN3.out (by rfl) (hrD _ bw13) hnD.out m5 m6 bw13.size ?_
                          intro aw14 cw14 w14 hOw14 hkw14
                          have bw14 := bw13.trans (Kept.below hkw14 bw13.size (fun k hk => (hOw13.lt k hk).1))
                          refine hK.out _ _ (fun _ => bw14) ?_
                          clear hK K' hkw14
                          simp only [Act.put, List.setIfInBounds_toArray, List.set_cons_zero, List.set_cons_succ]
                          refine wpAnyK_ready (rs := [22]) (by kernel_rfl) (by simp) ?_
                          refine AllReadyK.cons rfl (fun K' hK => ?_) AllReadyK.nil
                          go_simp
                          refine hK.out _ _ (fun _ => bw14) ?_
                          clear hK K'
                          refine wpAnyK_ready (rs := [23]) (by kernel_rfl) (by simp) ?_
                          refine AllReadyK.cons rfl (fun K' hK => ?_) AllReadyK.nil
                          go_simp
                          refine hK.out _ _ (fun _ => bw14) ?_
                          clear hK K'
                          refine wpAnyK_ready (rs := [24]) (by kernel_rfl) (by simp) ?_
                          refine AllReadyK.cons rfl (fun K' hK => ?_) AllReadyK.nil
                          have cF := hc w14 bw14
                          have fF := (hbox.below bw14 hbox.lt).frozen 1
                          go_simp
                          have hq := KQ.joined (K := thingK) (T := 55) (lo := lo) (fun _ _ h => h.elim) (fun _ => trivial) hOw14 HL.out HN.out
                          obtain ⟨hF, hfr, hkF⟩ := h3.newRow bw14 hq (by have := HN.out; omega)
                          have hfrF : FreshQ w _ _ := fun g hg => (hfr g hg).imp (fun e => e) (fun e => by have := hbq.size; omega)
                          have hkG := (Kept.of_below (S := BoxS rb _) hbq).trans hkF
                          refine hK.out _ _ (fun h => absurd rfl h) ?_
                          clear hK K'
                          refine wpAnyK_done (by kernel_rfl) ?_ _
                          go_wp2
                          go_ret
                          exact ⟨by rw [hE4.out]; rfl, _, hF, hfrF, hkG⟩
                        exact AllReadyK.nil
                      exact AllReadyK.nil
                    exact AllReadyK.nil
                  exact AllReadyK.nil
                refine AllReadyK.cons rfl (fun K' hK => ?_) ?_
                · go_simp
                  have bw15 := hbd.trans ((belowNew w5 (.cells #[.string id, .int .i64 round, .string s] 55)).mono hbd.size)
                  have hRw15 := thingOne w5 ⟨id, round, s⟩
                  have hsw15 : w5.heap.size < (w5.alloc (.cells #[.string id, .int .i64 round, .string s] 55)).heap.size := by rw [alloc_size]; omega
                  obtain ⟨w15, hww15⟩ : ∃ q, w5.alloc (.cells #[.string id, .int .i64 round, .string s] 55) = q := ⟨_, rfl⟩
                  rw [hww15] at bw15 hRw15 hsw15 ⊢
                  refine hK.out _ _ (fun _ => bw15) ?_
                  clear hK K' hww15
                  refine wpAnyK_ready (rs := [1]) (by kernel_rfl) (by simp) ?_
                  refine AllReadyK.cons rfl (fun K' hK => ?_) ?_
                  · go_simp
                    have bw16 := bw15.trans ((belowNew w15 (.cells #[] 55)).mono bw15.size)
                    have hOw16 : (w15.alloc (.cells #[] 55)).ownsRow wr.heap.size 55 thingK.n (.slice (some ⟨w15.heap.size, 0, none⟩) 0 0) 0 [] := World.ownsRow_made w15 #[] 0 bw15.size (by unfold maxLen; omega) (by simp)
                    have hsw16 : w15.heap.size < (w15.alloc (.cells #[] 55)).heap.size := by rw [alloc_size]; omega
                    have hRw16 := hRw15.below (belowNew w15 (.cells #[] 55))
                    obtain ⟨w16, hww16⟩ : ∃ q, w15.alloc (.cells #[] 55) = q := ⟨_, rfl⟩
                    rw [hww16] at bw16 hOw16 hsw16 hRw16 ⊢
                    refine hK.out _ _ (fun _ => bw16) ?_
                    clear hK K' hww16
                    refine wpAnyK_ready (rs := [8]) (by kernel_rfl) (by simp) ?_
                    refine AllReadyK.consD (some 75) rfl rfl (fun K' hK => ?_) ?_
                    · refine step_ownR (K := thingK) w16 (by rfl) _ _ 35 (by rfl) wr.heap.size 55 i0 _ 40 Try.underlying35 hi0 hz0 hz1 hz2 hz3 _ _ _ _ _ (by rfl) hOw16 _ _ _ hTl (Nat.zero_add _) (by rfl) (hrT _ bw16) hnT.out m1 m2 bw16.size ?_
                      intro aw17 cw17 w17 hOw17 hkw17
                      have bw17 := bw16.trans (Kept.below hkw17 bw16.size (fun k hk => (hOw16.lt k hk).1))
                      have hRw17 := hRw16.kept hkw17 (fun k hk e => by
                        rcases hk with ⟨_, off', e'⟩ | ⟨_, _, f'⟩
                        · simp at e'
                          simp [Value.ownBlock] at e
                          omega
                        · exact f'.elim)
                      refine hK.out _ _ (fun _ => bw17) ?_
                      clear hK K' hkw17
                      simp only [Act.put, List.setIfInBounds_toArray, List.set_cons_zero, List.set_cons_succ]
                      refine wpAnyK_ready (rs := [14]) (by kernel_rfl) (by simp) ?_
                      refine AllReadyK.consD (some 81) rfl rfl (fun K' hK => ?_) ?_
                      · refine step_ownR (K := thingK) w17 (by rfl) _ _ 35 (by rfl) wr.heap.size 55 i0 _ 40 Try.underlying35 hi0 hz0 hz1 hz2 hz3 _ _ _ _ _ (by rfl) hOw17 _ _ _ rfl rfl (by rfl) hRw17 (fun h => by cases h) m3 m4 bw17.size ?_
                        intro aw18 cw18 w18 hOw18 hkw18
                        have bw18 := bw17.trans (Kept.below hkw18 bw17.size (fun k hk => (hOw17.lt k hk).1))
                        refine hK.out _ _ (fun _ => bw18) ?_
                        clear hK K' hkw18
                        simp only [Act.put, List.setIfInBounds_toArray, List.set_cons_zero, List.set_cons_succ]
                        refine wpAnyK_ready (rs := [21]) (by kernel_rfl) (by simp) ?_
                        refine AllReadyK.consD (some 88) rfl rfl (fun K' hK => ?_) ?_
                        · refine step_ownR (K := thingK) w18 (by rfl) _ _ 35 (by rfl) wr.heap.size 55 i0 _ 40 Try.underlying35 hi0 hz0 hz1 hz2 hz3 _ _ _ _ _ (by rfl) hOw18 _ _ _ hDl hN3.out (by rfl) (hrD _ bw18) hnD.out m5 m6 bw18.size ?_
                          intro aw19 cw19 w19 hOw19 hkw19
                          have bw19 := bw18.trans (Kept.below hkw19 bw18.size (fun k hk => (hOw18.lt k hk).1))
                          refine hK.out _ _ (fun _ => bw19) ?_
                          clear hK K' hkw19
                          simp only [Act.put, List.setIfInBounds_toArray, List.set_cons_zero, List.set_cons_succ]
                          refine wpAnyK_ready (rs := [22]) (by kernel_rfl) (by simp) ?_
                          refine AllReadyK.cons rfl (fun K' hK => ?_) AllReadyK.nil
                          go_simp
                          refine hK.out _ _ (fun _ => bw19) ?_
                          clear hK K'
                          refine wpAnyK_ready (rs := [23]) (by kernel_rfl) (by simp) ?_
                          refine AllReadyK.cons rfl (fun K' hK => ?_) AllReadyK.nil
                          go_simp
                          refine hK.out _ _ (fun _ => bw19) ?_
                          clear hK K'
                          refine wpAnyK_ready (rs := [24]) (by kernel_rfl) (by simp) ?_
                          refine AllReadyK.cons rfl (fun K' hK => ?_) AllReadyK.nil
                          have cF := hc w19 bw19
                          have fF := (hbox.below bw19 hbox.lt).frozen 1
                          go_simp
                          have hq := KQ.joined (K := thingK) (T := 55) (lo := lo) (fun _ _ h => h.elim) (fun _ => trivial) hOw19 HL.out HN.out
                          obtain ⟨hF, hfr, hkF⟩ := h3.newRow bw19 hq (by have := HN.out; omega)
                          have hfrF : FreshQ w _ _ := fun g hg => (hfr g hg).imp (fun e => e) (fun e => by have := hbq.size; omega)
                          have hkG := (Kept.of_below (S := BoxS rb _) hbq).trans hkF
                          refine hK.out _ _ (fun h => absurd rfl h) ?_
                          clear hK K'
                          refine wpAnyK_done (by kernel_rfl) ?_ _
                          go_wp2
                          go_ret
                          exact ⟨by rw [hE4.out]; rfl, _, hF, hfrF, hkG⟩
                        exact AllReadyK.nil
                      exact AllReadyK.nil
                    exact AllReadyK.nil
                  exact AllReadyK.nil
                exact AllReadyK.nil
            · have g1 : ¬ (i : Int) < (l.length : Int) := by omega
              have Hip : Hid (i = putAt l id) := by show i = _; omega
              subst hwr
              clear hia
              have hil2 : i = l.length := by have := Hip.out; omega
              cases ao with
              | none =>
                have hl0 : l = [] := by
                  cases l with
                  | nil => rfl
                  | cons y r => obtain ⟨_, _, e, _⟩ := hRow.cell 0 y rfl; cases e
                have hc0 := hnil rfl
                subst hc0
                subst hl0
                obtain rfl : i = 0 := by simpa using hil2
                clear hil2 hnil hpn hlc g1 hpl hlt Hip
                have hc := fun w' (hb : Below wr.heap.size wr w') => (h3.box.below hb h3.box.lt).cell (i := 1) rfl
                have hbox := h3.box
                have hTl : (([] : List ThingD).take 0).length = 0 := rfl
                have hDl : (([] : List ThingD).drop 0).length = 0 := rfl
                have hrT : ∀ U, Below wr.heap.size wr U → RowAt thingK U none (([] : List ThingD).take 0) := fun U _ => nil_row _ _
                have hrD : ∀ U, Below wr.heap.size wr U → RowAt thingK U none (([] : List ThingD).drop 0) := fun U _ => nil_row _ _
                have m1 : 0 ≤ maxLen := by unfold maxLen; omega
                have m2 : 0 * 40 ≤ 140737488355328 := by omega
                have m3 : 0 + 1 ≤ maxLen := by unfold maxLen; omega
                have m4 : (0 + 1) * 40 ≤ 140737488355328 := by omega
                have m5 := m3
                have m6 := m4
                have HL : Hid (lo = ([] : List ThingD).take 0 ++ ⟨id, round, s⟩ :: ([] : List ThingD).drop 0) := hL2.out
                have HN : Hid (0 + 1 = lo.length) := by show 0 + 1 = lo.length; rw [HL.out]; rfl
                have hbd : Below wr.heap.size wr wr.drew := below_drewN (Below.refl _ wr) 1
                go_wp2_with fail
                refine wp_region_K (fun w' => Below wr.heap.size wr w') 24 (by kernel_rfl) ?_
                generalize wr.drew = w5 at hbd ⊢
                refine wpAnyK_takeD (i := 0) (v := ?_) (some 67) rfl rfl (by kernel_rfl) (by kernel_rfl) (by kernel_rfl) (by kernel_rfl) (by decide) (fun _ _ _ h => h) (by assumption) (Or.inl ⟨by rfl, ?_⟩) ?_
                rotate_left 1
                · intro w' hSw
                  have cF := hc w' hSw
                  go_simp
                  first | done | with_reducible rfl
                simp only [Act.put, List.setIfInBounds_toArray, List.set_cons_zero, List.set_cons_succ]
                refine wpAnyK_takeD (i := 2) (v := ?_) (some 69) rfl rfl (by kernel_rfl) (by kernel_rfl) (by kernel_rfl) (by kernel_rfl) (by decide) (fun _ _ _ h => h) (by assumption) (Or.inl ⟨by rfl, ?_⟩) ?_
                rotate_left 1
                · intro w' hSw
                  have cF := hc w' hSw
                  go_simp
                  first | done | with_reducible rfl
                simp only [Act.put, List.setIfInBounds_toArray, List.set_cons_zero, List.set_cons_succ]
                refine wpAnyK_takeD (i := 3) (v := ?_) (some 70) rfl rfl (by kernel_rfl) (by kernel_rfl) (by kernel_rfl) (by kernel_rfl) (by decide) (fun _ _ _ h => h) (by assumption) (Or.inl ⟨by rfl, ?_⟩) ?_
                rotate_left 1
                · intro w' hSw
                  have cF := hc w' hSw
                  go_simp
                  first | done | with_reducible rfl
                simp only [Act.put, List.setIfInBounds_toArray, List.set_cons_zero, List.set_cons_succ]
                refine wpAnyK_takeD (i := 4) (v := ?_) (some 71) rfl rfl (by kernel_rfl) (by kernel_rfl) (by kernel_rfl) (by kernel_rfl) (by decide) (fun _ _ _ h => h) (by assumption) (Or.inl ⟨by rfl, ?_⟩) ?_
                rotate_left 1
                · intro w' hSw
                  have cF := hc w' hSw
                  go_simp
                  first | done | with_reducible rfl
                simp only [Act.put, List.setIfInBounds_toArray, List.set_cons_zero, List.set_cons_succ]
                refine wpAnyK_takeD (i := 5) (v := ?_) (some 72) rfl rfl (by kernel_rfl) (by kernel_rfl) (by kernel_rfl) (by kernel_rfl) (by decide) (fun _ _ _ h => h) (by assumption) (Or.inl ⟨by rfl, ?_⟩) ?_
                rotate_left 1
                · intro w' hSw
                  have cF := hc w' hSw
                  go_simp
                  first | done | with_reducible rfl
                simp only [Act.put, List.setIfInBounds_toArray, List.set_cons_zero, List.set_cons_succ]
                refine wpAnyK_takeD (i := 6) (v := ?_) (some 73) rfl rfl (by kernel_rfl) (by kernel_rfl) (by kernel_rfl) (by kernel_rfl) (by decide) (fun _ _ _ h => h) (by assumption) (Or.inl ⟨by rfl, ?_⟩) ?_
                rotate_left 1
                · intro w' hSw
                  have cF := hc w' hSw
                  go_simp
                  first | done | with_reducible rfl
                simp only [Act.put, List.setIfInBounds_toArray, List.set_cons_zero, List.set_cons_succ]
                refine wpAnyK_takeD (i := 7) (v := ?_) (some 74) rfl rfl (by kernel_rfl) (by kernel_rfl) (by kernel_rfl) (by kernel_rfl) (by decide) (fun _ _ _ h => h) (by assumption) (Or.inl ⟨by rfl, ?_⟩) ?_
                rotate_left 1
                · intro w' hSw
                  have cF := hc w' hSw
                  go_simp
                  first | done | with_reducible rfl
                simp only [Act.put, List.setIfInBounds_toArray, List.set_cons_zero, List.set_cons_succ]
                refine wpAnyK_takeD (i := 9) (v := ?_) (some 76) rfl rfl (by kernel_rfl) (by kernel_rfl) (by kernel_rfl) (by kernel_rfl) (by decide) (fun _ _ _ h => h) (by assumption) (Or.inl ⟨by rfl, ?_⟩) ?_
                rotate_left 1
                · intro w' hSw
                  have cF := hc w' hSw
                  go_simp
                  first | done | with_reducible rfl
                simp only [Act.put, List.setIfInBounds_toArray, List.set_cons_zero, List.set_cons_succ]
                refine wpAnyK_takeD (i := 10) (v := ?_) (some 77) rfl rfl (by kernel_rfl) (by kernel_rfl) (by kernel_rfl) (by kernel_rfl) (by decide) (fun _ _ _ h => h) (by assumption) (Or.inl ⟨by rfl, ?_⟩) ?_
                rotate_left 1
                · intro w' hSw
                  have cF := hc w' hSw
                  go_simp
                  first | done | with_reducible rfl
                simp only [Act.put, List.setIfInBounds_toArray, List.set_cons_zero, List.set_cons_succ]
                refine wpAnyK_takeD (i := 11) (v := ?_) (some 78) rfl rfl (by kernel_rfl) (by kernel_rfl) (by kernel_rfl) (by kernel_rfl) (by decide) (fun _ _ _ h => h) (by assumption) (Or.inl ⟨by rfl, ?_⟩) ?_
                rotate_left 1
                · intro w' hSw
                  have cF := hc w' hSw
                  go_simp
                  first | done | with_reducible rfl
                simp only [Act.put, List.setIfInBounds_toArray, List.set_cons_zero, List.set_cons_succ]
                refine wpAnyK_takeD (i := 12) (v := ?_) (some 79) rfl rfl (by kernel_rfl) (by kernel_rfl) (by kernel_rfl) (by kernel_rfl) (by decide) (fun _ _ _ h => h) (by assumption) (Or.inl ⟨by rfl, ?_⟩) ?_
                rotate_left 1
                · intro w' hSw
                  have cF := hc w' hSw
                  go_simp
                  first | done | with_reducible rfl
                simp only [Act.put, List.setIfInBounds_toArray, List.set_cons_zero, List.set_cons_succ]
                refine wpAnyK_takeD (i := 15) (v := ?_) (some 82) rfl rfl (by kernel_rfl) (by kernel_rfl) (by kernel_rfl) (by kernel_rfl) (by decide) (fun _ _ _ h => h) (by assumption) (Or.inl ⟨by rfl, ?_⟩) ?_
                rotate_left 1
                · intro w' hSw
                  have cF := hc w' hSw
                  go_simp
                  first | done | with_reducible rfl
                simp only [Act.put, List.setIfInBounds_toArray, List.set_cons_zero, List.set_cons_succ]
                refine wpAnyK_takeD (i := 16) (v := ?_) (some 83) rfl rfl (by kernel_rfl) (by kernel_rfl) (by kernel_rfl) (by kernel_rfl) (by decide) (fun _ _ _ h => h) (by assumption) (Or.inl ⟨by rfl, ?_⟩) ?_
                rotate_left 1
                · intro w' hSw
                  have cF := hc w' hSw
                  go_simp
                  first | done | with_reducible rfl
                simp only [Act.put, List.setIfInBounds_toArray, List.set_cons_zero, List.set_cons_succ]
                refine wpAnyK_takeD (i := 17) (v := ?_) (some 84) rfl rfl (by kernel_rfl) (by kernel_rfl) (by kernel_rfl) (by kernel_rfl) (by decide) (fun _ _ _ h => h) (by assumption) (Or.inl ⟨by rfl, ?_⟩) ?_
                rotate_left 1
                · intro w' hSw
                  have cF := hc w' hSw
                  go_simp
                  first | done | with_reducible rfl
                simp only [Act.put, List.setIfInBounds_toArray, List.set_cons_zero, List.set_cons_succ]
                refine wpAnyK_takeD (i := 18) (v := ?_) (some 85) rfl rfl (by kernel_rfl) (by kernel_rfl) (by kernel_rfl) (by kernel_rfl) (by decide) (fun _ _ _ h => h) (by assumption) (Or.inl ⟨by rfl, ?_⟩) ?_
                rotate_left 1
                · intro w' hSw
                  have cF := hc w' hSw
                  go_simp
                  first | done | with_reducible rfl
                simp only [Act.put, List.setIfInBounds_toArray, List.set_cons_zero, List.set_cons_succ]
                refine wpAnyK_takeD (i := 19) (v := ?_) (some 86) rfl rfl (by kernel_rfl) (by kernel_rfl) (by kernel_rfl) (by kernel_rfl) (by decide) (fun _ _ _ h => h) (by assumption) (Or.inl ⟨by rfl, ?_⟩) ?_
                rotate_left 1
                · intro w' hSw
                  have cF := hc w' hSw
                  go_simp
                  first | done | with_reducible rfl
                simp only [Act.put, List.setIfInBounds_toArray, List.set_cons_zero, List.set_cons_succ]
                refine wpAnyK_takeD (i := 20) (v := ?_) (some 87) rfl rfl (by kernel_rfl) (by kernel_rfl) (by kernel_rfl) (by kernel_rfl) (by decide) (fun _ _ _ h => h) (by assumption) (Or.inl ⟨by rfl, ?_⟩) ?_
                rotate_left 1
                · intro w' hSw
                  have cF := hc w' hSw
                  go_simp
                  first | done | with_reducible rfl
                simp only [Act.put, List.setIfInBounds_toArray, List.set_cons_zero, List.set_cons_succ]
                refine wpAnyK_ready (rs := [1, 13]) (by kernel_rfl) (by simp) ?_
                refine AllReadyK.cons rfl (fun K' hK => ?_) ?_
                · go_simp
                  have bw6 := hbd.trans ((belowNew w5 (.cells #[] 55)).mono hbd.size)
                  have hOw6 : (w5.alloc (.cells #[] 55)).ownsRow wr.heap.size 55 thingK.n (.slice (some ⟨w5.heap.size, 0, none⟩) 0 0) 0 [] := World.ownsRow_made w5 #[] 0 hbd.size (by unfold maxLen; omega) (by simp)
                  have hsw6 : w5.heap.size < (w5.alloc (.cells #[] 55)).heap.size := by rw [alloc_size]; omega
                  obtain ⟨w6, hww6⟩ : ∃ q, w5.alloc (.cells #[] 55) = q := ⟨_, rfl⟩
                  rw [hww6] at bw6 hOw6 hsw6 ⊢
                  refine hK.out _ _ (fun _ => bw6) ?_
                  clear hK K' hww6
                  refine wpAnyK_ready (rs := [8, 13]) (by kernel_rfl) (by simp) ?_
                  refine AllReadyK.consD (some 75) rfl rfl (fun K' hK => ?_) ?_
                  · refine step_ownR (K := thingK) w6 (by rfl) _ _ 35 (by rfl) wr.heap.size 55 i0 _ 40 Try.underlying35 hi0 hz0 hz1 hz2 hz3 _ _ _ _ _ (by rfl) hOw6 _ _ _ hTl (Nat.zero_add _) (by rfl) (hrT _ bw6) (fun _ => rfl) m1 m2 bw6.size ?_
                    intro aw7 cw7 w7 hOw7 hkw7
                    have bw7 := bw6.trans (Kept.below hkw7 bw6.size (fun k hk => (hOw6.lt k hk).1))
                    refine hK.out _ _ (fun _ => bw7) ?_
                    clear hK K' hkw7
                    simp only [Act.put, List.setIfInBounds_toArray, List.set_cons_zero, List.set_cons_succ]
                    refine wpAnyK_ready (rs := [13]) (by kernel_rfl) (by simp) ?_
                    refine AllReadyK.cons rfl (fun K' hK => ?_) ?_
                    · go_simp
                      have bw8 := bw7.trans ((belowNew w7 (.cells #[.string id, .int .i64 round, .string s] 55)).mono bw7.size)
                      have hRw8 := thingOne w7 ⟨id, round, s⟩
                      have hsw8 : w7.heap.size < (w7.alloc (.cells #[.string id, .int .i64 round, .string s] 55)).heap.size := by rw [alloc_size]; omega
                      have hOw8 := own_belowT hOw7 (belowNew w7 (.cells #[.string id, .int .i64 round, .string s] 55))
                      obtain ⟨w8, hww8⟩ : ∃ q, w7.alloc (.cells #[.string id, .int .i64 round, .string s] 55) = q := ⟨_, rfl⟩
                      rw [hww8] at bw8 hRw8 hsw8 hOw8 ⊢
                      refine hK.out _ _ (fun _ => bw8) ?_
                      clear hK K' hww8
                      refine wpAnyK_ready (rs := [14]) (by kernel_rfl) (by simp) ?_
                      refine AllReadyK.consD (some 81) rfl rfl (fun K' hK => ?_) ?_
                      · refine step_ownR (K := thingK) w8 (by rfl) _ _ 35 (by rfl) wr.heap.size 55 i0 _ 40 Try.underlying35 hi0 hz0 hz1 hz2 hz3 _ _ _ _ _ (by rfl) hOw8 _ _ _ rfl rfl (by rfl) hRw8 (fun h => by cases h) m3 m4 bw8.size ?_
                        intro aw9 cw9 w9 hOw9 hkw9
                        have bw9 := bw8.trans (Kept.below hkw9 bw8.size (fun k hk => (hOw8.lt k hk).1))
                        refine hK.out _ _ (fun _ => bw9) ?_
                        clear hK K' hkw9
                        simp only [Act.put, List.setIfInBounds_toArray, List.set_cons_zero, List.set_cons_succ]
                        refine wpAnyK_ready (rs := [21]) (by kernel_rfl) (by simp) ?_
                        refine AllReadyK.consD (some 88) rfl rfl (fun K' hK => ?_) ?_
                        · refine step_ownR (K := thingK) w9 (by rfl) _ _ 35 (by rfl) wr.heap.size 55 i0 _ 40 Try.underlying35 hi0 hz0 hz1 hz2 hz3 _ _ _ _ _ (by rfl) hOw9 _ _ _ hDl rfl (by rfl) (hrD _ bw9) (fun _ => rfl) m5 m6 bw9.size ?_
                          intro aw10 cw10 w10 hOw10 hkw10
                          have bw10 := bw9.trans (Kept.below hkw10 bw9.size (fun k hk => (hOw9.lt k hk).1))
                          refine hK.out _ _ (fun _ => bw10) ?_
                          clear hK K' hkw10
                          simp only [Act.put, List.setIfInBounds_toArray, List.set_cons_zero, List.set_cons_succ]
                          refine wpAnyK_ready (rs := [22]) (by kernel_rfl) (by simp) ?_
                          refine AllReadyK.cons rfl (fun K' hK => ?_) AllReadyK.nil
                          go_simp
                          refine hK.out _ _ (fun _ => bw10) ?_
                          clear hK K'
                          refine wpAnyK_ready (rs := [23]) (by kernel_rfl) (by simp) ?_
                          refine AllReadyK.cons rfl (fun K' hK => ?_) AllReadyK.nil
                          go_simp
                          refine hK.out _ _ (fun _ => bw10) ?_
                          clear hK K'
                          refine wpAnyK_ready (rs := [24]) (by kernel_rfl) (by simp) ?_
                          refine AllReadyK.cons rfl (fun K' hK => ?_) AllReadyK.nil
                          have cF := hc w10 bw10
                          have fF := (hbox.below bw10 hbox.lt).frozen 1
                          go_simp
                          have hq := KQ.joined (K := thingK) (T := 55) (lo := lo) (fun _ _ h => h.elim) (fun _ => trivial) hOw10 HL.out HN.out
                          obtain ⟨hF, hfr, hkF⟩ := h3.newRow bw10 hq (by have := HN.out; omega)
                          have hfrF : FreshQ w _ _ := fun g hg => (hfr g hg).imp (fun e => e) (fun e => by have := hbq.size; omega)
                          have hkG := (Kept.of_below (S := BoxS rb _) hbq).trans hkF
                          refine hK.out _ _ (fun h => absurd rfl h) ?_
                          clear hK K'
                          refine wpAnyK_done (by kernel_rfl) ?_ _
                          go_wp2
                          go_ret
                          exact ⟨by rw [hE4.out]; rfl, _, hF, hfrF, hkG⟩
                        exact AllReadyK.nil
                      exact AllReadyK.nil
                    exact AllReadyK.nil
                  refine AllReadyK.cons rfl (fun K' hK => ?_) ?_
                  · go_simp
                    have bw11 := bw6.trans ((belowNew w6 (.cells #[.string id, .int .i64 round, .string s] 55)).mono bw6.size)
                    have hRw11 := thingOne w6 ⟨id, round, s⟩
                    have hsw11 : w6.heap.size < (w6.alloc (.cells #[.string id, .int .i64 round, .string s] 55)).heap.size := by rw [alloc_size]; omega
                    have hOw11 := own_belowT hOw6 (belowNew w6 (.cells #[.string id, .int .i64 round, .string s] 55))
                    obtain ⟨w11, hww11⟩ : ∃ q, w6.alloc (.cells #[.string id, .int .i64 round, .string s] 55) = q := ⟨_, rfl⟩
                    rw [hww11] at bw11 hRw11 hsw11 hOw11 ⊢
                    refine hK.out _ _ (fun _ => bw11) ?_
                    clear hK K' hww11
                    refine wpAnyK_ready (rs := [8]) (by kernel_rfl) (by simp) ?_
                    refine AllReadyK.consD (some 75) rfl rfl (fun K' hK => ?_) ?_
                    · refine step_ownR (K := thingK) w11 (by rfl) _ _ 35 (by rfl) wr.heap.size 55 i0 _ 40 Try.underlying35 hi0 hz0 hz1 hz2 hz3 _ _ _ _ _ (by rfl) hOw11 _ _ _ hTl (Nat.zero_add _) (by rfl) (hrT _ bw11) (fun _ => rfl) m1 m2 bw11.size ?_
                      intro aw12 cw12 w12 hOw12 hkw12
                      have bw12 := bw11.trans (Kept.below hkw12 bw11.size (fun k hk => (hOw11.lt k hk).1))
                      have hRw12 := hRw11.kept hkw12 (fun k hk e => by
                        rcases hk with ⟨_, off', e'⟩ | ⟨_, _, f'⟩
                        · simp at e'
                          simp [Value.ownBlock] at e
                          omega
                        · exact f'.elim)
                      refine hK.out _ _ (fun _ => bw12) ?_
                      clear hK K' hkw12
                      simp only [Act.put, List.setIfInBounds_toArray, List.set_cons_zero, List.set_cons_succ]
                      refine wpAnyK_ready (rs := [14]) (by kernel_rfl) (by simp) ?_
                      refine AllReadyK.consD (some 81) rfl rfl (fun K' hK => ?_) ?_
                      · refine step_ownR (K := thingK) w12 (by rfl) _ _ 35 (by rfl) wr.heap.size 55 i0 _ 40 Try.underlying35 hi0 hz0 hz1 hz2 hz3 _ _ _ _ _ (by rfl) hOw12 _ _ _ rfl rfl (by rfl) hRw12 (fun h => by cases h) m3 m4 bw12.size ?_
                        intro aw13 cw13 w13 hOw13 hkw13
                        have bw13 := bw12.trans (Kept.below hkw13 bw12.size (fun k hk => (hOw12.lt k hk).1))
                        refine hK.out _ _ (fun _ => bw13) ?_
                        clear hK K' hkw13
                        simp only [Act.put, List.setIfInBounds_toArray, List.set_cons_zero, List.set_cons_succ]
                        refine wpAnyK_ready (rs := [21]) (by kernel_rfl) (by simp) ?_
                        refine AllReadyK.consD (some 88) rfl rfl (fun K' hK => ?_) ?_
                        · refine step_ownR (K := thingK) w13 (by rfl) _ _ 35 (by rfl) wr.heap.size 55 i0 _ 40 Try.underlying35 hi0 hz0 hz1 hz2 hz3 _ _ _ _ _ (by rfl) hOw13 _ _ _ hDl rfl (by rfl) (hrD _ bw13) (fun _ => rfl) m5 m6 bw13.size ?_
                          intro aw14 cw14 w14 hOw14 hkw14
                          have bw14 := bw13.trans (Kept.below hkw14 bw13.size (fun k hk => (hOw13.lt k hk).1))
                          refine hK.out _ _ (fun _ => bw14) ?_
                          clear hK K' hkw14
                          simp only [Act.put, List.setIfInBounds_toArray, List.set_cons_zero, List.set_cons_succ]
                          refine wpAnyK_ready (rs := [22]) (by kernel_rfl) (by simp) ?_
                          refine AllReadyK.cons rfl (fun K' hK => ?_) AllReadyK.nil
                          go_simp
                          refine hK.out _ _ (fun _ => bw14) ?_
                          clear hK K'
                          refine wpAnyK_ready (rs := [23]) (by kernel_rfl) (by simp) ?_
                          refine AllReadyK.cons rfl (fun K' hK => ?_) AllReadyK.nil
                          go_simp
                          refine hK.out _ _ (fun _ => bw14) ?_
                          clear hK K'
                          refine wpAnyK_ready (rs := [24]) (by kernel_rfl) (by simp) ?_
                          refine AllReadyK.cons rfl (fun K' hK => ?_) AllReadyK.nil
                          have cF := hc w14 bw14
                          have fF := (hbox.below bw14 hbox.lt).frozen 1
                          go_simp
                          have hq := KQ.joined (K := thingK) (T := 55) (lo := lo) (fun _ _ h => h.elim) (fun _ => trivial) hOw14 HL.out HN.out
                          obtain ⟨hF, hfr, hkF⟩ := h3.newRow bw14 hq (by have := HN.out; omega)
                          have hfrF : FreshQ w _ _ := fun g hg => (hfr g hg).imp (fun e => e) (fun e => by have := hbq.size; omega)
                          have hkG := (Kept.of_below (S := BoxS rb _) hbq).trans hkF
                          refine hK.out _ _ (fun h => absurd rfl h) ?_
                          clear hK K'
                          refine wpAnyK_done (by kernel_rfl) ?_ _
                          go_wp2
                          go_ret
                          exact ⟨by rw [hE4.out]; rfl, _, hF, hfrF, hkG⟩
                        exact AllReadyK.nil
                      exact AllReadyK.nil
                    exact AllReadyK.nil
                  exact AllReadyK.nil
                refine AllReadyK.cons rfl (fun K' hK => ?_) ?_
                · go_simp
                  have bw15 := hbd.trans ((belowNew w5 (.cells #[.string id, .int .i64 round, .string s] 55)).mono hbd.size)
                  have hRw15 := thingOne w5 ⟨id, round, s⟩
                  have hsw15 : w5.heap.size < (w5.alloc (.cells #[.string id, .int .i64 round, .string s] 55)).heap.size := by rw [alloc_size]; omega
                  obtain ⟨w15, hww15⟩ : ∃ q, w5.alloc (.cells #[.string id, .int .i64 round, .string s] 55) = q := ⟨_, rfl⟩
                  rw [hww15] at bw15 hRw15 hsw15 ⊢
                  refine hK.out _ _ (fun _ => bw15) ?_
                  clear hK K' hww15
                  refine wpAnyK_ready (rs := [1]) (by kernel_rfl) (by simp) ?_
                  refine AllReadyK.cons rfl (fun K' hK => ?_) ?_
                  · go_simp
                    have bw16 := bw15.trans ((belowNew w15 (.cells #[] 55)).mono bw15.size)
                    have hOw16 : (w15.alloc (.cells #[] 55)).ownsRow wr.heap.size 55 thingK.n (.slice (some ⟨w15.heap.size, 0, none⟩) 0 0) 0 [] := World.ownsRow_made w15 #[] 0 bw15.size (by unfold maxLen; omega) (by simp)
                    have hsw16 : w15.heap.size < (w15.alloc (.cells #[] 55)).heap.size := by rw [alloc_size]; omega
                    have hRw16 := hRw15.below (belowNew w15 (.cells #[] 55))
                    obtain ⟨w16, hww16⟩ : ∃ q, w15.alloc (.cells #[] 55) = q := ⟨_, rfl⟩
                    rw [hww16] at bw16 hOw16 hsw16 hRw16 ⊢
                    refine hK.out _ _ (fun _ => bw16) ?_
                    clear hK K' hww16
                    refine wpAnyK_ready (rs := [8]) (by kernel_rfl) (by simp) ?_
                    refine AllReadyK.consD (some 75) rfl rfl (fun K' hK => ?_) ?_
                    · refine step_ownR (K := thingK) w16 (by rfl) _ _ 35 (by rfl) wr.heap.size 55 i0 _ 40 Try.underlying35 hi0 hz0 hz1 hz2 hz3 _ _ _ _ _ (by rfl) hOw16 _ _ _ hTl (Nat.zero_add _) (by rfl) (hrT _ bw16) (fun _ => rfl) m1 m2 bw16.size ?_
                      intro aw17 cw17 w17 hOw17 hkw17
                      have bw17 := bw16.trans (Kept.below hkw17 bw16.size (fun k hk => (hOw16.lt k hk).1))
                      have hRw17 := hRw16.kept hkw17 (fun k hk e => by
                        rcases hk with ⟨_, off', e'⟩ | ⟨_, _, f'⟩
                        · simp at e'
                          simp [Value.ownBlock] at e
                          omega
                        · exact f'.elim)
                      refine hK.out _ _ (fun _ => bw17) ?_
                      clear hK K' hkw17
                      simp only [Act.put, List.setIfInBounds_toArray, List.set_cons_zero, List.set_cons_succ]
                      refine wpAnyK_ready (rs := [14]) (by kernel_rfl) (by simp) ?_
                      refine AllReadyK.consD (some 81) rfl rfl (fun K' hK => ?_) ?_
                      · refine step_ownR (K := thingK) w17 (by rfl) _ _ 35 (by rfl) wr.heap.size 55 i0 _ 40 Try.underlying35 hi0 hz0 hz1 hz2 hz3 _ _ _ _ _ (by rfl) hOw17 _ _ _ rfl rfl (by rfl) hRw17 (fun h => by cases h) m3 m4 bw17.size ?_
                        intro aw18 cw18 w18 hOw18 hkw18
                        have bw18 := bw17.trans (Kept.below hkw18 bw17.size (fun k hk => (hOw17.lt k hk).1))
                        refine hK.out _ _ (fun _ => bw18) ?_
                        clear hK K' hkw18
                        simp only [Act.put, List.setIfInBounds_toArray, List.set_cons_zero, List.set_cons_succ]
                        refine wpAnyK_ready (rs := [21]) (by kernel_rfl) (by simp) ?_
                        refine AllReadyK.consD (some 88) rfl rfl (fun K' hK => ?_) ?_
                        · refine step_ownR (K := thingK) w18 (by rfl) _ _ 35 (by rfl) wr.heap.size 55 i0 _ 40 Try.underlying35 hi0 hz0 hz1 hz2 hz3 _ _ _ _ _ (by rfl) hOw18 _ _ _ hDl rfl (by rfl) (hrD _ bw18) (fun _ => rfl) m5 m6 bw18.size ?_
                          intro aw19 cw19 w19 hOw19 hkw19
                          have bw19 := bw18.trans (Kept.below hkw19 bw18.size (fun k hk => (hOw18.lt k hk).1))
                          refine hK.out _ _ (fun _ => bw19) ?_
                          clear hK K' hkw19
                          simp only [Act.put, List.setIfInBounds_toArray, List.set_cons_zero, List.set_cons_succ]
                          refine wpAnyK_ready (rs := [22]) (by kernel_rfl) (by simp) ?_
                          refine AllReadyK.cons rfl (fun K' hK => ?_) AllReadyK.nil
                          go_simp
                          refine hK.out _ _ (fun _ => bw19) ?_
                          clear hK K'
                          refine wpAnyK_ready (rs := [23]) (by kernel_rfl) (by simp) ?_
                          refine AllReadyK.cons rfl (fun K' hK => ?_) AllReadyK.nil
                          go_simp
                          refine hK.out _ _ (fun _ => bw19) ?_
                          clear hK K'
                          refine wpAnyK_ready (rs := [24]) (by kernel_rfl) (by simp) ?_
                          refine AllReadyK.cons rfl (fun K' hK => ?_) AllReadyK.nil
                          have cF := hc w19 bw19
                          have fF := (hbox.below bw19 hbox.lt).frozen 1
                          go_simp
                          have hq := KQ.joined (K := thingK) (T := 55) (lo := lo) (fun _ _ h => h.elim) (fun _ => trivial) hOw19 HL.out HN.out
                          obtain ⟨hF, hfr, hkF⟩ := h3.newRow bw19 hq (by have := HN.out; omega)
                          have hfrF : FreshQ w _ _ := fun g hg => (hfr g hg).imp (fun e => e) (fun e => by have := hbq.size; omega)
                          have hkG := (Kept.of_below (S := BoxS rb _) hbq).trans hkF
                          refine hK.out _ _ (fun h => absurd rfl h) ?_
                          clear hK K'
                          refine wpAnyK_done (by kernel_rfl) ?_ _
                          go_wp2
                          go_ret
                          exact ⟨by rw [hE4.out]; rfl, _, hF, hfrF, hkG⟩
                        exact AllReadyK.nil
                      exact AllReadyK.nil
                    exact AllReadyK.nil
                  exact AllReadyK.nil
                exact AllReadyK.nil
              | some ad =>
                rcases (by by_cases hcp : cap = i; exact Or.inl hcp; exact Or.inr hcp : cap = i ∨ ¬ cap = i) with hcp | hcp
                · have hci := eq_true hcp
                  have hdn : l.drop i = [] := List.drop_of_length_le (by omega)
                  have hrD : ∀ U, Below wr.heap.size wr U → RowAt thingK U (some ad) (l.drop i) := fun U _ => by rw [hdn]; exact nil_row _ _
                  have hnD : Hid (some ad = none → cap - i = 0) := fun h => by cases h
                  clear hdn hcp hil2
                  have hc := fun w' (hb : Below wr.heap.size wr w') => (h3.box.below hb h3.box.lt).cell (i := 1) rfl
                  have hbox := h3.box
                  have j1 : (0 : Int) ≤ (i : Int) := by omega
                  have j2 : (i : Int) ≤ (cap : Int) := by have := Hip.out; omega
                  have j3 : (i : Int) ≤ (l.length : Int) := by have := Hip.out; omega
                  have hTl : (l.take i).length = i := by rw [List.length_take]; have := Hip.out; omega
                  have hDl : (l.drop i).length = l.length - i := List.length_drop
                  have hN3 : Hid (i + 1 + (l.length - i) = l.length + 1) := by show i + 1 + (l.length - i) = l.length + 1; have := Hip.out; omega
                  have hrT := fun U (hb : Below wr.heap.size wr U) => (hRow.below hb).take i
                  have hnT : Hid _ := hnil
                  have m1 : i ≤ maxLen := by have := Hip.out; unfold maxLen; omega
                  have m2 : i * 40 ≤ 140737488355328 := by have := Hip.out; omega
                  have m3 : i + 1 ≤ maxLen := by have := Hip.out; unfold maxLen; omega
                  have m4 : (i + 1) * 40 ≤ 140737488355328 := by have := Hip.out; omega
                  have m5 : l.length + 1 ≤ maxLen := by unfold maxLen; omega
                  have m6 : (l.length + 1) * 40 ≤ 140737488355328 := by omega
                  have HL : Hid (lo = l.take i ++ ⟨id, round, s⟩ :: l.drop i) := by show lo = _; rw [hL2.out]; unfold putL; rw [Hip.out]
                  have HN : Hid (l.length + 1 = lo.length) := by
                    show l.length + 1 = lo.length
                    rw [HL.out, List.length_append, List.length_cons, hTl, hDl]
                    have := Hip.out
                    omega
                  have hbd : Below wr.heap.size wr wr.drew := below_drewN (Below.refl _ wr) 1
                  go_wp2_with fail
                  refine wp_region_K (fun w' => Below wr.heap.size wr w') 24 (by kernel_rfl) ?_
                  generalize wr.drew = w5 at hbd ⊢
                  refine wpAnyK_takeD (i := 0) (v := ?_) (some 67) rfl rfl (by kernel_rfl) (by kernel_rfl) (by kernel_rfl) (by kernel_rfl) (by decide) (fun _ _ _ h => h) (by assumption) (Or.inl ⟨by rfl, ?_⟩) ?_
                  rotate_left 1
                  · intro w' hSw
                    have cF := hc w' hSw
                    go_simp
                    first | done | with_reducible rfl
                  simp only [Act.put, List.setIfInBounds_toArray, List.set_cons_zero, List.set_cons_succ]
                  refine wpAnyK_takeD (i := 2) (v := ?_) (some 69) rfl rfl (by kernel_rfl) (by kernel_rfl) (by kernel_rfl) (by kernel_rfl) (by decide) (fun _ _ _ h => h) (by assumption) (Or.inl ⟨by rfl, ?_⟩) ?_
                  rotate_left 1
                  · intro w' hSw
                    have cF := hc w' hSw
                    go_simp
                    first | done | with_reducible rfl
                  simp only [Act.put, List.setIfInBounds_toArray, List.set_cons_zero, List.set_cons_succ]
                  refine wpAnyK_takeD (i := 3) (v := ?_) (some 70) rfl rfl (by kernel_rfl) (by kernel_rfl) (by kernel_rfl) (by kernel_rfl) (by decide) (fun _ _ _ h => h) (by assumption) (Or.inl ⟨by rfl, ?_⟩) ?_
                  rotate_left 1
                  · intro w' hSw
                    have cF := hc w' hSw
                    go_simp
                    first | done | with_reducible rfl
                  simp only [Act.put, List.setIfInBounds_toArray, List.set_cons_zero, List.set_cons_succ]
                  refine wpAnyK_takeD (i := 4) (v := ?_) (some 71) rfl rfl (by kernel_rfl) (by kernel_rfl) (by kernel_rfl) (by kernel_rfl) (by decide) (fun _ _ _ h => h) (by assumption) (Or.inl ⟨by rfl, ?_⟩) ?_
                  rotate_left 1
                  · intro w' hSw
                    have cF := hc w' hSw
                    go_simp
                    first | done | with_reducible rfl
                  simp only [Act.put, List.setIfInBounds_toArray, List.set_cons_zero, List.set_cons_succ]
                  refine wpAnyK_takeD (i := 5) (v := ?_) (some 72) rfl rfl (by kernel_rfl) (by kernel_rfl) (by kernel_rfl) (by kernel_rfl) (by decide) (fun _ _ _ h => h) (by assumption) (Or.inl ⟨by rfl, ?_⟩) ?_
                  rotate_left 1
                  · intro w' hSw
                    have cF := hc w' hSw
                    go_simp
                    first | done | with_reducible rfl
                  simp only [Act.put, List.setIfInBounds_toArray, List.set_cons_zero, List.set_cons_succ]
                  refine wpAnyK_takeD (i := 6) (v := ?_) (some 73) rfl rfl (by kernel_rfl) (by kernel_rfl) (by kernel_rfl) (by kernel_rfl) (by decide) (fun _ _ _ h => h) (by assumption) (Or.inl ⟨by rfl, ?_⟩) ?_
                  rotate_left 1
                  · intro w' hSw
                    have cF := hc w' hSw
                    go_simp
                    first | done | with_reducible rfl
                  simp only [Act.put, List.setIfInBounds_toArray, List.set_cons_zero, List.set_cons_succ]
                  refine wpAnyK_takeD (i := 7) (v := ?_) (some 74) rfl rfl (by kernel_rfl) (by kernel_rfl) (by kernel_rfl) (by kernel_rfl) (by decide) (fun _ _ _ h => h) (by assumption) (Or.inl ⟨by rfl, ?_⟩) ?_
                  rotate_left 1
                  · intro w' hSw
                    have cF := hc w' hSw
                    go_simp
                    first | done | with_reducible rfl
                  simp only [Act.put, List.setIfInBounds_toArray, List.set_cons_zero, List.set_cons_succ]
                  refine wpAnyK_takeD (i := 9) (v := ?_) (some 76) rfl rfl (by kernel_rfl) (by kernel_rfl) (by kernel_rfl) (by kernel_rfl) (by decide) (fun _ _ _ h => h) (by assumption) (Or.inl ⟨by rfl, ?_⟩) ?_
                  rotate_left 1
                  · intro w' hSw
                    have cF := hc w' hSw
                    go_simp
                    first | done | with_reducible rfl
                  simp only [Act.put, List.setIfInBounds_toArray, List.set_cons_zero, List.set_cons_succ]
                  refine wpAnyK_takeD (i := 10) (v := ?_) (some 77) rfl rfl (by kernel_rfl) (by kernel_rfl) (by kernel_rfl) (by kernel_rfl) (by decide) (fun _ _ _ h => h) (by assumption) (Or.inl ⟨by rfl, ?_⟩) ?_
                  rotate_left 1
                  · intro w' hSw
                    have cF := hc w' hSw
                    go_simp
                    first | done | with_reducible rfl
                  simp only [Act.put, List.setIfInBounds_toArray, List.set_cons_zero, List.set_cons_succ]
                  refine wpAnyK_takeD (i := 11) (v := ?_) (some 78) rfl rfl (by kernel_rfl) (by kernel_rfl) (by kernel_rfl) (by kernel_rfl) (by decide) (fun _ _ _ h => h) (by assumption) (Or.inl ⟨by rfl, ?_⟩) ?_
                  rotate_left 1
                  · intro w' hSw
                    have cF := hc w' hSw
                    go_simp
                    first | done | with_reducible rfl
                  simp only [Act.put, List.setIfInBounds_toArray, List.set_cons_zero, List.set_cons_succ]
                  refine wpAnyK_takeD (i := 12) (v := ?_) (some 79) rfl rfl (by kernel_rfl) (by kernel_rfl) (by kernel_rfl) (by kernel_rfl) (by decide) (fun _ _ _ h => h) (by assumption) (Or.inl ⟨by rfl, ?_⟩) ?_
                  rotate_left 1
                  · intro w' hSw
                    have cF := hc w' hSw
                    go_simp
                    first | done | with_reducible rfl
                  simp only [Act.put, List.setIfInBounds_toArray, List.set_cons_zero, List.set_cons_succ]
                  refine wpAnyK_takeD (i := 15) (v := ?_) (some 82) rfl rfl (by kernel_rfl) (by kernel_rfl) (by kernel_rfl) (by kernel_rfl) (by decide) (fun _ _ _ h => h) (by assumption) (Or.inl ⟨by rfl, ?_⟩) ?_
                  rotate_left 1
                  · intro w' hSw
                    have cF := hc w' hSw
                    go_simp
                    first | done | with_reducible rfl
                  simp only [Act.put, List.setIfInBounds_toArray, List.set_cons_zero, List.set_cons_succ]
                  refine wpAnyK_takeD (i := 16) (v := ?_) (some 83) rfl rfl (by kernel_rfl) (by kernel_rfl) (by kernel_rfl) (by kernel_rfl) (by decide) (fun _ _ _ h => h) (by assumption) (Or.inl ⟨by rfl, ?_⟩) ?_
                  rotate_left 1
                  · intro w' hSw
                    have cF := hc w' hSw
                    go_simp
                    first | done | with_reducible rfl
                  simp only [Act.put, List.setIfInBounds_toArray, List.set_cons_zero, List.set_cons_succ]
                  refine wpAnyK_takeD (i := 17) (v := ?_) (some 84) rfl rfl (by kernel_rfl) (by kernel_rfl) (by kernel_rfl) (by kernel_rfl) (by decide) (fun _ _ _ h => h) (by assumption) (Or.inl ⟨by rfl, ?_⟩) ?_
                  rotate_left 1
                  · intro w' hSw
                    have cF := hc w' hSw
                    go_simp
                    first | done | with_reducible rfl
                  simp only [Act.put, List.setIfInBounds_toArray, List.set_cons_zero, List.set_cons_succ]
                  refine wpAnyK_takeD (i := 18) (v := ?_) (some 85) rfl rfl (by kernel_rfl) (by kernel_rfl) (by kernel_rfl) (by kernel_rfl) (by decide) (fun _ _ _ h => h) (by assumption) (Or.inl ⟨by rfl, ?_⟩) ?_
                  rotate_left 1
                  · intro w' hSw
                    have cF := hc w' hSw
                    go_simp
                    first | done | with_reducible rfl
                  simp only [Act.put, List.setIfInBounds_toArray, List.set_cons_zero, List.set_cons_succ]
                  refine wpAnyK_takeD (i := 19) (v := ?_) (some 86) rfl rfl (by kernel_rfl) (by kernel_rfl) (by kernel_rfl) (by kernel_rfl) (by decide) (fun _ _ _ h => h) (by assumption) (Or.inl ⟨by rfl, ?_⟩) ?_
                  rotate_left 1
                  · intro w' hSw
                    have cF := hc w' hSw
                    go_simp
                    first | done | with_reducible rfl
                  simp only [Act.put, List.setIfInBounds_toArray, List.set_cons_zero, List.set_cons_succ]
                  refine wpAnyK_takeD (i := 20) (v := ?_) (some 87) rfl rfl (by kernel_rfl) (by kernel_rfl) (by kernel_rfl) (by kernel_rfl) (by decide) (fun _ _ _ h => h) (by assumption) (Or.inl ⟨by rfl, ?_⟩) ?_
                  rotate_left 1
                  · intro w' hSw
                    have cF := hc w' hSw
                    go_simp
                    first | done | with_reducible rfl
                  simp only [Act.put, List.setIfInBounds_toArray, List.set_cons_zero, List.set_cons_succ]
                  refine wpAnyK_ready (rs := [1, 13]) (by kernel_rfl) (by simp) ?_
                  refine AllReadyK.cons rfl (fun K' hK => ?_) ?_
                  · go_simp
                    have bw6 := hbd.trans ((belowNew w5 (.cells #[] 55)).mono hbd.size)
                    have hOw6 : (w5.alloc (.cells #[] 55)).ownsRow wr.heap.size 55 thingK.n (.slice (some ⟨w5.heap.size, 0, none⟩) 0 0) 0 [] := World.ownsRow_made w5 #[] 0 hbd.size (by unfold maxLen; omega) (by simp)
                    have hsw6 : w5.heap.size < (w5.alloc (.cells #[] 55)).heap.size := by rw [alloc_size]; omega
                    obtain ⟨w6, hww6⟩ : ∃ q, w5.alloc (.cells #[] 55) = q := ⟨_, rfl⟩
                    rw [hww6] at bw6 hOw6 hsw6 ⊢
                    refine hK.out _ _ (fun _ => bw6) ?_
                    clear hK K' hww6
                    refine wpAnyK_ready (rs := [8, 13]) (by kernel_rfl) (by simp) ?_
                    refine AllReadyK.consD (some 75) rfl rfl (fun K' hK => ?_) ?_
                    · refine step_ownR (K := thingK) w6 (by rfl) _ _ 35 (by rfl) wr.heap.size 55 i0 _ 40 Try.underlying35 hi0 hz0 hz1 hz2 hz3 _ _ _ _ _ (by rfl) hOw6 _ _ _ hTl (Nat.zero_add _) (by rfl) (hrT _ bw6) hnT.out m1 m2 bw6.size ?_
                      intro aw7 cw7 w7 hOw7 hkw7
                      have bw7 := bw6.trans (Kept.below hkw7 bw6.size (fun k hk => (hOw6.lt k hk).1))
                      refine hK.out _ _ (fun _ => bw7) ?_
                      clear hK K' hkw7
                      simp only [Act.put, List.setIfInBounds_toArray, List.set_cons_zero, List.set_cons_succ]
                      refine wpAnyK_ready (rs := [13]) (by kernel_rfl) (by simp) ?_
                      refine AllReadyK.cons rfl (fun K' hK => ?_) ?_
                      · go_simp
                        have bw8 := bw7.trans ((belowNew w7 (.cells #[.string id, .int .i64 round, .string s] 55)).mono bw7.size)
                        have hRw8 := thingOne w7 ⟨id, round, s⟩
                        have hsw8 : w7.heap.size < (w7.alloc (.cells #[.string id, .int .i64 round, .string s] 55)).heap.size := by rw [alloc_size]; omega
                        have hOw8 := own_belowT hOw7 (belowNew w7 (.cells #[.string id, .int .i64 round, .string s] 55))
                        obtain ⟨w8, hww8⟩ : ∃ q, w7.alloc (.cells #[.string id, .int .i64 round, .string s] 55) = q := ⟨_, rfl⟩
                        rw [hww8] at bw8 hRw8 hsw8 hOw8 ⊢
                        refine hK.out _ _ (fun _ => bw8) ?_
                        clear hK K' hww8
                        refine wpAnyK_ready (rs := [14]) (by kernel_rfl) (by simp) ?_
                        refine AllReadyK.consD (some 81) rfl rfl (fun K' hK => ?_) ?_
                        · refine step_ownR (K := thingK) w8 (by rfl) _ _ 35 (by rfl) wr.heap.size 55 i0 _ 40 Try.underlying35 hi0 hz0 hz1 hz2 hz3 _ _ _ _ _ (by rfl) hOw8 _ _ _ rfl rfl (by rfl) hRw8 (fun h => by cases h) m3 m4 bw8.size ?_
                          intro aw9 cw9 w9 hOw9 hkw9
                          have bw9 := bw8.trans (Kept.below hkw9 bw8.size (fun k hk => (hOw8.lt k hk).1))
                          refine hK.out _ _ (fun _ => bw9) ?_
                          clear hK K' hkw9
                          simp only [Act.put, List.setIfInBounds_toArray, List.set_cons_zero, List.set_cons_succ]
                          refine wpAnyK_ready (rs := [21]) (by kernel_rfl) (by simp) ?_
                          refine AllReadyK.consD (some 88) rfl rfl (fun K' hK => ?_) ?_
                          · refine step_ownR (K := thingK) w9 (by rfl) _ _ 35 (by rfl) wr.heap.size 55 i0 _ 40 Try.underlying35 hi0 hz0 hz1 hz2 hz3 _ _ _ _ _ (by rfl) hOw9 _ _ _ hDl hN3.out (by rfl) (hrD _ bw9) hnD.out m5 m6 bw9.size ?_
                            intro aw10 cw10 w10 hOw10 hkw10
                            have bw10 := bw9.trans (Kept.below hkw10 bw9.size (fun k hk => (hOw9.lt k hk).1))
                            refine hK.out _ _ (fun _ => bw10) ?_
                            clear hK K' hkw10
                            simp only [Act.put, List.setIfInBounds_toArray, List.set_cons_zero, List.set_cons_succ]
                            refine wpAnyK_ready (rs := [22]) (by kernel_rfl) (by simp) ?_
                            refine AllReadyK.cons rfl (fun K' hK => ?_) AllReadyK.nil
                            go_simp
                            refine hK.out _ _ (fun _ => bw10) ?_
                            clear hK K'
                            refine wpAnyK_ready (rs := [23]) (by kernel_rfl) (by simp) ?_
                            refine AllReadyK.cons rfl (fun K' hK => ?_) AllReadyK.nil
                            go_simp
                            refine hK.out _ _ (fun _ => bw10) ?_
                            clear hK K'
                            refine wpAnyK_ready (rs := [24]) (by kernel_rfl) (by simp) ?_
                            refine AllReadyK.cons rfl (fun K' hK => ?_) AllReadyK.nil
                            have cF := hc w10 bw10
                            have fF := (hbox.below bw10 hbox.lt).frozen 1
                            go_simp
                            have hq := KQ.joined (K := thingK) (T := 55) (lo := lo) (fun _ _ h => h.elim) (fun _ => trivial) hOw10 HL.out HN.out
                            obtain ⟨hF, hfr, hkF⟩ := h3.newRow bw10 hq (by have := HN.out; omega)
                            have hfrF : FreshQ w _ _ := fun g hg => (hfr g hg).imp (fun e => e) (fun e => by have := hbq.size; omega)
                            have hkG := (Kept.of_below (S := BoxS rb _) hbq).trans hkF
                            refine hK.out _ _ (fun h => absurd rfl h) ?_
                            clear hK K'
                            refine wpAnyK_done (by kernel_rfl) ?_ _
                            go_wp2
                            go_ret
                            exact ⟨by rw [hE4.out]; rfl, _, hF, hfrF, hkG⟩
                          exact AllReadyK.nil
                        exact AllReadyK.nil
                      exact AllReadyK.nil
                    refine AllReadyK.cons rfl (fun K' hK => ?_) ?_
                    · go_simp
                      have bw11 := bw6.trans ((belowNew w6 (.cells #[.string id, .int .i64 round, .string s] 55)).mono bw6.size)
                      have hRw11 := thingOne w6 ⟨id, round, s⟩
                      have hsw11 : w6.heap.size < (w6.alloc (.cells #[.string id, .int .i64 round, .string s] 55)).heap.size := by rw [alloc_size]; omega
                      have hOw11 := own_belowT hOw6 (belowNew w6 (.cells #[.string id, .int .i64 round, .string s] 55))
                      obtain ⟨w11, hww11⟩ : ∃ q, w6.alloc (.cells #[.string id, .int .i64 round, .string s] 55) = q := ⟨_, rfl⟩
                      rw [hww11] at bw11 hRw11 hsw11 hOw11 ⊢
                      refine hK.out _ _ (fun _ => bw11) ?_
                      clear hK K' hww11
                      refine wpAnyK_ready (rs := [8]) (by kernel_rfl) (by simp) ?_
                      refine AllReadyK.consD (some 75) rfl rfl (fun K' hK => ?_) ?_
                      · refine step_ownR (K := thingK) w11 (by rfl) _ _ 35 (by rfl) wr.heap.size 55 i0 _ 40 Try.underlying35 hi0 hz0 hz1 hz2 hz3 _ _ _ _ _ (by rfl) hOw11 _ _ _ hTl (Nat.zero_add _) (by rfl) (hrT _ bw11) hnT.out m1 m2 bw11.size ?_
                        intro aw12 cw12 w12 hOw12 hkw12
                        have bw12 := bw11.trans (Kept.below hkw12 bw11.size (fun k hk => (hOw11.lt k hk).1))
                        have hRw12 := hRw11.kept hkw12 (fun k hk e => by
                          rcases hk with ⟨_, off', e'⟩ | ⟨_, _, f'⟩
                          · simp at e'
                            simp [Value.ownBlock] at e
                            omega
                          · exact f'.elim)
                        refine hK.out _ _ (fun _ => bw12) ?_
                        clear hK K' hkw12
                        simp only [Act.put, List.setIfInBounds_toArray, List.set_cons_zero, List.set_cons_succ]
                        refine wpAnyK_ready (rs := [14]) (by kernel_rfl) (by simp) ?_
                        refine AllReadyK.consD (some 81) rfl rfl (fun K' hK => ?_) ?_
                        · refine step_ownR (K := thingK) w12 (by rfl) _ _ 35 (by rfl) wr.heap.size 55 i0 _ 40 Try.underlying35 hi0 hz0 hz1 hz2 hz3 _ _ _ _ _ (by rfl) hOw12 _ _ _ rfl rfl (by rfl) hRw12 (fun h => by cases h) m3 m4 bw12.size ?_
                          intro aw13 cw13 w13 hOw13 hkw13
                          have bw13 := bw12.trans (Kept.below hkw13 bw12.size (fun k hk => (hOw12.lt k hk).1))
                          refine hK.out _ _ (fun _ => bw13) ?_
                          clear hK K' hkw13
                          simp only [Act.put, List.setIfInBounds_toArray, List.set_cons_zero, List.set_cons_succ]
                          refine wpAnyK_ready (rs := [21]) (by kernel_rfl) (by simp) ?_
                          refine AllReadyK.consD (some 88) rfl rfl (fun K' hK => ?_) ?_
                          · refine step_ownR (K := thingK) w13 (by rfl) _ _ 35 (by rfl) wr.heap.size 55 i0 _ 40 Try.underlying35 hi0 hz0 hz1 hz2 hz3 _ _ _ _ _ (by rfl) hOw13 _ _ _ hDl hN3.out (by rfl) (hrD _ bw13) hnD.out m5 m6 bw13.size ?_
                            intro aw14 cw14 w14 hOw14 hkw14
                            have bw14 := bw13.trans (Kept.below hkw14 bw13.size (fun k hk => (hOw13.lt k hk).1))
                            refine hK.out _ _ (fun _ => bw14) ?_
                            clear hK K' hkw14
                            simp only [Act.put, List.setIfInBounds_toArray, List.set_cons_zero, List.set_cons_succ]
                            refine wpAnyK_ready (rs := [22]) (by kernel_rfl) (by simp) ?_
                            refine AllReadyK.cons rfl (fun K' hK => ?_) AllReadyK.nil
                            go_simp
                            refine hK.out _ _ (fun _ => bw14) ?_
                            clear hK K'
                            refine wpAnyK_ready (rs := [23]) (by kernel_rfl) (by simp) ?_
                            refine AllReadyK.cons rfl (fun K' hK => ?_) AllReadyK.nil
                            go_simp
                            refine hK.out _ _ (fun _ => bw14) ?_
                            clear hK K'
                            refine wpAnyK_ready (rs := [24]) (by kernel_rfl) (by simp) ?_
                            refine AllReadyK.cons rfl (fun K' hK => ?_) AllReadyK.nil
                            have cF := hc w14 bw14
                            have fF := (hbox.below bw14 hbox.lt).frozen 1
                            go_simp
                            have hq := KQ.joined (K := thingK) (T := 55) (lo := lo) (fun _ _ h => h.elim) (fun _ => trivial) hOw14 HL.out HN.out
                            obtain ⟨hF, hfr, hkF⟩ := h3.newRow bw14 hq (by have := HN.out; omega)
                            have hfrF : FreshQ w _ _ := fun g hg => (hfr g hg).imp (fun e => e) (fun e => by have := hbq.size; omega)
                            have hkG := (Kept.of_below (S := BoxS rb _) hbq).trans hkF
                            refine hK.out _ _ (fun h => absurd rfl h) ?_
                            clear hK K'
                            refine wpAnyK_done (by kernel_rfl) ?_ _
                            go_wp2
                            go_ret
                            exact ⟨by rw [hE4.out]; rfl, _, hF, hfrF, hkG⟩
                          exact AllReadyK.nil
                        exact AllReadyK.nil
                      exact AllReadyK.nil
                    exact AllReadyK.nil
                  refine AllReadyK.cons rfl (fun K' hK => ?_) ?_
                  · go_simp
                    have bw15 := hbd.trans ((belowNew w5 (.cells #[.string id, .int .i64 round, .string s] 55)).mono hbd.size)
                    have hRw15 := thingOne w5 ⟨id, round, s⟩
                    have hsw15 : w5.heap.size < (w5.alloc (.cells #[.string id, .int .i64 round, .string s] 55)).heap.size := by rw [alloc_size]; omega
                    obtain ⟨w15, hww15⟩ : ∃ q, w5.alloc (.cells #[.string id, .int .i64 round, .string s] 55) = q := ⟨_, rfl⟩
                    rw [hww15] at bw15 hRw15 hsw15 ⊢
                    refine hK.out _ _ (fun _ => bw15) ?_
                    clear hK K' hww15
                    refine wpAnyK_ready (rs := [1]) (by kernel_rfl) (by simp) ?_
                    refine AllReadyK.cons rfl (fun K' hK => ?_) ?_
                    · go_simp
                      have bw16 := bw15.trans ((belowNew w15 (.cells #[] 55)).mono bw15.size)
                      have hOw16 : (w15.alloc (.cells #[] 55)).ownsRow wr.heap.size 55 thingK.n (.slice (some ⟨w15.heap.size, 0, none⟩) 0 0) 0 [] := World.ownsRow_made w15 #[] 0 bw15.size (by unfold maxLen; omega) (by simp)
                      have hsw16 : w15.heap.size < (w15.alloc (.cells #[] 55)).heap.size := by rw [alloc_size]; omega
                      have hRw16 := hRw15.below (belowNew w15 (.cells #[] 55))
                      obtain ⟨w16, hww16⟩ : ∃ q, w15.alloc (.cells #[] 55) = q := ⟨_, rfl⟩
                      rw [hww16] at bw16 hOw16 hsw16 hRw16 ⊢
                      refine hK.out _ _ (fun _ => bw16) ?_
                      clear hK K' hww16
                      refine wpAnyK_ready (rs := [8]) (by kernel_rfl) (by simp) ?_
                      refine AllReadyK.consD (some 75) rfl rfl (fun K' hK => ?_) ?_
                      · refine step_ownR (K := thingK) w16 (by rfl) _ _ 35 (by rfl) wr.heap.size 55 i0 _ 40 Try.underlying35 hi0 hz0 hz1 hz2 hz3 _ _ _ _ _ (by rfl) hOw16 _ _ _ hTl (Nat.zero_add _) (by rfl) (hrT _ bw16) hnT.out m1 m2 bw16.size ?_
                        intro aw17 cw17 w17 hOw17 hkw17
                        have bw17 := bw16.trans (Kept.below hkw17 bw16.size (fun k hk => (hOw16.lt k hk).1))
                        have hRw17 := hRw16.kept hkw17 (fun k hk e => by
                          rcases hk with ⟨_, off', e'⟩ | ⟨_, _, f'⟩
                          · simp at e'
                            simp [Value.ownBlock] at e
                            omega
                          · exact f'.elim)
                        refine hK.out _ _ (fun _ => bw17) ?_
                        clear hK K' hkw17
                        simp only [Act.put, List.setIfInBounds_toArray, List.set_cons_zero, List.set_cons_succ]
                        refine wpAnyK_ready (rs := [14]) (by kernel_rfl) (by simp) ?_
                        refine AllReadyK.consD (some 81) rfl rfl (fun K' hK => ?_) ?_
                        · refine step_ownR (K := thingK) w17 (by rfl) _ _ 35 (by rfl) wr.heap.size 55 i0 _ 40 Try.underlying35 hi0 hz0 hz1 hz2 hz3 _ _ _ _ _ (by rfl) hOw17 _ _ _ rfl rfl (by rfl) hRw17 (fun h => by cases h) m3 m4 bw17.size ?_
                          intro aw18 cw18 w18 hOw18 hkw18
                          have bw18 := bw17.trans (Kept.below hkw18 bw17.size (fun k hk => (hOw17.lt k hk).1))
                          refine hK.out _ _ (fun _ => bw18) ?_
                          clear hK K' hkw18
                          simp only [Act.put, List.setIfInBounds_toArray, List.set_cons_zero, List.set_cons_succ]
                          refine wpAnyK_ready (rs := [21]) (by kernel_rfl) (by simp) ?_
                          refine AllReadyK.consD (some 88) rfl rfl (fun K' hK => ?_) ?_
                          · refine step_ownR (K := thingK) w18 (by rfl) _ _ 35 (by rfl) wr.heap.size 55 i0 _ 40 Try.underlying35 hi0 hz0 hz1 hz2 hz3 _ _ _ _ _ (by rfl) hOw18 _ _ _ hDl hN3.out (by rfl) (hrD _ bw18) hnD.out m5 m6 bw18.size ?_
                            intro aw19 cw19 w19 hOw19 hkw19
                            have bw19 := bw18.trans (Kept.below hkw19 bw18.size (fun k hk => (hOw18.lt k hk).1))
                            refine hK.out _ _ (fun _ => bw19) ?_
                            clear hK K' hkw19
                            simp only [Act.put, List.setIfInBounds_toArray, List.set_cons_zero, List.set_cons_succ]
                            refine wpAnyK_ready (rs := [22]) (by kernel_rfl) (by simp) ?_
                            refine AllReadyK.cons rfl (fun K' hK => ?_) AllReadyK.nil
                            go_simp
                            refine hK.out _ _ (fun _ => bw19) ?_
                            clear hK K'
                            refine wpAnyK_ready (rs := [23]) (by kernel_rfl) (by simp) ?_
                            refine AllReadyK.cons rfl (fun K' hK => ?_) AllReadyK.nil
                            go_simp
                            refine hK.out _ _ (fun _ => bw19) ?_
                            clear hK K'
                            refine wpAnyK_ready (rs := [24]) (by kernel_rfl) (by simp) ?_
                            refine AllReadyK.cons rfl (fun K' hK => ?_) AllReadyK.nil
                            have cF := hc w19 bw19
                            have fF := (hbox.below bw19 hbox.lt).frozen 1
                            go_simp
                            have hq := KQ.joined (K := thingK) (T := 55) (lo := lo) (fun _ _ h => h.elim) (fun _ => trivial) hOw19 HL.out HN.out
                            obtain ⟨hF, hfr, hkF⟩ := h3.newRow bw19 hq (by have := HN.out; omega)
                            have hfrF : FreshQ w _ _ := fun g hg => (hfr g hg).imp (fun e => e) (fun e => by have := hbq.size; omega)
                            have hkG := (Kept.of_below (S := BoxS rb _) hbq).trans hkF
                            refine hK.out _ _ (fun h => absurd rfl h) ?_
                            clear hK K'
                            refine wpAnyK_done (by kernel_rfl) ?_ _
                            go_wp2
                            go_ret
                            exact ⟨by rw [hE4.out]; rfl, _, hF, hfrF, hkG⟩
                          exact AllReadyK.nil
                        exact AllReadyK.nil
                      exact AllReadyK.nil
                    exact AllReadyK.nil
                  exact AllReadyK.nil
                · have hci := eq_false hcp
                  obtain ⟨b, off, an⟩ := ad
                  obtain rfl : an = none := hpn (by omega) _ rfl
                  have hrD : ∀ U, Below wr.heap.size wr U → RowAt thingK U (some ⟨b, off + i * 3, none⟩) (l.drop i) := fun U hb => (hRow.below hb).dropG i
                  have hnD : Hid (some (⟨b, off + i * 3, none⟩ : Addr) = none → cap - i = 0) := fun h => by cases h
                  clear hcp hil2
                  have hc := fun w' (hb : Below wr.heap.size wr w') => (h3.box.below hb h3.box.lt).cell (i := 1) rfl
                  have hbox := h3.box
                  have j1 : (0 : Int) ≤ (i : Int) := by omega
                  have j2 : (i : Int) ≤ (cap : Int) := by have := Hip.out; omega
                  have j3 : (i : Int) ≤ (l.length : Int) := by have := Hip.out; omega
                  have hTl : (l.take i).length = i := by rw [List.length_take]; have := Hip.out; omega
                  have hDl : (l.drop i).length = l.length - i := List.length_drop
                  have hN3 : Hid (i + 1 + (l.length - i) = l.length + 1) := by show i + 1 + (l.length - i) = l.length + 1; have := Hip.out; omega
                  have hrT := fun U (hb : Below wr.heap.size wr U) => (hRow.below hb).take i
                  have hnT : Hid _ := hnil
                  have m1 : i ≤ maxLen := by have := Hip.out; unfold maxLen; omega
                  have m2 : i * 40 ≤ 140737488355328 := by have := Hip.out; omega
                  have m3 : i + 1 ≤ maxLen := by have := Hip.out; unfold maxLen; omega
                  have m4 : (i + 1) * 40 ≤ 140737488355328 := by have := Hip.out; omega
                  have m5 : l.length + 1 ≤ maxLen := by unfold maxLen; omega
                  have m6 : (l.length + 1) * 40 ≤ 140737488355328 := by omega
                  have HL : Hid (lo = l.take i ++ ⟨id, round, s⟩ :: l.drop i) := by show lo = _; rw [hL2.out]; unfold putL; rw [Hip.out]
                  have HN : Hid (l.length + 1 = lo.length) := by
                    show l.length + 1 = lo.length
                    rw [HL.out, List.length_append, List.length_cons, hTl, hDl]
                    have := Hip.out
                    omega
                  have hbd : Below wr.heap.size wr wr.drew := below_drewN (Below.refl _ wr) 1
                  go_wp2_with fail
                  refine wp_region_K (fun w' => Below wr.heap.size wr w') 24 (by kernel_rfl) ?_
                  generalize wr.drew = w5 at hbd ⊢
                  refine wpAnyK_takeD (i := 0) (v := ?_) (some 67) rfl rfl (by kernel_rfl) (by kernel_rfl) (by kernel_rfl) (by kernel_rfl) (by decide) (fun _ _ _ h => h) (by assumption) (Or.inl ⟨by rfl, ?_⟩) ?_
                  rotate_left 1
                  · intro w' hSw
                    have cF := hc w' hSw
                    go_simp
                    first | done | with_reducible rfl
                  simp only [Act.put, List.setIfInBounds_toArray, List.set_cons_zero, List.set_cons_succ]
                  refine wpAnyK_takeD (i := 2) (v := ?_) (some 69) rfl rfl (by kernel_rfl) (by kernel_rfl) (by kernel_rfl) (by kernel_rfl) (by decide) (fun _ _ _ h => h) (by assumption) (Or.inl ⟨by rfl, ?_⟩) ?_
                  rotate_left 1
                  · intro w' hSw
                    have cF := hc w' hSw
                    go_simp
                    first | done | with_reducible rfl
                  simp only [Act.put, List.setIfInBounds_toArray, List.set_cons_zero, List.set_cons_succ]
                  refine wpAnyK_takeD (i := 3) (v := ?_) (some 70) rfl rfl (by kernel_rfl) (by kernel_rfl) (by kernel_rfl) (by kernel_rfl) (by decide) (fun _ _ _ h => h) (by assumption) (Or.inl ⟨by rfl, ?_⟩) ?_
                  rotate_left 1
                  · intro w' hSw
                    have cF := hc w' hSw
                    go_simp
                    first | done | with_reducible rfl
                  simp only [Act.put, List.setIfInBounds_toArray, List.set_cons_zero, List.set_cons_succ]
                  refine wpAnyK_takeD (i := 4) (v := ?_) (some 71) rfl rfl (by kernel_rfl) (by kernel_rfl) (by kernel_rfl) (by kernel_rfl) (by decide) (fun _ _ _ h => h) (by assumption) (Or.inl ⟨by rfl, ?_⟩) ?_
                  rotate_left 1
                  · intro w' hSw
                    have cF := hc w' hSw
                    go_simp
                    first | done | with_reducible rfl
                  simp only [Act.put, List.setIfInBounds_toArray, List.set_cons_zero, List.set_cons_succ]
                  refine wpAnyK_takeD (i := 5) (v := ?_) (some 72) rfl rfl (by kernel_rfl) (by kernel_rfl) (by kernel_rfl) (by kernel_rfl) (by decide) (fun _ _ _ h => h) (by assumption) (Or.inl ⟨by rfl, ?_⟩) ?_
                  rotate_left 1
                  · intro w' hSw
                    have cF := hc w' hSw
                    go_simp
                    first | done | with_reducible rfl
                  simp only [Act.put, List.setIfInBounds_toArray, List.set_cons_zero, List.set_cons_succ]
                  refine wpAnyK_takeD (i := 6) (v := ?_) (some 73) rfl rfl (by kernel_rfl) (by kernel_rfl) (by kernel_rfl) (by kernel_rfl) (by decide) (fun _ _ _ h => h) (by assumption) (Or.inl ⟨by rfl, ?_⟩) ?_
                  rotate_left 1
                  · intro w' hSw
                    have cF := hc w' hSw
                    go_simp
                    first | done | with_reducible rfl
                  simp only [Act.put, List.setIfInBounds_toArray, List.set_cons_zero, List.set_cons_succ]
                  refine wpAnyK_takeD (i := 7) (v := ?_) (some 74) rfl rfl (by kernel_rfl) (by kernel_rfl) (by kernel_rfl) (by kernel_rfl) (by decide) (fun _ _ _ h => h) (by assumption) (Or.inl ⟨by rfl, ?_⟩) ?_
                  rotate_left 1
                  · intro w' hSw
                    have cF := hc w' hSw
                    go_simp
                    first | done | with_reducible rfl
                  simp only [Act.put, List.setIfInBounds_toArray, List.set_cons_zero, List.set_cons_succ]
                  refine wpAnyK_takeD (i := 9) (v := ?_) (some 76) rfl rfl (by kernel_rfl) (by kernel_rfl) (by kernel_rfl) (by kernel_rfl) (by decide) (fun _ _ _ h => h) (by assumption) (Or.inl ⟨by rfl, ?_⟩) ?_
                  rotate_left 1
                  · intro w' hSw
                    have cF := hc w' hSw
                    go_simp
                    first | done | with_reducible rfl
                  simp only [Act.put, List.setIfInBounds_toArray, List.set_cons_zero, List.set_cons_succ]
                  refine wpAnyK_takeD (i := 10) (v := ?_) (some 77) rfl rfl (by kernel_rfl) (by kernel_rfl) (by kernel_rfl) (by kernel_rfl) (by decide) (fun _ _ _ h => h) (by assumption) (Or.inl ⟨by rfl, ?_⟩) ?_
                  rotate_left 1
                  · intro w' hSw
                    have cF := hc w' hSw
                    go_simp
                    first | done | with_reducible rfl
                  simp only [Act.put, List.setIfInBounds_toArray, List.set_cons_zero, List.set_cons_succ]
                  refine wpAnyK_takeD (i := 11) (v := ?_) (some 78) rfl rfl (by kernel_rfl) (by kernel_rfl) (by kernel_rfl) (by kernel_rfl) (by decide) (fun _ _ _ h => h) (by assumption) (Or.inl ⟨by rfl, ?_⟩) ?_
                  rotate_left 1
                  · intro w' hSw
                    have cF := hc w' hSw
                    go_simp
                    first | done | with_reducible rfl
                  simp only [Act.put, List.setIfInBounds_toArray, List.set_cons_zero, List.set_cons_succ]
                  refine wpAnyK_takeD (i := 12) (v := ?_) (some 79) rfl rfl (by kernel_rfl) (by kernel_rfl) (by kernel_rfl) (by kernel_rfl) (by decide) (fun _ _ _ h => h) (by assumption) (Or.inl ⟨by rfl, ?_⟩) ?_
                  rotate_left 1
                  · intro w' hSw
                    have cF := hc w' hSw
                    go_simp
                    first | done | with_reducible rfl
                  simp only [Act.put, List.setIfInBounds_toArray, List.set_cons_zero, List.set_cons_succ]
                  refine wpAnyK_takeD (i := 15) (v := ?_) (some 82) rfl rfl (by kernel_rfl) (by kernel_rfl) (by kernel_rfl) (by kernel_rfl) (by decide) (fun _ _ _ h => h) (by assumption) (Or.inl ⟨by rfl, ?_⟩) ?_
                  rotate_left 1
                  · intro w' hSw
                    have cF := hc w' hSw
                    go_simp
                    first | done | with_reducible rfl
                  simp only [Act.put, List.setIfInBounds_toArray, List.set_cons_zero, List.set_cons_succ]
                  refine wpAnyK_takeD (i := 16) (v := ?_) (some 83) rfl rfl (by kernel_rfl) (by kernel_rfl) (by kernel_rfl) (by kernel_rfl) (by decide) (fun _ _ _ h => h) (by assumption) (Or.inl ⟨by rfl, ?_⟩) ?_
                  rotate_left 1
                  · intro w' hSw
                    have cF := hc w' hSw
                    go_simp
                    first | done | with_reducible rfl
                  simp only [Act.put, List.setIfInBounds_toArray, List.set_cons_zero, List.set_cons_succ]
                  refine wpAnyK_takeD (i := 17) (v := ?_) (some 84) rfl rfl (by kernel_rfl) (by kernel_rfl) (by kernel_rfl) (by kernel_rfl) (by decide) (fun _ _ _ h => h) (by assumption) (Or.inl ⟨by rfl, ?_⟩) ?_
                  rotate_left 1
                  · intro w' hSw
                    have cF := hc w' hSw
                    go_simp
                    first | done | with_reducible rfl
                  simp only [Act.put, List.setIfInBounds_toArray, List.set_cons_zero, List.set_cons_succ]
                  refine wpAnyK_takeD (i := 18) (v := ?_) (some 85) rfl rfl (by kernel_rfl) (by kernel_rfl) (by kernel_rfl) (by kernel_rfl) (by decide) (fun _ _ _ h => h) (by assumption) (Or.inl ⟨by rfl, ?_⟩) ?_
                  rotate_left 1
                  · intro w' hSw
                    have cF := hc w' hSw
                    go_simp
                    first | done | with_reducible rfl
                  simp only [Act.put, List.setIfInBounds_toArray, List.set_cons_zero, List.set_cons_succ]
                  refine wpAnyK_takeD (i := 19) (v := ?_) (some 86) rfl rfl (by kernel_rfl) (by kernel_rfl) (by kernel_rfl) (by kernel_rfl) (by decide) (fun _ _ _ h => h) (by assumption) (Or.inl ⟨by rfl, ?_⟩) ?_
                  rotate_left 1
                  · intro w' hSw
                    have cF := hc w' hSw
                    go_simp
                    first | done | with_reducible rfl
                  simp only [Act.put, List.setIfInBounds_toArray, List.set_cons_zero, List.set_cons_succ]
                  refine wpAnyK_takeD (i := 20) (v := ?_) (some 87) rfl rfl (by kernel_rfl) (by kernel_rfl) (by kernel_rfl) (by kernel_rfl) (by decide) (fun _ _ _ h => h) (by assumption) (Or.inl ⟨by rfl, ?_⟩) ?_
                  rotate_left 1
                  · intro w' hSw
                    have cF := hc w' hSw
                    go_simp
                    first | done | with_reducible rfl
                  simp only [Act.put, List.setIfInBounds_toArray, List.set_cons_zero, List.set_cons_succ]
                  refine wpAnyK_ready (rs := [1, 13]) (by kernel_rfl) (by simp) ?_
                  refine AllReadyK.cons rfl (fun K' hK => ?_) ?_
                  · go_simp
                    have bw6 := hbd.trans ((belowNew w5 (.cells #[] 55)).mono hbd.size)
                    have hOw6 : (w5.alloc (.cells #[] 55)).ownsRow wr.heap.size 55 thingK.n (.slice (some ⟨w5.heap.size, 0, none⟩) 0 0) 0 [] := World.ownsRow_made w5 #[] 0 hbd.size (by unfold maxLen; omega) (by simp)
                    have hsw6 : w5.heap.size < (w5.alloc (.cells #[] 55)).heap.size := by rw [alloc_size]; omega
                    obtain ⟨w6, hww6⟩ : ∃ q, w5.alloc (.cells #[] 55) = q := ⟨_, rfl⟩
                    rw [hww6] at bw6 hOw6 hsw6 ⊢
                    refine hK.out _ _ (fun _ => bw6) ?_
                    clear hK K' hww6
                    refine wpAnyK_ready (rs := [8, 13]) (by kernel_rfl) (by simp) ?_
                    refine AllReadyK.consD (some 75) rfl rfl (fun K' hK => ?_) ?_
                    · refine step_ownR (K := thingK) w6 (by rfl) _ _ 35 (by rfl) wr.heap.size 55 i0 _ 40 Try.underlying35 hi0 hz0 hz1 hz2 hz3 _ _ _ _ _ (by rfl) hOw6 _ _ _ hTl (Nat.zero_add _) (by rfl) (hrT _ bw6) hnT.out m1 m2 bw6.size ?_
                      intro aw7 cw7 w7 hOw7 hkw7
                      have bw7 := bw6.trans (Kept.below hkw7 bw6.size (fun k hk => (hOw6.lt k hk).1))
                      refine hK.out _ _ (fun _ => bw7) ?_
                      clear hK K' hkw7
                      simp only [Act.put, List.setIfInBounds_toArray, List.set_cons_zero, List.set_cons_succ]
                      refine wpAnyK_ready (rs := [13]) (by kernel_rfl) (by simp) ?_
                      refine AllReadyK.cons rfl (fun K' hK => ?_) ?_
                      · go_simp
                        have bw8 := bw7.trans ((belowNew w7 (.cells #[.string id, .int .i64 round, .string s] 55)).mono bw7.size)
                        have hRw8 := thingOne w7 ⟨id, round, s⟩
                        have hsw8 : w7.heap.size < (w7.alloc (.cells #[.string id, .int .i64 round, .string s] 55)).heap.size := by rw [alloc_size]; omega
                        have hOw8 := own_belowT hOw7 (belowNew w7 (.cells #[.string id, .int .i64 round, .string s] 55))
                        obtain ⟨w8, hww8⟩ : ∃ q, w7.alloc (.cells #[.string id, .int .i64 round, .string s] 55) = q := ⟨_, rfl⟩
                        rw [hww8] at bw8 hRw8 hsw8 hOw8 ⊢
                        refine hK.out _ _ (fun _ => bw8) ?_
                        clear hK K' hww8
                        refine wpAnyK_ready (rs := [14]) (by kernel_rfl) (by simp) ?_
                        refine AllReadyK.consD (some 81) rfl rfl (fun K' hK => ?_) ?_
                        · refine step_ownR (K := thingK) w8 (by rfl) _ _ 35 (by rfl) wr.heap.size 55 i0 _ 40 Try.underlying35 hi0 hz0 hz1 hz2 hz3 _ _ _ _ _ (by rfl) hOw8 _ _ _ rfl rfl (by rfl) hRw8 (fun h => by cases h) m3 m4 bw8.size ?_
                          intro aw9 cw9 w9 hOw9 hkw9
                          have bw9 := bw8.trans (Kept.below hkw9 bw8.size (fun k hk => (hOw8.lt k hk).1))
                          refine hK.out _ _ (fun _ => bw9) ?_
                          clear hK K' hkw9
                          simp only [Act.put, List.setIfInBounds_toArray, List.set_cons_zero, List.set_cons_succ]
                          refine wpAnyK_ready (rs := [21]) (by kernel_rfl) (by simp) ?_
                          refine AllReadyK.consD (some 88) rfl rfl (fun K' hK => ?_) ?_
                          · refine step_ownR (K := thingK) w9 (by rfl) _ _ 35 (by rfl) wr.heap.size 55 i0 _ 40 Try.underlying35 hi0 hz0 hz1 hz2 hz3 _ _ _ _ _ (by rfl) hOw9 _ _ _ hDl hN3.out (by rfl) (hrD _ bw9) hnD.out m5 m6 bw9.size ?_
                            intro aw10 cw10 w10 hOw10 hkw10
                            have bw10 := bw9.trans (Kept.below hkw10 bw9.size (fun k hk => (hOw9.lt k hk).1))
                            refine hK.out _ _ (fun _ => bw10) ?_
                            clear hK K' hkw10
                            simp only [Act.put, List.setIfInBounds_toArray, List.set_cons_zero, List.set_cons_succ]
                            refine wpAnyK_ready (rs := [22]) (by kernel_rfl) (by simp) ?_
                            refine AllReadyK.cons rfl (fun K' hK => ?_) AllReadyK.nil
                            go_simp
                            refine hK.out _ _ (fun _ => bw10) ?_
                            clear hK K'
                            refine wpAnyK_ready (rs := [23]) (by kernel_rfl) (by simp) ?_
                            refine AllReadyK.cons rfl (fun K' hK => ?_) AllReadyK.nil
                            go_simp
                            refine hK.out _ _ (fun _ => bw10) ?_
                            clear hK K'
                            refine wpAnyK_ready (rs := [24]) (by kernel_rfl) (by simp) ?_
                            refine AllReadyK.cons rfl (fun K' hK => ?_) AllReadyK.nil
                            have cF := hc w10 bw10
                            have fF := (hbox.below bw10 hbox.lt).frozen 1
                            go_simp
                            have hq := KQ.joined (K := thingK) (T := 55) (lo := lo) (fun _ _ h => h.elim) (fun _ => trivial) hOw10 HL.out HN.out
                            obtain ⟨hF, hfr, hkF⟩ := h3.newRow bw10 hq (by have := HN.out; omega)
                            have hfrF : FreshQ w _ _ := fun g hg => (hfr g hg).imp (fun e => e) (fun e => by have := hbq.size; omega)
                            have hkG := (Kept.of_below (S := BoxS rb _) hbq).trans hkF
                            refine hK.out _ _ (fun h => absurd rfl h) ?_
                            clear hK K'
                            refine wpAnyK_done (by kernel_rfl) ?_ _
                            go_wp2
                            go_ret
                            exact ⟨by rw [hE4.out]; rfl, _, hF, hfrF, hkG⟩
                          exact AllReadyK.nil
                        exact AllReadyK.nil
                      exact AllReadyK.nil
                    refine AllReadyK.cons rfl (fun K' hK => ?_) ?_
                    · go_simp
                      have bw11 := bw6.trans ((belowNew w6 (.cells #[.string id, .int .i64 round, .string s] 55)).mono bw6.size)
                      have hRw11 := thingOne w6 ⟨id, round, s⟩
                      have hsw11 : w6.heap.size < (w6.alloc (.cells #[.string id, .int .i64 round, .string s] 55)).heap.size := by rw [alloc_size]; omega
                      have hOw11 := own_belowT hOw6 (belowNew w6 (.cells #[.string id, .int .i64 round, .string s] 55))
                      obtain ⟨w11, hww11⟩ : ∃ q, w6.alloc (.cells #[.string id, .int .i64 round, .string s] 55) = q := ⟨_, rfl⟩
                      rw [hww11] at bw11 hRw11 hsw11 hOw11 ⊢
                      refine hK.out _ _ (fun _ => bw11) ?_
                      clear hK K' hww11
                      refine wpAnyK_ready (rs := [8]) (by kernel_rfl) (by simp) ?_
                      refine AllReadyK.consD (some 75) rfl rfl (fun K' hK => ?_) ?_
                      · refine step_ownR (K := thingK) w11 (by rfl) _ _ 35 (by rfl) wr.heap.size 55 i0 _ 40 Try.underlying35 hi0 hz0 hz1 hz2 hz3 _ _ _ _ _ (by rfl) hOw11 _ _ _ hTl (Nat.zero_add _) (by rfl) (hrT _ bw11) hnT.out m1 m2 bw11.size ?_
                        intro aw12 cw12 w12 hOw12 hkw12
                        have bw12 := bw11.trans (Kept.below hkw12 bw11.size (fun k hk => (hOw11.lt k hk).1))
                        have hRw12 := hRw11.kept hkw12 (fun k hk e => by
                          rcases hk with ⟨_, off', e'⟩ | ⟨_, _, f'⟩
                          · simp at e'
                            simp [Value.ownBlock] at e
                            omega
                          · exact f'.elim)
                        refine hK.out _ _ (fun _ => bw12) ?_
                        clear hK K' hkw12
                        simp only [Act.put, List.setIfInBounds_toArray, List.set_cons_zero, List.set_cons_succ]
                        refine wpAnyK_ready (rs := [14]) (by kernel_rfl) (by simp) ?_
                        refine AllReadyK.consD (some 81) rfl rfl (fun K' hK => ?_) ?_
                        · refine step_ownR (K := thingK) w12 (by rfl) _ _ 35 (by rfl) wr.heap.size 55 i0 _ 40 Try.underlying35 hi0 hz0 hz1 hz2 hz3 _ _ _ _ _ (by rfl) hOw12 _ _ _ rfl rfl (by rfl) hRw12 (fun h => by cases h) m3 m4 bw12.size ?_
                          intro aw13 cw13 w13 hOw13 hkw13
                          have bw13 := bw12.trans (Kept.below hkw13 bw12.size (fun k hk => (hOw12.lt k hk).1))
                          refine hK.out _ _ (fun _ => bw13) ?_
                          clear hK K' hkw13
                          simp only [Act.put, List.setIfInBounds_toArray, List.set_cons_zero, List.set_cons_succ]
                          refine wpAnyK_ready (rs := [21]) (by kernel_rfl) (by simp) ?_
                          refine AllReadyK.consD (some 88) rfl rfl (fun K' hK => ?_) ?_
                          · refine step_ownR (K := thingK) w13 (by rfl) _ _ 35 (by rfl) wr.heap.size 55 i0 _ 40 Try.underlying35 hi0 hz0 hz1 hz2 hz3 _ _ _ _ _ (by rfl) hOw13 _ _ _ hDl hN3.out (by rfl) (hrD _ bw13) hnD.out m5 m6 bw13.size ?_
                            intro aw14 cw14 w14 hOw14 hkw14
                            have bw14 := bw13.trans (Kept.below hkw14 bw13.size (fun k hk => (hOw13.lt k hk).1))
                            refine hK.out _ _ (fun _ => bw14) ?_
                            clear hK K' hkw14
                            simp only [Act.put, List.setIfInBounds_toArray, List.set_cons_zero, List.set_cons_succ]
                            refine wpAnyK_ready (rs := [22]) (by kernel_rfl) (by simp) ?_
                            refine AllReadyK.cons rfl (fun K' hK => ?_) AllReadyK.nil
                            go_simp
                            refine hK.out _ _ (fun _ => bw14) ?_
                            clear hK K'
                            refine wpAnyK_ready (rs := [23]) (by kernel_rfl) (by simp) ?_
                            refine AllReadyK.cons rfl (fun K' hK => ?_) AllReadyK.nil
                            go_simp
                            refine hK.out _ _ (fun _ => bw14) ?_
                            clear hK K'
                            refine wpAnyK_ready (rs := [24]) (by kernel_rfl) (by simp) ?_
                            refine AllReadyK.cons rfl (fun K' hK => ?_) AllReadyK.nil
                            have cF := hc w14 bw14
                            have fF := (hbox.below bw14 hbox.lt).frozen 1
                            go_simp
                            have hq := KQ.joined (K := thingK) (T := 55) (lo := lo) (fun _ _ h => h.elim) (fun _ => trivial) hOw14 HL.out HN.out
                            obtain ⟨hF, hfr, hkF⟩ := h3.newRow bw14 hq (by have := HN.out; omega)
                            have hfrF : FreshQ w _ _ := fun g hg => (hfr g hg).imp (fun e => e) (fun e => by have := hbq.size; omega)
                            have hkG := (Kept.of_below (S := BoxS rb _) hbq).trans hkF
                            refine hK.out _ _ (fun h => absurd rfl h) ?_
                            clear hK K'
                            refine wpAnyK_done (by kernel_rfl) ?_ _
                            go_wp2
                            go_ret
                            exact ⟨by rw [hE4.out]; rfl, _, hF, hfrF, hkG⟩
                          exact AllReadyK.nil
                        exact AllReadyK.nil
                      exact AllReadyK.nil
                    exact AllReadyK.nil
                  refine AllReadyK.cons rfl (fun K' hK => ?_) ?_
                  · go_simp
                    have bw15 := hbd.trans ((belowNew w5 (.cells #[.string id, .int .i64 round, .string s] 55)).mono hbd.size)
                    have hRw15 := thingOne w5 ⟨id, round, s⟩
                    have hsw15 : w5.heap.size < (w5.alloc (.cells #[.string id, .int .i64 round, .string s] 55)).heap.size := by rw [alloc_size]; omega
                    obtain ⟨w15, hww15⟩ : ∃ q, w5.alloc (.cells #[.string id, .int .i64 round, .string s] 55) = q := ⟨_, rfl⟩
                    rw [hww15] at bw15 hRw15 hsw15 ⊢
                    refine hK.out _ _ (fun _ => bw15) ?_
                    clear hK K' hww15
                    refine wpAnyK_ready (rs := [1]) (by kernel_rfl) (by simp) ?_
                    refine AllReadyK.cons rfl (fun K' hK => ?_) ?_
                    · go_simp
                      have bw16 := bw15.trans ((belowNew w15 (.cells #[] 55)).mono bw15.size)
                      have hOw16 : (w15.alloc (.cells #[] 55)).ownsRow wr.heap.size 55 thingK.n (.slice (some ⟨w15.heap.size, 0, none⟩) 0 0) 0 [] := World.ownsRow_made w15 #[] 0 bw15.size (by unfold maxLen; omega) (by simp)
                      have hsw16 : w15.heap.size < (w15.alloc (.cells #[] 55)).heap.size := by rw [alloc_size]; omega
                      have hRw16 := hRw15.below (belowNew w15 (.cells #[] 55))
                      obtain ⟨w16, hww16⟩ : ∃ q, w15.alloc (.cells #[] 55) = q := ⟨_, rfl⟩
                      rw [hww16] at bw16 hOw16 hsw16 hRw16 ⊢
                      refine hK.out _ _ (fun _ => bw16) ?_
                      clear hK K' hww16
                      refine wpAnyK_ready (rs := [8]) (by kernel_rfl) (by simp) ?_
                      refine AllReadyK.consD (some 75) rfl rfl (fun K' hK => ?_) ?_
                      · refine step_ownR (K := thingK) w16 (by rfl) _ _ 35 (by rfl) wr.heap.size 55 i0 _ 40 Try.underlying35 hi0 hz0 hz1 hz2 hz3 _ _ _ _ _ (by rfl) hOw16 _ _ _ hTl (Nat.zero_add _) (by rfl) (hrT _ bw16) hnT.out m1 m2 bw16.size ?_
                        intro aw17 cw17 w17 hOw17 hkw17
                        have bw17 := bw16.trans (Kept.below hkw17 bw16.size (fun k hk => (hOw16.lt k hk).1))
                        have hRw17 := hRw16.kept hkw17 (fun k hk e => by
                          rcases hk with ⟨_, off', e'⟩ | ⟨_, _, f'⟩
                          · simp at e'
                            simp [Value.ownBlock] at e
                            omega
                          · exact f'.elim)
                        refine hK.out _ _ (fun _ => bw17) ?_
                        clear hK K' hkw17
                        simp only [Act.put, List.setIfInBounds_toArray, List.set_cons_zero, List.set_cons_succ]
                        refine wpAnyK_ready (rs := [14]) (by kernel_rfl) (by simp) ?_
                        refine AllReadyK.consD (some 81) rfl rfl (fun K' hK => ?_) ?_
                        · refine step_ownR (K := thingK) w17 (by rfl) _ _ 35 (by rfl) wr.heap.size 55 i0 _ 40 Try.underlying35 hi0 hz0 hz1 hz2 hz3 _ _ _ _ _ (by rfl) hOw17 _ _ _ rfl rfl (by rfl) hRw17 (fun h => by cases h) m3 m4 bw17.size ?_
                          intro aw18 cw18 w18 hOw18 hkw18
                          have bw18 := bw17.trans (Kept.below hkw18 bw17.size (fun k hk => (hOw17.lt k hk).1))
                          refine hK.out _ _ (fun _ => bw18) ?_
                          clear hK K' hkw18
                          simp only [Act.put, List.setIfInBounds_toArray, List.set_cons_zero, List.set_cons_succ]
                          refine wpAnyK_ready (rs := [21]) (by kernel_rfl) (by simp) ?_
                          refine AllReadyK.consD (some 88) rfl rfl (fun K' hK => ?_) ?_
                          · refine step_ownR (K := thingK) w18 (by rfl) _ _ 35 (by rfl) wr.heap.size 55 i0 _ 40 Try.underlying35 hi0 hz0 hz1 hz2 hz3 _ _ _ _ _ (by rfl) hOw18 _ _ _ hDl hN3.out (by rfl) (hrD _ bw18) hnD.out m5 m6 bw18.size ?_
                            intro aw19 cw19 w19 hOw19 hkw19
                            have bw19 := bw18.trans (Kept.below hkw19 bw18.size (fun k hk => (hOw18.lt k hk).1))
                            refine hK.out _ _ (fun _ => bw19) ?_
                            clear hK K' hkw19
                            simp only [Act.put, List.setIfInBounds_toArray, List.set_cons_zero, List.set_cons_succ]
                            refine wpAnyK_ready (rs := [22]) (by kernel_rfl) (by simp) ?_
                            refine AllReadyK.cons rfl (fun K' hK => ?_) AllReadyK.nil
                            go_simp
                            refine hK.out _ _ (fun _ => bw19) ?_
                            clear hK K'
                            refine wpAnyK_ready (rs := [23]) (by kernel_rfl) (by simp) ?_
                            refine AllReadyK.cons rfl (fun K' hK => ?_) AllReadyK.nil
                            go_simp
                            refine hK.out _ _ (fun _ => bw19) ?_
                            clear hK K'
                            refine wpAnyK_ready (rs := [24]) (by kernel_rfl) (by simp) ?_
                            refine AllReadyK.cons rfl (fun K' hK => ?_) AllReadyK.nil
                            have cF := hc w19 bw19
                            have fF := (hbox.below bw19 hbox.lt).frozen 1
                            go_simp
                            have hq := KQ.joined (K := thingK) (T := 55) (lo := lo) (fun _ _ h => h.elim) (fun _ => trivial) hOw19 HL.out HN.out
                            obtain ⟨hF, hfr, hkF⟩ := h3.newRow bw19 hq (by have := HN.out; omega)
                            have hfrF : FreshQ w _ _ := fun g hg => (hfr g hg).imp (fun e => e) (fun e => by have := hbq.size; omega)
                            have hkG := (Kept.of_below (S := BoxS rb _) hbq).trans hkF
                            refine hK.out _ _ (fun h => absurd rfl h) ?_
                            clear hK K'
                            refine wpAnyK_done (by kernel_rfl) ?_ _
                            go_wp2
                            go_ret
                            exact ⟨by rw [hE4.out]; rfl, _, hF, hfrF, hkG⟩
                          exact AllReadyK.nil
                        exact AllReadyK.nil
                      exact AllReadyK.nil
                    exact AllReadyK.nil
                  exact AllReadyK.nil
end Go.Proofs.Ytegahpgokmcjhaa
