/- What the reference's Close does. -/
import Derived.Test.YtbikabjogacfkaaDoorRefBoard
import Derived.BigQuiet
import Derived.BigRegion
import Derived.Deep.QuietTactic
import Derived.Deep.RegionHeld3
namespace Go.Proofs.YtbikabjogacfkaaDoor
open Go Go.RowKit
set_option linter.unusedVariables false

/-- A word is taken out. -/
theorem RBd.erased {w wc : World} {bb : Nat} {q : Value} {rt : Nat} {kind : ByteArray} {most : Int} {vs : List RV} {ao' : Option Addr} {cap' N j : Nat} {LT LD : List Nat} (h : RBd w bb q rt kind most vs) (hj : j < vs.length) (hb : Below w.heap.size w wc)
    (hO : wc.ownsRow w.heap.size 69 ptrK.n (.slice ao' N cap') N ([] ++ flatK ptrK LT ++ flatK ptrK LD)) (hl : LT ++ LD = (vs.eraseIdx j).map (·.rb)) (hN : N = ((vs.eraseIdx j).map (·.rb)).length) :
    RBd (wc.setCell ⟨bb, 3, none⟩ (.slice ao' N cap')) bb (.slice ao' N cap') rt kind most (vs.eraseIdx j) ∧ (∀ k, (Value.slice ao' N cap').ownBlock = some k → w.heap.size ≤ k) ∧ Kept (fun k => k = bb) w (wc.setCell ⟨bb, 3, none⟩ (.slice ao' N cap')) := by
  have hf : [] ++ flatK ptrK LT ++ flatK ptrK LD = flatK ptrK ((vs.eraseIdx j).map (·.rb)) := by
    rw [List.nil_append, ← flatK_append, hl]
  rw [hf] at hO
  have hq := KQ.of_own (K := ptrK) (l := (vs.eraseIdx j).map (·.rb)) (fun _ _ h => h.elim) (fun _ _ => trivial) hN hO
  have hlt := h.box.lt
  have hst := Kept.setCell wc ⟨bb, 3, none⟩ (.slice ao' N cap')
  have hBc := h.below hb
  have hfo : ∀ x ∈ vs, ∀ k, x.foot k → bb < k ∧ k < w.heap.size := fun x hx k hk => by
    have h1 := h.lt (Or.inr (Or.inr ⟨x, hx, hk⟩))
    have h2 := h.gt x hx
    rcases hk with e | e
    · omega
    · have := (h.at_ x hx).foot k e; omega
  have hme : ∀ x, x ∈ vs.eraseIdx j → x ∈ vs := fun x hx => List.mem_of_mem_eraseIdx hx
  refine ⟨⟨hBc.box.set 3 _, (hq.rebase (by omega)).kept hst (fun k hk e => ?_) (fun _ _ _ h => h.elim), fun x hx => ?_, fun x hx => h.gt x (hme x hx), h.apart.sublist (List.eraseIdx_sublist _ _), fun x hx k hk e => ?_, ?_⟩, fun k hk => (hq.lt k hk).1, Kept.set (S := fun k => k = bb) (p := ⟨bb, 3, none⟩) (Kept.of_below hb) rfl _⟩
  · have := (hq.lt k hk).1
    have e' : k = bb := e
    omega
  · exact (hBc.at_ x (hme x hx)).keptF hst (fun e => by have e' : x.rb = bb := e; have := h.gt x (hme x hx); omega) (fun k hk e => by have e' : k = bb := e; have := (hfo x (hme x hx) k (Or.inr hk)).1; omega)
  · have := (hq.lt k e).1
    have := (hfo x (hme x hx) k hk).2
    omega
  · rw [List.length_eraseIdx, if_pos hj]
    have := h.few
    omega

set_option maxRecDepth 100000 in
set_option maxHeartbeats 2000000 in
theorem refBClose_none (word : ByteArray) (bb : Nat) (q : Value) (rt : Nat) (kind : ByteArray) (most : Int) (vs : List RV) (w : World) (h : RBd w bb q rt kind most vs) (hA : atW word (vs.map RV.b) = none) :
    Calls Tryd.prog 15 #[.pointer (some ⟨bb, 0, none⟩), .string word] w fun e w' => e = .returned (.tuple #[]) ∧ Below w.heap.size w w' := by
  have cA := refBAt_any word bb q rt kind most vs w h
  rw [hA] at cA
  unfold atI at cA
  simp only at cA
  go_enter Tryd.func15, Tryd.ntmps15
  go_wp2_with fail
  refine cA.mono ?_
  rintro e w1 ⟨rfl, hb1⟩
  clear cA
  go_wp2
  go_end0
  exact ⟨rfl, hb1⟩

set_option maxRecDepth 100000 in
set_option maxHeartbeats 4000000 in
theorem refBClose_at (word : ByteArray) (bb : Nat) (q : Value) (rt : Nat) (kind : ByteArray) (most : Int) (vs : List RV) (w : World) (h : RBd w bb q rt kind most vs) {j : Nat} (hA : atW word (vs.map RV.b) = some j) :
    Calls Tryd.prog 15 #[.pointer (some ⟨bb, 0, none⟩), .string word] w fun e w' => e = .returned (.tuple #[]) ∧ ∃ q', RBd w' bb q' rt kind most (vs.eraseIdx j) ∧ (∀ k, q'.ownBlock = some k → w.heap.size ≤ k) ∧ Kept (fun k => k = bb) w w' := by
  have cA := refBAt_any word bb q rt kind most vs w h
  rw [hA] at cA
  unfold atI at cA
  simp only at cA
  have hj : j < vs.length := by
    obtain ⟨x, hx, _⟩ := atW_some hA
    have := (List.getElem?_eq_some_iff.1 hx).1
    simpa using this
  obtain ⟨i0, z0, hi0, hz0, hz1, hz2, hz3⟩ := ptrInfoV
  obtain ⟨ao, cap, rfl, hnil, _⟩ := h.row.form
  clear hA
  have hfew := h.few
  have hji : (0 : Int) ≤ (j : Int) := by omega
  go_enter Tryd.func15, Tryd.ntmps15
  go_wp2_with fail
  refine cA.mono ?_
  rintro e w3 ⟨rfl, hBF⟩
  have hF := h.below hBF
  clear cA
  have hlr : (vs.map (·.rb)).length = vs.length := List.length_map _
  obtain ⟨g, off, rfl, hg1, hg2, _, hlc⟩ := hF.row.spot (by rw [hlr]; omega)
  have hRow0 : RowAt ptrK w3 (some ⟨g, off, none⟩) (vs.map (·.rb)) := by
    obtain ⟨ao2, cap2, e2, _, hr⟩ := hF.row.form
    simp only [Value.slice.injEq] at e2
    rw [e2.1]
    exact hr
  rw [hlr] at hlc
  obtain ⟨n, hn⟩ : ∃ n, Hid (vs.length = n) := ⟨_, rfl⟩
  obtain ⟨k, hk⟩ : ∃ k, Hid (j + 1 = k) := ⟨_, rfl⟩
  have hwr : IntKind.i64.wrap ((j : Int) + 1) = (k : Int) := by rw [← hk.out]; simp [IntKind.wrap, IntKind.bits, IntKind.signed]; omega
  have hjn : j < n := by have := hn.out; omega
  have hn256 : n ≤ 1000000 := by have := hn.out; omega
  rw [hn.out] at hlc
  have j0 : (0 : Int) ≤ (k : Int) := by omega
  have j1 : (j : Int) ≤ (n : Int) := by omega
  have j2 : (k : Int) ≤ (n : Int) := by have := hk.out; omega
  have j3 : (j : Int) ≤ (cap : Int) := by omega
  have j4 : (k : Int) ≤ (cap : Int) := by have := hk.out; omega
  have hc3 : ∀ w', Below w3.heap.size w3 w' → w'.cell? ⟨bb, 3, none⟩ = some (.slice (some ⟨g, off, none⟩) n cap) := fun w' hb => by
    have := (hF.box.below hb hF.box.lt).cell (i := 3) rfl
    rw [hlr, hn.out] at this
    exact this
  generalize hrbs : vs.map (·.rb) = rbs at hRow0 hlr
  have hrT := fun U (hb : Below w3.heap.size w3 U) => (hRow0.below hb).take j
  have hTl : (rbs.take j).length = j := by rw [List.length_take]; omega
  have hDl : (rbs.drop k).length = n - k := by rw [List.length_drop, hlr, hn.out]
  obtain ⟨N, hN⟩ : ∃ N, Hid (j + (n - k) = N) := ⟨_, rfl⟩
  have hEr : Hid (rbs.take j ++ rbs.drop k = (vs.eraseIdx j).map (·.rb)) := by
    show rbs.take j ++ rbs.drop k = _
    rw [List.eraseIdx_eq_take_drop_succ, List.map_append, List.map_take, List.map_drop, hrbs, hk.out]
  have m1 : j ≤ maxLen := by unfold maxLen; omega
  have m2 : j * 8 ≤ 140737488355328 := by omega
  have m5 : N ≤ maxLen := by have := hN.out; unfold maxLen; omega
  have m6 : N * 8 ≤ 140737488355328 := by have := hN.out; omega
  have hNl : Hid (N = ((vs.eraseIdx j).map (·.rb)).length) := by
    show N = _
    rw [List.length_map, List.length_eraseIdx, if_pos hj, ← hN.out, hn.out, ← hk.out]
    omega
  have hbd : Below w3.heap.size w3 w3.drew := below_drewN (Below.refl _ w3) 1
  clear hrbs
  go_wp2_with fail
  refine wp_region_K (fun w' => Below w3.heap.size w3 w') 19 (by kernel_rfl) ?_
  generalize w3.drew = w5 at hbd ⊢
  rcases (by by_cases hcp : cap = k; exact Or.inl hcp; exact Or.inr hcp : cap = k ∨ ¬ cap = k) with hcp | hcp
  · have hck := eq_true hcp
    have hdn : rbs.drop k = [] := List.drop_of_length_le (by have := hn.out; omega)
    have hrD : ∀ U, Below w3.heap.size w3 U → RowAt ptrK U (some ⟨g, off, none⟩) (rbs.drop k) := fun U _ => by rw [hdn]; exact nil_row _ _
    clear hcp hdn
    refine wpAnyK_takeD (i := 0) (v := ?_) (some 10) rfl rfl (by kernel_rfl) (by kernel_rfl) (by kernel_rfl) (by kernel_rfl) (by decide) (fun _ _ _ h => h) (by assumption) (Or.inl ⟨by rfl, ?_⟩) ?_
    rotate_left 1
    · intro w' hSw
      have c3 := hc3 w' hSw
      go_simp
      first | done | with_reducible rfl
    simp only [Act.put, List.setIfInBounds_toArray, List.set_cons_zero, List.set_cons_succ]
    refine wpAnyK_takeD (i := 2) (v := ?_) (some 12) rfl rfl (by kernel_rfl) (by kernel_rfl) (by kernel_rfl) (by kernel_rfl) (by decide) (fun _ _ _ h => h) (by assumption) (Or.inl ⟨by rfl, ?_⟩) ?_
    rotate_left 1
    · intro w' hSw
      have c3 := hc3 w' hSw
      go_simp
      first | done | with_reducible rfl
    simp only [Act.put, List.setIfInBounds_toArray, List.set_cons_zero, List.set_cons_succ]
    refine wpAnyK_takeD (i := 3) (v := ?_) (some 13) rfl rfl (by kernel_rfl) (by kernel_rfl) (by kernel_rfl) (by kernel_rfl) (by decide) (fun _ _ _ h => h) (by assumption) (Or.inl ⟨by rfl, ?_⟩) ?_
    rotate_left 1
    · intro w' hSw
      have c3 := hc3 w' hSw
      go_simp
      first | done | with_reducible rfl
    simp only [Act.put, List.setIfInBounds_toArray, List.set_cons_zero, List.set_cons_succ]
    refine wpAnyK_takeD (i := 4) (v := ?_) (some 14) rfl rfl (by kernel_rfl) (by kernel_rfl) (by kernel_rfl) (by kernel_rfl) (by decide) (fun _ _ _ h => h) (by assumption) (Or.inl ⟨by rfl, ?_⟩) ?_
    rotate_left 1
    · intro w' hSw
      have c3 := hc3 w' hSw
      go_simp
      first | done | with_reducible rfl
    simp only [Act.put, List.setIfInBounds_toArray, List.set_cons_zero, List.set_cons_succ]
    refine wpAnyK_takeD (i := 5) (v := ?_) (some 15) rfl rfl (by kernel_rfl) (by kernel_rfl) (by kernel_rfl) (by kernel_rfl) (by decide) (fun _ _ _ h => h) (by assumption) (Or.inl ⟨by rfl, ?_⟩) ?_
    rotate_left 1
    · intro w' hSw
      have c3 := hc3 w' hSw
      go_simp
      first | done | with_reducible rfl
    simp only [Act.put, List.setIfInBounds_toArray, List.set_cons_zero, List.set_cons_succ]
    refine wpAnyK_takeD (i := 6) (v := ?_) (some 16) rfl rfl (by kernel_rfl) (by kernel_rfl) (by kernel_rfl) (by kernel_rfl) (by decide) (fun _ _ _ h => h) (by assumption) (Or.inl ⟨by rfl, ?_⟩) ?_
    rotate_left 1
    · intro w' hSw
      have c3 := hc3 w' hSw
      go_simp
      first | done | with_reducible rfl
    simp only [Act.put, List.setIfInBounds_toArray, List.set_cons_zero, List.set_cons_succ]
    refine wpAnyK_takeD (i := 7) (v := ?_) (some 17) rfl rfl (by kernel_rfl) (by kernel_rfl) (by kernel_rfl) (by kernel_rfl) (by decide) (fun _ _ _ h => h) (by assumption) (Or.inl ⟨by rfl, ?_⟩) ?_
    rotate_left 1
    · intro w' hSw
      have c3 := hc3 w' hSw
      go_simp
      first | done | with_reducible rfl
    simp only [Act.put, List.setIfInBounds_toArray, List.set_cons_zero, List.set_cons_succ]
    refine wpAnyK_takeD (i := 9) (v := ?_) (some 19) rfl rfl (by kernel_rfl) (by kernel_rfl) (by kernel_rfl) (by kernel_rfl) (by decide) (fun _ _ _ h => h) (by assumption) (Or.inl ⟨by rfl, ?_⟩) ?_
    rotate_left 1
    · intro w' hSw
      have c3 := hc3 w' hSw
      go_simp
      first | done | with_reducible rfl
    simp only [Act.put, List.setIfInBounds_toArray, List.set_cons_zero, List.set_cons_succ]
    refine wpAnyK_takeD (i := 10) (v := ?_) (some 20) rfl rfl (by kernel_rfl) (by kernel_rfl) (by kernel_rfl) (by kernel_rfl) (by decide) (fun _ _ _ h => h) (by assumption) (Or.inl ⟨by rfl, ?_⟩) ?_
    rotate_left 1
    · intro w' hSw
      have c3 := hc3 w' hSw
      go_simp
      first | done | with_reducible rfl
    simp only [Act.put, List.setIfInBounds_toArray, List.set_cons_zero, List.set_cons_succ]
    refine wpAnyK_takeD (i := 11) (v := ?_) (some 21) rfl rfl (by kernel_rfl) (by kernel_rfl) (by kernel_rfl) (by kernel_rfl) (by decide) (fun _ _ _ h => h) (by assumption) (Or.inl ⟨by rfl, ?_⟩) ?_
    rotate_left 1
    · intro w' hSw
      have c3 := hc3 w' hSw
      go_simp
      first | done | with_reducible rfl
    simp only [Act.put, List.setIfInBounds_toArray, List.set_cons_zero, List.set_cons_succ]
    refine wpAnyK_takeD (i := 12) (v := ?_) (some 22) rfl rfl (by kernel_rfl) (by kernel_rfl) (by kernel_rfl) (by kernel_rfl) (by decide) (fun _ _ _ h => h) (by assumption) (Or.inl ⟨by rfl, ?_⟩) ?_
    rotate_left 1
    · intro w' hSw
      have c3 := hc3 w' hSw
      go_simp
      first | done | with_reducible rfl
    simp only [Act.put, List.setIfInBounds_toArray, List.set_cons_zero, List.set_cons_succ]
    refine wpAnyK_takeD (i := 13) (v := ?_) (some 23) rfl rfl (by kernel_rfl) (by kernel_rfl) (by kernel_rfl) (by kernel_rfl) (by decide) (fun _ _ _ h => h) (by assumption) (Or.inl ⟨by rfl, ?_⟩) ?_
    rotate_left 1
    · intro w' hSw
      have c3 := hc3 w' hSw
      go_simp
      first | done | with_reducible rfl
    simp only [Act.put, List.setIfInBounds_toArray, List.set_cons_zero, List.set_cons_succ]
    refine wpAnyK_takeD (i := 14) (v := ?_) (some 24) rfl rfl (by kernel_rfl) (by kernel_rfl) (by kernel_rfl) (by kernel_rfl) (by decide) (fun _ _ _ h => h) (by assumption) (Or.inl ⟨by rfl, ?_⟩) ?_
    rotate_left 1
    · intro w' hSw
      have c3 := hc3 w' hSw
      go_simp
      first | done | with_reducible rfl
    simp only [Act.put, List.setIfInBounds_toArray, List.set_cons_zero, List.set_cons_succ]
    refine wpAnyK_takeD (i := 15) (v := ?_) (some 25) rfl rfl (by kernel_rfl) (by kernel_rfl) (by kernel_rfl) (by kernel_rfl) (by decide) (fun _ _ _ h => h) (by assumption) (Or.inl ⟨by rfl, ?_⟩) ?_
    rotate_left 1
    · intro w' hSw
      have c3 := hc3 w' hSw
      go_simp
      first | done | with_reducible rfl
    simp only [Act.put, List.setIfInBounds_toArray, List.set_cons_zero, List.set_cons_succ]
    refine wpAnyK_ready (rs := [1]) (by kernel_rfl) (by simp) ?_
    refine AllReadyK.cons rfl (fun K' hK => ?_) AllReadyK.nil
    go_simp
    have bw6 := hbd.trans ((belowNew w5 (.cells #[] 69)).mono hbd.size)
    have hOw6 : (w5.alloc (.cells #[] 69)).ownsRow w3.heap.size 69 ptrK.n (.slice (some ⟨w5.heap.size, 0, none⟩) 0 0) 0 [] := World.ownsRow_made w5 #[] 0 hbd.size (by unfold maxLen; omega) (by simp)
    obtain ⟨w6, hw6⟩ : ∃ q, w5.alloc (.cells #[] 69) = q := ⟨_, rfl⟩
    rw [hw6] at bw6 hOw6 ⊢
    refine hK.out _ _ (fun _ => bw6) ?_
    clear hK K' hw6
    refine wpAnyK_ready (rs := [8]) (by kernel_rfl) (by simp) ?_
    refine AllReadyK.consD (some 18) rfl rfl (fun K' hK => ?_) AllReadyK.nil
    refine step_ownR (K := ptrK) w6 (by rfl) _ _ 62 (by rfl) w3.heap.size 69 i0 _ 8 Tryd.underlying62 hi0 hz0 hz1 hz2 hz3 _ _ _ _ _ (by rfl) hOw6 _ _ _ hTl (Nat.zero_add _) (by rfl) (hrT _ bw6) (fun h => by cases h) m1 m2 bw6.size ?_
    intro aw7 cw7 w7 hOw7 hkw7
    have bw7 := bw6.trans (Kept.below hkw7 bw6.size (fun k hk => (hOw6.lt k hk).1))
    refine hK.out _ _ (fun _ => bw7) ?_
    clear hK K' hkw7
    simp only [Act.put, List.setIfInBounds_toArray, List.set_cons_zero, List.set_cons_succ]
    refine wpAnyK_ready (rs := [16]) (by kernel_rfl) (by simp) ?_
    refine AllReadyK.consD (some 26) rfl rfl (fun K' hK => ?_) AllReadyK.nil
    refine step_ownR (K := ptrK) w7 (by rfl) _ _ 62 (by rfl) w3.heap.size 69 i0 _ 8 Tryd.underlying62 hi0 hz0 hz1 hz2 hz3 _ _ _ _ _ (by rfl) hOw7 _ _ _ hDl hN.out (by rfl) (hrD _ bw7) (fun h => by cases h) m5 m6 bw7.size ?_
    intro aw8 cw8 w8 hOw8 hkw8
    have bw8 := bw7.trans (Kept.below hkw8 bw7.size (fun k hk => (hOw7.lt k hk).1))
    refine hK.out _ _ (fun _ => bw8) ?_
    clear hK K' hkw8
    simp only [Act.put, List.setIfInBounds_toArray, List.set_cons_zero, List.set_cons_succ]
    refine wpAnyK_ready (rs := [17]) (by kernel_rfl) (by simp) ?_
    refine AllReadyK.cons rfl (fun K' hK => ?_) AllReadyK.nil
    go_simp
    refine hK.out _ _ (fun _ => bw8) ?_
    clear hK K'
    refine wpAnyK_ready (rs := [18]) (by kernel_rfl) (by simp) ?_
    refine AllReadyK.cons rfl (fun K' hK => ?_) AllReadyK.nil
    go_simp
    refine hK.out _ _ (fun _ => bw8) ?_
    clear hK K'
    refine wpAnyK_ready (rs := [19]) (by kernel_rfl) (by simp) ?_
    refine AllReadyK.cons rfl (fun K' hK => ?_) AllReadyK.nil
    have c3 := hc3 w8 bw8
    have f3 := (hF.box.below bw8 hF.box.lt).frozen 3
    go_simp
    obtain ⟨hC, hFr0, hKC0⟩ := hF.erased hj bw8 hOw8 hEr.out hNl.out
    refine hK.out _ _ (fun h => absurd rfl h) ?_
    clear hK K' c3 f3
    refine wpAnyK_done (by kernel_rfl) ?_ _
    have hKC := (Kept.of_below hBF).trans hKC0
    have hFC : ∀ k, (Value.slice aw8 N cw8).ownBlock = some k → w.heap.size ≤ k := fun k hk => by have := hFr0 k hk; have := hBF.size; omega
    generalize w8.setCell _ _ = wC at hC hKC ⊢
    clear hFr0 hKC0 hbd bw6 hOw6 bw7 hOw7 bw8 hOw8 hrD hrT hc3 hRow0
    go_wp2
    go_end0
    exact ⟨rfl, _, hC, hFC, hKC⟩
  · have hck := eq_false hcp
    have hrD : ∀ U, Below w3.heap.size w3 U → RowAt ptrK U (some ⟨g, off + k, none⟩) (rbs.drop k) := fun U hb => by
      have := (hRow0.below hb).dropG k
      simp only [show ptrK.n = 1 from rfl, Nat.mul_one] at this
      exact this
    clear hcp
    refine wpAnyK_takeD (i := 0) (v := ?_) (some 10) rfl rfl (by kernel_rfl) (by kernel_rfl) (by kernel_rfl) (by kernel_rfl) (by decide) (fun _ _ _ h => h) (by assumption) (Or.inl ⟨by rfl, ?_⟩) ?_
    rotate_left 1
    · intro w' hSw
      have c3 := hc3 w' hSw
      go_simp
      first | done | with_reducible rfl
    simp only [Act.put, List.setIfInBounds_toArray, List.set_cons_zero, List.set_cons_succ]
    refine wpAnyK_takeD (i := 2) (v := ?_) (some 12) rfl rfl (by kernel_rfl) (by kernel_rfl) (by kernel_rfl) (by kernel_rfl) (by decide) (fun _ _ _ h => h) (by assumption) (Or.inl ⟨by rfl, ?_⟩) ?_
    rotate_left 1
    · intro w' hSw
      have c3 := hc3 w' hSw
      go_simp
      first | done | with_reducible rfl
    simp only [Act.put, List.setIfInBounds_toArray, List.set_cons_zero, List.set_cons_succ]
    refine wpAnyK_takeD (i := 3) (v := ?_) (some 13) rfl rfl (by kernel_rfl) (by kernel_rfl) (by kernel_rfl) (by kernel_rfl) (by decide) (fun _ _ _ h => h) (by assumption) (Or.inl ⟨by rfl, ?_⟩) ?_
    rotate_left 1
    · intro w' hSw
      have c3 := hc3 w' hSw
      go_simp
      first | done | with_reducible rfl
    simp only [Act.put, List.setIfInBounds_toArray, List.set_cons_zero, List.set_cons_succ]
    refine wpAnyK_takeD (i := 4) (v := ?_) (some 14) rfl rfl (by kernel_rfl) (by kernel_rfl) (by kernel_rfl) (by kernel_rfl) (by decide) (fun _ _ _ h => h) (by assumption) (Or.inl ⟨by rfl, ?_⟩) ?_
    rotate_left 1
    · intro w' hSw
      have c3 := hc3 w' hSw
      go_simp
      first | done | with_reducible rfl
    simp only [Act.put, List.setIfInBounds_toArray, List.set_cons_zero, List.set_cons_succ]
    refine wpAnyK_takeD (i := 5) (v := ?_) (some 15) rfl rfl (by kernel_rfl) (by kernel_rfl) (by kernel_rfl) (by kernel_rfl) (by decide) (fun _ _ _ h => h) (by assumption) (Or.inl ⟨by rfl, ?_⟩) ?_
    rotate_left 1
    · intro w' hSw
      have c3 := hc3 w' hSw
      go_simp
      first | done | with_reducible rfl
    simp only [Act.put, List.setIfInBounds_toArray, List.set_cons_zero, List.set_cons_succ]
    refine wpAnyK_takeD (i := 6) (v := ?_) (some 16) rfl rfl (by kernel_rfl) (by kernel_rfl) (by kernel_rfl) (by kernel_rfl) (by decide) (fun _ _ _ h => h) (by assumption) (Or.inl ⟨by rfl, ?_⟩) ?_
    rotate_left 1
    · intro w' hSw
      have c3 := hc3 w' hSw
      go_simp
      first | done | with_reducible rfl
    simp only [Act.put, List.setIfInBounds_toArray, List.set_cons_zero, List.set_cons_succ]
    refine wpAnyK_takeD (i := 7) (v := ?_) (some 17) rfl rfl (by kernel_rfl) (by kernel_rfl) (by kernel_rfl) (by kernel_rfl) (by decide) (fun _ _ _ h => h) (by assumption) (Or.inl ⟨by rfl, ?_⟩) ?_
    rotate_left 1
    · intro w' hSw
      have c3 := hc3 w' hSw
      go_simp
      first | done | with_reducible rfl
    simp only [Act.put, List.setIfInBounds_toArray, List.set_cons_zero, List.set_cons_succ]
    refine wpAnyK_takeD (i := 9) (v := ?_) (some 19) rfl rfl (by kernel_rfl) (by kernel_rfl) (by kernel_rfl) (by kernel_rfl) (by decide) (fun _ _ _ h => h) (by assumption) (Or.inl ⟨by rfl, ?_⟩) ?_
    rotate_left 1
    · intro w' hSw
      have c3 := hc3 w' hSw
      go_simp
      first | done | with_reducible rfl
    simp only [Act.put, List.setIfInBounds_toArray, List.set_cons_zero, List.set_cons_succ]
    refine wpAnyK_takeD (i := 10) (v := ?_) (some 20) rfl rfl (by kernel_rfl) (by kernel_rfl) (by kernel_rfl) (by kernel_rfl) (by decide) (fun _ _ _ h => h) (by assumption) (Or.inl ⟨by rfl, ?_⟩) ?_
    rotate_left 1
    · intro w' hSw
      have c3 := hc3 w' hSw
      go_simp
      first | done | with_reducible rfl
    simp only [Act.put, List.setIfInBounds_toArray, List.set_cons_zero, List.set_cons_succ]
    refine wpAnyK_takeD (i := 11) (v := ?_) (some 21) rfl rfl (by kernel_rfl) (by kernel_rfl) (by kernel_rfl) (by kernel_rfl) (by decide) (fun _ _ _ h => h) (by assumption) (Or.inl ⟨by rfl, ?_⟩) ?_
    rotate_left 1
    · intro w' hSw
      have c3 := hc3 w' hSw
      go_simp
      first | done | with_reducible rfl
    simp only [Act.put, List.setIfInBounds_toArray, List.set_cons_zero, List.set_cons_succ]
    refine wpAnyK_takeD (i := 12) (v := ?_) (some 22) rfl rfl (by kernel_rfl) (by kernel_rfl) (by kernel_rfl) (by kernel_rfl) (by decide) (fun _ _ _ h => h) (by assumption) (Or.inl ⟨by rfl, ?_⟩) ?_
    rotate_left 1
    · intro w' hSw
      have c3 := hc3 w' hSw
      go_simp
      first | done | with_reducible rfl
    simp only [Act.put, List.setIfInBounds_toArray, List.set_cons_zero, List.set_cons_succ]
    refine wpAnyK_takeD (i := 13) (v := ?_) (some 23) rfl rfl (by kernel_rfl) (by kernel_rfl) (by kernel_rfl) (by kernel_rfl) (by decide) (fun _ _ _ h => h) (by assumption) (Or.inl ⟨by rfl, ?_⟩) ?_
    rotate_left 1
    · intro w' hSw
      have c3 := hc3 w' hSw
      go_simp
      first | done | with_reducible rfl
    simp only [Act.put, List.setIfInBounds_toArray, List.set_cons_zero, List.set_cons_succ]
    refine wpAnyK_takeD (i := 14) (v := ?_) (some 24) rfl rfl (by kernel_rfl) (by kernel_rfl) (by kernel_rfl) (by kernel_rfl) (by decide) (fun _ _ _ h => h) (by assumption) (Or.inl ⟨by rfl, ?_⟩) ?_
    rotate_left 1
    · intro w' hSw
      have c3 := hc3 w' hSw
      go_simp
      first | done | with_reducible rfl
    simp only [Act.put, List.setIfInBounds_toArray, List.set_cons_zero, List.set_cons_succ]
    refine wpAnyK_takeD (i := 15) (v := ?_) (some 25) rfl rfl (by kernel_rfl) (by kernel_rfl) (by kernel_rfl) (by kernel_rfl) (by decide) (fun _ _ _ h => h) (by assumption) (Or.inl ⟨by rfl, ?_⟩) ?_
    rotate_left 1
    · intro w' hSw
      have c3 := hc3 w' hSw
      go_simp
      first | done | with_reducible rfl
    simp only [Act.put, List.setIfInBounds_toArray, List.set_cons_zero, List.set_cons_succ]
    refine wpAnyK_ready (rs := [1]) (by kernel_rfl) (by simp) ?_
    refine AllReadyK.cons rfl (fun K' hK => ?_) AllReadyK.nil
    go_simp
    have bw6 := hbd.trans ((belowNew w5 (.cells #[] 69)).mono hbd.size)
    have hOw6 : (w5.alloc (.cells #[] 69)).ownsRow w3.heap.size 69 ptrK.n (.slice (some ⟨w5.heap.size, 0, none⟩) 0 0) 0 [] := World.ownsRow_made w5 #[] 0 hbd.size (by unfold maxLen; omega) (by simp)
    obtain ⟨w6, hw6⟩ : ∃ q, w5.alloc (.cells #[] 69) = q := ⟨_, rfl⟩
    rw [hw6] at bw6 hOw6 ⊢
    refine hK.out _ _ (fun _ => bw6) ?_
    clear hK K' hw6
    refine wpAnyK_ready (rs := [8]) (by kernel_rfl) (by simp) ?_
    refine AllReadyK.consD (some 18) rfl rfl (fun K' hK => ?_) AllReadyK.nil
    refine step_ownR (K := ptrK) w6 (by rfl) _ _ 62 (by rfl) w3.heap.size 69 i0 _ 8 Tryd.underlying62 hi0 hz0 hz1 hz2 hz3 _ _ _ _ _ (by rfl) hOw6 _ _ _ hTl (Nat.zero_add _) (by rfl) (hrT _ bw6) (fun h => by cases h) m1 m2 bw6.size ?_
    intro aw7 cw7 w7 hOw7 hkw7
    have bw7 := bw6.trans (Kept.below hkw7 bw6.size (fun k hk => (hOw6.lt k hk).1))
    refine hK.out _ _ (fun _ => bw7) ?_
    clear hK K' hkw7
    simp only [Act.put, List.setIfInBounds_toArray, List.set_cons_zero, List.set_cons_succ]
    refine wpAnyK_ready (rs := [16]) (by kernel_rfl) (by simp) ?_
    refine AllReadyK.consD (some 26) rfl rfl (fun K' hK => ?_) AllReadyK.nil
    refine step_ownR (K := ptrK) w7 (by rfl) _ _ 62 (by rfl) w3.heap.size 69 i0 _ 8 Tryd.underlying62 hi0 hz0 hz1 hz2 hz3 _ _ _ _ _ (by rfl) hOw7 _ _ _ hDl hN.out (by rfl) (hrD _ bw7) (fun h => by cases h) m5 m6 bw7.size ?_
    intro aw8 cw8 w8 hOw8 hkw8
    have bw8 := bw7.trans (Kept.below hkw8 bw7.size (fun k hk => (hOw7.lt k hk).1))
    refine hK.out _ _ (fun _ => bw8) ?_
    clear hK K' hkw8
    simp only [Act.put, List.setIfInBounds_toArray, List.set_cons_zero, List.set_cons_succ]
    refine wpAnyK_ready (rs := [17]) (by kernel_rfl) (by simp) ?_
    refine AllReadyK.cons rfl (fun K' hK => ?_) AllReadyK.nil
    go_simp
    refine hK.out _ _ (fun _ => bw8) ?_
    clear hK K'
    refine wpAnyK_ready (rs := [18]) (by kernel_rfl) (by simp) ?_
    refine AllReadyK.cons rfl (fun K' hK => ?_) AllReadyK.nil
    go_simp
    refine hK.out _ _ (fun _ => bw8) ?_
    clear hK K'
    refine wpAnyK_ready (rs := [19]) (by kernel_rfl) (by simp) ?_
    refine AllReadyK.cons rfl (fun K' hK => ?_) AllReadyK.nil
    have c3 := hc3 w8 bw8
    have f3 := (hF.box.below bw8 hF.box.lt).frozen 3
    go_simp
    obtain ⟨hC, hFr0, hKC0⟩ := hF.erased hj bw8 hOw8 hEr.out hNl.out
    refine hK.out _ _ (fun h => absurd rfl h) ?_
    clear hK K' c3 f3
    refine wpAnyK_done (by kernel_rfl) ?_ _
    have hKC := (Kept.of_below hBF).trans hKC0
    have hFC : ∀ k, (Value.slice aw8 N cw8).ownBlock = some k → w.heap.size ≤ k := fun k hk => by have := hFr0 k hk; have := hBF.size; omega
    generalize w8.setCell _ _ = wC at hC hKC ⊢
    clear hFr0 hKC0 hbd bw6 hOw6 bw7 hOw7 bw8 hOw8 hrD hrT hc3 hRow0
    go_wp2
    go_end0
    exact ⟨rfl, _, hC, hFC, hKC⟩
end Go.Proofs.YtbikabjogacfkaaDoor
