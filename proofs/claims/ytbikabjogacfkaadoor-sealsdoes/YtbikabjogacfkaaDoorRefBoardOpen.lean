/- What the reference's Open does. -/
import Derived.Test.YtbikabjogacfkaaDoorRefBoard
import Derived.BigQuiet
import Derived.BigRegion
import Derived.Deep.QuietTactic
import Derived.Deep.RegionHeld3
namespace Go.Proofs.YtbikabjogacfkaaDoor
open Go Go.RowKit
set_option linter.unusedVariables false

/-- A word is added. -/
theorem RBd.pushed {w wC wX w8 : World} {bb vb : Nat} {q q' : Value} {rt : Nat} {kind word : ByteArray} {most : Int} {vs : List RV} (h : RBd w bb q rt kind most vs) (hb : Below w.heap.size w wC) (hC : RVAt wC vb rt kind word (vb + 1) none 0 []) (hv : w.heap.size ≤ vb) (hbx : Below wC.heap.size wC wX)
    (hQ8 : KQ ptrK 69 w8 (bb + 1) q' (vs.map (·.rb) ++ [vb])) (hk8 : Kept (fun k => q.ownBlock = some k) wX w8) (hf8 : Fresh wX q q') (hl : vs.length < 1000000) :
    RBd (w8.setCell ⟨bb, 3, none⟩ q') bb q' rt kind most (vs ++ [⟨vb, none, 0, word, noP⟩]) ∧ (∀ k, RFoot bb q' (vs ++ [⟨vb, none, 0, word, noP⟩]) k → RFoot bb q vs k ∨ w.heap.size ≤ k) ∧ Kept (RFoot bb q vs) w (w8.setCell ⟨bb, 3, none⟩ q') := by
  have hbX : Below w.heap.size w wX := hb.trans (hbx.mono hb.size)
  have hX := h.below hbX
  have hlt := h.box.lt
  have hq := fun k (e : q.ownBlock = some k) => h.row.lt k e
  have hCX := hC.below hbx
  have hvX : vb < wC.heap.size := hC.box.lt
  have hst := Kept.setCell w8 ⟨bb, 3, none⟩ q'
  have hfo : ∀ x ∈ vs, ∀ k, x.foot k → bb < k ∧ k < w.heap.size := fun x hx k hk => by
    have h1 := h.lt (Or.inr (Or.inr ⟨x, hx, hk⟩))
    have h2 := h.gt x hx
    rcases hk with e | e
    · omega
    · have := (h.at_ x hx).foot k e; omega
  have hnf : ∀ k, ¬ rowFoot tagK none (inL noP) k := fun k hk => nil_foot hk
  have hwX : w.heap.size ≤ wX.heap.size := hbX.size
  refine ⟨⟨?_, ?_, ?_, ?_, ?_, ?_, by rw [List.length_append]; simp; omega⟩, ?_, ?_⟩
  · exact (hX.box.kept hk8 (fun e => by have := hq bb e; omega)).set 3 q'
  · rw [List.map_append]
    exact hQ8.kept hst (fun k hk e => by have := (hQ8.lt k hk).1; have e' : k = bb := e; omega) (fun _ _ _ h => h.elim)
  · intro x hx
    rcases List.mem_append.1 hx with hx | hx
    · have h1 := (hX.at_ x hx).keptF hk8 (fun e => h.off x hx _ (Or.inl rfl) e) (fun k hk e => h.off x hx k (Or.inr hk) e)
      exact h1.keptF hst (fun e => by have e' : x.rb = bb := e; have := h.gt x hx; omega) (fun k hk e => by have e' : k = bb := e; have := (hfo x hx k (Or.inr hk)).1; omega)
    · rw [List.mem_singleton.1 hx]
      have h1 := hCX.keptF hk8 (fun e => by have := hq vb e; omega) (fun k hk => (nil_foot hk).elim)
      exact h1.keptF hst (fun e => by have e' : vb = bb := e; omega) (fun k hk => (nil_foot hk).elim)
  · intro x hx
    rcases List.mem_append.1 hx with hx | hx
    · exact h.gt x hx
    · rw [List.mem_singleton.1 hx]; show bb < vb; omega
  · rw [List.pairwise_append]
    refine ⟨h.apart, List.pairwise_singleton _ _, fun x hx y hy => ?_⟩
    rw [List.mem_singleton.1 hy]
    constructor
    · rintro (e | e)
      · have e' : x.rb = vb := e
        have := (hfo x hx x.rb (Or.inl rfl)).2
        omega
      · exact hnf _ e
    · intro e
      have := (hfo x hx vb e).2
      omega
  · intro x hx k hk e
    rcases List.mem_append.1 hx with hx | hx
    · rcases hf8 k e with e1 | e1
      · exact h.off x hx k hk e1
      · have := (hfo x hx k hk).2; omega
    · rw [List.mem_singleton.1 hx] at hk
      rcases hk with e2 | e2
      · have e2' : k = vb := e2
        subst e2'
        rcases hf8 k e with e1 | e1
        · have := hq k e1; omega
        · have := hbx.size; omega
      · exact hnf _ e2
  · rintro k (e | e | ⟨x, hx, e⟩)
    · exact Or.inl (Or.inl e)
    · rcases hf8 k e with e1 | e1
      · exact Or.inl (Or.inr (Or.inl e1))
      · exact Or.inr (by omega)
    · rcases List.mem_append.1 hx with hx | hx
      · exact Or.inl (Or.inr (Or.inr ⟨x, hx, e⟩))
      · rw [List.mem_singleton.1 hx] at e
        rcases e with e2 | e2
        · have e2' : k = vb := e2
          exact Or.inr (by omega)
        · exact (hnf _ e2).elim
  · have h5 : Kept (RFoot bb q vs) w w8 := (Kept.of_below hbX).trans (hk8.mono (fun k _ e => Or.inr (Or.inl e)))
    exact h5.set (p := ⟨bb, 3, none⟩) (Or.inl rfl) _

set_option maxRecDepth 100000 in
set_option maxHeartbeats 2000000 in
theorem refBOpen_any (word : ByteArray) (bb : Nat) (S : Nat → Prop) (rt : Nat) (kind : ByteArray) (most : Int) (bs : List WordB) (w : World) (h : RB w bb S rt kind most bs) (hl : bs.length < 1000000) :
    Calls Tryd.prog 10 #[.pointer (some ⟨bb, 0, none⟩), .string word] w fun e w' => e = .returned (.int .i64 (openE most bs word : Int)) ∧ ∃ S', RB w' bb S' rt kind most (openB most bs word) ∧ FreshS w S S' ∧ Kept S w w' := by
  obtain ⟨q, vs, rfl, hS, hB⟩ := h
  rw [List.length_map] at hl
  have cA := refBAt_any word bb q rt kind most vs w hB
  have hRB : ∀ w', Below w.heap.size w w' → RB w' bb S rt kind most (vs.map RV.b) ∧ FreshS w S S ∧ Kept S w w' := fun w' hb => ⟨⟨q, vs, rfl, hS, hB.below hb⟩, fun k hk => Or.inl hk, Kept.of_below hb⟩
  obtain ⟨ee, hee⟩ : ∃ z, Hid (openE most (vs.map RV.b) word = z) := ⟨_, rfl⟩
  obtain ⟨be, hbe⟩ : ∃ z, Hid (openB most (vs.map RV.b) word = z) := ⟨_, rfl⟩
  have hE := hee.out
  have hBE := hbe.out
  unfold openB at hBE
  rw [hee.out] at hBE
  rw [hee.out, hbe.out]
  unfold openE at hE
  rw [List.length_map] at hE
  cases hA : atW word (vs.map RV.b) with
  | some i =>
    rw [hA] at cA hE
    rw [if_pos (by rfl)] at hE
    subst hE
    rw [if_neg (by decide)] at hBE
    subst hBE
    have hi0 : (0 : Int) ≤ (i : Int) := by omega
    unfold atI at cA
    simp only at cA
    go_enter Tryd.func10, Tryd.ntmps10
    go_wp2_with fail
    refine cA.mono ?_
    rintro e w1 ⟨rfl, hb1⟩
    have hF := hRB w1 hb1
    clear cA hRB hB hS
    go_wp2
    go_ret
    exact ⟨rfl, S, hF.1, hF.2.1, hF.2.2⟩
  | none =>
    rw [hA] at cA hE
    rw [if_neg (by decide)] at hE
    unfold atI at cA
    simp only at cA
    obtain ⟨ao, cap, rfl, hnil, _⟩ := hB.row.form
    have hlr : (vs.map (·.rb)).length = vs.length := List.length_map _
    rw [hlr] at hB hS
    by_cases hfu : most ≤ (vs.length : Int)
    · rw [if_pos hfu] at hE
      subst hE
      rw [if_neg (by decide)] at hBE
      subst hBE
      go_enter Tryd.func10, Tryd.ntmps10
      go_wp2_with fail
      refine cA.mono ?_
      rintro e w1 ⟨rfl, hb1⟩
      have hB1 := hB.below hb1
      have c2 := hB1.box.cell (i := 2) rfl
      have c3 := hB1.box.cell (i := 3) rfl
      clear cA
      go_wp2_with fail
      go_quiet (fail)
      have hbq := below_drewN hb1 nq
      have hF := hRB _ hbq
      clear c2 c3 hB1
      go_wp2
      go_ret
      exact ⟨rfl, S, hF.1, hF.2.1, hF.2.2⟩
    · rw [if_neg hfu] at hE
      subst hE
      rw [if_pos rfl] at hBE
      obtain ⟨i0, z0, hi0, hz0, hz1, hz2, hz3⟩ := ptrInfoV
      go_enter Tryd.func10, Tryd.ntmps10
      go_wp2_with fail
      refine cA.mono ?_
      rintro e w1 ⟨rfl, hb1⟩
      have hB1 := hB.below hb1
      have c2 := hB1.box.cell (i := 2) rfl
      have c3 := hB1.box.cell (i := 3) rfl
      clear cA
      go_wp2_with fail
      go_quiet (fail)
      have hbq := below_drewN hb1 nq
      have hB2 := hB.below hbq
      generalize w1.drewN nq = w2 at hbq hB2 ⊢
      clear c2 c3 hB1 hb1
      have c0 := hB2.box.cell (i := 0) rfl
      have c1 := hB2.box.cell (i := 1) rfl
      have c3 := hB2.box.cell (i := 3) rfl
      have f3 := hB2.box.frozen 3
      have hbl : bb < w2.heap.size := hB2.box.lt
      obtain ⟨vb, hvb⟩ : ∃ z, Hid (w2.heap.size = z) := ⟨_, rfl⟩
      have cC : Calls Tryd.prog 28 #[.pointer (some ⟨rt, 0, none⟩), .string kind, .string word] w2.drew fun e w' => e = .returned (.pointer (some ⟨vb, 0, none⟩)) ∧ RVAt w' vb rt kind word (vb + 1) none 0 [] ∧ Below w2.heap.size w2 w' := by
        refine (refCollect_any rt kind word w2.drew).mono ?_
        rintro e w' ⟨rfl, h1, h2⟩
        have e2 : w2.drew.heap.size = vb := hvb.out
        rw [e2] at h1 h2 ⊢
        refine ⟨rfl, h1.rebase h1.lt (by omega), ?_⟩
        rw [← hvb.out] at h2
        exact (below_drewN (Below.refl w2.heap.size w2) 1).trans h2
      have hm1 : vs.length + 1 ≤ maxLen := by unfold maxLen; omega
      have hm2 : (vs.length + 1) * 8 ≤ 140737488355328 := by omega
      clear hB hRB
      go_wp2_with fail
      go_region_law (first
        | (go_simp; go_at_call 28; refine cC.mono ?_; rintro e wC ⟨rfl, hC, hbC⟩
           have hBC := hB2.below hbC
           have c3C := hBC.box.cell (i := 3) rfl
           have f3C := hBC.box.frozen 3
           have hbX := belowNew wC (.cells #[.pointer (some ⟨vb, 0, none⟩)] 69)
           have hBX := hBC.below hbX
           have c3X := hBX.box.cell (i := 3) rfl
           have hQ := hBX.row
           have hN1 := new_ptr wC vb
           have hN3 : bb + 1 ≤ (wC.alloc (.cells #[.pointer (some ⟨vb, 0, none⟩)] 69)).heap.size := hBX.box.lt)
        | (refine step_pushF (K := ptrK) _ (by rfl) _ _ 62 (by rfl) (bb + 1) 69 i0 _ 8 Tryd.underlying62 hi0 hz0 hz1 hz2 hz3 _ (vs.map (·.rb)) (by rfl) hQ vb trivial (fun _ h => h.elim) ⟨wC.heap.size, 0, none⟩ 1 (by rfl) hN1 (by rw [hlr]; exact hm1) (by rw [hlr]; exact hm2) hN3 ?_
           rw [hlr]
           intro ao8 cap8 w8 hQ8 hk8 hf8
           have hX8 := hBX.box.kept hk8 (fun e => by have := (hBX.row.lt _ e).1; omega)
           have c3c := hX8.cell (i := 3) rfl
           have f3c := hX8.frozen 3))
      all_goals
        obtain ⟨hF, hFr, hKF⟩ := hB2.pushed hbC hC (by rw [hvb.out]; exact Nat.le_refl _) hbX hQ8 hk8 hf8 hl
        generalize w8.setCell _ _ = w9 at hF hKF ⊢
        go_wp2
        go_ret
        have hw2 := hbq.size
        refine ⟨rfl, RFoot bb _ (vs ++ [⟨vb, none, 0, word, noP⟩]), ⟨_, _, ?_, fun k => Iff.rfl, hF⟩, fun k hk => ?_, (Kept.of_below hbq).trans (hKF.mono (fun k _ e => (hS k).2 e))⟩
        · rw [← hBE, List.map_append]
          rfl
        · rcases hFr k hk with e | e
          · exact Or.inl ((hS k).2 e)
          · exact Or.inr (by omega)
end Go.Proofs.YtbikabjogacfkaaDoor
