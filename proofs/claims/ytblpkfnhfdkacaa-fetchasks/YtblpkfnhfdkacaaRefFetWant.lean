/- The reference wants something more. -/
import Derived.Test.YtblpkfnhfdkacaaRefFet
import Derived.Deep.RegionHeld3
namespace Go.Proofs.Ytblpkfnhfdkacaa
open Go Go.RowKit
set_option linter.unusedVariables false

theorem new_ptr19 (w : World) (x : Nat) : ∀ j u, (ptrK19.c x)[j]? = some u → (w.alloc (.cells #[.pointer (some ⟨x, 0, none⟩)] 72)).cell? ((⟨w.heap.size, 0, none⟩ : Addr).add j) = some u := by
  intro j u hu
  rw [Go.WideShapes.add_plain, Nat.zero_add]
  exact (Arr.new w 72 [.pointer (some ⟨x, 0, none⟩)]).cell hu

/-- A wish more. -/
theorem rd_more {w w3 w4 w5 w8 : World} {db n : Nat} {S : Nat → Prop} {q : Value} {xs : List WiR} {id : ByteArray} {fr : List Int} {fa : Option Addr} {fc : Nat} (h : RD w db S n (xs.map (·.d))) (h1 : RT w db q n xs) (h3 : ∀ k, RFt db q xs k → S k) (hb3 : Below w.heap.size w w3) (hI : KQ intK 3 w3 w.heap.size (.slice fa fr.length fc) fr) (hl : fr.length ≤ maxLen)
    (hw4 : w4 = w3.alloc (.cells #[.string id, .slice fa fr.length fc, .int .i64 0, .int .i64 0] 74)) (hb5 : Below w4.heap.size w4 w5)
    {a8 : Option Addr} {c8 : Nat} (hQ : KQ ptrK19 72 w8 (db + 1) (.slice a8 (xs.length + 1) c8) (xs.map (·.rb) ++ [w3.heap.size])) (hk : Kept (fun k => q.ownBlock = some k) w5 w8) (hf : Fresh w5 q (.slice a8 (xs.length + 1) c8)) (he : wantE (xs.map (·.d)) id fr.length = 0) :
    ∃ S', RD (w8.setCell ⟨db, 1, none⟩ (.slice a8 (xs.length + 1) c8)) db S' n (xs.map (·.d) ++ [⟨id, fr, 0, 0⟩]) ∧ FreshS w S S' ∧ Kept S w (w8.setCell ⟨db, 1, none⟩ (.slice a8 (xs.length + 1) c8)) := by
  have hfoot : ∀ k, rowFoot intK fa fr k → w.heap.size ≤ k ∧ k < w3.heap.size := fun k hk => ⟨KQ.foot_ge hI (Nat.le_refl _) (fun _ _ _ h => h.elim) k hk, ((hI.rowOf).1).lt hk⟩
  have hN : Arr w4 w3.heap.size 74 [.string id, .slice fa fr.length fc, .int .i64 0, .int .i64 0] := by rw [hw4]; exact Arr.new w3 74 [.string id, .slice fa fr.length fc, .int .i64 0, .int .i64 0]
  have hb4 : Below w3.heap.size w3 w4 := by rw [hw4]; exact belowNew w3 _
  have z3 := hb3.size
  have z4 := hb4.size
  have z5 := hb5.size
  have hn4 := hN.lt
  have hb34 : Below w.heap.size w w5 := (hb3.trans (hb4.mono hb3.size)).trans (hb5.mono (Nat.le_trans z3 z4))
  have hqlt : ∀ k, q.ownBlock = some k → k < w.heap.size := fun k e => (h1.row.lt k e).2
  have h5 := h1.below hb34
  have hdb := h1.box.lt
  have hy : WiR.At w5 ⟨⟨id, fr, 0, 0⟩, w3.heap.size, fa, fc⟩ := ⟨hN.below hb5 hn4, ((hI.rowOf).1.below hb4).below hb5, hl, (wantE_ok.1 he).1⟩
  have kS := Kept.setCell w8 ⟨db, 1, none⟩ (.slice a8 (xs.length + 1) c8)
  have hqne : (Value.slice a8 (xs.length + 1) c8).ownBlock ≠ some db := fun e => by
    have := (hQ.lt db e).1
    omega
  have hKq : Kept (fun k => k = db ∨ q.ownBlock = some k) w5 (w8.setCell ⟨db, 1, none⟩ (.slice a8 (xs.length + 1) c8)) := (hk.mono (fun k _ e => Or.inr e)).trans (kS.mono (fun k _ e => Or.inl e))
  have hK : Kept S w (w8.setCell ⟨db, 1, none⟩ (.slice a8 (xs.length + 1) c8)) := (Kept.of_below hb34).trans (hKq.mono (fun k _ e => h3 k (e.elim Or.inl (fun e => Or.inr (Or.inl e)))))
  have hown : ∀ k, (Value.slice a8 (xs.length + 1) c8).ownBlock = some k → q.ownBlock = some k ∨ w5.heap.size ≤ k := hf
  have hz8 := hKq.size
  have hRT : RT (w8.setCell ⟨db, 1, none⟩ (.slice a8 (xs.length + 1) c8)) db (.slice a8 (xs.length + 1) c8) n (xs ++ [⟨⟨id, fr, 0, 0⟩, w3.heap.size, fa, fc⟩]) := by
    refine ⟨(h5.box.kept hk (fun e => by have := (h5.row.lt _ e).1; omega)).set 1 _, ?_, ?_, ?_, ?_, ?_, ?_, ?_, ?_⟩
    · rw [List.map_append]
      exact hQ.kept kS (fun k hk' e => hqne (by rw [← show k = db from e]; exact hk')) (fun _ _ _ h => h.elim)
    · intro x hx
      rcases List.mem_append.1 hx with hx | hx
      · exact (h5.at_ x hx).kept hKq (fun e => e.elim (fun e => by have := h1.gt x hx; omega) (fun e => h1.qb x hx e)) (fun k hf' e => e.elim (fun e => by have := h1.gf x hx k hf'; omega) (fun e => h1.qf x hx k hf' e))
      · simp at hx
        subst hx
        exact hy.kept hKq (fun e => e.elim (fun e => by have e' : w3.heap.size = db := e; omega) (fun e => by have := hqlt _ e; have e' : w3.heap.size < w.heap.size := this; omega)) (fun k hf' e => e.elim (fun e => by have := (hfoot k hf').1; omega) (fun e => by have := hqlt k e; have := (hfoot k hf').1; omega))
    · rw [List.pairwise_append]
      refine ⟨h1.apart, List.pairwise_singleton _ _, fun x hx y hy => ?_⟩
      simp at hy
      subst hy
      have := (h1.at_ x hx).box.lt
      show x.rb ≠ w3.heap.size
      omega
    · intro x hx y hy' e
      rcases List.mem_append.1 hx with hx | hx
      · rcases List.mem_append.1 hy' with hy' | hy'
        · exact h1.off x hx y hy' e
        · simp at hy'
          subst hy'
          have := (h1.at_ x hx).row.lt e
          have e' : w3.heap.size < w.heap.size := this
          omega
      · simp at hx
        subst hx
        rcases List.mem_append.1 hy' with hy' | hy'
        · have := (hfoot _ e).1
          have := (h1.at_ y hy').box.lt
          omega
        · simp at hy'
          subst hy'
          have e' : w3.heap.size < w3.heap.size := (hfoot _ e).2
          omega
    · intro x hx e
      rcases List.mem_append.1 hx with hx | hx
      · rcases hown _ e with e | e
        · exact h1.qb x hx e
        · have := (h1.at_ x hx).box.lt; omega
      · simp at hx
        subst hx
        rcases hown _ e with e | e
        · have e' : w3.heap.size < w.heap.size := hqlt _ e
          omega
        · have e' : w5.heap.size ≤ w3.heap.size := e
          omega
    · intro x hx k hf' e
      rcases List.mem_append.1 hx with hx | hx
      · rcases hown _ e with e | e
        · exact h1.qf x hx k hf' e
        · have := (h1.at_ x hx).row.lt hf'; omega
      · simp at hx
        subst hx
        have := hfoot k hf'
        rcases hown _ e with e | e
        · have := hqlt _ e
          omega
        · omega
    · intro x hx
      rcases List.mem_append.1 hx with hx | hx
      · exact h1.gt x hx
      · simp at hx
        subst hx
        show db < w3.heap.size
        omega
    · intro x hx k hf'
      rcases List.mem_append.1 hx with hx | hx
      · exact h1.gf x hx k hf'
      · simp at hx
        subst hx
        have := (hfoot k hf').1
        omega
  have hok : DeOk n (xs.map (·.d) ++ [⟨id, fr, 0, 0⟩]) := by
    have := h.ok.want id fr
    unfold wantL at this
    rw [if_pos he] at this
    exact this
  refine ⟨fun k => S k ∨ RFt db (.slice a8 (xs.length + 1) c8) (xs ++ [⟨⟨id, fr, 0, 0⟩, w3.heap.size, fa, fc⟩]) k, ⟨⟨_, _, hRT, by rw [List.map_append]; rfl, fun k e => Or.inr e⟩, hok, ?_, ?_⟩, ?_, hK⟩
  · rintro k (e | e)
    · exact Nat.lt_of_lt_of_le (h.lt k e) hK.size
    · exact hRT.lt e
  · rintro k (e | e)
    · exact h.ge k e
    · exact hRT.ge e
  · rintro k (e | e)
    · exact Or.inl e
    · rcases e with e | e | ⟨x, hx, e⟩
      · exact Or.inl (h3 k (Or.inl e))
      · rcases hown k e with e | e
        · exact Or.inl (h3 k (Or.inr (Or.inl e)))
        · exact Or.inr (by omega)
      · rcases List.mem_append.1 hx with hx | hx
        · exact Or.inl (h3 k (Or.inr (Or.inr ⟨x, hx, e⟩)))
        · simp at hx
          subst hx
          rcases e with e | e
          · have e' : k = w3.heap.size := e
            exact Or.inr (by omega)
          · exact Or.inr (hfoot k e).1

set_option maxRecDepth 100000 in
set_option maxHeartbeats 2000000 in
theorem rdWant_any (id : ByteArray) (fa : Option Addr) (fc : Nat) (fr : List Int) {w : World} {db : Nat} {S : Nat → Prop} {n : Nat} {L : List WiD} (h : RD w db S n L) (hR : RowAt intK w fa fr) (hl : fr.length * 8 ≤ 140737488355328) :
    Calls Try.prog 10 #[.pointer (some ⟨db, 0, none⟩), .string id, .slice fa fr.length fc] w fun e w' => ∃ S', e = .returned (.int .i64 (wantE L id fr.length : Nat)) ∧ RD w' db S' n (wantL L id fr) ∧ FreshS w S S' ∧ Kept S w w' := by
  obtain ⟨q, xs, h1, rfl, h3⟩ := h.ex
  have hrefl : FreshS w S S := fun k hk => Or.inl hk
  have hfew : xs.length ≤ 64 := by have := h.ok.few; rw [List.length_map] at this; exact this
  by_cases hf0 : fr = []
  · subst hf0
    have hE : wantE (xs.map (·.d)) id ([] : List Int).length = 12 := rfl
    have hL : wantL (xs.map (·.d)) id [] = xs.map (·.d) := by unfold wantL; rw [if_neg (by rw [hE]; decide)]
    rw [hE, hL]
    go_enter Try.func10, Try.ntmps10
    go_wp2
    go_ret
    first | exact ⟨rfl, S, h, hrefl, Kept.refl _ _⟩ | exact ⟨S, rfl, h, hrefl, Kept.refl _ _⟩
  · have hp := List.length_pos_iff.2 hf0
    have hf0' : ¬ fr.length = 0 := by omega
    have g3 : ((fr.length : Int) == 0) = false := by rw [beq_eq_false_iff_ne]; omega
    have cA := rdAt_any id h1 hfew
    cases hB : hasL (xs.map (·.d)) id with
    | true =>
      have hE : wantE (xs.map (·.d)) id fr.length = 13 := by unfold wantE; rw [if_neg hf0', if_pos hB]
      have hL : wantL (xs.map (·.d)) id fr = xs.map (·.d) := by unfold wantL; rw [if_neg (by rw [hE]; decide)]
      rw [hE, hL]
      clear hp hf0'
      go_enter Try.func10, Try.ntmps10
      go_wp2_with fail
      refine cA.mono ?_
      rintro e w1 ⟨rfl, i, rfl, hA⟩
      have hi : 0 ≤ i := by
        rcases hA with ⟨hn, _⟩ | ⟨j, rfl, _⟩
        · rw [hB] at hn; cases hn
        · omega
      clear hA cA
      go_wp2
      go_ret
      first | exact ⟨rfl, S, h, hrefl, Kept.refl _ _⟩ | exact ⟨S, rfl, h, hrefl, Kept.refl _ _⟩
    | false =>
      have hnot : Hid (∀ i : Int, ((hasL (xs.map (·.d)) id = false ∧ i = -1) ∨ ∃ j : Nat, i = (j : Int) ∧ ∃ x, xs[j]? = some x ∧ x.d.id = id) → i = -1) := fun i hA => by
        rcases hA with ⟨_, e⟩ | ⟨j, rfl, x, hx, he⟩
        · exact e
        · exact absurd he (hasL_not.1 hB x.d (List.mem_map.2 ⟨x, List.mem_of_getElem? hx, rfl⟩))
      obtain ⟨ao, cap, rfl, _, _⟩ := h1.row.form
      rw [List.length_map] at h1 h3
      have c1 := h1.box.cell (i := 1) rfl
      by_cases hfull : 64 ≤ xs.length
      · have hE : wantE (xs.map (·.d)) id fr.length = 4 := by unfold wantE; rw [if_neg hf0', if_neg (by rw [hB]; decide), if_pos (by rw [List.length_map]; exact hfull)]
        have hL : wantL (xs.map (·.d)) id fr = xs.map (·.d) := by unfold wantL; rw [if_neg (by rw [hE]; decide)]
        rw [hE, hL]
        have g64 : (64 : Int) ≤ (xs.length : Int) := by omega
        clear hp hf0'
        go_enter Try.func10, Try.ntmps10
        go_wp2_with fail
        refine cA.mono ?_
        rintro e w1 ⟨rfl, i, rfl, hA⟩
        obtain rfl := hnot.out i hA
        clear hA cA
        go_wp2
        go_ret
        first | exact ⟨rfl, S, h, hrefl, Kept.refl _ _⟩ | exact ⟨S, rfl, h, hrefl, Kept.refl _ _⟩
      · have hE : wantE (xs.map (·.d)) id fr.length = 0 := wantE_ok.2 ⟨hp, hB, by rw [List.length_map]; omega⟩
        have hL : wantL (xs.map (·.d)) id fr = xs.map (·.d) ++ [⟨id, fr, 0, 0⟩] := by unfold wantL; rw [if_pos hE]
        rw [hE, hL]
        have g64 : ¬ (64 : Int) ≤ (xs.length : Int) := by omega
        obtain ⟨i0, z0, hi0, hz0, hz1, hz2, hz3⟩ := intInfo19
        obtain ⟨j0, y0, hj0, hy0, hy1, hy2, hy3⟩ := ptrInfo19
        have hm1 : (xs.map (·.rb)).length + 1 ≤ maxLen := by rw [List.length_map]; unfold maxLen; omega
        have hm2 : ((xs.map (·.rb)).length + 1) * 8 ≤ 140737488355328 := by rw [List.length_map]; omega
        have hml : (xs.map (·.rb)).length = xs.length := List.length_map _
        have hfl : fr.length ≤ maxLen := by unfold maxLen; omega
        have hE' : Hid _ := hE
        clear hp hf0' hE
        go_enter Try.func10, Try.ntmps10
        go_wp2_with fail
        refine cA.mono ?_
        rintro e w1 ⟨rfl, i, rfl, hA⟩
        obtain rfl := hnot.out i hA
        clear hA cA hnot
        have f1 := h1.box.frozen 1
        have hbx : Below w1.heap.size w1 (w1.drew.alloc (.cells #[] 3)) := (below_drewN (Below.refl w1.heap.size w1) 1).trans (belowNew w1.drew (.cells #[] 3))
        have hQ : KQ intK 3 (w1.drew.alloc (.cells #[] 3)) w1.heap.size (.slice (some ⟨w1.heap.size, 0, none⟩) 0 0) [] := KQ.made w1.drew _ (Nat.le_refl _)
        have hbs : w1.heap.size ≤ (w1.drew.alloc (.cells #[] 3)).heap.size := hbx.size
        have hRx := hR.below hbx
        have c1x := (h1.below (belowNew w1 (.cells #[] 3))).box.cell (i := 1) rfl
        go_wp2_with fail
        go_region_law (first
          | (refine step_joinsZ (K := intK) _ (by rfl) _ _ 30 (by rfl) w1.heap.size 3 i0 _ 8 Try.underlying30 hi0 hz0 hz1 hz2 hz3 _ fr (by rfl) hQ (fun _ _ h => h.elim) fa fc (by rfl) hRx hfl hl hbs ?_
             intro ao3 cap3 w3 hI3 hk3
             have hb3 := hbx.trans (hk3.below hbs (fun k e => (hQ.lt k e).1))
             have h13 := h1.below hb3
             have c13 := h13.box.cell (i := 1) rfl
             have hb4 := belowNew w3 (.cells #[.string id, .slice ao3 fr.length cap3, .int .i64 0, .int .i64 0] 74)
             have h14 := h13.below hb4
             have c14 := h14.box.cell (i := 1) rfl
             have hb5 := belowNew (w3.alloc (.cells #[.string id, .slice ao3 fr.length cap3, .int .i64 0, .int .i64 0] 74)) (.cells #[.pointer (some ⟨w3.heap.size, 0, none⟩)] 72)
             have h15 := h14.below hb5
             have c15 := h15.box.cell (i := 1) rfl
             have hN := new_ptr19 (w3.alloc (.cells #[.string id, .slice ao3 fr.length cap3, .int .i64 0, .int .i64 0] 74)) w3.heap.size
             rw [alloc_size] at hN
             have hbq := h15.box.lt)
          | (refine step_pushF (K := ptrK19) _ (by rfl) _ _ 62 (by rfl) (db + 1) 72 j0 _ 8 Try.underlying62 hj0 hy0 hy1 hy2 hy3 _ (xs.map (·.rb)) (by rfl) h15.row w3.heap.size trivial (fun _ h => h.elim) ⟨w3.heap.size + 1, 0, none⟩ 1 (by rfl) hN hm1 hm2 hbq ?_
             intro ao8 cap8 w8 hQ8 hk8 hf8
             have hX8 := h15.box.kept hk8 (fun e => by have := (h15.row.lt _ e).1; omega)
             have c18 := hX8.cell (i := 1) rfl
             have f18 := hX8.frozen 1
             rw [hml] at hQ8 hf8))
        all_goals
          obtain ⟨S', f1', f2', f3'⟩ := rd_more h h1 h3 hb3 hI3 hfl rfl hb5 hQ8 hk8 hf8 hE'.out
          generalize w8.setCell _ _ = w9 at f1' f3' ⊢
          clear hQ8 hk8 hf8 hX8 c18 f18 h15 c15 hN hbq h14 c14 h13 c13 hI3 hk3 hb3 hb4 hb5 hQ hbs hRx c1x hbx c1 f1
          go_wp2
          go_ret
          first | exact ⟨S', rfl, f1', f2', f3'⟩ | exact ⟨rfl, S', f1', f2', f3'⟩
end Go.Proofs.Ytblpkfnhfdkacaa
