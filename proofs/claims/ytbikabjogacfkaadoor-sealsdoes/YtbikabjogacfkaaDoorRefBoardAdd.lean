/- What the reference's Close and Add do. -/
import Derived.Test.YtbikabjogacfkaaDoorRefBoardOpen
import Derived.Test.YtbikabjogacfkaaDoorRefBoardClose
import Derived.Lib.QuietBelow
namespace Go.Proofs.YtbikabjogacfkaaDoor
open Go Go.RowKit
set_option linter.unusedVariables false

theorem RFoot.erase {bb : Nat} {q q' : Value} {vs : List RV} {j k : Nat} {n : Nat} (hq : ∀ k, q'.ownBlock = some k → n ≤ k) (h : RFoot bb q' (vs.eraseIdx j) k) : RFoot bb q vs k ∨ n ≤ k := by
  rcases h with e | e | ⟨x, hx, e⟩
  · exact Or.inl (Or.inl e)
  · exact Or.inr (hq k e)
  · exact Or.inl (Or.inr (Or.inr ⟨x, List.mem_of_mem_eraseIdx hx, e⟩))

theorem refBClose_any (word : ByteArray) (bb : Nat) (S : Nat → Prop) (rt : Nat) (kind : ByteArray) (most : Int) (bs : List WordB) (w : World) (h : RB w bb S rt kind most bs) (hn : (bs.map (·.word)).Nodup) :
    Calls Tryd.prog 15 #[.pointer (some ⟨bb, 0, none⟩), .string word] w fun e w' => e = .returned (.tuple #[]) ∧ ∃ S', RB w' bb S' rt kind most (closeB word bs) ∧ FreshS w S S' ∧ Kept S w w' := by
  obtain ⟨q, vs, rfl, hS, hB⟩ := h
  cases hA : atW word (vs.map RV.b) with
  | none =>
    rw [closeB_none hA]
    refine (refBClose_none word bb q rt kind most vs w hB hA).mono ?_
    rintro e w' ⟨rfl, hb⟩
    exact ⟨rfl, S, ⟨q, vs, rfl, hS, hB.below hb⟩, fun k hk => Or.inl hk, Kept.of_below hb⟩
  | some j =>
    rw [closeB_at hn hA]
    refine (refBClose_at word bb q rt kind most vs w hB hA).mono ?_
    rintro e w' ⟨rfl, q', h1, h2, h3⟩
    refine ⟨rfl, RFoot bb q' (vs.eraseIdx j), ⟨q', vs.eraseIdx j, ?_, fun k => Iff.rfl, h1⟩, fun k hk => ?_, h3.mono (fun k _ e => (hS k).2 (Or.inl e))⟩
    · rw [List.eraseIdx_eq_take_drop_succ, List.eraseIdx_eq_take_drop_succ, List.map_append, List.map_take, List.map_drop]
    · rcases RFoot.erase (q := q) h2 hk with e | e
      · exact Or.inl ((hS k).2 e)
      · exact Or.inr e

theorem pair_set {α : Type} {R : α → α → Prop} (hs : ∀ a b, R a b → R b a) : ∀ {l : List α} {i : Nat} {y : α}, l.Pairwise R → (∀ j x, j ≠ i → l[j]? = some x → R y x) → (l.set i y).Pairwise R := by
  intro l
  induction l with
  | nil => intro i y _ _; exact List.Pairwise.nil
  | cons a r ih =>
    intro i y hp hy
    rw [List.pairwise_cons] at hp
    cases i with
    | zero =>
      rw [List.set_cons_zero, List.pairwise_cons]
      refine ⟨fun b hb => ?_, hp.2⟩
      obtain ⟨k, hk⟩ := List.mem_iff_getElem?.1 hb
      exact hy (k + 1) b (by omega) (by simpa using hk)
    | succ i =>
      rw [List.set_cons_succ, List.pairwise_cons]
      refine ⟨fun b hb => ?_, ih hp.2 (fun j x hj hx => hy (j + 1) x (by omega) (by simpa using hx))⟩
      rcases List.mem_or_eq_of_mem_set hb with hb | rfl
      · exact hp.1 b hb
      · exact hs _ _ (hy 0 a (by omega) rfl)

/-- A word's tags are turned. -/
theorem RBd.seti {w w' : World} {bb : Nat} {q : Value} {rt : Nat} {kind : ByteArray} {most : Int} {vs : List RV} (h : RBd w bb q rt kind most vs) {i : Nat} {x : RV} (hx : vs[i]? = some x) {ao' : Option Addr} {cap' : Nat} {P' : List (Option TagD)}
    (hR : RVAt w' x.rb rt kind x.word (x.rb + 1) ao' cap' (inL P')) (hF : ∀ b, rowFoot tagK ao' (inL P') b → rowFoot tagK x.ao (inL x.P) b ∨ w.heap.size ≤ b) (hk : Kept (fun k => k = x.rb) w w') :
    RBd w' bb q rt kind most (vs.set i ⟨x.rb, ao', cap', x.word, P'⟩) ∧ (∀ k, RFoot bb q (vs.set i ⟨x.rb, ao', cap', x.word, P'⟩) k → RFoot bb q vs k ∨ w.heap.size ≤ k) := by
  have hxm := List.mem_of_getElem? hx
  have hil := (List.getElem?_eq_some_iff.1 hx).1
  have hrbs : (vs.set i ⟨x.rb, ao', cap', x.word, P'⟩).map (·.rb) = vs.map (·.rb) := by
    refine List.ext_getElem? (fun j => ?_)
    rw [List.getElem?_map, List.getElem?_map, List.getElem?_set]
    by_cases e : i = j
    · subst e
      rw [if_pos rfl, if_pos hil, hx]
      rfl
    · rw [if_neg e]
  have hget : ∀ y, y ∈ vs.set i ⟨x.rb, ao', cap', x.word, P'⟩ → y = ⟨x.rb, ao', cap', x.word, P'⟩ ∨ ∃ j, j ≠ i ∧ vs[j]? = some y := fun y hy => by
    obtain ⟨j, hj⟩ := List.mem_iff_getElem?.1 hy
    rw [List.getElem?_set] at hj
    by_cases e : i = j
    · rw [if_pos e, if_pos hil] at hj
      simp only [Option.some.injEq] at hj
      exact Or.inl hj.symm
    · rw [if_neg e] at hj
      exact Or.inr ⟨j, fun e' => e e'.symm, hj⟩
  have hap : ∀ j y, j ≠ i → vs[j]? = some y → ¬ y.foot x.rb ∧ ¬ x.foot y.rb := fun j y hj hy => by
    obtain ⟨hj1, hj2⟩ := List.getElem?_eq_some_iff.1 hy
    obtain ⟨hi1, hi2⟩ := List.getElem?_eq_some_iff.1 hx
    have hp := List.pairwise_iff_getElem.1 h.apart
    rcases (by omega : i < j ∨ j < i) with e | e
    · have := hp i j hi1 hj1 e
      rw [hi2, hj2] at this
      exact this
    · have := hp j i hj1 hi1 e
      rw [hi2, hj2] at this
      exact ⟨this.2, this.1⟩
  have hlt : ∀ y ∈ vs, ∀ k, y.foot k → k < w.heap.size := fun y hy k hk => (h.lt (Or.inr (Or.inr ⟨y, hy, hk⟩))).2
  have hnew : ∀ k, (RV.mk x.rb ao' cap' x.word P').foot k → x.foot k ∨ w.heap.size ≤ k := fun k hk => by
    rcases hk with e | e
    · exact Or.inl (Or.inl e)
    · rcases hF k e with e | e
      · exact Or.inl (Or.inr e)
      · exact Or.inr e
  have hxr : bb < x.rb := h.gt x hxm
  refine ⟨⟨h.box.kept hk (fun e => by have e' : bb = x.rb := e; omega), ?_, fun y hy => ?_, fun y hy => ?_, ?_, fun y hy k hk e => ?_, by rw [List.length_set]; exact h.few⟩, fun k hk => ?_⟩
  · rw [hrbs]
    exact h.row.kept hk (fun k e e' => h.off x hxm k (Or.inl e') e) (fun _ _ _ h => h.elim)
  · rcases hget y hy with rfl | ⟨j, hj, hy⟩
    · exact hR
    · have ha := hap j y hj hy
      have hym := List.mem_of_getElem? hy
      exact (h.at_ y hym).keptF hk (fun e => ha.1 (Or.inl e.symm)) (fun k hk e => ha.1 (Or.inr (by rw [← show k = x.rb from e]; exact hk)))
  · rcases hget y hy with rfl | ⟨j, hj, hy⟩
    · exact hxr
    · exact h.gt y (List.mem_of_getElem? hy)
  · refine pair_set (fun a b h => ⟨h.2, h.1⟩) h.apart (fun j y hj hy => ⟨(hap j y hj hy).1, fun e => ?_⟩)
    rcases hnew _ e with e | e
    · exact (hap j y hj hy).2 e
    · have := hlt y (List.mem_of_getElem? hy) y.rb (Or.inl rfl)
      omega
  · rcases hget y hy with rfl | ⟨j, hj, hy⟩
    · rcases hnew k hk with e1 | e1
      · exact h.off x hxm k e1 e
      · have := (h.row.lt k e).2; omega
    · exact h.off y (List.mem_of_getElem? hy) k hk e
  · rcases hk with e | e | ⟨y, hy, e⟩
    · exact Or.inl (Or.inl e)
    · exact Or.inl (Or.inr (Or.inl e))
    · rcases hget y hy with rfl | ⟨j, hj, hy⟩
      · rcases hnew k e with e1 | e1
        · exact Or.inl (Or.inr (Or.inr ⟨x, hxm, e1⟩))
        · exact Or.inr e1
      · exact Or.inl (Or.inr (Or.inr ⟨y, List.mem_of_getElem? hy, e⟩))

set_option maxRecDepth 100000 in
set_option maxHeartbeats 2000000 in
theorem refBAdd_any {w0 : World} {f : Nat} {ks : List ByteArray} (word : ByteArray) (t : TagD) (bb : Nat) (S : Nat → Prop) (rt : Nat) (kind : ByteArray) (most : Int) (bs : List WordB) (w : World) (h : RB w bb S rt kind most bs) (en : VEnv w0 rt f ks kind word) (hO : BOk f ks kind bs) (hb0 : Below w0.heap.size w0 w) (hS0 : ∀ k, S k → w0.heap.size ≤ k) :
    Calls Tryd.prog 12 #[.pointer (some ⟨bb, 0, none⟩), .string word, .agg #[.int .i64 t.who, .string t.mac]] w fun e w' => ∃ ao cap, e = .returned (.tuple #[.slice ao (sealL f ks kind bs word t).length cap, .int .i64 (sealE ks kind bs word t : Int)]) ∧ RowAt tagK w' ao (sealL f ks kind bs word t) ∧ ∃ S', RB w' bb S' rt kind most (sealB f ks kind bs word t) ∧ FreshS w S S' ∧ Kept S w w' := by
  obtain ⟨q, vs, rfl, hS, hB⟩ := h
  have hb1 := belowNew w (.cells #[.int .i64 t.who, .string t.mac] 32)
  have hX := Arr.new w 32 [.int .i64 t.who, .string t.mac]
  have hB1 := hB.below hb1
  obtain ⟨w1, hw1⟩ : ∃ z, w.alloc (.cells #[.int .i64 t.who, .string t.mac] 32) = z := ⟨_, rfl⟩
  rw [hw1] at hb1 hX hB1
  have cA := refBAt_any word bb q rt kind most vs w1 hB1
  obtain ⟨le, hle⟩ : ∃ z, Hid (sealL f ks kind (vs.map RV.b) word t = z) := ⟨_, rfl⟩
  obtain ⟨ee, hee⟩ : ∃ z, Hid (sealE ks kind (vs.map RV.b) word t = z) := ⟨_, rfl⟩
  obtain ⟨be, hbe⟩ : ∃ z, Hid (sealB f ks kind (vs.map RV.b) word t = z) := ⟨_, rfl⟩
  have hL := hle.out
  have hE := hee.out
  have hBE := hbe.out
  rw [hle.out, hee.out, hbe.out]
  unfold sealL at hL
  unfold sealE at hE
  unfold sealB at hBE
  cases hA : atW word (vs.map RV.b) with
  | none =>
    rw [getB_none.2 hA] at hL hE hBE
    simp only at hL hE hBE
    subst hL hE hBE
    rw [hA] at cA
    unfold atI at cA
    simp only at cA
    go_enter Tryd.func12, Tryd.ntmps12
    go_wp2_with fail
    refine cA.mono ?_
    rintro e w2 ⟨rfl, hb2⟩
    have hB2 := hB1.below hb2
    have hbF := hb1.trans (hb2.mono hb1.size)
    clear cA hB1
    go_wp2
    go_ret2
    exact ⟨none, 0, rfl, nil_row _ _, S, ⟨q, vs, rfl, hS, hB2⟩, fun k hk => Or.inl hk, Kept.of_below hbF⟩
  | some i =>
    obtain ⟨xb, hxb, hwd, hgB, _⟩ := atW_some hA
    rw [hgB] at hL hE hBE
    simp only at hL hE hBE
    rw [List.getElem?_map] at hxb
    obtain ⟨x, hx, rfl⟩ := Option.map_eq_some_iff.1 hxb
    have hwx : x.word = word := hwd
    have hxm := List.mem_of_getElem? hx
    have hil := (List.getElem?_eq_some_iff.1 hx).1
    have hPl : Places (chkT ks kind word) (3 * f + 1) x.P := hO.got hgB
    have hcl := closeB_at hO.nod hA
    have hse := fun P => setB_at (P := P) hO.nod hA
    rw [hA] at cA
    unfold atI at cA
    simp only at cA
    clear hxb hwd
    obtain ⟨P2, hP2⟩ : ∃ z, Hid (addP (chkT ks kind word) x.P t = z) := ⟨_, rfl⟩
    obtain ⟨e2, he2⟩ : ∃ z, Hid (addE (chkT ks kind word) x.P t = z) := ⟨_, rfl⟩
    simp only [show x.b.P = x.P from rfl] at hL hE hBE
    obtain ⟨ao, cap, rfl, hnil, _⟩ := hB.row.form
    rw [List.length_map] at *
    have hfew := hB.few
    have g1 : (i : Int) < (vs.length : Int) := by omega
    have g0 : (0 : Int) ≤ (i : Int) := by omega
    have hb01 := hb0.trans (hb1.mono hb0.size)
    go_enter Tryd.func12, Tryd.ntmps12
    go_wp2_with fail
    refine cA.mono ?_
    rintro e w2 ⟨rfl, hb2⟩
    have hB2 := hB1.below hb2
    have hX2 := hX.below hb2 hX.lt
    have hb02 := hb01.trans (hb2.mono hb01.size)
    have hbw := hb1.trans (hb2.mono hb1.size)
    have hR2 := hB2.at_ x hxm
    rw [hwx] at hR2
    have hR2l : x.rb + 1 ≤ w2.heap.size := hR2.box.lt
    have cV := refAdd7_fresh t w2 hR2 hR2l (en.tab.below hb02) en.f2 en.kl en.k32 hPl en.kd en.wd (en.glob.below hb02) (rowFoot tagK x.ao (inL x.P)) (fun _ h => h)
    rw [hP2.out, he2.out] at cV
    obtain ⟨ao2, cap2, e3, _, hRow2⟩ := hB2.row.form
    rw [List.length_map] at e3
    simp only [Value.slice.injEq, true_and] at e3
    obtain ⟨rfl, rfl⟩ := e3
    obtain ⟨g, off, rfl, hg, hp⟩ := hRow2.ptr (i := i) (x := x.rb) (by rw [List.getElem?_map, hx]; rfl)
    have c3 := hB2.box.cell (i := 3) rfl
    have t0 := hX2.cell (i := 0) rfl
    have t1 := hX2.cell (i := 1) rfl
    clear cA hB1 hX hb1 hb2 hRow2
    go_wp2_with fail
    refine cV.mono ?_
    rintro e w3 ⟨ao3, cap3, rfl, hR3, hk3, hF3⟩
    have hwx2 := hwx
    rw [← hwx] at hR3
    obtain ⟨hB3, hF4⟩ := hB2.seti hx hR3 hF3 hk3
    have hS3 : Below w0.heap.size w0 w3 := hb02.trans (hk3.below hb02.size (fun k e => by have e' : k = x.rb := e; rw [e']; exact hS0 _ ((hS _).2 (Or.inr (Or.inr ⟨x, hxm, Or.inl rfl⟩)))))
    have hkw3 : Kept S w w3 := (Kept.of_below hbw).trans (hk3.mono (fun k _ e => (hS k).2 (Or.inr (Or.inr ⟨x, hxm, Or.inl e⟩))))
    have hFw : ∀ k, RFoot bb (.slice (some ⟨g, off, none⟩) vs.length cap) (vs.set i ⟨x.rb, ao3, cap3, x.word, P2⟩) k → S k ∨ w.heap.size ≤ k := fun k hk => by
      rcases hF4 k hk with e | e
      · exact Or.inl ((hS k).2 e)
      · exact Or.inr (Nat.le_trans hbw.size e)
    have hbm : (vs.set i ⟨x.rb, ao3, cap3, x.word, P2⟩).map RV.b = (vs.map RV.b).set i ⟨word, P2⟩ := by
      rw [List.map_set, ← hwx]
      rfl
    rw [he2.out] at hE hL hBE
    subst hE
    rw [hP2.out] at hL hBE
    by_cases hz : e2 = 0
    · subst hz
      rw [if_pos rfl] at hL hBE
      obtain ⟨fb, hfb⟩ : ∃ z, Hid (fullP f P2 = z) := ⟨_, rfl⟩
      have cF : Calls Tryd.prog 33 #[.pointer (some ⟨x.rb, 0, none⟩)] w3 fun e w' => e = .returned (.bool fb) ∧ Below w3.heap.size w3 w' := by
        rw [← hfb.out]
        exact refFull_any w3 hR3 (en.tab.below hS3) en.f2
      rw [hfb.out] at hL hBE
      clear cV c3 t0 t1 hp hX2
      go_wp2_with fail
      refine cF.mono ?_
      rintro e w4 ⟨rfl, hb4⟩
      have hB4 := hB3.below hb4
      have hR4 := hR3.below hb4
      have hkw4 := hkw3.trans (Kept.of_below hb4)
      clear cF
      cases fb with
      | false =>
        rw [if_neg (by decide)] at hL hBE
        subst hL hBE
        have hse' : Hid _ := hse
        have hbm' : Hid _ := hbm
        clear hse hbm hcl
        go_wp2
        go_ret2
        exact ⟨none, 0, rfl, nil_row _ _, _, ⟨_, _, (by rw [hse'.out P2, hbm'.out]), fun k => Iff.rfl, hB4⟩, hFw, hkw4⟩
      | true =>
        rw [if_pos rfl] at hL hBE
        subst hBE
        have hA4 : atW word ((vs.set i ⟨x.rb, ao3, cap3, x.word, P2⟩).map RV.b) = some i := by
          rw [← hA]
          refine atW_congr ?_
          rw [hbm, ← hse P2, setB_words]
        have cC := refBClose_at word bb _ rt kind most _ w4 hB4 hA4
        have her : (vs.set i ⟨x.rb, ao3, cap3, x.word, P2⟩).eraseIdx i = vs.eraseIdx i := by
          rw [List.eraseIdx_eq_take_drop_succ, List.eraseIdx_eq_take_drop_succ, List.take_set_of_le (Nat.le_refl _), List.drop_set_of_lt (by omega)]
        rw [her] at cC
        go_wp2_with fail
        refine cC.mono ?_
        rintro e w5 ⟨rfl, q5, hB5, hq5, hk5⟩
        have hR5 := hR4.keptF hk5 (fun e => by have e' : x.rb = bb := e; have := hB2.gt x hxm; omega) (fun k hk e => by have e' : k = bb := e; have := hR4.foot k hk; have := hB2.gt x hxm; omega)
        have hkw5 : Kept S w w5 := hkw4.trans (hk5.mono (fun k _ e => (hS k).2 (Or.inl e)))
        have v3 := hR5.box.cell (i := 3) rfl
        have hrow := hR5.row
        have hw4 : w.heap.size ≤ w4.heap.size := hkw4.size
        have hcl5 : closeB word (vs.map RV.b) = (vs.eraseIdx i).map RV.b := by
          rw [hcl, List.eraseIdx_eq_take_drop_succ, List.eraseIdx_eq_take_drop_succ, List.map_append, List.map_take, List.map_drop]
        have hcl5' : Hid _ := hcl5
        clear cC hB4 hR4 hkw4 hB3 hR3 hkw3 hk5 hcl5 hR5 hse hcl
        rw [hL] at v3 hrow
        clear hL
        go_wp2
        go_ret2
        refine ⟨_, _, rfl, hrow, RFoot bb q5 (vs.eraseIdx i), ⟨q5, vs.eraseIdx i, hcl5'.out, fun k => Iff.rfl, hB5⟩, fun k hk => ?_, hkw5⟩
        rcases RFoot.erase (q := .slice (some ⟨g, off, none⟩) vs.length cap) hq5 hk with e | e
        · exact Or.inl ((hS k).2 e)
        · exact Or.inr (Nat.le_trans hw4 e)
    · rw [if_neg hz] at hL hBE
      subst hL hBE
      have hz' : ¬ (e2 : Int) = 0 := by omega
      have hPs : P2 = x.P := by
        rw [← hP2.out]
        exact addP_same (by rw [he2.out]; exact hz)
      have hbm2 : vs.map RV.b = (vs.set i ⟨x.rb, ao3, cap3, x.word, P2⟩).map RV.b := by
        refine List.ext_getElem? (fun j => ?_)
        rw [List.getElem?_map, List.getElem?_map, List.getElem?_set]
        by_cases e : i = j
        · subst e
          rw [if_pos rfl, if_pos hil, hx, hPs]
          rfl
        · rw [if_neg e]
      have hbm2' : Hid _ := hbm2
      clear cV c3 t0 t1 hp hX2 hbm2 hbm hse hcl hPs
      go_wp2
      go_ret2
      exact ⟨none, 0, rfl, nil_row _ _, _, ⟨_, _, hbm2'.out, fun k => Iff.rfl, hB3⟩, hFw, hkw3⟩
end Go.Proofs.YtbikabjogacfkaaDoor
