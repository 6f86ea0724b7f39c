/- What tuskref20.Groups does. -/
import Derived.Test.YthegadhkhbokkaaRefAccEdges
import Derived.Test.YthegadhkhbokkaaAccGrp
import Derived.Test.YthegadhkhbokkaaAccAdd
import Derived.BigRegion
namespace Go.Proofs.Ythegadhkhbokkaa
open Go Go.RowKit
set_option linter.unusedVariables false

def GotGroupsR (W : World) (l : List RwD) (e : Ending) (w : World) : Prop :=
  ∃ ao cap gl, e = .returned (.slice ao l.length cap) ∧ KQ natK 3 w W.heap.size (.slice ao l.length cap) gl ∧ GSpec l gl ∧ Below W.heap.size W w

theorem relaxL_snoc (g : List Nat) (es : List (Nat × Nat)) (e : Nat × Nat) : relaxL g (es ++ [e]) = relaxE (relaxL g es) e := by
  unfold relaxL
  rw [List.foldl_append]
  rfl

theorem getD_get {g : List Nat} {i v : Nat} (h : g[i]? = some v) : g.getD i 0 = v := by
  rw [List.getD_eq_getElem?_getD, h]; rfl

set_option maxRecDepth 100000 in
set_option maxHeartbeats 4000000 in
theorem refGroups_any (l : List TxA) (ao : Option Addr) (cp : Nat) (w : World) (hl : RowAt txA w ao l) (hf : Few l) :
    Calls Try.prog 12 #[.slice ao l.length cp] w fun e w' => GotGroupsR w (rwL l) e w' := by
  have hl1 := hf.1
  have hlen : Hid _ := rwL_length l
  obtain ⟨i0, hi0, hz0, hs0, hb0⟩ := intZeroA
  have hQ0 := KQ.empty natK 3 w w.heap.size
  go_enter Try.func12, Try.ntmps12
  go_wp2_with fail
  go_loopw [3, 4] (fun v3 v4 wr => ∃ (i : Nat) (ga : Option Addr) (gc : Nat), i ≤ l.length ∧ v3 = .slice ga i gc ∧ v4 = .int .i64 (i : Int) ∧ KQ natK 3 wr w.heap.size (.slice ga i gc) (List.range i) ∧ Below w.heap.size w wr) (fun _ v _ => l.length - (intOf v).toNat)
  case atStart => exact ⟨0, none, 0, Nat.zero_le _, rfl, rfl, hQ0, Below.refl _ _⟩
  case round =>
    obtain ⟨i, ga, gc, hi, rfl, rfl, hq, hb⟩ := hrel
    clear hQ0
    by_cases hil : i < l.length
    · have g1 : (i : Int) < (l.length : Int) := by omega
      have hnew := belowNew wr (.cells #[.int .i64 ((i : Nat) : Int)] 3)
      have hNW := new_nat wr i
      have hq2 := hq.below hnew
      have hb2 := hb.trans (hnew.mono hb.size)
      have hbs := hb2.size
      have hlr : (List.range i).length = i := List.length_range
      have m1 : (List.range i).length + 1 ≤ maxLen := by rw [hlr]; unfold maxLen; omega
      have m2 : ((List.range i).length + 1) * 8 ≤ 140737488355328 := by rw [hlr]; omega
      replace hlr : Hid _ := hlr
      clear hq hnew
      go_wp2_with (at_builtin; refine wpList_pushN (K := natK) rfl _ _ 33 rfl w.heap.size 3 i0 _ 8 Try.underlying33 hi0 hz0 hs0 hb0 rfl _ (List.range i) rfl hq2 i trivial (fun _ h => h.elim) ⟨wr.heap.size, 0, none⟩ 1 rfl hNW m1 m2 hbs ?_; intro ao3 cap3 w5 hQ5 hk5 hf5)
      have hb5 := hb2.trans (hk5.below hb2.size (fun b e => (hq2.lt b e).1))
      rw [← List.range_succ, List.length_range] at hQ5
      clear hq2 hk5 hf5 hb2
      go_roundw
      case rel => exact ⟨i + 1, ao3, cap3, by omega, by simp, by go_num, hQ5, hb5⟩
      case measure => simp [intOf]; omega
    · have g1 : ¬ (i : Int) < (l.length : Int) := by omega
      have hir : i = l.length := by omega
      subst hir
      have cE := refEdges_any l ao cp wr (hl.below hb) hf
      clear hi hil
      go_wp2_with (go_at_call 10; refine cE.mono ?_; rintro _ w3 ⟨ea, ec, rfl, hE, hb3⟩)
      have hER := hE.rowOf.1
      have hEf : Hid (∀ b, rowFoot pairK ea (edgesL (rwL l)) b → wr.heap.size ≤ b) := fun b hb => hE.foot_ge (Nat.le_refl _) (fun _ _ _ h => h.elim) b hb
      have hglt : Hid (∀ b, (Value.slice ga l.length gc).ownBlock = some b → w.heap.size ≤ b ∧ b < wr.heap.size) := fun b e => hq.lt b e
      have hq3 := hq.below hb3
      have hb4 := hb.trans (hb3.mono hb.size)
      have hel : (edgesL (rwL l)).length ≤ 1000000 := by
        have := edgesN_length (rwL l) (rwL l).length
        unfold edgesL
        rw [hlen.out] at this ⊢
        have h2 : l.length * l.length ≤ 1000 * 1000 := Nat.mul_le_mul hl1 hl1
        omega
      have hsp : Hid (GSpec (rwL l) (relaxN (edgesL (rwL l)) l.length (List.range l.length))) := by
        have := ref_groups (l := rwL l)
        rw [hlen.out] at this
        exact this
      have hin : Hid (∀ (i : Nat) (e : Nat × Nat), (edgesL (rwL l))[i]? = some e → e.1 < l.length ∧ e.2 < l.length ∧ e.1 ≠ e.2) := fun i e h => by
        have h1 := edgesL_mem.1 (show (e.1, e.2) ∈ edgesL (rwL l) from List.mem_of_getElem? h)
        have h2 := adjB_lt h1.2
        rw [hlen.out] at h2
        exact ⟨h2.1, h2.2, by omega⟩
      generalize edgesL (rwL l) = E at *
      have hE0 : KQ natK 3 w3 w.heap.size (.slice ga l.length gc) (relaxN E 0 (List.range l.length)) := hq3
      clear cE hq hb hb3 hE hq3
      go_loopw [6] (fun v6 W1 => ∃ t : Nat, t ≤ l.length ∧ v6 = .int .i64 (t : Int) ∧ KQ natK 3 W1 w.heap.size (.slice ga l.length gc) (relaxN E t (List.range l.length)) ∧ RowAt pairK W1 ea E ∧ Below w.heap.size w W1) (fun v _ => l.length - (intOf v).toNat)
      case atStart => exact ⟨0, Nat.zero_le _, rfl, hE0, hER, hb4⟩
      case round =>
        obtain ⟨t, ht, rfl, hq, hR, hb⟩ := hrel
        clear hE0 hER hb4
        by_cases htl : t < l.length
        · have g2 : (t : Int) < (l.length : Int) := by omega
          have hq0 : KQ natK 3 wr w.heap.size (.slice ga l.length gc) (relaxL (relaxN E t (List.range l.length)) (E.take 0)) := hq
          clear hq
          go_wp2_with fail
          go_loopw [7] (fun v7 W2 => ∃ i : Nat, i ≤ E.length ∧ v7 = .int .i64 (i : Int) ∧ KQ natK 3 W2 w.heap.size (.slice ga l.length gc) (relaxL (relaxN E t (List.range l.length)) (E.take i)) ∧ RowAt pairK W2 ea E ∧ Below w.heap.size w W2) (fun v _ => E.length - (intOf v).toNat)
          case atStart => exact ⟨0, Nat.zero_le _, rfl, hq0, hR, hb⟩
          case round =>
            obtain ⟨i, hi, rfl, hq, hR, hb⟩ := hrel
            clear hq0
            by_cases hil : i < E.length
            · have g3 : (i : Int) < (E.length : Int) := by omega
              obtain ⟨e, he⟩ : ∃ p, E[i]? = some p := ⟨_, List.getElem?_eq_getElem hil⟩
              obtain ⟨b, off, rfl, hbl, e1, e2⟩ := hR.pair he
              obtain ⟨h1, h2, h3⟩ := hin.out i e he
              have hgn : Hid (relaxL (relaxN E t (List.range l.length)) (E.take (i + 1)) = relaxE (relaxL (relaxN E t (List.range l.length)) (E.take i)) e) := by
                unfold Hid
                rw [List.take_add_one, he, Option.toList_some, relaxL_snoc]
              obtain ⟨gl, hgl⟩ : ∃ gl, gl = relaxL (relaxN E t (List.range l.length)) (E.take i) := ⟨_, rfl⟩
              rw [← hgl] at hq hgn
              have hgll : gl.length = l.length := by rw [hgl, relaxL_length, relaxN_length, List.length_range]
              obtain ⟨a, c⟩ := e
              obtain ⟨va, hva⟩ : ∃ p, gl[a]? = some p := ⟨_, List.getElem?_eq_getElem (by rw [hgll]; exact h1)⟩
              obtain ⟨vc, hvc⟩ : ∃ p, gl[c]? = some p := ⟨_, List.getElem?_eq_getElem (by rw [hgll]; exact h2)⟩
              obtain ⟨g, go, rfl⟩ := hq.natAt (by omega)
              have hbd : Below wr.heap.size wr wr.drew := below_drewN (Below.refl _ _) 1
              have hqd := hq.below hbd
              have hRd := hR.below hbd
              have hbw := hb.trans (hbd.mono hb.size)
              obtain ⟨ca, fa, hBg, hgw, s1⟩ := hqd.natSet hva
              obtain ⟨cc, fc, _, _, _⟩ := hqd.natSet hvc
              obtain ⟨b', off', e', hbl', d1, d2⟩ := hRd.pair he
              simp only [Option.some.injEq, Addr.mk.injEq, and_true] at e'
              obtain ⟨rfl, rfl⟩ := e'
              have hgb : b ≠ g := fun e => by
                have q1 := hEf.out b (Or.inl ⟨fun e => by rw [e] at hil; simp at hil, off, rfl⟩)
                have q2 := (hglt.out g rfl).2
                omega
              have hgb2 : g ≠ b := fun e => hgb e.symm
              obtain ⟨n, hn⟩ : ∃ n : Nat, n = min va vc := ⟨_, rfl⟩
              have hQa := s1 n
              have hac : (gl.set a n)[c]? = some vc := by rw [List.getElem?_set, if_neg h3]; exact hvc
              obtain ⟨cc2, fc2, _, _, s2⟩ := hQa.natSet hac
              have hQc := s2 n
              have hrel : Hid ((gl.set a n).set c n = relaxL (relaxN E t (List.range l.length)) (E.take (i + 1))) := by
                unfold Hid
                rw [hgn.out]
                unfold relaxE
                show _ = (gl.set a (min (gl.getD a 0) (gl.getD c 0))).set c (min (gl.getD a 0) (gl.getD c 0))
                rw [getD_get hva, getD_get hvc, ← hn]
              have hk1 := Kept.setCell wr.drew ⟨g, go + a, none⟩ (.int .i64 (n : Int))
              have hk2 := hk1.set (p := ⟨g, go + c, none⟩) (Eq.refl g) (.int .i64 (n : Int))
              have hR2 := hRd.kept hk2 (fun b' hb' e => by
                have q1 := hEf.out b' hb'
                have q2 := (hglt.out g rfl).2
                have e' : b' = g := e
                omega)
              have hb2 := hbw.trans (hk2.below hbw.size (fun b e => by have e' : b = g := e; have := (hglt.out g rfl).1; omega))
              have d2' := hk1.cell (p := ⟨b, off + i * 2 + 1, none⟩) hbl' hgb
              rw [d2] at d2'
              have ca' : wr.cell? ⟨g, go + a, none⟩ = some (.int .i64 (va : Int)) := ca
              have cc' : wr.cell? ⟨g, go + c, none⟩ = some (.int .i64 (vc : Int)) := cc
              have d1' : wr.cell? ⟨b, off + i * 2, none⟩ = some (.int .i64 (a : Int)) := d1
              have d2'' : wr.cell? ⟨b, off + i * 2 + 1, none⟩ = some (.int .i64 (c : Int)) := d2
              have fa' : wr.frozen? ⟨g, go + a, none⟩ = false := fa
              have fc' : wr.frozen? ⟨g, go + c, none⟩ = false := fc
              clear ca cc d1 d2 fa fc cc2 fc2 d2'
              have hgn' : Hid _ := hgl
              replace hQc : Hid _ := hQc
              clear hq hR hgl hva hvc hac he hgn s1 s2 hQa hqd hRd hgll hk1 hk2
              rcases Nat.lt_trichotomy va vc with h12 | h12 | h12
              · have h21 : ¬ vc < va := by omega
                obtain rfl : n = va := by omega
                clear hn
                go_wp2_with fail
                rename_i K hK
                replace hK : Hid _ := hK
                go_region
                all_goals
                  refine hK.out _ _ ?_
                  go_wp2
                  go_roundw
                  case rel => exact ⟨i + 1, by omega, by go_num, by rw [← hrel.out]; exact hQc.out, hR2, hb2⟩
                  case measure => simp [intOf]; omega
              · subst h12
                obtain rfl : n = va := by omega
                clear hn
                go_wp2_with fail
                rename_i K hK
                replace hK : Hid _ := hK
                go_region
                all_goals
                  refine hK.out _ _ ?_
                  go_wp2
                  go_roundw
                  case rel => exact ⟨i + 1, by omega, by go_num, by rw [← hrel.out]; exact hQc.out, hR2, hb2⟩
                  case measure => simp [intOf]; omega
              · have h21 : ¬ va < vc := by omega
                obtain rfl : n = vc := by omega
                clear hn
                go_wp2_with fail
                rename_i K hK
                replace hK : Hid _ := hK
                go_region
                all_goals
                  refine hK.out _ _ ?_
                  go_wp2
                  go_roundw
                  case rel => exact ⟨i + 1, by omega, by go_num, by rw [← hrel.out]; exact hQc.out, hR2, hb2⟩
                  case measure => simp [intOf]; omega
            · have g3 : ¬ (i : Int) < (E.length : Int) := by omega
              have hir : i = E.length := by omega
              have hq2 : KQ natK 3 wr w.heap.size (.slice ga l.length gc) (relaxN E (t + 1) (List.range l.length)) := by
                rw [hir, List.take_length] at hq
                exact hq
              clear hir hq
              go_wp2
              go_roundw
              case rel => exact ⟨t + 1, by omega, by go_num, hq2, hR, hb⟩
              case measure => simp [intOf]; omega
        · have g2 : ¬ (t : Int) < (l.length : Int) := by omega
          have htr : t = l.length := by omega
          have hfin : GotGroupsR w (rwL l) (.returned (.slice ga l.length gc)) wr := by
            rw [htr] at hq
            refine ⟨ga, gc, _, by rw [hlen.out], ?_, hsp.out, hb⟩
            rw [hlen.out]
            exact hq
          clear htr hq hR hEf hglt hin
          go_wp2
          go_ret
          exact hfin
end Go.Proofs.Ythegadhkhbokkaa
