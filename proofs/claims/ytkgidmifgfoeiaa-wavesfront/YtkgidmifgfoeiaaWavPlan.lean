/- What waves.Plan does. -/
import Derived.Test.YtkgidmifgfoeiaaWavOf
import Derived.Test.YtkgidmifgfoeiaaWavRows
import Derived.Test.YtkgidmifgfoeiaaWavChk
namespace Go.Proofs.Ytkgidmifgfoeiaa
open Go Go.RowKit
set_option linter.unusedVariables false

theorem wv_le_nw (l : List RwD) (i : Nat) : wv l i ≤ nwN l i := by
  rcases Nat.eq_zero_or_pos (wv l i) with h | h
  · omega
  · obtain ⟨k, h1, h2, h3⟩ := wv_ex h
    have := nwN_gt (l := l) h1
    omega

/-- The plan with room for the next one's wave. -/
def roomN (l : List RwD) (i : Nat) : List (List Nat) := if wv l i = nwN l i then planN l i ++ [[]] else planN l i

theorem roomN_get (l : List RwD) (i : Nat) : (roomN l i)[wv l i]? = some (waveL l i (wv l i)) := by
  have h := wv_le_nw l i
  unfold roomN
  by_cases e : wv l i = nwN l i
  · rw [if_pos e, List.getElem?_append_right (by rw [planN_length]; omega), planN_length, e, Nat.sub_self]
    have : waveL l i (nwN l i) = [] := by
      rw [List.eq_nil_iff_forall_not_mem]
      intro x hx
      obtain ⟨q1, q2⟩ := waveL_mem.1 hx
      have := nwN_gt (l := l) q1
      omega
    rw [this]
    rfl
  · rw [if_neg e, planN_get (by omega)]

theorem roomN_set (l : List RwD) (i : Nat) : (roomN l i).set (wv l i) (waveL l i (wv l i) ++ [i]) = planN l (i + 1) := by
  have h := wv_le_nw l i
  rw [planN_succ]
  congr 1
  unfold roomN roomTo
  rw [planN_length]
  by_cases e : wv l i = nwN l i
  · rw [if_pos e, e, show nwN l i + 1 - nwN l i = 1 by omega]; rfl
  · rw [if_neg e, show wv l i + 1 - nwN l i = 0 by omega]; simp

theorem lsP_len {p : List IRow} {P : List (List Nat)} (h : lsP p = planI P) : p.length = P.length := by
  have := congrArg List.length h
  simpa [lsP, planI] using this

theorem lsP_row {p : List IRow} {P : List (List Nat)} (h : lsP p = planI P) {k : Nat} {r : List Nat} (hr : P[k]? = some r) : ∃ x, p[k]? = some x ∧ x.l = rowI r := by
  have h1 : (lsP p)[k]? = some (rowI r) := by rw [h]; unfold planI; rw [List.getElem?_map, hr]; rfl
  unfold lsP at h1
  rw [List.getElem?_map] at h1
  cases hp : p[k]? with
  | none => rw [hp] at h1; cases h1
  | some x => rw [hp] at h1; exact ⟨x, rfl, by simpa using h1⟩

theorem lsP_set {p : List IRow} {P : List (List Nat)} (h : lsP p = planI P) {k : Nat} {y : IRow} {r : List Nat} (hy : y.l = rowI r) : lsP (p.set k y) = planI (P.set k r) := by
  unfold lsP planI at *
  rw [List.map_set, h, List.map_set, hy]

theorem lsP_grow {p : List IRow} {P : List (List Nat)} (h : lsP p = planI P) : lsP (p ++ [⟨[], none, 0⟩]) = planI (P ++ [[]]) := by
  unfold lsP planI at *
  rw [List.map_append, h, List.map_append]
  rfl

theorem rowI_snoc (r : List Nat) (i : Nat) : rowI (r ++ [i]) = rowI r ++ [(i : Int)] := by
  unfold rowI
  rw [List.map_append]
  rfl

theorem intsInfo : ∃ i z, Try.prog.info? 24 = some i ∧ i.zero = some z ∧ i.size = 1 ∧ i.bytes = 24 ∧ z.cells.size = 1 := infoParts (by kernel_rfl)

theorem new_slot (w : World) (x : IRow) : ∀ j u, (slotK.c x)[j]? = some u → (w.alloc (.cells #[x.v] 24)).cell? ((⟨w.heap.size, 0, none⟩ : Addr).add j) = some u := by
  intro j u hu
  rw [Go.WideShapes.add_plain, Nat.zero_add]
  exact (Arr.new w 24 [x.v]).cell hu

theorem new_int (w : World) (v : Int) : ∀ j u, (intK.c v)[j]? = some u → (w.alloc (.cells #[.int .i64 v] 3)).cell? ((⟨w.heap.size, 0, none⟩ : Addr).add j) = some u := by
  intro j u hu
  rw [Go.WideShapes.add_plain, Nat.zero_add]
  exact (Arr.new w 3 [.int .i64 v]).cell hu

def GotPlan (W : World) (l : List RwD) (e : Ending) (w : World) : Prop :=
  ∃ q p, e = .returned q ∧ PlanQ w W.heap.size q p ∧ lsP p = planI (planN l l.length) ∧ Below W.heap.size W w

theorem waveL_length (l : List RwD) (m w : Nat) : (waveL l m w).length ≤ m := by
  unfold waveL
  exact Nat.le_trans (List.length_filter_le _ _) (by rw [List.length_range]; exact Nat.le_refl _)

set_option maxRecDepth 100000 in
set_option maxHeartbeats 2000000 in
theorem plan_any (l : List TxA) (ao : Option Addr) (cp : Nat) (w : World) (hl : RowAt txA w ao l) (hf : Few l) :
    Calls Try.prog 13 #[.slice ao l.length cp] w fun e w' => GotPlan w (rwL l) e w' := by
  have hl1 := hf.1
  have hlen := rwL_length l
  have cO := of_any l ao cp w hl hf
  obtain ⟨i0, z0, hi0, hz0, hs0, hbb0, hzs0⟩ := intsInfo
  obtain ⟨i1, z1, hi1, hz1, hs1, hbb1, hzs1⟩ := intInfoA
  go_enter Try.func13, Try.ntmps13
  go_wp2_with (go_at_call 9; refine cO.mono ?_; rintro _ w1 ⟨g, rfl, hq, hb1⟩; rw [hlen] at hq ⊢)
  have hP0 := PlanQ.empty w1 w1.heap.size
  go_loopw [9, 3] (fun v9 v3 wr => ∃ (i : Nat) (qa : Option Addr) (qc : Nat) (p : List IRow), i ≤ l.length ∧ v9 = .int .i64 (i : Int) ∧ v3 = .slice qa p.length qc ∧ PlanQ wr w1.heap.size (.slice qa p.length qc) p ∧ Hid (lsP p = planI (planN (rwL l) i)) ∧ Below w1.heap.size w1 wr) (fun v _ _ => l.length - (intOf v).toNat)
  case atStart => exact ⟨0, none, 0, [], Nat.zero_le _, rfl, rfl, hP0, rfl, Below.refl _ _⟩
  case round =>
    obtain ⟨i, qa, qc, p, hi, rfl, rfl, hP, hls, hb⟩ := hrel
    clear hP0 cO
    by_cases hil : i < l.length
    · have g1 : (i : Int) < (l.length : Int) := by omega
      have hgi : (wvN (rwL l) l.length)[i]? = some (wv (rwL l) i) := wvN_get _ hil
      have cg := ((hq.below hb).natSet hgi).1
      simp only [Nat.zero_add] at cg
      have hpl : p.length = nwN (rwL l) i := by rw [lsP_len hls.out, planN_length]
      have hnw := nwN_le (rwL l) i
      have hle := wv_le_nw (rwL l) i
      have hroom : Hid (∀ p1 : List IRow, lsP p1 = planI (roomN (rwL l) i) → ∃ x, p1[wv (rwL l) i]? = some x ∧ x.l = rowI (waveL (rwL l) i (wv (rwL l) i)) ∧ ∀ y : IRow, y.l = x.l ++ [(i : Int)] → lsP (p1.set (wv (rwL l) i) y) = planI (planN (rwL l) (i + 1))) := by
        intro p1 h1
        obtain ⟨x, q1, q2⟩ := lsP_row h1 (roomN_get (rwL l) i)
        refine ⟨x, q1, q2, fun y hy => ?_⟩
        rw [← roomN_set]
        exact lsP_set h1 (by rw [hy, q2, rowI_snoc])
      have hr1 : Hid (wv (rwL l) i = p.length → lsP (p ++ [⟨[], none, 0⟩]) = planI (roomN (rwL l) i)) := fun e => by
        unfold roomN
        rw [if_pos (by omega)]
        exact lsP_grow hls.out
      have hr2 : Hid (¬ wv (rwL l) i = p.length → lsP p = planI (roomN (rwL l) i)) := fun e => by
        unfold roomN
        rw [if_neg (by omega)]
        exact hls.out
      have hwl : Hid ((waveL (rwL l) i (wv (rwL l) i)).length ≤ i) := waveL_length _ _ _
      have hrl : Hid ((rowI (waveL (rwL l) i (wv (rwL l) i))).length ≤ i) := by unfold rowI Hid; rw [List.length_map]; exact waveL_length _ _ _
      generalize rowI (waveL (rwL l) i (wv (rwL l) i)) = R at *
      generalize hv : wv (rwL l) i = v at *
      replace hv : Hid _ := hv
      clear hgi hls hwl
      have e1 : (p ++ [(⟨[], none, 0⟩ : IRow)]).length = p.length + 1 := by rw [List.length_append]; rfl
      have hBw : w1.heap.size ≤ wr.heap.size := hb.size
      have hpi : p.length ≤ i := by omega
      have hvi : v ≤ p.length := by omega
      clear hpl hnw hle
      by_cases hvp : v = p.length
      · subst hvp
        obtain ⟨⟨L, xa, xc⟩, hx1, hxl, hy1⟩ := hroom.out _ (hr1.out rfl)
        replace hxl : L = R := hxl
        subst hxl
        have hLi := hrl.out
        have hx1' : Hid _ := hx1
        have hy1' : Hid (∀ (a : Option Addr) (c : Nat), lsP ((p ++ [(⟨[], none, 0⟩ : IRow)]).set p.length ⟨L ++ [(i : Int)], a, c⟩) = planI (planN (rwL l) (i + 1))) := fun a c => hy1 ⟨L ++ [(i : Int)], a, c⟩ rfl
        have hb4 := belowNew wr (.cells #[.slice none 0 0] 24)
        have hP4 := hP.below hb4
        have hNW := new_slot wr ⟨[], none, 0⟩
        have hB4 : w1.heap.size ≤ (wr.alloc (.cells #[.slice none 0 0] 24)).heap.size := Nat.le_trans hBw hb4.size
        have hb44 : Below w1.heap.size w1 (wr.alloc (.cells #[.slice none 0 0] 24)) := hb.trans (hb4.mono hBw)
        have m1 : p.length + 1 ≤ maxLen := by unfold maxLen; omega
        have m2 : (p.length + 1) * 24 ≤ 140737488355328 := by omega
        have m3 : L.length + 1 ≤ maxLen := by unfold maxLen; omega
        have m4 : (L.length + 1) * 8 ≤ 140737488355328 := by omega
        have g3 : (p.length : Int) < ((p.length : Int) + 1) := by omega
        clear hx1 hy1 hr1 hr2 hroom hrl hb4
        go_wp2_with (first
          | (at_builtin; refine wpList_pushN (K := slotK) rfl _ _ 28 rfl w1.heap.size 24 i0 _ 24 Try.underlying28 hi0 hz0 hs0 hbb0 hzs0 _ p rfl hP4.out ⟨[], none, 0⟩ trivial (fun _ h => h.elim) ⟨wr.heap.size, 0, none⟩ 1 rfl hNW m1 m2 hB4 ?_
             intro ao3 cap3 w5 hQ5 hk5 hf5
             have hP5 := hP4.grow hQ5 hk5 hf5
             have hb5 : Below w1.heap.size w1 w5 := hb44.trans (hk5.below hB4 (fun k e => (hP4.out.lt k e).1))
             obtain ⟨gq, oq, rfl, hgB, hgw, cx, hKx⟩ := hP5.at hx1'.out
             have hb6 := belowNew w5 (.cells #[.int .i64 (i : Int)] 3)
             have hP6 := hP5.below hb6
             have hK6 := hKx.below hb6
             have hNI := new_int w5 (i : Int)
             have hb66 := hb5.trans (hb6.mono hb5.size)
             have hB6 := hb66.size
             clear hP4 hQ5 hk5 hf5 hP5 hKx hb44)
          | (at_builtin; refine wpList_pushN (K := intK) rfl _ _ 24 rfl w1.heap.size 3 i1 _ 8 Try.underlying24 hi1 hz1 hs1 hbb1 hzs1 _ L rfl hK6 (i : Int) trivial (fun _ h => h.elim) ⟨w5.heap.size, 0, none⟩ 1 rfl hNI m3 m4 hB6 ?_
             intro ao4 cap4 w7 hQ7 hk7 hf7
             obtain ⟨c7, f7, hP8, hb8⟩ := hP6.puts hx1'.out hQ7 hk7 hf7
             replace hb8 := hb66.trans (hb8 _ (Nat.le_refl _) hB6)
             clear hP6 hQ7 hk7 hf7 hb66))
        have e2 : (L ++ [(i : Int)]).length = L.length + 1 := by rw [List.length_append]; rfl
        rw [e1, e2] at hP8
        rw [e2] at hb8
        have e3 : ((p ++ [(⟨[], none, 0⟩ : IRow)]).set p.length ⟨L ++ [(i : Int)], ao4, cap4⟩).length = p.length + 1 := by rw [List.length_set, e1]
        have h4 := hy1'.out ao4 cap4
        clear hx1' hy1' hNI hNW hK6 c7 f7 cx hB4 hb6 hb5
        go_roundw
        case rel => exact ⟨i + 1, _, cap3, _, by omega, by go_num, by rw [e3], by rw [e3]; exact hP8, h4, hb8⟩
        case measure => simp [intOf]; omega
      · have g2 : ((v : Int) == (p.length : Int)) = false := by simp; omega
        obtain ⟨⟨L, xa, xc⟩, hx1, hxl, hy1⟩ := hroom.out _ (hr2.out hvp)
        replace hxl : L = R := hxl
        subst hxl
        have hLi := hrl.out
        have hx1' : Hid _ := hx1
        have hy1' : Hid (∀ (a : Option Addr) (c : Nat), lsP (p.set v ⟨L ++ [(i : Int)], a, c⟩) = planI (planN (rwL l) (i + 1))) := fun a c => hy1 ⟨L ++ [(i : Int)], a, c⟩ rfl
        obtain ⟨gq, oq, rfl, hgB, hgw, cx, hKx⟩ := hP.at hx1
        have hb6 := belowNew wr (.cells #[.int .i64 (i : Int)] 3)
        have hP6 := hP.below hb6
        have hK6 := hKx.below hb6
        have hNI := new_int wr (i : Int)
        have hb66 := hb.trans (hb6.mono hBw)
        have hB6 := hb66.size
        have m3 : L.length + 1 ≤ maxLen := by unfold maxLen; omega
        have m4 : (L.length + 1) * 8 ≤ 140737488355328 := by omega
        have g3 : (v : Int) < (p.length : Int) := by omega
        clear hx1 hy1 hr1 hr2 hroom hrl hP hKx hb6
        go_wp2_with (at_builtin; refine wpList_pushN (K := intK) rfl _ _ 24 rfl w1.heap.size 3 i1 _ 8 Try.underlying24 hi1 hz1 hs1 hbb1 hzs1 _ L rfl hK6 (i : Int) trivial (fun _ h => h.elim) ⟨wr.heap.size, 0, none⟩ 1 rfl hNI m3 m4 hB6 ?_
                     intro ao4 cap4 w7 hQ7 hk7 hf7
                     obtain ⟨c7, f7, hP8, hb8⟩ := hP6.puts hx1'.out hQ7 hk7 hf7
                     replace hb8 := hb66.trans (hb8 _ (Nat.le_refl _) hB6)
                     clear hP6 hQ7 hk7 hf7 hb66)
        have e2 : (L ++ [(i : Int)]).length = L.length + 1 := by rw [List.length_append]; rfl
        rw [e2] at hP8 hb8
        have e3 : (p.set v ⟨L ++ [(i : Int)], ao4, cap4⟩).length = p.length := by rw [List.length_set]
        have h4 := hy1'.out ao4 cap4
        clear hx1' hy1' hNI hK6 c7 f7 cx
        go_roundw
        case rel => exact ⟨i + 1, _, qc, _, by omega, by go_num, by rw [e3], by rw [e3]; exact hP8, h4, hb8⟩
        case measure => simp [intOf]; omega
    · have g1 : ¬ (i : Int) < (l.length : Int) := by omega
      have hil2 : i = l.length := by omega
      have hfin : GotPlan w (rwL l) (.returned (.slice qa p.length qc)) wr := by
        have h4 := hls.out
        rw [hil2] at h4
        exact ⟨_, p, rfl, hP.rebase hb1.size, by rw [hlen]; exact h4, hb1.trans (hb.mono hb1.size)⟩
      clear hP hil2 hls hlen
      go_wp2
      go_ret
      exact hfin
end Go.Proofs.Ytkgidmifgfoeiaa
