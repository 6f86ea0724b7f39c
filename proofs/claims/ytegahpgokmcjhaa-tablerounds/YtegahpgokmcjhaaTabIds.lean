/- The ids of a round, by a map gone through and a sort. -/
import Derived.Test.YtegahpgokmcjhaaTabProg
import Derived.Test.YtegahpgokmcjhaaTabSort
namespace Go.Proofs.Ytegahpgokmcjhaa
open Go Go.RowKit Go.Maps
set_option linter.unusedVariables false

set_option maxRecDepth 100000 in
set_option maxHeartbeats 2000000 in
theorem tabIds_any (round : Int) (tb mb : Nat) (most low : Int) (l : List ThingD) (w : World) (h : PTab w tb mb most low l) (hr : Rise l) :
    Calls Try.prog 16 #[.pointer (some ⟨tb, 0, none⟩), .int .i64 round] w fun e w' => ∃ v, e = .returned v ∧ KQ textK 9 w' w.heap.size v (idsL l round) ∧ Below w.heap.size w w' := by
  obtain ⟨i0, z0, hi0, hz0, hz1, hz2, hz3⟩ := strInfoT
  have hM := h.map
  have hfew := h.few
  have c2 := h.box.cell (i := 0) rfl
  have hne := h.ne
  obtain ⟨f0, hf0⟩ : ∃ f, Hid (tabF l = f) := ⟨_, rfl⟩
  rw [hf0.out] at hM
  go_enter Try.func16, Try.ntmps16
  go_wp2_with (at_range; refine smap_range rfl _ 49 rfl 53 Try.underlying49 mb f0 _ rfl hM ?_; intro w1 hR1 hb1 hs1)
  have hstep : Hid (∀ id v, f0 id = some v → ∃ rd s, v = .agg #[.int .i64 rd, .string s]) := by
    intro id v hv
    rw [← hf0.out] at hv
    unfold tabF at hv
    obtain ⟨x, hx, e⟩ := Option.map_eq_some_iff.1 hv
    exact ⟨x.round, x.s, e.symm⟩
  have hend : Hid (∀ k : List ByteArray, k.Nodup → (∀ i, i ∈ k ↔ ∃ s, f0 i = some (.agg #[.int .i64 round, .string s])) → sortT k = idsL l round) := by
    intro k hn hk
    refine sortT_eq (ids_rise hr round) (nod_perm hn ?_ (fun i => ?_))
    · exact (ids_rise hr round).imp (fun {x y} h e => by rw [e] at h; exact List.lt_irrefl _ h)
    · rw [hk, ids_mem hr.nod, ← hf0.out]
      unfold tabF
      constructor
      · rintro ⟨s, hs⟩
        obtain ⟨x, hx, e⟩ := Option.map_eq_some_iff.1 hs
        unfold thingV at e
        simp at e
        exact ⟨x, hx, e.1⟩
      · rintro ⟨x, hx, e⟩
        rw [hx, ← e]
        exact ⟨x.s, rfl⟩
  obtain ⟨r, hr0⟩ : ∃ r, Hid (w.heap.size = r) := ⟨_, rfl⟩
  rw [hr0.out] at hR1 ⊢
  have hrb : r ≠ tb ∧ r ≠ mb := by have := hr0.out; have := h.box.lt; have := hM.lt; omega
  have hwr : w.heap.size ≤ r := by rw [hr0.out]; exact Nat.le_refl _
  have hmb : mb < w.heap.size := hM.lt
  clear c2
  go_frame
  go_loopw [5] (fun v5 wr => ∃ (left : ByteArray → Bool) (cnt : Nat) (k : List ByteArray), SRange wr mb r f0 l.length left cnt ∧ KQ textK 9 wr (r + 1) v5 k ∧ k.Nodup ∧ k.length + cnt ≤ l.length ∧ (∀ i, i ∈ k ↔ left i = false ∧ ∃ s, f0 i = some (.agg #[.int .i64 round, .string s])) ∧ Below w.heap.size w wr) (fun _ wr => wr.rangeLeft mb r)
  case atStart =>
    refine ⟨_, _, [], hR1, KQ.empty _ _ _ _, List.nodup_nil, by simp, fun i => ⟨fun hi => by simp at hi, ?_⟩, hb1⟩
    rintro ⟨h1, s, h2⟩
    rw [h2] at h1
    cases h1
  case round =>
    obtain ⟨left, cnt, k, hR, hQ, hn, hlen, hk, hb⟩ := hrel
    clear hR1 hb1 hs1
    go_wp2_with (at_next; refine smap_next rfl _ rfl mb r _ _ _ _ rfl hR ?_ ?_)
    · intro hl
      have hfin := hend.out k hn (fun i => by rw [hk i, hl i]; simp)
      obtain ⟨ao, cap, rfl, hnil, hRow⟩ := hQ.form
      clear hR
      go_wp2_with fail
      refine (sortS_any (r + 1) _ k _ hQ (by omega)).mono ?_
      rintro _ w9 ⟨rfl, hQ9, hk9⟩
      have hb9 := hb.trans (Kept.below hk9 hb.size (fun j hj => by have := (hQ.lt j hj).1; omega))
      rw [hfin] at hQ9
      clear hk9 hQ
      go_wp2_with fail
      go_ret
      exact ⟨_, rfl, hQ9.rebase (by omega), hb9⟩
    · intro id v w2 cnt2 hid hlx hfx hR2 hlt hk2 hs2 hen
      obtain ⟨rd, s, rfl⟩ := hstep.out id v hfx
      have hA := belowNew w2 (.cells #[.int .i64 rd, .string s] 53)
      have hQ2 := hQ.kept hk2 (fun j hj e => by have e' : j = r := e; have := (hQ.lt j hj).1; omega) (fun _ _ _ h => h.elim)
      have hb2 := hb.trans (Kept.below hk2 hb.size (fun j e => by have e' : j = r := e; omega))
      have hQ3 := hQ2.below hA
      have hR3 := hR2.kept (Kept.of_below (S := fun _ => False) hA) (fun e => e) (fun e => e)
      have hb3 := hb2.trans (hA.mono hb2.size)
      have hLq := hR.left_eq
      have hne9 : id ∉ k := fun hm => by have := ((hk id).1 hm).1; rw [hlx] at this; cases this
      have hr2 := hR2.lt
      clear hQ hQ2 hb hb2 hk2 hR hs2 hR2
      by_cases he : rd = round
      · subst he
        have hk9 : ∀ i, i ∈ k ++ [id] ↔ strikeF left id i = false ∧ ∃ s, f0 i = some (.agg #[.int .i64 rd, .string s]) := by
          intro i
          rw [List.mem_append, List.mem_singleton, hk i]
          unfold strikeF
          by_cases hi : i = id
          · subst hi
            simp only [decide_true, Bool.not_true, Bool.and_false, true_and]
            exact ⟨fun _ => ⟨s, hfx⟩, fun _ => Or.inr trivial⟩
          · simp [hi]
        have hn9 : (k ++ [id]).Nodup := by
          rw [List.nodup_append]
          exact ⟨hn, by simp, fun a ha b hb e => by simp at hb; subst hb; subst e; exact hne9 ha⟩
        have hbx := belowNew (w2.alloc (.cells #[.int .i64 rd, .string s] 53)) (.cells #[.string id] 9)
        have hQ4 := hQ3.below hbx
        have hR4 := hR3.kept (Kept.of_below (S := fun _ => False) hbx) (fun e => e) (fun e => e)
        have hb4 := hb3.trans (hbx.mono hb3.size)
        have hN := new_text (w2.alloc (.cells #[.int .i64 rd, .string s] 53)) id
        have e8 : (w2.alloc (.cells #[.int .i64 rd, .string s] 53)).heap.size = w2.heap.size + 1 := by show (w2.heap.push _).size = _; exact Array.size_push _
        rw [e8] at hN
        have hbs : r + 1 ≤ ((w2.alloc (.cells #[.int .i64 rd, .string s] 53)).alloc (.cells #[.string id] 9)).heap.size := by have := hbx.size; have := hA.size; omega
        have m1 : k.length + 1 ≤ maxLen := by unfold maxLen; omega
        have m2 : (k.length + 1) * 16 ≤ 140737488355328 := by omega
        clear hk hQ3 hR3 hb3 e8
        go_wp2_with (at_builtin; refine wpList_push (K := textK) rfl _ _ 39 rfl (r + 1) 9 i0 _ 16 Try.underlying39 hi0 hz0 hz1 hz2 hz3 _ k rfl hQ4 id trivial (fun _ h => h.elim) ⟨w2.heap.size + 1, 0, none⟩ 1 rfl hN m1 m2 hbs ?_)
        intro ao3 cap3 w3 hQ5 hk3
        have hR5 := hR4.kept hk3 (fun e => by have := (hQ4.lt _ e).1; omega) (fun e => by have := (hQ4.lt _ e).1; omega)
        have hb5 := hb4.trans (Kept.below hk3 hb4.size (fun j hj => by have := (hQ4.lt j hj).1; omega))
        clear hk3 hQ4 hb4 hbx hN hbs m1 m2 hen hR4
        go_wp2
        go_roundw
        case rel => exact ⟨_, _, _, hR5, hQ5, hn9, by rw [List.length_append]; simp; omega, hk9, hb5⟩
        case measure => rw [hR5.left_eq, hLq]; omega
      · have hk9 : ∀ i, i ∈ k ↔ strikeF left id i = false ∧ ∃ s, f0 i = some (.agg #[.int .i64 round, .string s]) := by
          intro i
          rw [hk i]
          unfold strikeF
          by_cases hi : i = id
          · subst hi
            constructor
            · rintro ⟨h1, _⟩
              rw [hlx] at h1
              cases h1
            · rintro ⟨_, s', h2⟩
              rw [hfx] at h2
              simp at h2
              exact (he h2.1).elim
          · simp [hi]
        clear hk
        go_wp2
        go_roundw
        case rel => exact ⟨_, _, _, hR3, hQ3, hn, by omega, hk9, hb3⟩
        case measure => rw [hR3.left_eq, hLq]; omega
end Go.Proofs.Ytegahpgokmcjhaa
