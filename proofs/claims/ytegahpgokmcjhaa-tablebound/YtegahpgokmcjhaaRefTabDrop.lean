/- What the reference's Drop does. -/
import Derived.Test.YtegahpgokmcjhaaRefTab
namespace Go.Proofs.Ytegahpgokmcjhaa
open Go.RowKit
set_option linter.unusedVariables false

set_option maxRecDepth 100000 in
set_option maxHeartbeats 2000000 in
theorem refDrop_any (round : Int) (rb : Nat) (q : Value) (most : Int) (l : List ThingD) (cut : Bool) (low : Int) (w : World) (h : RTab w rb q most l cut low) :
    Calls Try.prog 9 #[.pointer (some ⟨rb, 0, none⟩), .int .i64 round] w fun e w' => e = .returned (.int .i64 ((l.length : Int) - ((dropL l round).length : Int))) ∧ ∃ q', RTab w' rb q' most (dropL l round) true (lowR cut low round) ∧ FreshQ w q q' ∧ Kept (BoxS rb q) w w' := by
  obtain ⟨i0, z0, hi0, hz0, hz1, hz2, hz3⟩ := thingInfo
  obtain ⟨ao, cap, rfl, hnil, hRow⟩ := h.row.form
  have hfew := h.few
  obtain ⟨mF, hmF⟩ : ∃ z, Hid (dropL l round = z) := ⟨_, rfl⟩
  obtain ⟨lw, hlw⟩ : ∃ z, Hid (lowR cut low round = z) := ⟨_, rfl⟩
  rw [hmF.out, hlw.out]
  go_enter Try.func9, Try.ntmps9
  go_wp2
  go_loopw [5, 6] (fun v5 v6 wr => ∃ i : Nat, i ≤ l.length ∧ v6 = .int .i64 (i : Int) ∧ KQ thingK 55 wr w.heap.size v5 (dropL (l.take i) round) ∧ Below w.heap.size w wr) (fun _ v _ => l.length - (intOf v).toNat)
  case atStart => exact ⟨0, Nat.zero_le _, rfl, KQ.empty _ _ _ _, Below.refl _ _⟩
  case round =>
    obtain ⟨i, hil, rfl, hQ, hb⟩ := hrel
    have hB := h.box.below hb h.box.lt
    have c1 := hB.cell (i := 1) rfl
    by_cases hlt : i < l.length
    · have g1 : (i : Int) < (l.length : Int) := by omega
      obtain ⟨x, hx⟩ : ∃ x, l[i]? = some x := ⟨_, List.getElem?_eq_getElem hlt⟩
      have hst := dropL_succ hx round
      obtain ⟨b, off, rfl, hbl, y0, y1, y2⟩ := (hRow.below hb).thing hx
      by_cases he : round ≤ x.round
      · rw [if_pos he] at hst
        have hst' : Hid (dropL (l.take (i + 1)) round = dropL (l.take i) round ++ [x]) := hst
        have hle := dropL_le (l.take i) round
        rw [List.length_take] at hle
        clear hst hB
        obtain ⟨ms, hms⟩ : ∃ z, Hid (dropL (l.take i) round = z) := ⟨_, rfl⟩
        rw [hms.out] at hQ hle hst'
        have hbx := belowNew wr (.cells #[.string x.id, .int .i64 x.round, .string x.s] 55)
        have hQ2 := hQ.below hbx
        have hb2 := hb.trans (hbx.mono hb.size)
        have hN := new_thing wr x
        have hbs := hb2.size
        have m1 : ms.length + 1 ≤ maxLen := by unfold maxLen; omega
        have m2 : (ms.length + 1) * 40 ≤ 140737488355328 := by omega
        clear hQ
        go_wp2_with (at_builtin; refine wpList_push (K := thingK) rfl _ _ 35 rfl w.heap.size 55 i0 _ 40 Try.underlying35 hi0 hz0 hz1 hz2 hz3 _ ms rfl hQ2 x trivial (fun _ h => h.elim) ⟨wr.heap.size, 0, none⟩ 1 rfl hN m1 m2 hbs ?_)
        intro ao3 cap3 w3 hQ3 hk3
        have hbF := hb2.trans (Kept.below hk3 hbs (fun j hj => (hQ2.lt j hj).1))
        clear hk3 hQ2 hb2 hbx hN hbs m1 m2 y0 y1 y2 c1
        go_wp2
        go_roundw
        case rel => exact ⟨i + 1, by omega, by go_num, by rw [hst'.out]; exact hQ3, hbF⟩
        case measure => simp [intOf]; omega
      · rw [if_neg he] at hst
        have hst' : Hid (dropL (l.take (i + 1)) round = dropL (l.take i) round) := hst.trans (List.append_nil _)
        clear hst hB
        go_wp2
        go_roundw
        case rel => exact ⟨i + 1, by omega, by go_num, by rw [hst'.out]; exact hQ, hb⟩
        case measure => simp [intOf]; omega
    · obtain rfl : i = l.length := by omega
      have g1 : ¬ ((l.length : Nat) : Int) < (l.length : Int) := by omega
      rw [List.take_length] at hQ
      have hle := dropL_le l round
      rw [hmF.out] at hQ hle
      obtain ⟨ao5, cap5, rfl, _, _⟩ := hQ.form
      obtain ⟨hF, hfr, hkF⟩ := h.newRow hb hQ (by omega)
      have c2 := hB.cell (i := 2) rfl
      have c3 := hB.cell (i := 3) rfl
      have f1 := hB.frozen 1
      have f2 := hB.frozen 2
      have f3 := hB.frozen 3
      clear hB
      cases cut with
      | false =>
        have hlr : Hid (lw = round) := by rw [← hlw.out]; rfl
        have hG := (hF.setLow round).setCut
        have hkG := (hkF.set (p := ⟨rb, 3, none⟩) (Or.inl rfl) (.int .i64 round)).set (p := ⟨rb, 2, none⟩) (Or.inl rfl) (.bool true)
        clear hF hkF hQ hlw
        go_wp2
        go_ret
        exact ⟨rfl, _, by rw [hlr.out]; exact hG, hfr, hkG⟩
      | true =>
        by_cases hlo : low < round
        · have hlr : Hid (lw = round) := by
            show lw = round
            rw [← hlw.out]
            unfold lowR
            rw [if_pos (Or.inr hlo)]
          have hG := (hF.setLow round).setCut
          have hkG := (hkF.set (p := ⟨rb, 3, none⟩) (Or.inl rfl) (.int .i64 round)).set (p := ⟨rb, 2, none⟩) (Or.inl rfl) (.bool true)
          clear hF hkF hQ hlw
          go_wp2
          go_ret
          exact ⟨rfl, _, by rw [hlr.out]; exact hG, hfr, hkG⟩
        · have hlr : Hid (lw = low) := by
            show lw = low
            rw [← hlw.out]
            unfold lowR
            rw [if_neg (by simp; omega)]
          have hG := hF.setCut
          have hkG := hkF.set (p := ⟨rb, 2, none⟩) (Or.inl rfl) (.bool true)
          clear hF hkF hQ hlw
          go_wp2
          go_ret
          exact ⟨rfl, _, by rw [hlr.out]; exact hG, hfr, hkG⟩
end Go.Proofs.Ytegahpgokmcjhaa
