/- What the reference's table does: New, Get, Ids, Drop. -/
import Derived.Test.YtegahpgokmcjhaaTabRows
import Derived.BigQuiet
import Derived.Deep.QuietTactic
import Derived.OwnWalk
namespace Go.Proofs.Ytegahpgokmcjhaa
open Go.RowKit
set_option linter.unusedVariables false

set_option maxRecDepth 100000 in
set_option maxHeartbeats 1000000 in
theorem refTabNew_any (most : Int) (w : World) : Calls Try.prog 7 #[.int .i64 most] w fun e w' => e = .returned (.pointer (some ⟨w.heap.size, 0, none⟩)) ∧ RTab w' w.heap.size (.slice none 0 0) (max 0 most) [] false 0 ∧ Below w.heap.size w w' := by
  have hb := belowNew w (.cells #[.int .i64 (max 0 most), .slice none 0 0, .bool false, .int .i64 0] 37)
  have hX := Arr.new w 37 [.int .i64 (max 0 most), .slice none 0 0, .bool false, .int .i64 0]
  by_cases h0 : ¬ most ≤ 0
  · have e : max 0 most = most := by omega
    rw [e] at hb hX ⊢
    go_enter Try.func7, Try.ntmps7
    go_wp2
    go_ret
    exact ⟨rfl, ⟨hX, KQ.empty _ _ _ _, by decide⟩, hb⟩
  · have e : max 0 most = 0 := by omega
    rw [e] at hb hX ⊢
    have h1 : most ≤ 0 := by omega
    go_enter Try.func7, Try.ntmps7
    go_wp2
    go_ret
    exact ⟨rfl, ⟨hX, KQ.empty _ _ _ _, by decide⟩, hb⟩

set_option maxRecDepth 100000 in
set_option maxHeartbeats 1000000 in
theorem refGet_any (id : ByteArray) (rb : Nat) (q : Value) (most : Int) (l : List ThingD) (cut : Bool) (low : Int) (w : World) (h : RTab w rb q most l cut low) :
    Calls Try.prog 13 #[.pointer (some ⟨rb, 0, none⟩), .string id] w fun e w' => e = .returned (.tuple #[.string (gotS (getR l id)), .int .i64 (gotR (getR l id)), .bool (getR l id).isSome]) ∧ Below w.heap.size w w' := by
  obtain ⟨ao, cap, rfl, hnil, hRow⟩ := h.row.form
  have hfew := h.few
  have c1 := h.box.cell (i := 1) rfl
  obtain ⟨g, hg⟩ : ∃ g, Hid (getR l id = g) := ⟨_, rfl⟩
  rw [hg.out]
  go_enter Try.func13, Try.ntmps13
  go_wp2
  go_loopw [7] (fun v7 wr => ∃ i : Nat, i ≤ l.length ∧ v7 = .int .i64 (i : Int) ∧ Hid (getR (l.drop i) id = g) ∧ wr = w) (fun v _ => l.length - (intOf v).toNat)
  case atStart => exact ⟨0, Nat.zero_le _, rfl, hg, rfl⟩
  case round =>
    obtain ⟨i, hil, rfl, hgi, rfl⟩ := hrel
    by_cases hlt : i < l.length
    · have g1 : (i : Int) < (l.length : Int) := by omega
      obtain ⟨x, hx⟩ : ∃ x, l[i]? = some x := ⟨_, List.getElem?_eq_getElem hlt⟩
      have hst := getR_step (id := id) hx
      obtain ⟨b, off, rfl, hbl, y0, y1, y2⟩ := hRow.thing hx
      cases he : x.id.toList == id.toList with
      | true =>
        rw [he] at hst
        have hgx : Hid (g = some x) := hgi.out.symm.trans hst
        clear hst hgi
        go_wp2_with fail
        go_big_quiet (fail)
        have hbq := below_drewN (Below.refl wr.heap.size wr) nq
        generalize wr.drewN nq = w3 at hbq ⊢
        clear c1 y0 y1 y2
        go_wp2
        refine bodyPost_ret (results_tmp3 rfl _ _ _) rfl ?_
        exact ⟨by rw [hgx.out]; rfl, hbq⟩
      | false =>
        rw [he] at hst
        have hgx : Hid (getR (l.drop (i + 1)) id = g) := hst.symm.trans hgi.out
        clear hst hgi
        go_wp2
        go_roundw
        case rel => exact ⟨i + 1, by omega, by go_num, hgx, trivial⟩
        case measure => simp [intOf]; omega
    · obtain rfl : i = l.length := by omega
      have g1 : ¬ ((l.length : Nat) : Int) < (l.length : Int) := by omega
      have hgx : Hid (g = none) := by
        have := hgi.out
        rw [List.drop_length] at this
        exact this.symm
      clear hgi
      go_wp2
      refine bodyPost_ret (results_tmp3 rfl _ _ _) rfl ?_
      exact ⟨by rw [hgx.out]; rfl, Below.refl _ _⟩

theorem infoStrT : (Try.prog.info? 9).any (fun i => i.size == 1 && i.bytes == 16 && (match i.zero with | some z => z.cells.size == 1 | none => false)) = true := by kernel_rfl

theorem strInfoT : ∃ i z, Try.prog.info? 9 = some i ∧ i.zero = some z ∧ i.size = 1 ∧ i.bytes = 16 ∧ z.cells.size = 1 := by
  have h := infoStrT
  cases hi : Try.prog.info? 9 with
  | none => rw [hi] at h; cases h
  | some i =>
    rw [hi] at h
    simp only [Option.any_some, Bool.and_eq_true, beq_iff_eq] at h
    cases hz : i.zero with
    | none => rw [hz] at h; simp at h
    | some z =>
      rw [hz] at h
      exact ⟨i, z, rfl, hz, h.1.1, h.1.2, by simpa using h.2⟩

/-- Texts. -/
def textK : Kind ByteArray where
  n := 1
  c x := [.string x]
  foot _ _ := False
  At _ _ := True
  pos := by decide
  len _ := rfl
  one x u hu := by
    simp only [List.mem_cons, List.not_mem_nil, or_false] at hu
    rcases hu with rfl; rfl
  lt _ h := h.elim
  keep _ _ := trivial

theorem new_text (w : World) (x : ByteArray) : ∀ j u, (textK.c x)[j]? = some u → (w.alloc (.cells #[.string x] 9)).cell? ((⟨w.heap.size, 0, none⟩ : Addr).add j) = some u := by
  intro j u hu
  rw [Go.WideShapes.add_plain, Nat.zero_add]
  exact (Arr.new w 9 [.string x]).cell hu

set_option maxRecDepth 100000 in
set_option maxHeartbeats 1000000 in
theorem refIds_any (round : Int) (rb : Nat) (q : Value) (most : Int) (l : List ThingD) (cut : Bool) (low : Int) (w : World) (h : RTab w rb q most l cut low) :
    Calls Try.prog 17 #[.pointer (some ⟨rb, 0, none⟩), .int .i64 round] w fun e w' => ∃ v, e = .returned v ∧ KQ textK 9 w' w.heap.size v (idsL l round) ∧ Below w.heap.size w w' := by
  obtain ⟨i0, z0, hi0, hz0, hz1, hz2, hz3⟩ := strInfoT
  obtain ⟨ao, cap, rfl, hnil, hRow⟩ := h.row.form
  have hfew := h.few
  go_enter Try.func17, Try.ntmps17
  go_wp2
  go_loopw [5, 6] (fun v5 v6 wr => ∃ i : Nat, i ≤ l.length ∧ v6 = .int .i64 (i : Int) ∧ KQ textK 9 wr w.heap.size v5 (idsL (l.take i) round) ∧ Below w.heap.size w wr) (fun _ v _ => l.length - (intOf v).toNat)
  case atStart => exact ⟨0, Nat.zero_le _, rfl, KQ.empty _ _ _ _, Below.refl _ _⟩
  case round =>
    obtain ⟨i, hil, rfl, hQ, hb⟩ := hrel
    have c1 := (h.box.below hb h.box.lt).cell (i := 1) rfl
    by_cases hlt : i < l.length
    · have g1 : (i : Int) < (l.length : Int) := by omega
      obtain ⟨x, hx⟩ : ∃ x, l[i]? = some x := ⟨_, List.getElem?_eq_getElem hlt⟩
      have hst := idsL_succ hx round
      obtain ⟨b, off, rfl, hbl, y0, y1, y2⟩ := (hRow.below hb).thing hx
      cases he : x.round == round with
      | false =>
        rw [he] at hst
        have hst' : Hid (idsL (l.take (i + 1)) round = idsL (l.take i) round) := hst.trans (List.append_nil _)
        clear hst
        go_wp2
        go_roundw
        case rel => exact ⟨i + 1, by omega, by go_num, by rw [hst'.out]; exact hQ, hb⟩
        case measure => simp [intOf]; omega
      | true =>
        rw [he] at hst
        have hst' : Hid (idsL (l.take (i + 1)) round = idsL (l.take i) round ++ [x.id]) := hst
        have hle := idsL_le (l.take i) round
        rw [List.length_take] at hle
        clear hst
        obtain ⟨ms, hms⟩ : ∃ z, Hid (idsL (l.take i) round = z) := ⟨_, rfl⟩
        rw [hms.out] at hQ hle hst'
        have hbx := belowNew wr (.cells #[.string x.id] 9)
        have hQ2 := hQ.below hbx
        have hb2 := hb.trans (hbx.mono hb.size)
        have hN := new_text wr x.id
        have hbs := hb2.size
        have m1 : ms.length + 1 ≤ maxLen := by unfold maxLen; omega
        have m2 : (ms.length + 1) * 16 ≤ 140737488355328 := by omega
        clear hQ
        go_wp2_with (at_builtin; refine wpList_push (K := textK) rfl _ _ 39 rfl w.heap.size 9 i0 _ 16 Try.underlying39 hi0 hz0 hz1 hz2 hz3 _ ms rfl hQ2 x.id trivial (fun _ h => h.elim) ⟨wr.heap.size, 0, none⟩ 1 rfl hN m1 m2 hbs ?_)
        intro ao3 cap3 w3 hQ3 hk3
        have hbF := hb2.trans (Kept.below hk3 hbs (fun j hj => (hQ2.lt j hj).1))
        clear hk3 hQ2 hb2 hbx hN hbs m1 m2 y0 y1 y2 c1
        go_wp2
        go_roundw
        case rel => exact ⟨i + 1, by omega, by go_num, by rw [hst'.out]; exact hQ3, hbF⟩
        case measure => simp [intOf]; omega
    · obtain rfl : i = l.length := by omega
      have g1 : ¬ ((l.length : Nat) : Int) < (l.length : Int) := by omega
      rw [List.take_length] at hQ
      go_wp2
      go_ret
      exact ⟨_, rfl, hQ, hb⟩
end Go.Proofs.Ytegahpgokmcjhaa
