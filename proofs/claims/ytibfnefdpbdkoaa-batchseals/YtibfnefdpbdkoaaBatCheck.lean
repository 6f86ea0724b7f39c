/- What batch.Check does; nothing old in memory is turned. -/
import Derived.Test.YtibfnefdpbdkoaaBatchMath
import Derived.Test.YtibfnefdpbdkoaaSealRows
import Derived.Test.YtibfnefdpbdkoaaTxRight
namespace Go.Proofs.Ytibfnefdpbdkoaa
open Go.RowKit
set_option linter.unusedVariables false

/-- The data of a row. -/
def dl (l : List TxM) : List TxD := l.map TxM.d

theorem dl_length (l : List TxM) : (dl l).length = l.length := by simp [dl]

/-- A batch's cells. -/
def batC (a n : Int) (ao : Option Addr) (len cap : Nat) : List Value := [.int .i64 a, .int .i64 n, .slice ao len cap]

theorem firstE_drop (l : List TxM) (k : Nat) (x : TxM) (hx : l[k]? = some x) : firstE (dl (l.drop k)) = if checkL x.d ≠ 0 then checkL x.d else firstE (dl (l.drop (k + 1))) := by
  have hk := (List.getElem?_eq_some_iff.1 hx).1
  have hd : l.drop k = l[k] :: l.drop (k + 1) := List.drop_eq_getElem_cons hk
  have he : l[k] = x := (List.getElem?_eq_some_iff.1 hx).2
  rw [hd, he, dl, List.map_cons, firstE]
  rfl

set_option maxRecDepth 100000 in
theorem isAuthor_any (n : Int) (w : World) : Calls Try.prog 18 #[.int .i64 n] w fun e w' => e = .returned (.bool (decide (0 ≤ n) && decide (n ≤ 6))) ∧ w' = w := by
  by_cases h0 : 0 ≤ n
  · by_cases h1 : n ≤ 6
    · rw [decide_eq_true h0, decide_eq_true h1]
      go_enter Try.func18, Try.ntmps18
      go_wp2
      go_ret
      exact ⟨rfl, rfl⟩
    · rw [decide_eq_true h0, decide_eq_false h1]
      have d1 : decide (n ≤ 6) = false := decide_eq_false h1
      go_enter Try.func18, Try.ntmps18
      go_wp2
      go_ret
      exact ⟨rfl, rfl⟩
  · rw [decide_eq_false h0]
    have d0 : decide (0 ≤ n) = false := decide_eq_false h0
    go_enter Try.func18, Try.ntmps18
    go_wp2
    go_ret
    exact ⟨rfl, rfl⟩

set_option maxRecDepth 100000 in
set_option maxHeartbeats 1000000 in
theorem batCheck_any (a n : Int) (ao : Option Addr) (l : List TxM) (cap : Nat) (w : World) (hA : TxsAt w ao l) :
    Calls Try.prog 15 #[batV a n ao l.length cap] w fun e w' => e = .returned (.int .i64 (checkB ⟨a, n, dl l⟩ : Int)) ∧ Below w.heap.size w w' := by
  have hX : Arr _ _ _ (batC a n ao l.length cap) := Arr.new w 40 (batC a n ao l.length cap)
  have hB := belowNew w (.cells (batC a n ao l.length cap).toArray 40)
  have x0 := hX.cell (i := 0) rfl
  have x1 := hX.cell (i := 1) rfl
  have x2 := hX.cell (i := 2) rfl
  have cA := isAuthor_any a
  have hdl := dl_length l
  have bad : ∀ {P : Prop}, (a < 0 ∨ 6 < a ∨ n < 1 ∨ 4611686018427387903 < n) → Hid (checkB ⟨a, n, dl l⟩ = 2) := fun h => (if_pos h : _ = _)
  unfold batV
  by_cases h0 : a < 0 ∨ 6 < a
  · have H := bad (P := True) (by omega)
    have d0 : (decide (0 ≤ a) && decide (a ≤ 6)) = false := by rw [Bool.and_eq_false_iff, decide_eq_false_iff_not, decide_eq_false_iff_not]; omega
    rw [d0] at cA
    go_enter Try.func15, Try.ntmps15
    go_wp2_with fail
    refine (cA _).mono ?_
    rintro e w1 ⟨rfl, rfl⟩
    go_wp2
    go_ret
    exact ⟨by rw [H.out]; rfl, hB⟩
  have d0 : (decide (0 ≤ a) && decide (a ≤ 6)) = true := by rw [Bool.and_eq_true, decide_eq_true_eq, decide_eq_true_eq]; omega
  rw [d0] at cA
  by_cases h1 : n < 1
  · have H := bad (P := True) (by omega)
    go_enter Try.func15, Try.ntmps15
    go_wp2_with fail
    refine (cA _).mono ?_
    rintro e w1 ⟨rfl, rfl⟩
    go_wp2
    go_ret
    exact ⟨by rw [H.out]; rfl, hB⟩
  have d1 : decide (n < 1) = false := decide_eq_false h1
  by_cases h2 : 4611686018427387903 < n
  · have H := bad (P := True) (by omega)
    go_enter Try.func15, Try.ntmps15
    go_wp2_with fail
    refine (cA _).mono ?_
    rintro e w1 ⟨rfl, rfl⟩
    go_wp2
    go_ret
    exact ⟨by rw [H.out]; rfl, hB⟩
  have d2 : decide (4611686018427387903 < n) = false := decide_eq_false h2
  have H0 : checkB ⟨a, n, dl l⟩ = _ := if_neg (show ¬ (a < 0 ∨ 6 < a ∨ n < 1 ∨ 4611686018427387903 < n) by omega)
  clear bad
  by_cases h3 : l.length = 0
  · have H : Hid (checkB ⟨a, n, dl l⟩ = 12) := (H0.trans (if_pos (by show (dl l).length = 0; omega)) : _ = _)
    have hn : l = [] := List.eq_nil_of_length_eq_zero h3
    clear H0
    subst hn
    go_enter Try.func15, Try.ntmps15
    go_wp2_with fail
    refine (cA _).mono ?_
    rintro e w1 ⟨rfl, rfl⟩
    go_wp2
    go_ret
    exact ⟨by rw [H.out]; rfl, hB⟩
  have e3 : ((l.length : Int) == 0) = false := beq_eq_false_iff_ne.2 (by omega)
  replace H0 := H0.trans (if_neg (by show ¬ (dl l).length = 0; omega))
  by_cases h4 : 16 < l.length
  · have H : Hid (checkB ⟨a, n, dl l⟩ = 8) := (H0.trans (if_pos (by show 16 < (dl l).length; omega)) : _ = _)
    have e4 : (16 : Int) < l.length := by omega
    clear H0
    go_enter Try.func15, Try.ntmps15
    go_wp2_with fail
    refine (cA _).mono ?_
    rintro e w1 ⟨rfl, rfl⟩
    go_wp2
    go_ret
    exact ⟨by rw [H.out]; rfl, hB⟩
  have e4 : decide ((16 : Int) < l.length) = false := decide_eq_false (by omega)
  have H : Hid (checkB ⟨a, n, dl l⟩ = firstE (dl l)) := (H0.trans (if_neg (by show ¬ 16 < (dl l).length; omega)) : _ = _)
  have e5 : l.length ≤ 16 := by omega
  clear H0 h3 h4 h0 h1 h2
  go_enter Try.func15, Try.ntmps15
  go_wp2_with fail
  refine (cA _).mono ?_
  rintro e w1 ⟨rfl, rfl⟩
  clear cA
  go_wp2
  go_loopw [4, 5, 31] (fun v4 v5 v31 wr => ∃ k : Nat, k ≤ l.length ∧ v31 = .int .i64 (k : Int) ∧ Hid (checkB ⟨a, n, dl l⟩ = firstE (dl (l.drop k))) ∧ Below w.heap.size w wr) (fun _ _ v _ => l.length - (intOf v).toNat)
  case atStart => exact ⟨0, Nat.zero_le _, rfl, H, hB⟩
  case round =>
    obtain ⟨k, hk, rfl, hK, hb⟩ := hrel
    clear H hB hX x0 x1 x2
    by_cases hlt : k < l.length
    · obtain ⟨x, hx⟩ : ∃ x, l[k]? = some x := ⟨l[k], List.getElem?_eq_getElem hlt⟩
      obtain ⟨b, off, rfl, hbl, y0, y1, y2, y3, y4, y5, y6, y7, y8⟩ := (hA.below hb).cells hx
      have hAt := (hA k x hx).2.below hb
      have hstep := hK.out.trans (firstE_drop l k x hx)
      have cC := fun w1 (h : TxAt w1 x.d x.ra x.wa) => check_any x.d x.ra x.rc x.wa x.wc w1 h
      clear hK hx
      have hAt2 := hAt.below (belowNew wr (.cells x.c.toArray 33))
      have hb2 := hb.alloc hb.size (.cells x.c.toArray 33)
      go_wp2_with fail
      refine (cC _ hAt2.at_).mono ?_
      rintro e w2 ⟨rfl, hb3⟩
      have hb4 := hb2.trans (hb3.mono hb2.size)
      clear hb2 hb3 hAt2 hAt cC y0 y1 y2 y3 y4 y5 y6 y7 y8
      by_cases hc : checkL x.d ≠ 0
      · have H : Hid (checkB ⟨a, n, dl l⟩ = checkL x.d) := (hstep.trans (if_pos hc) : _ = _)
        have hc2 : ((checkL x.d : Int) != 0) = true := by rw [bne_iff_ne]; omega
        clear hstep
        go_wp2
        go_ret
        exact ⟨by rw [H.out]; rfl, hb4⟩
      · have H : Hid (checkB ⟨a, n, dl l⟩ = firstE (dl (l.drop (k + 1)))) := (hstep.trans (if_neg hc) : _ = _)
        have hc2 : checkL x.d = 0 := by omega
        clear hstep hc
        go_wp2
        go_roundw
        case rel => exact ⟨k + 1, by omega, by go_num, H, hb4⟩
        case measure => simp [intOf]; omega
    · have H : Hid (checkB ⟨a, n, dl l⟩ = 0) := by show _ = _; rw [hK.out, List.drop_of_length_le (by omega)]; rfl
      clear hK
      go_wp2
      go_ret
      exact ⟨by rw [H.out]; rfl, hb⟩
end Go.Proofs.Ytibfnefdpbdkoaa
