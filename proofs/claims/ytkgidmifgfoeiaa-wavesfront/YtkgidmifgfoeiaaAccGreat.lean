/- What tusklaw20.Great does. -/
import Derived.Test.YtkgidmifgfoeiaaAccLast
import Derived.BigQuiet
import Derived.Deep.QuietTactic
namespace Go.Proofs.Ytkgidmifgfoeiaa
open Go Go.RowKit
set_option linter.unusedVariables false

/-- How much transactions are, with their keys. -/
def totA (l : List TxA) : Nat := (l.map (fun x => 1 + x.rs.length + x.ws.length)).sum

theorem totA_next {l : List TxA} {i : Nat} {x : TxA} (h : l[i]? = some x) : totA (l.take (i + 1)) = totA (l.take i) + (1 + x.rs.length + x.ws.length) := by
  unfold totA
  rw [List.take_add_one, h, Option.toList_some, List.map_append, List.sum_append]
  simp

theorem totA_le (l : List TxA) (i : Nat) : totA (l.take i) ≤ totA l := by
  have h : totA l = totA (l.take i) + totA (l.drop i) := by
    conv => lhs; rw [← List.take_append_drop i l]
    unfold totA
    rw [List.map_append, List.sum_append]
  omega

theorem totA_mem {l : List TxA} {x : TxA} (h : x ∈ l) : 1 + x.rs.length + x.ws.length ≤ totA l := by
  obtain ⟨i, hi⟩ := List.mem_iff_getElem?.1 h
  have h1 := totA_next hi
  have h2 := totA_le l (i + 1)
  omega

theorem totA_length : ∀ (l : List TxA), l.length ≤ totA l
  | [] => Nat.le_refl _
  | x :: l => by
    have := totA_length l
    have e : totA (x :: l) = (1 + x.rs.length + x.ws.length) + totA l := by simp [totA]
    rw [List.length_cons, e]
    omega

/-- Are they too many? -/
def greatA (l : List TxA) : Bool := decide (500 < totA l)

theorem few_of {l : List TxA} (h : greatA l = false) : Few l := by
  have h1 := of_decide_eq_false h
  have h2 := totA_length l
  refine ⟨by omega, fun x hx => ?_⟩
  have := totA_mem hx
  omega

/-- What a machine has at most. -/
def Wide (l : List TxA) : Prop := l.length ≤ 17592186044416 ∧ ∀ x ∈ l, x.rs.length ≤ 17592186044416 ∧ x.ws.length ≤ 17592186044416

set_option maxRecDepth 100000 in
set_option maxHeartbeats 2000000 in
theorem great_any (l : List TxA) (ao : Option Addr) (cp : Nat) (w : World) (hl : RowAt txA w ao l) (hw : Wide l) :
    Calls Try.prog 8 #[.slice ao l.length cp] w fun e w' => e = .returned (.bool (greatA l)) ∧ Below w.heap.size w w' := by
  obtain ⟨hn, hx⟩ := hw
  go_enter Try.func8, Try.ntmps8
  go_wp2_with fail
  go_loopw [3, 4] (fun v3 v4 wr => ∃ i n : Nat, i ≤ l.length ∧ v3 = .int .i64 (n : Int) ∧ v4 = .int .i64 (i : Int) ∧ Hid (n = totA (l.take i)) ∧ n ≤ 140737488355328 ∧ Below w.heap.size w wr) (fun _ v _ => l.length - (intOf v).toNat)
  case atStart => exact ⟨0, 0, Nat.zero_le _, rfl, rfl, rfl, by omega, Below.refl _ _⟩
  case round =>
    obtain ⟨i, n, hi, rfl, rfl, hnt, hnm, hb⟩ := hrel
    by_cases hil : i < l.length
    · have g1 : (i : Int) < (l.length : Int) := by omega
      by_cases hn5 : n ≤ 500
      · have g2 : (n : Int) ≤ 500 := by omega
        obtain ⟨x, hx1⟩ : ∃ p, l[i]? = some p := ⟨_, List.getElem?_eq_getElem hil⟩
        obtain ⟨b, off, rfl, hbl, x0, x1, x2, x3, x4, x5, x6, x7, x8, hA⟩ := (hl.below hb).tx hx1
        obtain ⟨hxr, hxw⟩ := hx x (List.mem_of_getElem? hx1)
        have hnx : Hid (n + 1 + x.rs.length + x.ws.length = totA (l.take (i + 1))) := by unfold Hid; rw [totA_next hx1, ← hnt.out]; omega
        have hx' : Hid _ := hx1
        clear hnt hx1 hA hx
        go_wp2_with fail
        go_quiet (fail)
        go_wp2
        go_roundw
        case rel => exact ⟨i + 1, n + 1 + x.rs.length + x.ws.length, by omega, by go_num, by go_num, hnx, by omega, below_drewN hb _⟩
        case measure => simp [intOf]; omega
      · have g2 : ¬ (n : Int) ≤ 500 := by omega
        have g3 : (500 : Int) < (n : Int) := by omega
        have hfin : Hid (greatA l = true) := by
          unfold Hid greatA
          refine decide_eq_true ?_
          have := totA_le l i
          rw [← hnt.out] at this
          omega
        clear hnt
        go_wp2
        go_ret
        exact ⟨by rw [hfin.out]; rfl, hb⟩
    · have g1 : ¬ (i : Int) < (l.length : Int) := by omega
      have hnt2 : n = totA l := by
        have := hnt.out
        rw [show i = l.length by omega, List.take_length] at this
        exact this
      clear hnt
      by_cases hn5 : n ≤ 500
      · have g3 : ¬ (500 : Int) < (n : Int) := by omega
        have hfin : Hid (greatA l = false) := by
          unfold Hid greatA
          exact decide_eq_false (by omega)
        clear hnt2
        go_wp2
        go_ret
        exact ⟨by rw [hfin.out]; rfl, hb⟩
      · have g3 : (500 : Int) < (n : Int) := by omega
        have hfin : Hid (greatA l = true) := by
          unfold Hid greatA
          exact decide_eq_true (by omega)
        clear hnt2
        go_wp2
        go_ret
        exact ⟨by rw [hfin.out]; rfl, hb⟩
end Go.Proofs.Ytkgidmifgfoeiaa
