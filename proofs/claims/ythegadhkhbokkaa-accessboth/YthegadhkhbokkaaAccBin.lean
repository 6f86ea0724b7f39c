/- slices.BinarySearch of numbers that rise. -/
import Derived.Test.YthegadhkhbokkaaAccTx
namespace Go.Proofs.Ythegadhkhbokkaa
open Go Go.RowKit
set_option linter.unusedVariables false

def GotBin (l : List Nat) (t : Nat) (w : World) (e : Ending) (w' : World) : Prop :=
  ∃ p b, e = .returned (.tuple #[.int .i64 ((p : Nat) : Int), .bool b]) ∧ p ≤ l.length ∧ (∀ k x, k < p → l[k]? = some x → x < t) ∧ (∀ k x, p ≤ k → l[k]? = some x → t ≤ x) ∧ w' = w

theorem rise_get {l : List Nat} (h : l.Pairwise (· < ·)) {i k x y : Nat} (hik : i < k) (hx : l[i]? = some x) (hy : l[k]? = some y) : x < y := by
  obtain ⟨h1, rfl⟩ := List.getElem?_eq_some_iff.1 hx
  obtain ⟨h2, rfl⟩ := List.getElem?_eq_some_iff.1 hy
  exact List.pairwise_iff_getElem.1 h i k h1 h2 hik

theorem bin_top (l : List Nat) (t : Nat) : ∀ k x, l.length ≤ k → l[k]? = some x → t ≤ x := fun k x h hx => by
  rw [List.getElem?_eq_none h] at hx
  cases hx

set_option maxRecDepth 100000 in
set_option maxHeartbeats 1000000 in
theorem bin_any (l : List Nat) (ao : Option Addr) (cap t : Nat) (w : World) (hl : RowAt natK w ao l) (hs : l.length ≤ 1000000) (hr : l.Pairwise (· < ·)) (ht : t ≤ 1000000) (hx : ∀ x ∈ l, x ≤ 1000000) :
    Calls Try.prog 28 #[.slice ao l.length cap, .int .i64 (t : Int)] w fun e w' => GotBin l t w e w' := by
  generalize hGOT : (fun e w' => GotBin l t w e w') = GOT
  have hG : Hid (∀ p b, p ≤ l.length → (∀ k x, k < p → l[k]? = some x → x < t) → (∀ k x, p ≤ k → l[k]? = some x → t ≤ x) → GOT (.returned (.tuple #[.int .i64 ((p : Nat) : Int), .bool b])) w) := by
    intro p b h1 h2 h3
    rw [← hGOT]
    exact ⟨p, b, rfl, h1, h2, h3, rfl⟩
  clear hGOT
  go_enter Try.func28, Try.ntmps28
  go_wp2_with fail
  go_loopw [7, 8] (fun v7 v8 wr => ∃ i j : Nat, i ≤ j ∧ j ≤ l.length ∧ v7 = .int .i64 (i : Int) ∧ v8 = .int .i64 (j : Int) ∧ Hid (∀ k x, k < i → l[k]? = some x → x < t) ∧ Hid (∀ k x, j ≤ k → l[k]? = some x → t ≤ x) ∧ wr = w) (fun v7 v8 _ => (intOf v8).toNat - (intOf v7).toNat)
  case atStart => exact ⟨0, l.length, Nat.zero_le _, Nat.le_refl _, rfl, rfl, fun k x h => absurd h (Nat.not_lt_zero _), bin_top l t, rfl⟩
  case round =>
    obtain ⟨i, j, hij, hjl, rfl, rfl, hlo, hhi, rfl⟩ := hrel
    by_cases hlt : i < j
    · have g1 : (i : Int) < (j : Int) := by omega
      have hm1 : (i + j) / 2 < j := by omega
      have hm2 : i ≤ (i + j) / 2 := by omega
      obtain ⟨x, hx1⟩ : ∃ x, l[(i + j) / 2]? = some x := ⟨_, List.getElem?_eq_getElem (by omega)⟩
      obtain ⟨b, off, rfl, hbl, hcell⟩ := hl.nat hx1
      have hx2 := hx x (List.mem_of_getElem? hx1)
      have hx3 : Hid _ := hx1
      clear hx1 hx
      by_cases hxt : x < t
      · have g2 : (x : Int) < (t : Int) := by omega
        have hlo2 : Hid (∀ k y, k < (i + j) / 2 + 1 → l[k]? = some y → y < t) := fun k y hk hy => by
          rcases Nat.lt_or_ge k ((i + j) / 2) with h | h
          · have := rise_get hr h hy hx3.out; omega
          · obtain rfl : k = (i + j) / 2 := by omega
            have e := hy.symm.trans hx3.out
            cases e; exact hxt
        clear hlo
        go_wp2
        go_roundw
        case rel => exact ⟨(i + j) / 2 + 1, j, by omega, hjl, by go_num, rfl, hlo2, hhi, by trivial⟩
        case measure => simp [intOf]; omega
      · have g2 : ¬ (x : Int) < (t : Int) := by omega
        have hhi2 : Hid (∀ k y, (i + j) / 2 ≤ k → l[k]? = some y → t ≤ y) := fun k y hk hy => by
          rcases Nat.lt_or_ge ((i + j) / 2) k with h | h
          · have := rise_get hr h hx3.out hy; omega
          · obtain rfl : k = (i + j) / 2 := by omega
            have e := hy.symm.trans hx3.out
            cases e; omega
        clear hhi
        go_wp2
        go_roundw
        case rel => exact ⟨i, (i + j) / 2, hm2, by omega, rfl, by go_num, hlo, hhi2, by trivial⟩
        case measure => simp [intOf]; omega
    · have g1 : ¬ (i : Int) < (j : Int) := by omega
      obtain rfl : i = j := by omega
      have hfin := fun b => hG.out i b hjl hlo.out hhi.out
      clear hG hij
      by_cases hil : i < l.length
      · have g2 : (i : Int) < (l.length : Int) := by omega
        obtain ⟨x, hx1⟩ : ∃ x, l[i]? = some x := ⟨_, List.getElem?_eq_getElem hil⟩
        obtain ⟨b, off, rfl, hbl, hcell⟩ := hl.nat hx1
        clear hx1
        by_cases hxt : x = t
        · subst hxt
          go_wp2
          all_goals (first | exact hfin _ | (trace_state; sorry))
        · have g3 : ((x : Int) == (t : Int)) = false := by simp; omega
          go_wp2
          all_goals (first | exact hfin _ | (trace_state; sorry))
      · have g2 : ¬ (i : Int) < (l.length : Int) := by omega
        go_wp2
        all_goals (first | exact hfin _ | (trace_state; sorry))
end Go.Proofs.Ythegadhkhbokkaa
