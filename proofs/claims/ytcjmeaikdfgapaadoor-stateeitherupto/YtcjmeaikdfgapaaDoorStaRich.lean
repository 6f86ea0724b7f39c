/- Are the names too many? -/
import Derived.Test.YtcjmeaikdfgapaaDoorStrKind
import Derived.BigQuiet
import Derived.Deep.QuietTactic
namespace Go.Proofs.YtcjmeaikdfgapaaDoor
open Go Go.RowKit
set_option linter.unusedVariables false

def richN (l : List ByteArray) : Nat := (l.map (fun s => 1 + s.size / 100)).sum
def richB (l : List ByteArray) : Bool := decide (100 < richN l)

theorem richN_next {l : List ByteArray} {i : Nat} {x : ByteArray} (hx : l[i]? = some x) : richN (l.take (i + 1)) = richN (l.take i) + (1 + x.size / 100) := by
  unfold richN
  rw [List.take_add_one, hx, List.map_append, List.sum_append]
  simp

theorem richN_bound : ∀ (l : List ByteArray), (∀ s ∈ l, s.size ≤ 1048576) → richN l ≤ l.length * 10486
  | [], _ => Nat.le_refl _
  | s :: r, h => by
    have h1 := richN_bound r (fun x hx => h x (List.mem_cons_of_mem _ hx))
    have h2 := h s List.mem_cons_self
    unfold richN at h1 ⊢
    rw [List.map_cons, List.sum_cons, List.length_cons, Nat.add_mul]
    omega

theorem richN_len : ∀ (l : List ByteArray), l.length ≤ richN l
  | [] => Nat.le_refl _
  | s :: r => by
    have h1 := richN_len r
    unfold richN at h1 ⊢
    rw [List.map_cons, List.sum_cons, List.length_cons]
    omega

theorem few_rich {l : List ByteArray} (h : richB l = false) : l.length ≤ 100 := by
  have h0 := of_decide_eq_false h
  have := richN_len l
  omega

set_option maxRecDepth 100000 in
set_option maxHeartbeats 1000000 in
theorem rich_any (l : List ByteArray) (ao : Option Addr) (cp : Nat) (w : World) (hl : RowAt strK w ao l) (hn : l.length ≤ 1048576) (hz : ∀ s ∈ l, s.size ≤ 1048576) :
    Calls Tryd.prog 7 #[.slice ao l.length cp] w fun e w' => e = .returned (.bool (richB l)) ∧ Below w.heap.size w w' := by
  go_enter Tryd.func7, Tryd.ntmps7
  go_wp2_with fail
  go_loopw [3, 4] (fun v3 v4 wr => ∃ i n : Nat, i ≤ l.length ∧ v3 = .int .i64 (n : Int) ∧ v4 = .int .i64 (i : Int) ∧ Hid (n = richN (l.take i)) ∧ n ≤ i * 10486 ∧ Below w.heap.size w wr) (fun _ v _ => l.length - (intOf v).toNat)
  case atStart => exact ⟨0, 0, Nat.zero_le _, rfl, rfl, rfl, by omega, Below.refl _ _⟩
  case round =>
    obtain ⟨i, n, hi, rfl, rfl, hnt, hnm, hb⟩ := hrel
    by_cases hil : i < l.length
    · have g1 : (i : Int) < (l.length : Int) := by omega
      obtain ⟨x, hx⟩ : ∃ p, l[i]? = some p := ⟨_, List.getElem?_eq_getElem hil⟩
      obtain ⟨b, off, rfl, hbl, hcell⟩ := (hl.below hb).strs i hil
      have hxi : l[i] = x := (List.getElem?_eq_some_iff.1 hx).2
      rw [hxi] at hcell
      have hxz := hz x (List.mem_of_getElem? hx)
      have hnx : Hid (n + (1 + x.size / 100) = richN (l.take (i + 1))) := by unfold Hid; rw [richN_next hx, ← hnt.out]
      clear hnt hx hxi
      go_wp2
      go_roundw
      case rel => exact ⟨i + 1, n + (1 + x.size / 100), by omega, by go_num, by go_num, hnx, by omega, hb⟩
      case measure => simp [intOf]; omega
    · have g1 : ¬ (i : Int) < (l.length : Int) := by omega
      have hnt2 : n = richN l := by
        have := hnt.out
        rw [show i = l.length by omega, List.take_length] at this
        exact this
      have hfin : Hid (decide ((100 : Int) < (n : Int)) = richB l) := by
        unfold Hid richB
        rw [← hnt2]
        by_cases h : 100 < n
        · rw [decide_eq_true h, decide_eq_true (by omega : (100 : Int) < (n : Int))]
        · rw [decide_eq_false h, decide_eq_false (by omega : ¬ (100 : Int) < (n : Int))]
      clear hnt hnt2
      go_wp2
      go_ret
      exact ⟨by rw [← hfin.out]; rfl, hb⟩
end Go.Proofs.YtcjmeaikdfgapaaDoor
