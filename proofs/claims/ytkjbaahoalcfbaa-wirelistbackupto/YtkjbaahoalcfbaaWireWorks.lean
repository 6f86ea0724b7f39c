/- tusklaw01.works answers true; nothing old in memory is turned. -/
import Derived.Test.YtkjbaahoalcfbaaWireList
namespace Go.Proofs.Ytkjbaahoalcfbaa
open Go.RowKit

theorem enc_300 : goInt 300 = [172, 2] := by
  rw [goInt, if_pos (by omega)]
  show enc 300 = _
  rw [enc_big 300 (by omega), enc_small 2 (by omega)]
  decide

theorem goInt_2 : goInt 2 = [2] := by
  rw [goInt, if_pos (by omega)]
  show enc 2 = _
  rw [enc_small 2 (by omega)]
  decide
theorem goInt_1 : goInt 1 = [1] := by
  rw [goInt, if_pos (by omega)]
  show enc 1 = _
  rw [enc_small 1 (by omega)]
  decide
theorem goInt_0 : goInt 0 = [0] := by
  rw [goInt, if_pos (by omega)]
  show enc 0 = _
  rw [enc_small 0 (by omega)]
  decide

theorem lst_a : lst (bl [⟨#[97]⟩, ⟨#[]⟩]) = [2, 1, 97, 0] := by
  simp [lst, bl, txt, goInt_2, goInt_1, goInt_0]

set_option maxRecDepth 100000 in
set_option maxHeartbeats 1000000 in
theorem works_any (w : World) :
    Calls Try.prog 22 #[] w fun e w' => e = .returned (.bool true) ∧ Below w.heap.size w w' := by
  go_enter Try.func22, Try.ntmps22
  go_wp2_with fail
  refine (getInt_at ⟨#[172, 2]⟩ _ 300 2 0 (by decide) (by decide)).mono ?_
  rintro e w1 ⟨rfl, rfl⟩
  go_wp2_with fail
  refine (getInt_at ⟨#[128, 0]⟩ _ 0 0 3 (by decide) (by decide)).mono ?_
  rintro e w1 ⟨rfl, rfl⟩
  go_wp2_with fail
  refine (int_any _ _).mono ?_
  rintro e w2 ⟨rfl, hb2⟩
  rw [enc_300]
  go_wp2_with fail
  refine (list_any _ 2 [⟨#[97]⟩, ⟨#[]⟩] _ ?_ ?_ ?_).mono ?_
  · intro j hj
    refine ⟨w2.heap.size, 0, rfl, by simp, ?_⟩
    match j, hj with
    | 0, _ => simp
    | 1, _ => simp
  · rw [lst_a]; decide
  · decide
  rintro e w3 ⟨rfl, hb3⟩
  rw [lst_a]
  have hb4 : Below w1.heap.size w1 w3 := (hb2.alloc hb2.size _).trans (hb3.mono (by have := hb2.size; simp; omega))
  clear hb2 hb3
  go_wp2
  go_ret
  exact ⟨rfl, hb4⟩
end Go.Proofs.Ytkjbaahoalcfbaa
