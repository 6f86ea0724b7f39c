/- tusklaw01.WireListBack answers true at every list and string whose bytes have room; nothing old in memory is turned. -/
import Derived.Test.YtkjbaahoalcfbaaRefSame
import Derived.Test.YtkjbaahoalcfbaaWireWorks
import Derived.Test.YtkjbaahoalcfbaaWireBackMath
import Derived.Test.YtkjbaahoalcfbaaUpto
namespace Go.Proofs.Ytkjbaahoalcfbaa
open Go.RowKit

theorem bl_mem {ss : List ByteArray} {B : Nat} (h : ∀ j (hj : j < ss.length), ss[j].size ≤ B) : ∀ t ∈ bl ss, t.length ≤ B := by
  intro t ht
  obtain ⟨s, hs, rfl⟩ := List.mem_map.1 ht
  obtain ⟨j, hj, rfl⟩ := List.getElem_of_mem hs
  simpa using h j hj

set_option maxRecDepth 100000 in
set_option maxHeartbeats 2000000 in
theorem listBack_any (ao : Option Addr) (cap : Nat) (ss : List ByteArray) (s : ByteArray) (w : World) (hc : StrsAt w ao ss) (hs : s.size ≤ 140737488351232) (hl : ss.length * 16 ≤ 140737488351232) (hroom : (lst (bl ss)).length ≤ 140737488355328) :
    Calls Try.prog 8 #[.slice ao ss.length cap, .string s] w fun e w' => e = .returned (.bool true) ∧ Below w.heap.size w w' := by
  go_enter Try.func8, Try.ntmps8
  go_wp2_with (first | (go_at_call 22; refine (works_any _).mono ?_; rintro e w1 ⟨rfl, hw1⟩) | fail)
  have hc1 := hc.below hw1
  have HR : Hid ((lst (bl ss)).length ≤ 140737488355328) := hroom
  clear hc hroom
  go_loop [5] (fun i => ∃ k : Nat, k ≤ ss.length ∧ i = .int .i64 k ∧ Hid (∀ j (hj : j < ss.length), j < k → ss[j].size ≤ 65536)) (fun i => ss.length - (intOf i).toNat)
  case atStart => exact ⟨0, Nat.zero_le _, rfl, fun j _ hj => absurd hj (by omega)⟩
  case round =>
    obtain ⟨k, hk, rfl, hsm⟩ := hrel
    by_cases hlt : k < ss.length
    · obtain ⟨b, off, rfl, hbl, hcell⟩ := hc1 k hlt
      have hsm1 : ss[k].size ≤ 65536 → Hid (∀ j (hj : j < ss.length), j < k + 1 → ss[j].size ≤ 65536) := by
        intro h j hj hjk
        by_cases e : j = k
        · subst e; exact h
        · exact hsm.out j hj (by omega)
      by_cases hz : 65536 < ss[k].size
      · go_wp2
        go_ret
        exact ⟨rfl, hw1⟩
      · have hsm2 := hsm1 (by omega)
        clear hsm1 hsm
        go_wp2
        go_round
        case rel => exact ⟨k + 1, by omega, by go_num, hsm2⟩
        case measure => simp [intOf]; omega
    · have hsm2 : ∀ j (hj : j < ss.length), ss[j].size ≤ 65536 := fun j hj => hsm.out j hj (by omega)
      have hbm := bl_mem hsm2
      have hbl : (bl ss).length = ss.length := by simp [bl]
      have G1 : Hid (getList (lst (bl ss) ++ s.data.toList) ss.length = (bl ss, (lst (bl ss)).length, 0)) := getList_lst (bl ss) s.data.toList ss.length hbm (by omega) (by omega)
      have G2 : Hid (getList (lst (bl ss) ++ s.data.toList) ((ss.length : Int) - 1) = ([], 0, 8)) := getList_few (bl ss) s.data.toList _ (by omega) (by omega)
      have Hbl : Hid ((bl ss).length = ss.length) := hbl
      clear hsm hsm2 hbm hbl
      go_wp2_with fail
      refine (list_any _ _ ss _ hc1 HR.out (by omega)).mono ?_
      rintro e w2 ⟨rfl, hw2⟩
      have hwa := hw1.trans (hw2.mono hw1.size)
      have hc2 := hc1.below hw2
      clear hw1 hw2 hc1
      obtain ⟨sj, hsj⟩ : ∃ sj : ByteArray, (⟨(lst (bl ss)).toArray⟩ : ByteArray) = sj := ⟨_, rfl⟩
      have hz : sj.size = (lst (bl ss)).length := by rw [← hsj, size_mk]
      have hz47 : sj.size ≤ 140737488355328 := by rw [hz]; exact HR.out
      have K1 : Hid (getList (sj ++ s).data.toList ss.length = (bl ss, sj.size, 0)) := by
        show _ = _
        rw [hz, ← hsj, append_list]; exact G1.out
      have K2 : Hid (getList (sj ++ s).data.toList ((ss.length : Int) - 1) = ([], 0, 8)) := by
        show _ = _
        rw [← hsj, append_list]; exact G2.out
      have hzs : Hid ((sj ++ s).size ≤ maxLen) := by
        show _ ≤ _
        rw [ByteArray.size_append']
        unfold maxLen
        omega
      rw [hsj]
      clear hsj hz G1 G2 HR
      go_wp2_with fail
      refine (getList_any _ _ _ ss.length hzs.out (Or.inr (by omega)) (by omega)).mono ?_
      rintro e w4 ⟨v, rfl, hgot, hw4⟩
      rw [K1.out] at hgot
      obtain ⟨ax, cx, rfl, hox⟩ := hgot
      have hwb := hwa.trans (hw4.mono hwa.size)
      have hc3 := hc2.below hw4
      have hx0 := own_strs hox Hbl.out
      rw [Hbl.out]
      clear hwa hw4 hc2 hox K1
      go_wp2_with fail
      refine (getList_any _ _ _ ss.length hzs.out (Or.inr (by omega)) (by omega)).mono ?_
      rintro e w5 ⟨v, rfl, hgot, hw5⟩
      rw [K2.out] at hgot
      obtain ⟨ay, cy, rfl, _⟩ := hgot
      have hwc := hwb.trans (hw5.mono hwb.size)
      have hc4 := hc3.below hw5
      have hx1 := hx0.below hw5
      clear hwb hw5 hc3 hx0 K2
      go_wp2_with fail
      refine (same_any _ _ _ _ ss _ hx1 hc4 (by omega)).mono ?_
      rintro e w6 ⟨rfl, hw6⟩
      have hwd := hwc.trans (hw6.mono hwc.size)
      clear hwc hw6
      go_wp2
      go_ret
      exact ⟨rfl, hwd⟩

theorem listBack_walk (ao : Option Addr) (cap : Nat) (ss : List ByteArray) (s : ByteArray) (w : World) (hc : StrsAt w ao ss) (hb : strsBulk ss ≤ 1048576) (_ : ∀ s ∈ ss, s.size ≤ maxLen) (hs : s.size ≤ 1048576) :
    Calls Try.prog 8 #[.slice ao ss.length cap, .string s] w fun e w' => e = .returned (.bool true) ∧ Below w.heap.size w w' := by
  have h1 := strsBulk_length ss
  have h2 := lst_bulk ss
  exact listBack_any ao cap ss s w hc (by omega) (by omega) (by omega)
end Go.Proofs.Ytkjbaahoalcfbaa
