/- tusklaw05.BatchWaits answers true at all numbers; nothing old in memory is turned. -/
import Derived.Test.YtdnkakmdhdceaabBatWorks
namespace Go.Proofs.Ytdnkakmdhdceaab
open Go.RowKit
set_option linter.unusedVariables false

set_option maxRecDepth 100000 in
set_option maxHeartbeats 4000000 in
theorem batchWaits_walk (a b c : Int) (w : World) (ha : (Lit.int .i64 a).wf = true) (hb : (Lit.int .i64 b).wf = true) (hc : (Lit.int .i64 c).wf = true) :
    Calls Try.prog 3 #[.int .i64 a, .int .i64 b, .int .i64 c] w fun e w' => e = .returned (.bool true) ∧ Below w.heap.size w w' := by
  go_enter Try.func3, Try.ntmps3
  go_wp2_with fail
  refine (works05_any _).mono ?_
  rintro e w1 ⟨rfl, hB1⟩
  obtain ⟨sz, hz1, hz2, hz⟩ := pick_n a 2 15 (by omega) (by omega) (by omega)
  obtain ⟨wt, ht1, ht2, ht⟩ := pick_n b 1 50 (by omega) (by omega) (by omega)
  replace hz : wrap64 (2 + wrap64 ((IntKind.u64.wrap a).tmod 15)) = (sz : Int) := hz
  replace ht : wrap64 (1 + wrap64 ((IntKind.u64.wrap b).tmod 50)) = (wt : Int) := ht
  obtain ⟨m, hm⟩ : ∃ m : Nat, sz = m + 1 := ⟨sz - 1, by omega⟩
  obtain ⟨nn, hn1, hn2, hn⟩ := pick_n c 1 m (by omega) (by omega) (by omega)
  replace hn : wrap64 (1 + wrap64 ((IntKind.u64.wrap c).tmod (m : Int))) = (nn : Int) := hn
  have hu : IntKind.u64.wrap ((sz : Int) - 1) = (m : Int) := by
    have : IntKind.u64.wrap ((sz : Int) - 1) = ((sz : Int) - 1) % 18446744073709551616 := by simp [IntKind.wrap, IntKind.bits, IntKind.signed]
    rw [this]; omega
  have hm0 : ((m : Int) == 0) = false := beq_eq_false_iff_ne.2 (by omega)
  have hs16 : sz ≤ 16 := by omega
  have hw50 : wt ≤ 50 := by omega
  have hns : nn < sz := by omega
  have cN := newSealer_yes 0 sz wt w1 (by omega) (by omega) (by omega) (by omega) (by omega) (by omega)
  have hH : Holds (Seal.new sz wt) sz wt 0 0 0 := ⟨rfl, rfl, rfl, rfl, rfl⟩
  clear hm
  go_wp2_with fail
  refine cN.mono ?_
  rintro e w2 ⟨rfl, h2, hb2⟩
  simp only [hz, ht, hn]
  clear cN hu hz ht hn hm0
  go_wp2
  go_loopw [9] (fun v wr => ∃ (k : Nat) (s : Seal TxM) (q : Value), k ≤ nn ∧ v = .int .i64 (k : Int) ∧ Holds s sz wt k 0 0 ∧ SlAt 47 wr w1.heap.size w1.heap.size q 0 s ∧ Below w1.heap.size w1 wr) (fun v _ => nn - (intOf v).toNat)
  case atStart => exact ⟨0, _, _, Nat.zero_le _, rfl, hH, h2, hb2⟩
  case round =>
    clear hH h2 hb2
    obtain ⟨k, s, q, hk, rfl, hH, hS, hbw⟩ := hrel
    by_cases hlt : k < nn
    · have hlt' : (k : Int) < (nn : Int) := by omega
      go_wp2_with fail
      refine (payN_any k (by omega) _).mono ?_
      rintro e w3 ⟨ra3, rc3, wa3, wc3, rfl, hA3, hr3, hw3, hb3⟩
      have hS3 := hS.below hb3
      have hbw3 := hbw.trans (hb3.mono hbw.size)
      clear hS hb3 hbw
      go_wp2_with fail
      refine (addPay k (by omega) _ hS3 (hH.ok (by omega) (by omega) (by omega) (by omega) (by omega) (by omega) (fun _ => rfl)) ra3 rc3 wa3 wc3 hA3 hr3 hw3).mono ?_
      intro e w4 hadd
      obtain ⟨rfl, x, q', hx, hS4, hk4, hf4⟩ := hadd.pay (by omega) (by rw [hH.len, hH.size]; omega)
      have hbw4 := hbw3.trans (hS3.keptBelow hk4 (Nat.le_refl _))
      have hH4 := hH.push x
      clear hadd hS3 hk4 hf4 hbw3 hH hA3 hr3 hw3
      go_wp2
      go_roundw
      case rel => exact ⟨k + 1, _, q', by omega, by go_num, hH4, hS4, hbw4⟩
      case measure => simp [intOf]; omega
    · obtain rfl : k = nn := by omega
      have hlt' : ¬ (k : Int) < (k : Int) := by omega
      clear hlt hk
      go_wp2
      go_loopw [10, 11, 12] (fun v v11 v12 wr => ∃ (i : Nat) (s : Seal TxM) (q : Value), 1 ≤ i ∧ i ≤ wt ∧ v = .int .i64 (i : Int) ∧ Holds s sz wt k (i - 1) 0 ∧ SlAt 47 wr w1.heap.size w1.heap.size q 0 s ∧ Below w1.heap.size w1 wr) (fun v _ _ _ => wt - (intOf v).toNat)
      case atStart => exact ⟨1, s, q, Nat.le_refl _, ht1, rfl, hH, hS, hbw⟩
      case round =>
        clear hH hS hbw
        obtain ⟨i, s, q, hi1, hi2, rfl, hH, hS, hbw⟩ := hrel
        have ok := hH.ok (by omega) (by omega) (by omega) (by omega) (by omega) (by omega) (fun e => by omega)
        have hne : s.l ≠ [] := fun e => by have := hH.len; rw [e] at this; simp at this; omega
        by_cases hlt : i < wt
        · have hlt' : (i : Int) < (wt : Int) := by omega
          have hse : s.seals = false := Seal.waits_more (by rw [hH.len, hH.size]; exact hns) (by rw [hH.ticks, hH.wait]; omega)
          have hH5 : Holds s.tick sz wt k i 0 := by
            unfold Seal.tick
            rw [if_neg hne, hse, if_neg (by simp)]
            exact ⟨hH.size, hH.wait, hH.len, by show s.ticks + 1 = i; rw [hH.ticks]; omega, hH.number⟩
          go_wp2_with fail
          refine (tick_any _ hS ok (by rw [hH.number]; omega)).mono ?_
          rintro e w5 ⟨fo, fc, q5, rfl, hfn, hT5, hS5, hk5, hq5⟩
          have hbw5 := hbw.trans (hS.keptBelow (hk5.mono (fun k _ e => Or.inl e)) (Nat.le_refl _))
          rw [hse]
          obtain ⟨au5, hau5⟩ : ∃ q, q = (if false = true then (0 : Int) else 0) := ⟨_, rfl⟩
          obtain ⟨nu5, hnu5⟩ : ∃ q, q = (if false = true then (s.number : Int) + 1 else 0) := ⟨_, rfl⟩
          obtain ⟨ln5, hln5⟩ : ∃ q, q = s.out.length := ⟨_, rfl⟩
          rw [← hau5, ← hnu5, ← hln5]
          clear hk5 hq5 hS hbw hse hT5 hau5 hnu5 hln5 ok hH hne
          unfold batV
          have hbn := belowNew w5 (.cells #[.int .i64 au5, .int .i64 nu5, .slice fo ln5 fc] 35)
          have hS6 := hS5.below hbn
          have hbw6 := hbw5.trans (hbn.mono hbw5.size)
          clear hS5 hbw5 hbn
          go_wp2
          go_roundw
          case rel => exact ⟨i + 1, s.tick, q5, by omega, by omega, by go_num, hH5, hS6, hbw6⟩
          case measure => simp [intOf]; omega
        · obtain rfl : i = wt := by omega
          have hlt' : ¬ (i : Int) < (i : Int) := by omega
          have hse : s.seals = true := Seal.waits_end hne (by rw [hH.ticks, hH.wait]; omega)
          have hol : s.out.length = k := by unfold Seal.out; rw [if_pos hse, List.length_take, hH.len, hH.size]; omega
          have htl : s.tick.l.length = 0 := by
            unfold Seal.tick
            rw [if_neg hne, if_pos hse]
            show (s.l.drop s.size).length = 0
            rw [List.length_drop, hH.len, hH.size]
            omega
          go_wp2_with fail
          refine (tick_any _ hS ok (by rw [hH.number]; omega)).mono ?_
          rintro e w5 ⟨fo, fc, q5, rfl, hfn, hT5, hS5, hk5, hq5⟩
          have hbw5 := hbw.trans (hS.keptBelow (hk5.mono (fun k _ e => Or.inl e)) (Nat.le_refl _))
          rw [hse, hol]
          obtain ⟨au5, hau5⟩ : ∃ q, q = (if true = true then (0 : Int) else 0) := ⟨_, rfl⟩
          obtain ⟨nu5, hnu5⟩ : ∃ q, q = (if true = true then (s.number : Int) + 1 else 0) := ⟨_, rfl⟩
          rw [← hau5, ← hnu5]
          clear hk5 hq5 hS hbw hse hT5 hau5 hnu5 ok hH hne hol
          unfold batV
          have hbn := belowNew w5 (.cells #[.int .i64 au5, .int .i64 nu5, .slice fo k fc] 35)
          have hS6 := hS5.below hbn
          have hbw6 := hbw5.trans (hbn.mono hbw5.size)
          have hBF := hB1.trans (hbw6.mono hB1.size)
          have cW := waits_any _ hS6
          rw [htl] at cW
          clear hS5 hbw5 hbn hS6 hbw6 htl
          go_wp2_with fail
          refine cW.mono ?_
          rintro e w9 ⟨rfl, rfl⟩
          go_wp2
          go_ret
          exact ⟨rfl, hBF⟩
end Go.Proofs.Ytdnkakmdhdceaab
