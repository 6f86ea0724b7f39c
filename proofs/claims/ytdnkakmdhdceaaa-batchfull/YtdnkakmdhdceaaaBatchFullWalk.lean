/- tusklaw05.BatchFull answers true at every size and transaction; nothing old in memory is turned. -/
import Derived.Test.YtdnkakmdhdceaaaBatWorks
namespace Go.Proofs.Ytdnkakmdhdceaaa
open Go.RowKit
set_option linter.unusedVariables false

set_option maxRecDepth 100000 in
set_option maxHeartbeats 4000000 in
theorem batchFull_walk (a : Int) (d : TxD) (ra : Option Addr) (rc : Nat) (wa : Option Addr) (wc : Nat) (w : World) (hwf : (Lit.int .i64 a).wf = true) (hA : TxAt w d ra wa) (hr : ra = none → rc = 0) (hw : wa = none → wc = 0) (hs : TxSizes d) (hl : d.rs.length * 16 ≤ 140737488351232 ∧ d.ws.length * 16 ≤ 140737488351232) :
    Calls Try.prog 6 #[.int .i64 a, txV d ra rc wa wc] w fun e w' => e = .returned (.bool true) ∧ Below w.heap.size w w' := by
  have hX : Arr _ _ _ (txC d ra rc wa wc) := Arr.new w 40 (txC d ra rc wa wc)
  have hB := belowNew w (.cells (txC d ra rc wa wc).toArray 40)
  have hA0 := hA.below hB
  unfold txV
  go_enter Try.func6, Try.ntmps6
  go_wp2_with fail
  refine (works05_any _).mono ?_
  rintro e w1 ⟨rfl, hb1⟩
  have hX1 := hX.below hb1 hX.lt
  have hA1 := hA0.below hb1
  have hB1 := hB.trans (hb1.mono hB.size)
  clear hX hA0 hB hb1
  obtain ⟨sz, hz1, hz2, hz⟩ := pick_n a 1 16 (by omega) (by omega) (by omega)
  have cN := newSealer_yes 0 sz 5 w1 (by omega) (by omega) (by omega) (by omega) (by omega) (by omega)
  rw [← hz] at cN
  go_wp2_with fail
  refine cN.mono ?_
  rintro e w2 ⟨rfl, h2, hb2⟩
  replace hz : wrap64 (1 + wrap64 ((IntKind.u64.wrap a).tmod 16)) = (sz : Int) := hz
  have hH : Holds (Seal.new sz 5) sz 5 0 0 0 := ⟨rfl, rfl, rfl, rfl, rfl⟩
  rw [hz]
  clear cN hz
  have hs16 : sz ≤ 16 := by omega
  go_wp2
  go_loopw [7] (fun v wr => ∃ (k : Nat) (s : Seal TxM) (q : Value), k ≤ 4 * sz ∧ v = .int .i64 (k : Int) ∧ Holds s sz 5 k 0 0 ∧ SlAt 73 wr w1.heap.size w1.heap.size q 0 s ∧ Below w1.heap.size w1 wr) (fun v _ => 4 * sz - (intOf v).toNat)
  case atStart => exact ⟨0, _, _, Nat.zero_le _, rfl, hH, h2, hb2⟩
  case round =>
    clear hH h2 hb2
    obtain ⟨k, s, q, hk, rfl, hH, hS, hbw⟩ := hrel
    by_cases hlt : k < 4 * sz
    · have hlt' : (k : Int) < 4 * (sz : Int) := by omega
      go_wp2_with fail
      refine (payN_any k (by omega) _).mono ?_
      rintro e w3 ⟨ra3, rc3, wa3, wc3, rfl, hA3, hr3, hw3, hb3⟩
      have hS3 := hS.below hb3
      have hbw3 := hbw.trans (hb3.mono hbw.size)
      clear hS hb3 hbw
      go_wp2_with fail
      refine (addPay k (by omega) _ hS3 (hH.ok (by omega) (by omega) (by omega) (by omega) (by omega) (by omega) (fun _ => rfl)) ra3 rc3 wa3 wc3 hA3 hr3 hw3).mono ?_
      intro e w4 hadd
      obtain ⟨rfl, x, q', hx, hS4, hk4, hf4⟩ := hadd.pay (by omega) (by rw [hH.len, hH.size]; exact hlt)
      have hbw4 := hbw3.trans (hS3.keptBelow hk4 (Nat.le_refl _))
      have hH4 := hH.push x
      clear hadd hS3 hk4 hf4 hbw3 hH hA3 hr3 hw3
      go_wp2
      go_roundw
      case rel => exact ⟨k + 1, _, q', by omega, by go_num, hH4, hS4, hbw4⟩
      case measure => simp [intOf]; omega
    · have hke : k = 4 * sz := by omega
      have hlt' : ¬ (k : Int) < 4 * (sz : Int) := by omega
      go_wp2_with fail
      refine (payN_any 99 (by omega) _).mono ?_
      rintro e w3 ⟨ra3, rc3, wa3, wc3, rfl, hA3, hr3, hw3, hb3⟩
      have hS3 := hS.below hb3
      have hbw3 := hbw.trans (hb3.mono hbw.size)
      clear hS hb3 hbw
      have ok3 := hH.ok (by omega) (by omega) (by omega) (by omega) (by omega) (by omega) (fun _ => rfl)
      go_wp2_with fail
      refine (addPay 99 (by omega) _ hS3 ok3 ra3 rc3 wa3 wc3 hA3 hr3 hw3).mono ?_
      rintro e w4 ⟨he, x, q', hx, hS4, hk4, hf4⟩
      have hz4 : addE s (payN 99) = 4 := by rw [addE_pay 99 (by omega), if_pos (by rw [hH.len, hH.size]; omega)]
      have hput : s.put x = s := by unfold Seal.put; rw [hx, hz4, if_neg (by simp)]
      rw [hput] at hS4
      rw [hz4] at he
      subst he
      have hbw4 := hbw3.trans (hS3.keptBelow hk4 (Nat.le_refl _))
      clear hS3 hk4 hf4 hbw3 hA3 hr3 hw3 hput hz4 hx
      go_wp2_with fail
      refine (tick_any _ hS4 ok3 (by rw [hH.number]; omega)).mono ?_
      rintro e w5 ⟨fo, fc, q5, rfl, hfn, hT5, hS5, hk5, hq5⟩
      have hbw5 := hbw4.trans (hS4.keptBelow (hk5.mono (fun k _ e => Or.inl e)) (Nat.le_refl _))
      have hse : s.seals = true := (Seal.seals_iff s).2 ⟨fun e => by have := hH.len; rw [e] at this; simp at this; omega, Or.inl (by rw [hH.len, hH.size]; omega)⟩
      have hol : s.out.length = sz := by unfold Seal.out; rw [if_pos hse, List.length_take, hH.len, hH.size]; omega
      have hH5 : Holds s.tick sz 5 (3 * sz) 0 1 := by
        have hne : ¬ s.l = [] := ((Seal.seals_iff s).1 hse).1
        unfold Seal.tick
        rw [if_neg hne, if_pos hse]
        exact ⟨hH.size, hH.wait, by show (s.l.drop s.size).length = _; rw [List.length_drop, hH.len, hH.size]; omega, rfl, by show s.number + 1 = 1; rw [hH.number]⟩
      rw [hse, hol]
      obtain ⟨au5, hau5⟩ : ∃ q, q = (if true = true then (0 : Int) else 0) := ⟨_, rfl⟩
      obtain ⟨nu5, hnu5⟩ : ∃ q, q = (if true = true then (s.number : Int) + 1 else 0) := ⟨_, rfl⟩
      rw [← hau5, ← hnu5]
      clear hk5 hq5 hS4 hbw4 hse hol hT5 hau5 hnu5
      generalize s.tick = s5 at hS5 hH5
      clear hH ok3
      unfold batV
      have hbn := belowNew w5 (.cells #[.int .i64 au5, .int .i64 nu5, .slice fo sz fc] 24)
      have hS6 := hS5.below hbn
      have hbw6 := hbw5.trans (hbn.mono hbw5.size)
      have hX6 := Arr.new w5 24 [.int .i64 au5, .int .i64 nu5, .slice fo sz fc]
      have hap := hS5.apart (Nat.le_refl _)
      clear hS5 hbw5 hbn
      go_wp2
      go_loopw [11] (fun v wr => ∃ (k : Nat) (s : Seal TxM) (q : Value), k ≤ sz ∧ v = .int .i64 (k : Int) ∧ Holds s sz 5 (3 * sz + k) 0 1 ∧ SlAt 73 wr w1.heap.size w1.heap.size q 0 s ∧ (∀ j, SlB w1.heap.size q j → j ≠ w5.heap.size) ∧ Arr wr w5.heap.size 24 [.int .i64 au5, .int .i64 nu5, .slice fo sz fc] ∧ Below w1.heap.size w1 wr) (fun v _ => sz - (intOf v).toNat)
      case atStart => exact ⟨0, _, _, Nat.zero_le _, rfl, hH5, hS6, hap, hX6, hbw6⟩
      case round =>
        clear hH5 hS6 hbw6 hX6 hap hlt hlt' hke hk
        obtain ⟨k2, s2, q2, hk, rfl, hH, hS, hap, hX6, hbw⟩ := hrel
        by_cases hlt : k2 < sz
        · have hlt' : (k2 : Int) < (sz : Int) := by omega
          go_wp2_with fail
          refine (payN_any k2 (by omega) _).mono ?_
          rintro e w7 ⟨ra7, rc7, wa7, wc7, rfl, hA7, hr7, hw7, hb7⟩
          have hS7 := hS.below hb7
          have hbw7 := hbw.trans (hb7.mono hbw.size)
          have hX7 := hX6.below hb7 hX6.lt
          clear hS hb7 hbw hX6
          go_wp2_with fail
          refine (addPay k2 (by omega) _ hS7 (hH.ok (by omega) (by omega) (by omega) (by omega) (by omega) (by omega) (fun _ => rfl)) ra7 rc7 wa7 wc7 hA7 hr7 hw7).mono ?_
          intro e w8 hadd
          obtain ⟨rfl, x, q', hx, hS8, hk8, hf8⟩ := hadd.pay (by omega) (by rw [hH.len, hH.size]; omega)
          have hbw8 := hbw7.trans (hS7.keptBelow hk8 (Nat.le_refl _))
          have hX8 := hX7.kept hk8 (fun h => hap _ h rfl)
          have hap8 : ∀ j, SlB w1.heap.size q' j → j ≠ w5.heap.size := fun j hj e => by
            rcases hf8 j hj with h | h
            · exact hap j h e
            · have := hX7.lt; omega
          have hH8 := hH.push x
          clear hadd hS7 hk8 hf8 hbw7 hH hA7 hr7 hw7 hX7 hap
          go_wp2
          go_roundw
          case rel => exact ⟨k2 + 1, _, q', by omega, by go_num, hH8, hS8, hap8, hX8, hbw8⟩
          case measure => simp [intOf]; omega
        · have hlt' : ¬ (k2 : Int) < (sz : Int) := by omega
          have hBr := hB1.trans (hbw.mono hB1.size)
          have hXr := hX1.below hbw hX1.lt
          obtain ⟨t0, t1, t2, t3, t4, t5, t6, t7, t8⟩ := hXr.cells9
          have hAr := hA.below hBr
          have okr := hH.ok (by omega) (by omega) (by omega) (by omega) (by omega) (by omega) (fun _ => rfl)
          go_wp2_with fail
          refine (own_any d ra rc wa wc _ hAr hr hw hl.1 hl.2).mono ?_
          rintro e w7 ⟨ra7, rc7, wa7, wc7, rfl, hA7, hr7, hw7, hb7⟩
          have hS7 := hS.below hb7
          have hbw7 := hbw.trans (hb7.mono hbw.size)
          have hX7 := hX6.below hb7 hX6.lt
          clear hS hb7 hbw hX6 t0 t1 t2 t3 t4 t5 t6 t7 t8 hXr hAr hBr
          go_wp2_with fail
          refine (add_any (⟨d, ra7, rc7, wa7, wc7⟩ : TxM) _ hS7 okr ⟨hA7, hr7, hw7⟩ hl.1 hl.2).mono ?_
          rintro e w8 ⟨he, x, q', hx, hS8, hk8, hf8⟩
          have hz8 : addE s2 d ≠ 0 := by
            unfold addE
            by_cases hc : checkL d ≠ 0
            · rw [if_pos hc]; exact hc
            · rw [if_neg hc, if_pos (by rw [hH.len, hH.size]; omega)]; simp
          have hput : s2.put x = s2 := by unfold Seal.put; rw [show x.d = d from hx, if_neg hz8]
          rw [hput] at hS8
          have hbw8 := hbw7.trans (hS7.keptBelow hk8 (Nat.le_refl _))
          have hX8 := hX7.kept hk8 (fun h => hap _ h rfl)
          have hBF := hB1.trans (hbw8.mono hB1.size)
          obtain ⟨er, her⟩ : ∃ q, q = addE s2 d := ⟨_, rfl⟩
          replace he : e = .returned (.int .i64 (er : Int)) := by rw [her]; exact he
          rw [← her] at hz8
          subst he
          have hy : ((er : Int) != 0) = true := by rw [bne_iff_ne]; omega
          have hlen : s2.l.length = 4 * sz := by rw [hH.len]; omega
          have cW := waits_any w8 hS8
          rw [hlen] at cW
          have x2 := hX8.cell (i := 2) rfl
          clear hS7 hk8 hf8 hbw7 hA7 hr7 hw7 hX7 hap hput her hbw8 hX8 hx hlen hS8
          have hcast : Hid (((4 * sz : Nat) : Int) = 4 * (sz : Int)) := by show _ = _; omega
          rw [hcast.out] at cW
          go_wp2_with fail
          refine cW.mono ?_
          rintro e w9 ⟨rfl, rfl⟩
          go_wp2
          go_ret
          exact ⟨rfl, hBF⟩
end Go.Proofs.Ytdnkakmdhdceaaa
