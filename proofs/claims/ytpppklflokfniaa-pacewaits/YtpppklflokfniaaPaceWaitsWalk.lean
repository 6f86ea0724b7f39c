/- PaceWaits: the walk. -/
import Derived.Test.YtpppklflokfniaaPaceWorks
import Derived.Test.YtpppklflokfniaaInts
namespace Go.Proofs.Ytpppklflokfniaa
open Go.RowKit
set_option linter.unusedVariables false

/-- Behind i views that failed, and j ticks. -/
def wtD (M i j : Nat) : PaD := ⟨4, M, (i : Int) + 1, i, j⟩

theorem wt_tick (M i j : Nat) (hi : i ≤ 8) (hj : j + 1 < waitN i M) : tickB (wtD M i j) = false ∧ tickP (wtD M i j) = wtD M i (j + 1) := by
  unfold tickB tickP wtD
  simp only
  rw [if_pos (by omega), if_pos hj, decide_eq_false (by omega : ¬ waitN i M ≤ j + 1), Bool.and_false]
  exact ⟨rfl, rfl⟩

theorem wt_last (M i j : Nat) (hi : i ≤ 8) (hj : j + 1 = waitN i M) : tickB (wtD M i j) = true ∧ tickP (wtD M i j) = wtD M (i + 1) 0 := by
  unfold tickB tickP wtD
  simp only
  rw [if_pos (by omega), if_neg (by omega), decide_eq_true (by omega : waitN i M ≤ j + 1), decide_eq_true (by omega)]
  refine ⟨rfl, ?_⟩
  congr 1

theorem wait_small (i M : Nat) (hi : i ≤ 8) : waitN i M = min (4 * 2 ^ i) M := by
  unfold waitN
  rw [Nat.min_eq_left (by omega : i ≤ 16)]

theorem minI (a b : Nat) : ((a : Int) ≤ (b : Int) ∧ Hid (min a b = a)) ∨ (¬ (a : Int) ≤ (b : Int) ∧ Hid (min a b = b)) := by
  rcases Nat.lt_or_ge b a with h | h
  · exact Or.inr ⟨by omega, Nat.min_eq_right (by omega)⟩
  · exact Or.inl ⟨by omega, Nat.min_eq_left h⟩

set_option maxRecDepth 100000 in
set_option maxHeartbeats 2000000 in
theorem paceWaits_walk (most fails : Int) (W : World) (_ : (Lit.int .i64 most).wf = true) (_ : (Lit.int .i64 fails).wf = true) :
    Calls Try.prog 6 #[.int .i64 most, .int .i64 fails] W fun e w' => e = .returned (.bool true) ∧ Below W.heap.size W w' := by
  obtain ⟨m, hm, hme⟩ := pick_atC most 200 (by omega) (by omega)
  obtain ⟨F, hF, hFe⟩ := pick_atC fails 8 (by omega) (by omega)
  have hme' : Hid (wrap64 ((IntKind.u64.wrap most).tmod 200) = (m : Int)) := hme
  have hFe' : Hid (wrap64 ((IntKind.u64.wrap fails).tmod 8) = (F : Int)) := hFe
  have hme2 : Hid (wrap64 (1 + wrap64 ((IntKind.u64.wrap most).tmod 200)) = ((1 + m : Nat) : Int)) := by
    show _ = _
    rw [hme'.out, Mx.wrap64_small _ (by omega) (by omega)]
    omega
  clear hme hFe hme'
  have cWk := works18_any W
  obtain ⟨M, hM⟩ : ∃ M : Nat, M = 1 + m := ⟨_, rfl⟩
  rw [← hM] at hme2
  have cN := fun w => paNew_yes 4 M w (by omega) (by omega) (by omega) (by omega)
  have hM1 : 1 ≤ M := by omega
  have hM2 : M ≤ 200 := by omega
  have hoN : PaOk (wtD M 0 0) := PaOk.new (by omega) (by omega) (by omega) (by omega)
  clear hM
  go_enter Try.func6, Try.ntmps6
  go_wp2_with fail
  refine cWk.mono ?_
  rintro e w0 ⟨rfl, hb0⟩
  clear cWk
  go_wp2_with fail
  rw [hme2.out, hFe'.out]
  refine (cN w0).mono ?_
  rintro e w1 ⟨rfl, h1, hb1⟩
  have hO : One18 W w1 w0.heap.size (wtD M 0 0) := One18.new hb0 h1 hb1 hoN
  clear cN h1 hb1 hb0 hoN hme2 hFe'
  generalize w0.heap.size = b at hO ⊢
  go_wp2_with fail
  go_loopw [7, 8, 9, 10, 11] (fun v7 v8 _ _ _ wr => ∃ i p : Nat, i ≤ F ∧ p ≤ 4096 ∧ v8 = .int .i64 (i : Int) ∧ v7 = .int .i64 (p : Int) ∧ Hid (p = 4 * 2 ^ i) ∧ One18 W wr b (wtD M i 0)) (fun _ v _ _ _ _ => F - (intOf v).toNat)
  case atStart => exact ⟨0, 4, by omega, by omega, rfl, rfl, rfl, hO⟩
  case round =>
    obtain ⟨i, p, hi, hp, rfl, rfl, hpi, hR⟩ := hrel
    clear hO
    by_cases hiF : i < F
    · have gF : (i : Int) < (F : Int) := by omega
      rcases minI p M with ⟨l1, l2⟩ | ⟨l1, l2⟩
      · have cW := paWait_any b _ _ hR.at_ (by show i ≤ _; omega)
        have hX : Hid (waitN i M = p) := by show _ = _; rw [wait_small i M (by omega), ← hpi.out, l2.out]
        have cW' : Calls Try.prog 15 #[.pointer (some ⟨b, 0, none⟩)] wr fun e w' => e = .returned (.tuple #[.int .i64 (p : Int), .int .i64 0]) ∧ ∃ m, w' = wr.drewN m := by rw [← hX.out]; exact cW
        have hX1 : 1 ≤ p := by have := wait_pos (f := i) hM1; rw [hX.out] at this; exact this
        clear cW
        go_wp2_with fail
        refine cW'.mono ?_
        rintro e w2 ⟨rfl, m2, rfl⟩
        have hR2 := hR.drewN m2
        clear cW' hR
        generalize wr.drewN m2 = w2 at hR2 ⊢
        go_wp2_with fail
        go_loopw [11] (fun v11 wq => ∃ j : Nat, 1 ≤ j ∧ j ≤ p ∧ v11 = .int .i64 (j : Int) ∧ One18 W wq b (wtD M i (j - 1))) (fun v _ => p - (intOf v).toNat)
        case atStart => exact ⟨1, by omega, hX1, rfl, hR2⟩
        case round =>
          obtain ⟨j, hj1, hjX, rfl, hQ⟩ := hrel
          clear hR2
          have cT := paTick_any b _ _ hQ.at_ hQ.ok (by show i ≤ _; omega)
          have hoT := hQ.ok.tick
          by_cases hjl : j < p
          · have gj : (j : Int) < (p : Int) := by omega
            obtain ⟨t1, t2⟩ := wt_tick M i (j - 1) (by omega) (by rw [hX.out]; omega)
            rw [t1, t2] at cT
            rw [t2] at hoT
            go_wp2_with fail
            refine cT.mono ?_
            rintro e w3 ⟨rfl, h3, hk3⟩
            have hQ3 := hQ.step h3 hk3 hoT
            clear cT hQ h3 hk3 hoT t1 t2
            go_wp2
            go_roundw
            case rel => exact ⟨j + 1, by omega, by omega, by go_num, by rw [show j + 1 - 1 = j - 1 + 1 by omega]; exact hQ3⟩
            case measure => simp [intOf]; omega
          · have gj : ¬ (j : Int) < (p : Int) := by omega
            obtain ⟨t1, t2⟩ := wt_last M i (j - 1) (by omega) (by rw [hX.out]; omega)
            rw [t1, t2] at cT
            rw [t2] at hoT
            have hpw : 2 ^ (i + 1) ≤ 256 := Nat.le_trans (Nat.pow_le_pow_right (by decide) (show i + 1 ≤ 8 by omega)) (by decide)
            have hp2 : Hid (2 * p = 4 * 2 ^ (i + 1)) := by show _ = _; rw [hpi.out, Nat.pow_succ]; omega
            have hp3 : 2 * p ≤ 4096 := by have := hp2.out; omega
            clear hpi hpw
            go_wp2_with fail
            refine cT.mono ?_
            rintro e w3 ⟨rfl, h3, hk3⟩
            have hQ3 := hQ.step h3 hk3 hoT
            clear cT hQ h3 hk3 hoT t1 t2
            go_wp2
            go_roundw
            case rel => exact ⟨i + 1, 2 * p, by omega, hp3, by go_num, by go_num, hp2, hQ3⟩
            case measure => simp [intOf]; omega
      · have cW := paWait_any b _ _ hR.at_ (by show i ≤ _; omega)
        have hX : Hid (waitN i M = M) := by show _ = _; rw [wait_small i M (by omega), ← hpi.out, l2.out]
        have cW' : Calls Try.prog 15 #[.pointer (some ⟨b, 0, none⟩)] wr fun e w' => e = .returned (.tuple #[.int .i64 (M : Int), .int .i64 0]) ∧ ∃ m, w' = wr.drewN m := by rw [← hX.out]; exact cW
        have hX1 : 1 ≤ M := by have := wait_pos (f := i) hM1; rw [hX.out] at this; exact this
        clear cW
        go_wp2_with fail
        refine cW'.mono ?_
        rintro e w2 ⟨rfl, m2, rfl⟩
        have hR2 := hR.drewN m2
        clear cW' hR
        generalize wr.drewN m2 = w2 at hR2 ⊢
        go_wp2_with fail
        go_loopw [11] (fun v11 wq => ∃ j : Nat, 1 ≤ j ∧ j ≤ M ∧ v11 = .int .i64 (j : Int) ∧ One18 W wq b (wtD M i (j - 1))) (fun v _ => M - (intOf v).toNat)
        case atStart => exact ⟨1, by omega, hX1, rfl, hR2⟩
        case round =>
          obtain ⟨j, hj1, hjX, rfl, hQ⟩ := hrel
          clear hR2
          have cT := paTick_any b _ _ hQ.at_ hQ.ok (by show i ≤ _; omega)
          have hoT := hQ.ok.tick
          by_cases hjl : j < M
          · have gj : (j : Int) < (M : Int) := by omega
            obtain ⟨t1, t2⟩ := wt_tick M i (j - 1) (by omega) (by rw [hX.out]; omega)
            rw [t1, t2] at cT
            rw [t2] at hoT
            go_wp2_with fail
            refine cT.mono ?_
            rintro e w3 ⟨rfl, h3, hk3⟩
            have hQ3 := hQ.step h3 hk3 hoT
            clear cT hQ h3 hk3 hoT t1 t2
            go_wp2
            go_roundw
            case rel => exact ⟨j + 1, by omega, by omega, by go_num, by rw [show j + 1 - 1 = j - 1 + 1 by omega]; exact hQ3⟩
            case measure => simp [intOf]; omega
          · have gj : ¬ (j : Int) < (M : Int) := by omega
            obtain ⟨t1, t2⟩ := wt_last M i (j - 1) (by omega) (by rw [hX.out]; omega)
            rw [t1, t2] at cT
            rw [t2] at hoT
            have hpw : 2 ^ (i + 1) ≤ 256 := Nat.le_trans (Nat.pow_le_pow_right (by decide) (show i + 1 ≤ 8 by omega)) (by decide)
            have hp2 : Hid (2 * p = 4 * 2 ^ (i + 1)) := by show _ = _; rw [hpi.out, Nat.pow_succ]; omega
            have hp3 : 2 * p ≤ 4096 := by have := hp2.out; omega
            clear hpi hpw
            go_wp2_with fail
            refine cT.mono ?_
            rintro e w3 ⟨rfl, h3, hk3⟩
            have hQ3 := hQ.step h3 hk3 hoT
            clear cT hQ h3 hk3 hoT t1 t2
            go_wp2
            go_roundw
            case rel => exact ⟨i + 1, 2 * p, by omega, hp3, by go_num, by go_num, hp2, hQ3⟩
            case measure => simp [intOf]; omega
    · obtain rfl : i = F := by omega
      have gF : ¬ (i : Int) < (i : Int) := by omega
      rcases minI p M with ⟨l1, l2⟩ | ⟨l1, l2⟩
      · rcases minI 4 M with ⟨y1, y2⟩ | ⟨y1, y2⟩
        · have hX : Hid (waitN i M = p) := by show _ = _; rw [wait_small i M (by omega), ← hpi.out, l2.out]
          have hY : Hid (waitN 0 M = (4 : Nat)) := by show _ = _; rw [wait_small 0 M (by omega)]; exact y2.out
          have cV : Calls Try.prog 16 #[.pointer (some ⟨b, 0, none⟩)] wr fun e w' => e = .returned (.int .i64 ((i : Int) + 1)) ∧ w' = wr := paView_any b _ _ hR.at_
          go_wp2_with fail
          refine cV.mono ?_
          rintro e wv ⟨rfl, rfl⟩
          clear cV
          have cW : Calls Try.prog 15 #[.pointer (some ⟨b, 0, none⟩)] wv fun e w' => e = .returned (.tuple #[.int .i64 (p : Int), .int .i64 0]) ∧ ∃ m, w' = wv.drewN m := by rw [← hX.out]; exact paWait_any b _ _ hR.at_ (by show i ≤ _; omega)
          go_wp2_with fail
          refine cW.mono ?_
          rintro e w2 ⟨rfl, m2, rfl⟩
          have hR2 := hR.drewN m2
          clear cW hR
          generalize wv.drewN m2 = w2 at hR2 ⊢
          have cF := paFollow_any ((i : Int) + 1 + 1) b _ _ hR2.at_
          have hu : upB (wtD M i 0) ((i : Int) + 1 + 1) = true := by unfold upB wtD; simp only [Bool.and_eq_true, decide_eq_true_eq]; omega
          have hfo := hR2.ok.follow ((i : Int) + 1 + 1)
          have hfe : followP (wtD M i 0) ((i : Int) + 1 + 1) = ⟨4, M, (i : Int) + 1 + 1, i, 0⟩ := by unfold followP; rw [if_pos hu]; rfl
          rw [hu, hfe] at cF
          rw [hfe] at hfo
          go_wp2_with fail
          refine cF.mono ?_
          rintro e w3 ⟨rfl, h3, hk3⟩
          have hR3 := hR2.step h3 hk3 hfo
          clear cF hR2 h3 hk3 hfo hfe hu
          have cW : Calls Try.prog 15 #[.pointer (some ⟨b, 0, none⟩)] w3 fun e w' => e = .returned (.tuple #[.int .i64 (p : Int), .int .i64 0]) ∧ ∃ m, w' = w3.drewN m := by rw [← hX.out]; exact paWait_any b _ _ hR3.at_ (by show i ≤ _; omega)
          go_wp2_with fail
          refine cW.mono ?_
          rintro e w4 ⟨rfl, m4, rfl⟩
          have hR4 := hR3.drewN m4
          clear cW hR3
          generalize w3.drewN m4 = w4 at hR4 ⊢
          have cE := paEnter_any ((i : Int) + 1 + 2) b _ _ hR4.at_
          have hu : upB ⟨4, M, (i : Int) + 1 + 1, i, 0⟩ ((i : Int) + 1 + 2) = true := by unfold upB; simp only [Bool.and_eq_true, decide_eq_true_eq]; omega
          have hfo := hR4.ok.enter ((i : Int) + 1 + 2)
          have hfe : enterP ⟨4, M, (i : Int) + 1 + 1, i, 0⟩ ((i : Int) + 1 + 2) = ⟨4, M, (i : Int) + 1 + 2, 0, 0⟩ := by unfold enterP; rw [if_pos hu]
          rw [hu, hfe] at cE
          rw [hfe] at hfo
          go_wp2_with fail
          refine cE.mono ?_
          rintro e w5 ⟨rfl, h5, hk5⟩
          have hR5 := hR4.step h5 hk5 hfo
          clear cE hR4 h5 hk5 hfo hfe hu
          have cW : Calls Try.prog 15 #[.pointer (some ⟨b, 0, none⟩)] w5 fun e w' => e = .returned (.tuple #[.int .i64 ((4 : Nat) : Int), .int .i64 0]) ∧ ∃ m, w' = w5.drewN m := by rw [← hY.out]; exact paWait_any b _ _ hR5.at_ (by show 0 ≤ _; omega)
          go_wp2_with fail
          refine cW.mono ?_
          rintro e w6 ⟨rfl, m6, rfl⟩
          have hR6 := hR5.drewN m6
          clear cW hR5
          generalize w5.drewN m6 = w6 at hR6 ⊢
          go_wp2
          go_ret
          exact ⟨rfl, hR6.bel⟩
        · have hX : Hid (waitN i M = p) := by show _ = _; rw [wait_small i M (by omega), ← hpi.out, l2.out]
          have hY : Hid (waitN 0 M = M) := by show _ = _; rw [wait_small 0 M (by omega)]; exact y2.out
          have cV : Calls Try.prog 16 #[.pointer (some ⟨b, 0, none⟩)] wr fun e w' => e = .returned (.int .i64 ((i : Int) + 1)) ∧ w' = wr := paView_any b _ _ hR.at_
          go_wp2_with fail
          refine cV.mono ?_
          rintro e wv ⟨rfl, rfl⟩
          clear cV
          have cW : Calls Try.prog 15 #[.pointer (some ⟨b, 0, none⟩)] wv fun e w' => e = .returned (.tuple #[.int .i64 (p : Int), .int .i64 0]) ∧ ∃ m, w' = wv.drewN m := by rw [← hX.out]; exact paWait_any b _ _ hR.at_ (by show i ≤ _; omega)
          go_wp2_with fail
          refine cW.mono ?_
          rintro e w2 ⟨rfl, m2, rfl⟩
          have hR2 := hR.drewN m2
          clear cW hR
          generalize wv.drewN m2 = w2 at hR2 ⊢
          have cF := paFollow_any ((i : Int) + 1 + 1) b _ _ hR2.at_
          have hu : upB (wtD M i 0) ((i : Int) + 1 + 1) = true := by unfold upB wtD; simp only [Bool.and_eq_true, decide_eq_true_eq]; omega
          have hfo := hR2.ok.follow ((i : Int) + 1 + 1)
          have hfe : followP (wtD M i 0) ((i : Int) + 1 + 1) = ⟨4, M, (i : Int) + 1 + 1, i, 0⟩ := by unfold followP; rw [if_pos hu]; rfl
          rw [hu, hfe] at cF
          rw [hfe] at hfo
          go_wp2_with fail
          refine cF.mono ?_
          rintro e w3 ⟨rfl, h3, hk3⟩
          have hR3 := hR2.step h3 hk3 hfo
          clear cF hR2 h3 hk3 hfo hfe hu
          have cW : Calls Try.prog 15 #[.pointer (some ⟨b, 0, none⟩)] w3 fun e w' => e = .returned (.tuple #[.int .i64 (p : Int), .int .i64 0]) ∧ ∃ m, w' = w3.drewN m := by rw [← hX.out]; exact paWait_any b _ _ hR3.at_ (by show i ≤ _; omega)
          go_wp2_with fail
          refine cW.mono ?_
          rintro e w4 ⟨rfl, m4, rfl⟩
          have hR4 := hR3.drewN m4
          clear cW hR3
          generalize w3.drewN m4 = w4 at hR4 ⊢
          have cE := paEnter_any ((i : Int) + 1 + 2) b _ _ hR4.at_
          have hu : upB ⟨4, M, (i : Int) + 1 + 1, i, 0⟩ ((i : Int) + 1 + 2) = true := by unfold upB; simp only [Bool.and_eq_true, decide_eq_true_eq]; omega
          have hfo := hR4.ok.enter ((i : Int) + 1 + 2)
          have hfe : enterP ⟨4, M, (i : Int) + 1 + 1, i, 0⟩ ((i : Int) + 1 + 2) = ⟨4, M, (i : Int) + 1 + 2, 0, 0⟩ := by unfold enterP; rw [if_pos hu]
          rw [hu, hfe] at cE
          rw [hfe] at hfo
          go_wp2_with fail
          refine cE.mono ?_
          rintro e w5 ⟨rfl, h5, hk5⟩
          have hR5 := hR4.step h5 hk5 hfo
          clear cE hR4 h5 hk5 hfo hfe hu
          have cW : Calls Try.prog 15 #[.pointer (some ⟨b, 0, none⟩)] w5 fun e w' => e = .returned (.tuple #[.int .i64 (M : Int), .int .i64 0]) ∧ ∃ m, w' = w5.drewN m := by rw [← hY.out]; exact paWait_any b _ _ hR5.at_ (by show 0 ≤ _; omega)
          go_wp2_with fail
          refine cW.mono ?_
          rintro e w6 ⟨rfl, m6, rfl⟩
          have hR6 := hR5.drewN m6
          clear cW hR5
          generalize w5.drewN m6 = w6 at hR6 ⊢
          go_wp2
          go_ret
          exact ⟨rfl, hR6.bel⟩
      · rcases minI 4 M with ⟨y1, y2⟩ | ⟨y1, y2⟩
        · have hX : Hid (waitN i M = M) := by show _ = _; rw [wait_small i M (by omega), ← hpi.out, l2.out]
          have hY : Hid (waitN 0 M = (4 : Nat)) := by show _ = _; rw [wait_small 0 M (by omega)]; exact y2.out
          have cV : Calls Try.prog 16 #[.pointer (some ⟨b, 0, none⟩)] wr fun e w' => e = .returned (.int .i64 ((i : Int) + 1)) ∧ w' = wr := paView_any b _ _ hR.at_
          go_wp2_with fail
          refine cV.mono ?_
          rintro e wv ⟨rfl, rfl⟩
          clear cV
          have cW : Calls Try.prog 15 #[.pointer (some ⟨b, 0, none⟩)] wv fun e w' => e = .returned (.tuple #[.int .i64 (M : Int), .int .i64 0]) ∧ ∃ m, w' = wv.drewN m := by rw [← hX.out]; exact paWait_any b _ _ hR.at_ (by show i ≤ _; omega)
          go_wp2_with fail
          refine cW.mono ?_
          rintro e w2 ⟨rfl, m2, rfl⟩
          have hR2 := hR.drewN m2
          clear cW hR
          generalize wv.drewN m2 = w2 at hR2 ⊢
          have cF := paFollow_any ((i : Int) + 1 + 1) b _ _ hR2.at_
          have hu : upB (wtD M i 0) ((i : Int) + 1 + 1) = true := by unfold upB wtD; simp only [Bool.and_eq_true, decide_eq_true_eq]; omega
          have hfo := hR2.ok.follow ((i : Int) + 1 + 1)
          have hfe : followP (wtD M i 0) ((i : Int) + 1 + 1) = ⟨4, M, (i : Int) + 1 + 1, i, 0⟩ := by unfold followP; rw [if_pos hu]; rfl
          rw [hu, hfe] at cF
          rw [hfe] at hfo
          go_wp2_with fail
          refine cF.mono ?_
          rintro e w3 ⟨rfl, h3, hk3⟩
          have hR3 := hR2.step h3 hk3 hfo
          clear cF hR2 h3 hk3 hfo hfe hu
          have cW : Calls Try.prog 15 #[.pointer (some ⟨b, 0, none⟩)] w3 fun e w' => e = .returned (.tuple #[.int .i64 (M : Int), .int .i64 0]) ∧ ∃ m, w' = w3.drewN m := by rw [← hX.out]; exact paWait_any b _ _ hR3.at_ (by show i ≤ _; omega)
          go_wp2_with fail
          refine cW.mono ?_
          rintro e w4 ⟨rfl, m4, rfl⟩
          have hR4 := hR3.drewN m4
          clear cW hR3
          generalize w3.drewN m4 = w4 at hR4 ⊢
          have cE := paEnter_any ((i : Int) + 1 + 2) b _ _ hR4.at_
          have hu : upB ⟨4, M, (i : Int) + 1 + 1, i, 0⟩ ((i : Int) + 1 + 2) = true := by unfold upB; simp only [Bool.and_eq_true, decide_eq_true_eq]; omega
          have hfo := hR4.ok.enter ((i : Int) + 1 + 2)
          have hfe : enterP ⟨4, M, (i : Int) + 1 + 1, i, 0⟩ ((i : Int) + 1 + 2) = ⟨4, M, (i : Int) + 1 + 2, 0, 0⟩ := by unfold enterP; rw [if_pos hu]
          rw [hu, hfe] at cE
          rw [hfe] at hfo
          go_wp2_with fail
          refine cE.mono ?_
          rintro e w5 ⟨rfl, h5, hk5⟩
          have hR5 := hR4.step h5 hk5 hfo
          clear cE hR4 h5 hk5 hfo hfe hu
          have cW : Calls Try.prog 15 #[.pointer (some ⟨b, 0, none⟩)] w5 fun e w' => e = .returned (.tuple #[.int .i64 ((4 : Nat) : Int), .int .i64 0]) ∧ ∃ m, w' = w5.drewN m := by rw [← hY.out]; exact paWait_any b _ _ hR5.at_ (by show 0 ≤ _; omega)
          go_wp2_with fail
          refine cW.mono ?_
          rintro e w6 ⟨rfl, m6, rfl⟩
          have hR6 := hR5.drewN m6
          clear cW hR5
          generalize w5.drewN m6 = w6 at hR6 ⊢
          go_wp2
          go_ret
          exact ⟨rfl, hR6.bel⟩
        · have hX : Hid (waitN i M = M) := by show _ = _; rw [wait_small i M (by omega), ← hpi.out, l2.out]
          have hY : Hid (waitN 0 M = M) := by show _ = _; rw [wait_small 0 M (by omega)]; exact y2.out
          have cV : Calls Try.prog 16 #[.pointer (some ⟨b, 0, none⟩)] wr fun e w' => e = .returned (.int .i64 ((i : Int) + 1)) ∧ w' = wr := paView_any b _ _ hR.at_
          go_wp2_with fail
          refine cV.mono ?_
          rintro e wv ⟨rfl, rfl⟩
          clear cV
          have cW : Calls Try.prog 15 #[.pointer (some ⟨b, 0, none⟩)] wv fun e w' => e = .returned (.tuple #[.int .i64 (M : Int), .int .i64 0]) ∧ ∃ m, w' = wv.drewN m := by rw [← hX.out]; exact paWait_any b _ _ hR.at_ (by show i ≤ _; omega)
          go_wp2_with fail
          refine cW.mono ?_
          rintro e w2 ⟨rfl, m2, rfl⟩
          have hR2 := hR.drewN m2
          clear cW hR
          generalize wv.drewN m2 = w2 at hR2 ⊢
          have cF := paFollow_any ((i : Int) + 1 + 1) b _ _ hR2.at_
          have hu : upB (wtD M i 0) ((i : Int) + 1 + 1) = true := by unfold upB wtD; simp only [Bool.and_eq_true, decide_eq_true_eq]; omega
          have hfo := hR2.ok.follow ((i : Int) + 1 + 1)
          have hfe : followP (wtD M i 0) ((i : Int) + 1 + 1) = ⟨4, M, (i : Int) + 1 + 1, i, 0⟩ := by unfold followP; rw [if_pos hu]; rfl
          rw [hu, hfe] at cF
          rw [hfe] at hfo
          go_wp2_with fail
          refine cF.mono ?_
          rintro e w3 ⟨rfl, h3, hk3⟩
          have hR3 := hR2.step h3 hk3 hfo
          clear cF hR2 h3 hk3 hfo hfe hu
          have cW : Calls Try.prog 15 #[.pointer (some ⟨b, 0, none⟩)] w3 fun e w' => e = .returned (.tuple #[.int .i64 (M : Int), .int .i64 0]) ∧ ∃ m, w' = w3.drewN m := by rw [← hX.out]; exact paWait_any b _ _ hR3.at_ (by show i ≤ _; omega)
          go_wp2_with fail
          refine cW.mono ?_
          rintro e w4 ⟨rfl, m4, rfl⟩
          have hR4 := hR3.drewN m4
          clear cW hR3
          generalize w3.drewN m4 = w4 at hR4 ⊢
          have cE := paEnter_any ((i : Int) + 1 + 2) b _ _ hR4.at_
          have hu : upB ⟨4, M, (i : Int) + 1 + 1, i, 0⟩ ((i : Int) + 1 + 2) = true := by unfold upB; simp only [Bool.and_eq_true, decide_eq_true_eq]; omega
          have hfo := hR4.ok.enter ((i : Int) + 1 + 2)
          have hfe : enterP ⟨4, M, (i : Int) + 1 + 1, i, 0⟩ ((i : Int) + 1 + 2) = ⟨4, M, (i : Int) + 1 + 2, 0, 0⟩ := by unfold enterP; rw [if_pos hu]
          rw [hu, hfe] at cE
          rw [hfe] at hfo
          go_wp2_with fail
          refine cE.mono ?_
          rintro e w5 ⟨rfl, h5, hk5⟩
          have hR5 := hR4.step h5 hk5 hfo
          clear cE hR4 h5 hk5 hfo hfe hu
          have cW : Calls Try.prog 15 #[.pointer (some ⟨b, 0, none⟩)] w5 fun e w' => e = .returned (.tuple #[.int .i64 (M : Int), .int .i64 0]) ∧ ∃ m, w' = w5.drewN m := by rw [← hY.out]; exact paWait_any b _ _ hR5.at_ (by show 0 ≤ _; omega)
          go_wp2_with fail
          refine cW.mono ?_
          rintro e w6 ⟨rfl, m6, rfl⟩
          have hR6 := hR5.drewN m6
          clear cW hR5
          generalize w5.drewN m6 = w6 at hR6 ⊢
          go_wp2
          go_ret
          exact ⟨rfl, hR6.bel⟩
end Go.Proofs.Ytpppklflokfniaa
