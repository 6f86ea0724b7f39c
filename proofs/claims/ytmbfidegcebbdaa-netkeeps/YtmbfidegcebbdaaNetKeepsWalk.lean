/- NetKeeps: the walk. -/
import Derived.Test.YtmbfidegcebbdaaNetTwo
import Derived.Deep.RegionHeld3
namespace Go.Proofs.Ytmbfidegcebbdaa
open Go.RowKit
set_option linter.unusedVariables false

set_option maxRecDepth 100000 in
set_option maxHeartbeats 4000000 in
theorem netKeeps_walk (ao : Option Addr) (cap : Nat) (ls : List ActD) (W : World) (hR : RowAt actK W ao ls) (hm : ls.length ≤ maxLen) :
    Calls Try.prog 3 #[.slice ao ls.length cap] W fun e w' => e = .returned (.bool true) ∧ Below W.heap.size W w' := by
  have hm' : ls.length ≤ 9223372036854775807 := by unfold maxLen at hm; omega
  clear hm
  go_enter Try.func3, Try.ntmps3
  go_wp2_with fail
  refine (netNew_any W).mono ?_
  rintro e w0 ⟨rfl, h0, hb0⟩
  have hT0 := two_none h0 hb0
  clear h0 hb0
  obtain ⟨bb, hbb⟩ : ∃ b, Hid (W.heap.size = b) := ⟨_, rfl⟩
  obtain ⟨rb, hrb⟩ : ∃ b, Hid (w0.heap.size = b) := ⟨_, rfl⟩
  go_wp2_with fail
  rw [hrb.out] at hT0 ⊢
  generalize World.alloc _ _ = w1 at hT0 ⊢
  go_loopw [5, 6, 7] (fun v5 _ _ wr => ∃ (i : Nat) (q r : Value) (l : List EnvD) (n : Nat), i ≤ ls.length ∧ i ≤ 100 ∧ v5 = .int .i64 (i : Int) ∧ n ≤ 200 * i ∧ Two W W.heap.size rb q r l l n n wr) (fun v _ _ _ => 100 - (intOf v).toNat)
  case atStart => exact ⟨0, _, _, [], 0, Nat.zero_le _, Nat.zero_le _, rfl, Nat.zero_le _, hT0⟩
  case round =>
    obtain ⟨i, q, r, l, n, hil, hi1, rfl, hn, hT⟩ := hrel
    clear hT0
    by_cases hgo : i < ls.length ∧ i < 100
    · have g1 : (i : Int) < (ls.length : Int) := by omega
      have g2 : (i : Int) < 100 := by omega
      obtain ⟨⟨kd, x, no, mo⟩, ho⟩ : ∃ o, ls[i]? = some o := ⟨_, List.getElem?_eq_getElem hgo.1⟩
      obtain ⟨g, off, rfl, hg, y0, y1, y2, y3, y4, y5⟩ := (hR.below hT.bel).act ho
      have hA := belowNew wr (.cells #[.int .i64 kd, .int .i64 x.fr, .int .i64 x.to, .string x.by_, .int .i64 no, .int .i64 mo] 32)
      have hX : ActAt (wr.alloc (.cells #[.int .i64 kd, .int .i64 x.fr, .int .i64 x.to, .string x.by_, .int .i64 no, .int .i64 mo] 32)) wr.heap.size ⟨kd, x, no, mo⟩ W.heap.size rb q r :=
        ⟨Arr.new wr 32 [.int .i64 kd, .int .i64 x.fr, .int .i64 x.to, .string x.by_, .int .i64 no, .int .i64 mo], fun e => by have := hT.b.lt e; omega, fun e => by have := hT.rr.lt e; omega⟩
      have hT2 := hT.below hA
      clear ho hT hA
      by_cases k0 : kd = 0
      · subst k0
        obtain ⟨M, hM, hMe⟩ := pick_atC mo 100 (by omega) (by omega)
        have hMe' : Hid (wrap64 ((IntKind.u64.wrap mo).tmod 100) = (M : Int)) := hMe
        clear hMe
        go_wp2_with fail
        generalize World.alloc _ _ = w2 at hX hT2 ⊢
        clear y0 y1 y2 y3 y4 y5
        generalize wr.heap.size = ob at hX ⊢
        go_loopw [7] (fun v7 wq => ∃ (k : Nat) (q r : Value) (l : List EnvD) (n' : Nat), k ≤ M + 1 ∧ v7 = .int .i64 (k : Int) ∧ n' ≤ n + k ∧ Two W W.heap.size rb q r l l n' n' wq ∧ ActAt wq ob ⟨0, x, no, mo⟩ W.heap.size rb q r) (fun v _ => M + 1 - (intOf v).toNat)
        case atStart => exact ⟨0, q, r, l, n, Nat.zero_le _, rfl, Nat.le_refl _, hT2, hX⟩
        case round =>
          obtain ⟨k, q1, r1, l1, n1, hk, rfl, hn1, hT1, hX1⟩ := hrel
          clear hX hT2
          have c5 := hX1.row.cell (i := 5) rfl
          by_cases hkM : k ≤ M
          · have g3 : (k : Int) ≤ wrap64 ((IntKind.u64.wrap mo).tmod 100) := by rw [hMe'.out]; omega
            have bl := below_drewN (Below.refl wr.heap.size wr) 1
            have hTd : Two W W.heap.size rb q1 r1 l1 l1 n1 n1 wr.drew := hT1.below bl
            have hXd : ActAt wr.drew ob ⟨0, x, no, mo⟩ W.heap.size rb q1 r1 := hX1.below bl
            have cA := send_any x W.heap.size q1 l1 n1 wr.drew hTd.b (by omega)
            have cB := fun w h => refSend_any x rb r1 l1 n1 w h (by omega)
            obtain ⟨p, hp⟩ : ∃ p, Hid (decide (l1.length < 256) = p) := ⟨_, rfl⟩
            obtain ⟨l3, hl3⟩ : ∃ p, Hid (sendL l1 x = p) := ⟨_, rfl⟩
            obtain ⟨n3, hn3⟩ : ∃ p, Hid (sendN l1 n1 = p) := ⟨_, rfl⟩
            have hn3' : n3 ≤ n1 + 1 := by have := hn3.out; unfold sendN at this; split at this <;> omega
            simp only [hp.out, hl3.out, hn3.out] at cA cB
            unfold EnvD.v at cA cB
            clear hX1
            go_wp2_with fail
            go_region_held3 (fun w' => w'.cell? ⟨ob, 1, none⟩ = some (.int .i64 x.fr) ∧ w'.cell? ⟨ob, 2, none⟩ = some (.int .i64 x.to) ∧ w'.cell? ⟨ob, 3, none⟩ = some (.string x.by_) ∧ w'.cell? ⟨ob, 4, none⟩ = some (.int .i64 no)) (exact ActAt.cells (by assumption))
              (first
              | (go_at_call 7; refine cA.mono ?_; rintro e wA ⟨qA, rfl, hA1, hA2, hA3⟩; have hTA := hTd.stepA hA1 hA2 hA3; have hXA := hXd.stepA hA2 hA3)
              | (go_at_call 8; refine (cB _ hTA.rr).mono ?_; rintro e wB ⟨rB, rfl, hB1, hB2, hB3⟩; have hTB := hTA.stepB hB1 hB2 hB3; have hXB := hXA.stepB hB2 hB3))
            clear hA1 hA2 hA3 hTA hXA hB1 hB2 hB3 hTd hXd bl cA cB hT1 c5
            go_wp2
            go_roundw
            case rel => exact ⟨k + 1, qA, rB, l3, n3, by omega, by go_num, by omega, hTB, hXB⟩
            case measure => simp [intOf]; omega
          · have g3 : ¬ (k : Int) ≤ wrap64 ((IntKind.u64.wrap mo).tmod 100) := by rw [hMe'.out]; omega
            have hne : n1 ≤ 200 * (i + 1) := by omega
            have hlt := hX1.row.lt
            have c4 := hX1.row.cell (i := 4) rfl
            obtain ⟨aoR, capR, rfl, _, _⟩ := hT1.rr.form
            have cA := fun w h => at_any no W.heap.size q1 l1 n1 w h
            have cB := fun w h => refAt_any no rb (.slice aoR l1.length capR) l1 n1 w h
            obtain ⟨y, hy⟩ : ∃ y, Hid (atE l1 no = y) := ⟨_, rfl⟩
            obtain ⟨p, hp⟩ : ∃ p, Hid (atB l1 no = p) := ⟨_, rfl⟩
            simp only [hy.out, hp.out] at cA cB
            unfold EnvD.v at cA cB
            go_wp2_with fail
            refine (cA _ hT1.b).mono ?_
            rintro e w5 ⟨rfl, hb5⟩
            have hT5 := hT1.below hb5
            have hX5 := hX1.below hb5
            have hA5 := belowNew w5 (.cells #[.int .i64 y.fr, .int .i64 y.to, .string y.by_] 30)
            have hY5 := Arr.new w5 30 [.int .i64 y.fr, .int .i64 y.to, .string y.by_]
            have hT6 := hT5.below hA5
            have c45 := hX5.row.cell (i := 4) rfl
            have lt5 := hX5.row.lt
            clear hT1 hX1 hT5 hX5 hb5 c4 hlt cA
            go_wp2_with fail
            generalize World.alloc _ _ = w6 at hA5 hY5 hT6 ⊢
            generalize w5.heap.size = yb at hY5 ⊢
            clear hA5 c45
            refine (cB _ hT6.rr).mono ?_
            rintro e w7 ⟨rfl, hb7⟩
            have hT7 := hT6.below hb7
            have hY7 := hY5.below hb7 hY5.lt
            have hA7 := belowNew w7 (.cells #[.int .i64 y.fr, .int .i64 y.to, .string y.by_] 30)
            have hZ7 := Arr.new w7 30 [.int .i64 y.fr, .int .i64 y.to, .string y.by_]
            have hT8 := hT7.below hA7
            have hY8 := hY7.below hA7 hY7.lt
            clear hT6 hY5 hb7 hT7 hY7 cB lt5
            go_wp2_with fail
            generalize World.alloc _ _ = w8 at hA7 hZ7 hT8 hY8 ⊢
            generalize w7.heap.size = zb at hZ7 ⊢
            clear hA7
            have d0 := hY8.cell (i := 0) rfl
            have d1 := hY8.cell (i := 1) rfl
            have d2 := hY8.cell (i := 2) rfl
            have z0 := hZ7.cell (i := 0) rfl
            have z1 := hZ7.cell (i := 1) rfl
            have z2 := hZ7.cell (i := 2) rfl
            have b0 := hT8.rr.box.cell (i := 0) rfl
            have b1 := hT8.rr.box.cell (i := 1) rfl
            have cL := fun m => len_any W.heap.size q1 l1 n1 (w8.drewN m) (hT8.b.below (below_drewN (Below.refl _ w8) m))
            have cN := fun m => lost_any W.heap.size q1 l1 n1 (w8.drewN m) (hT8.b.below (below_drewN (Below.refl _ w8) m))
            go_quiet (first | (with_reducible exact Calls.quiet_of_same (cL _)) | (with_reducible exact Calls.quiet_of_same (cN _)))
            have hTF := hT8.below (below_drewN (Below.refl _ w8) nq)
            generalize w8.drewN nq = w9 at hTF ⊢
            clear d0 d1 d2 z0 z1 z2 b0 b1 cL cN hT8 hY8 hZ7
            go_wp2
            go_roundw
            case rel => exact ⟨i + 1, q1, _, l1, n1, by omega, by omega, by go_num, hne, hTF⟩
            case measure => simp [intOf]; omega
      · have e0 : (kd == 0) = false := by rw [beq_eq_false_iff_ne]; exact k0
        by_cases k1 : kd = 1
        · subst k1
          clear k0 e0
          have cT := fun w h => take_any no W.heap.size q l n w h
          have cR := fun w h => refTake_any no rb r l n w h
          obtain ⟨u, hu⟩ : ∃ y, Hid (atE l no = y) := ⟨_, rfl⟩
          obtain ⟨v, hv⟩ : ∃ p, Hid (atB l no = p) := ⟨_, rfl⟩
          obtain ⟨l3, hl3⟩ : ∃ p, Hid (takeL l no = p) := ⟨_, rfl⟩
          simp only [hu.out, hv.out, hl3.out] at cT cR
          unfold EnvD.v at cT cR
          clear hu hv hl3
          go_wp2_with fail
          generalize World.alloc _ _ = w2 at hX hT2 ⊢
          clear y0 y1 y2 y3 y4 y5
          generalize wr.heap.size = ob at hX ⊢
          refine (cT _ hT2.b).mono ?_
          rintro e wA ⟨qA, rfl, hA1, hA2, hA3⟩
          have hTA := hT2.stepA hA1 hA2 hA3
          have hXA := hX.stepA hA2 hA3
          have hnA := belowNew wA (.cells #[.int .i64 u.fr, .int .i64 u.to, .string u.by_] 30)
          have hUA : ActAt (wA.alloc (.cells #[.int .i64 u.fr, .int .i64 u.to, .string u.by_] 30)) ob ⟨1, x, no, mo⟩ W.heap.size rb qA r := hXA.below hnA
          have hTB := hTA.below hnA
          have hVA := Arr.new wA 30 [.int .i64 u.fr, .int .i64 u.to, .string u.by_]
          have hoff : ¬ BagS rb r wA.heap.size := fun e => by have := hTA.rr.lt e; omega
          have c4 := hXA.row.cell (i := 4) rfl
          have lt4 := hXA.row.lt
          clear hA1 hA2 hA3 hT2 hX cT hTA hXA
          go_wp2_with fail
          generalize World.alloc _ _ = wB at hnA hUA hTB hVA ⊢
          generalize wA.heap.size = ub at hVA hoff ⊢
          clear c4 hnA lt4
          refine (cR _ hTB.rr).mono ?_
          rintro e wC ⟨rC, rfl, hC1, hC2, hC3⟩
          have hTC := hTB.stepB hC1 hC2 hC3
          have hXC := hUA.stepB hC2 hC3
          have hVC := hVA.kept hC3 hoff
          have hnC := belowNew wC (.cells #[.int .i64 u.fr, .int .i64 u.to, .string u.by_] 30)
          have hVE := Arr.new wC 30 [.int .i64 u.fr, .int .i64 u.to, .string u.by_]
          have hTE := hTC.below hnC
          have hXE := hXC.below hnC
          have d0 := hVC.cell (i := 0) rfl
          have d1 := hVC.cell (i := 1) rfl
          have d2 := hVC.cell (i := 2) rfl
          have ltd := hVC.lt
          have hne : n ≤ 200 * (i + 1) := by omega
          clear hC1 hC2 hC3 hTB hUA hVA hTC hXC hVC hnC cR
          have hlt := hXE.row.lt
          have c4 := hXE.row.cell (i := 4) rfl
          obtain ⟨aoR, capR, rfl, _, _⟩ := hTE.rr.form
          have cA := fun w h => at_any no W.heap.size qA l3 n w h
          have cB := fun w h => refAt_any no rb (.slice aoR l3.length capR) l3 n w h
          obtain ⟨y, hy⟩ : ∃ y, Hid (atE l3 no = y) := ⟨_, rfl⟩
          obtain ⟨p, hp⟩ : ∃ p, Hid (atB l3 no = p) := ⟨_, rfl⟩
          simp only [hy.out, hp.out] at cA cB
          unfold EnvD.v at cA cB
          go_wp2_with fail
          refine (cA _ hTE.b).mono ?_
          rintro e w5 ⟨rfl, hb5⟩
          have hT5 := hTE.below hb5
          have hX5 := hXE.below hb5
          have hA5 := belowNew w5 (.cells #[.int .i64 y.fr, .int .i64 y.to, .string y.by_] 30)
          have hY5 := Arr.new w5 30 [.int .i64 y.fr, .int .i64 y.to, .string y.by_]
          have hT6 := hT5.below hA5
          have c45 := hX5.row.cell (i := 4) rfl
          have lt5 := hX5.row.lt
          clear hTE hXE hT5 hX5 hb5 c4 hlt cA
          go_wp2_with fail
          generalize World.alloc _ _ = w6 at hA5 hY5 hT6 ⊢
          generalize w5.heap.size = yb at hY5 ⊢
          clear hA5 c45
          refine (cB _ hT6.rr).mono ?_
          rintro e w7 ⟨rfl, hb7⟩
          have hT7 := hT6.below hb7
          have hY7 := hY5.below hb7 hY5.lt
          have hA7 := belowNew w7 (.cells #[.int .i64 y.fr, .int .i64 y.to, .string y.by_] 30)
          have hZ7 := Arr.new w7 30 [.int .i64 y.fr, .int .i64 y.to, .string y.by_]
          have hT8 := hT7.below hA7
          have hY8 := hY7.below hA7 hY7.lt
          clear hT6 hY5 hb7 hT7 hY7 cB lt5
          go_wp2_with fail
          generalize World.alloc _ _ = w8 at hA7 hZ7 hT8 hY8 ⊢
          generalize w7.heap.size = zb at hZ7 ⊢
          clear hA7
          have d0 := hY8.cell (i := 0) rfl
          have d1 := hY8.cell (i := 1) rfl
          have d2 := hY8.cell (i := 2) rfl
          have z0 := hZ7.cell (i := 0) rfl
          have z1 := hZ7.cell (i := 1) rfl
          have z2 := hZ7.cell (i := 2) rfl
          have b0 := hT8.rr.box.cell (i := 0) rfl
          have b1 := hT8.rr.box.cell (i := 1) rfl
          have cL := fun m => len_any W.heap.size qA l3 n (w8.drewN m) (hT8.b.below (below_drewN (Below.refl _ w8) m))
          have cN := fun m => lost_any W.heap.size qA l3 n (w8.drewN m) (hT8.b.below (below_drewN (Below.refl _ w8) m))
          go_quiet (first | (with_reducible exact Calls.quiet_of_same (cL _)) | (with_reducible exact Calls.quiet_of_same (cN _)))
          have hTF := hT8.below (below_drewN (Below.refl _ w8) nq)
          generalize w8.drewN nq = w9 at hTF ⊢
          clear d0 d1 d2 z0 z1 z2 b0 b1 cL cN hT8 hY8 hZ7
          go_wp2
          go_roundw
          case rel => exact ⟨i + 1, qA, _, l3, n, by omega, by omega, by go_num, hne, hTF⟩
          case measure => simp [intOf]; omega
        · have e1 : (kd == 1) = false := by rw [beq_eq_false_iff_ne]; exact k1
          by_cases k2 : kd = 2
          · subst k2
            clear k0 k1 e0 e1
            have cT := fun w h => twice_any no W.heap.size q l n w h (by omega)
            have cR := fun w h => refTwice_any no rb r l n w h (by omega)
            obtain ⟨v, hv⟩ : ∃ p, Hid (twiceB l no = p) := ⟨_, rfl⟩
            obtain ⟨l3, hl3⟩ : ∃ p, Hid (twiceL l no = p) := ⟨_, rfl⟩
            obtain ⟨n3, hn3⟩ : ∃ p, Hid (twiceN l no n = p) := ⟨_, rfl⟩
            have hne : n3 ≤ 200 * (i + 1) := by
              have := hn3.out
              unfold twiceN sendN at this
              split at this
              · split at this <;> omega
              · omega
            simp only [hv.out, hl3.out, hn3.out] at cT cR
            clear hv hl3 hn3
            go_wp2_with fail
            generalize World.alloc _ _ = w2 at hX hT2 ⊢
            clear y0 y1 y2 y3 y4 y5
            generalize wr.heap.size = ob at hX ⊢
            have bl := below_drewN (Below.refl w2.heap.size w2) 1
            have hTd : Two W W.heap.size rb q r l l n n w2.drew := hT2.below bl
            have hXd : ActAt w2.drew ob ⟨2, x, no, mo⟩ W.heap.size rb q r := hX.below bl
            go_region_held3 (fun w' => w'.cell? ⟨ob, 1, none⟩ = some (.int .i64 x.fr) ∧ w'.cell? ⟨ob, 2, none⟩ = some (.int .i64 x.to) ∧ w'.cell? ⟨ob, 3, none⟩ = some (.string x.by_) ∧ w'.cell? ⟨ob, 4, none⟩ = some (.int .i64 no)) (exact ActAt.cells (by assumption))
              (first
              | (go_at_call 11; refine (cT _ hTd.b).mono ?_; rintro e wA ⟨qA, rfl, hA1, hA2, hA3⟩; have hTA := hTd.stepA hA1 hA2 hA3; have hXA := hXd.stepA hA2 hA3)
              | (go_at_call 12; refine (cR _ hTA.rr).mono ?_; rintro e wB ⟨rB, rfl, hB1, hB2, hB3⟩; have hTB := hTA.stepB hB1 hB2 hB3; have hXB := hXA.stepB hB2 hB3))
            clear hA1 hA2 hA3 hTA hXA hB1 hB2 hB3 hTd hXd bl cT cR hT2 hX
            have hlt := hXB.row.lt
            have c4 := hXB.row.cell (i := 4) rfl
            obtain ⟨aoR, capR, rfl, _, _⟩ := hTB.rr.form
            have cA := fun w h => at_any no W.heap.size qA l3 n3 w h
            have cB := fun w h => refAt_any no rb (.slice aoR l3.length capR) l3 n3 w h
            obtain ⟨y, hy⟩ : ∃ y, Hid (atE l3 no = y) := ⟨_, rfl⟩
            obtain ⟨p, hp⟩ : ∃ p, Hid (atB l3 no = p) := ⟨_, rfl⟩
            simp only [hy.out, hp.out] at cA cB
            unfold EnvD.v at cA cB
            go_wp2_with fail
            refine (cA _ hTB.b).mono ?_
            rintro e w5 ⟨rfl, hb5⟩
            have hT5 := hTB.below hb5
            have hX5 := hXB.below hb5
            have hA5 := belowNew w5 (.cells #[.int .i64 y.fr, .int .i64 y.to, .string y.by_] 30)
            have hY5 := Arr.new w5 30 [.int .i64 y.fr, .int .i64 y.to, .string y.by_]
            have hT6 := hT5.below hA5
            have c45 := hX5.row.cell (i := 4) rfl
            have lt5 := hX5.row.lt
            clear hTB hXB hT5 hX5 hb5 c4 hlt cA
            go_wp2_with fail
            generalize World.alloc _ _ = w6 at hA5 hY5 hT6 ⊢
            generalize w5.heap.size = yb at hY5 ⊢
            clear hA5 c45
            refine (cB _ hT6.rr).mono ?_
            rintro e w7 ⟨rfl, hb7⟩
            have hT7 := hT6.below hb7
            have hY7 := hY5.below hb7 hY5.lt
            have hA7 := belowNew w7 (.cells #[.int .i64 y.fr, .int .i64 y.to, .string y.by_] 30)
            have hZ7 := Arr.new w7 30 [.int .i64 y.fr, .int .i64 y.to, .string y.by_]
            have hT8 := hT7.below hA7
            have hY8 := hY7.below hA7 hY7.lt
            clear hT6 hY5 hb7 hT7 hY7 cB lt5
            go_wp2_with fail
            generalize World.alloc _ _ = w8 at hA7 hZ7 hT8 hY8 ⊢
            generalize w7.heap.size = zb at hZ7 ⊢
            clear hA7
            have d0 := hY8.cell (i := 0) rfl
            have d1 := hY8.cell (i := 1) rfl
            have d2 := hY8.cell (i := 2) rfl
            have z0 := hZ7.cell (i := 0) rfl
            have z1 := hZ7.cell (i := 1) rfl
            have z2 := hZ7.cell (i := 2) rfl
            have b0 := hT8.rr.box.cell (i := 0) rfl
            have b1 := hT8.rr.box.cell (i := 1) rfl
            have cL := fun m => len_any W.heap.size qA l3 n3 (w8.drewN m) (hT8.b.below (below_drewN (Below.refl _ w8) m))
            have cN := fun m => lost_any W.heap.size qA l3 n3 (w8.drewN m) (hT8.b.below (below_drewN (Below.refl _ w8) m))
            go_quiet (first | (with_reducible exact Calls.quiet_of_same (cL _)) | (with_reducible exact Calls.quiet_of_same (cN _)))
            have hTF := hT8.below (below_drewN (Below.refl _ w8) nq)
            generalize w8.drewN nq = w9 at hTF ⊢
            clear d0 d1 d2 z0 z1 z2 b0 b1 cL cN hT8 hY8 hZ7
            go_wp2
            go_roundw
            case rel => exact ⟨i + 1, qA, _, l3, n3, by omega, by omega, by go_num, hne, hTF⟩
            case measure => simp [intOf]; omega
          · have e2 : (kd == 2) = false := by rw [beq_eq_false_iff_ne]; exact k2
            have hne : n ≤ 200 * (i + 1) := by omega
            have hlt := hX.row.lt
            have c4 := hX.row.cell (i := 4) rfl
            obtain ⟨aoR, capR, rfl, _, _⟩ := hT2.rr.form
            have cA := fun w h => at_any no W.heap.size q l n w h
            have cB := fun w h => refAt_any no rb (.slice aoR l.length capR) l n w h
            obtain ⟨y, hy⟩ : ∃ y, Hid (atE l no = y) := ⟨_, rfl⟩
            obtain ⟨p, hp⟩ : ∃ p, Hid (atB l no = p) := ⟨_, rfl⟩
            simp only [hy.out, hp.out] at cA cB
            unfold EnvD.v at cA cB
            go_wp2_with fail
            refine (cA _ hT2.b).mono ?_
            rintro e w5 ⟨rfl, hb5⟩
            have hT5 := hT2.below hb5
            have hX5 := hX.below hb5
            have hA5 := belowNew w5 (.cells #[.int .i64 y.fr, .int .i64 y.to, .string y.by_] 30)
            have hY5 := Arr.new w5 30 [.int .i64 y.fr, .int .i64 y.to, .string y.by_]
            have hT6 := hT5.below hA5
            have c45 := hX5.row.cell (i := 4) rfl
            have lt5 := hX5.row.lt
            clear hT2 hX hT5 hX5 hb5 c4 hlt cA
            go_wp2_with fail
            generalize World.alloc _ _ = w6 at hA5 hY5 hT6 ⊢
            generalize w5.heap.size = yb at hY5 ⊢
            clear hA5 c45
            refine (cB _ hT6.rr).mono ?_
            rintro e w7 ⟨rfl, hb7⟩
            have hT7 := hT6.below hb7
            have hY7 := hY5.below hb7 hY5.lt
            have hA7 := belowNew w7 (.cells #[.int .i64 y.fr, .int .i64 y.to, .string y.by_] 30)
            have hZ7 := Arr.new w7 30 [.int .i64 y.fr, .int .i64 y.to, .string y.by_]
            have hT8 := hT7.below hA7
            have hY8 := hY7.below hA7 hY7.lt
            clear hT6 hY5 hb7 hT7 hY7 cB lt5
            go_wp2_with fail
            generalize World.alloc _ _ = w8 at hA7 hZ7 hT8 hY8 ⊢
            generalize w7.heap.size = zb at hZ7 ⊢
            clear hA7
            have d0 := hY8.cell (i := 0) rfl
            have d1 := hY8.cell (i := 1) rfl
            have d2 := hY8.cell (i := 2) rfl
            have z0 := hZ7.cell (i := 0) rfl
            have z1 := hZ7.cell (i := 1) rfl
            have z2 := hZ7.cell (i := 2) rfl
            have b0 := hT8.rr.box.cell (i := 0) rfl
            have b1 := hT8.rr.box.cell (i := 1) rfl
            have cL := fun m => len_any W.heap.size q l n (w8.drewN m) (hT8.b.below (below_drewN (Below.refl _ w8) m))
            have cN := fun m => lost_any W.heap.size q l n (w8.drewN m) (hT8.b.below (below_drewN (Below.refl _ w8) m))
            go_quiet (first | (with_reducible exact Calls.quiet_of_same (cL _)) | (with_reducible exact Calls.quiet_of_same (cN _)))
            have hTF := hT8.below (below_drewN (Below.refl _ w8) nq)
            generalize w8.drewN nq = w9 at hTF ⊢
            clear d0 d1 d2 z0 z1 z2 b0 b1 cL cN hT8 hY8 hZ7
            go_wp2
            go_roundw
            case rel => exact ⟨i + 1, q, _, l, n, by omega, by omega, by go_num, hne, hTF⟩
            case measure => simp [intOf]; omega
    · rcases (by omega : ¬ (i : Int) < (ls.length : Int) ∨ ((i : Int) < (ls.length : Int) ∧ ¬ (i : Int) < 100)) with hd | ⟨hd0, hd⟩
      all_goals
        have hbe := hT.bel
        clear hT
        go_wp2
        go_ret
        exact ⟨rfl, hbe⟩
end Go.Proofs.Ytmbfidegcebbdaa
