/- The chain's copies of what has no rows: copyQc, copyBlock, High. -/
import Derived.Test.YthhildeocedpiaaDoorChnLook
import Derived.Test.YthhildeocedpiaaDoorBlkOwn
import Derived.Lib.Slices
namespace Go.Proofs.YthhildeocedpiaaDoor
open Go Go.RowKit
set_option linter.unusedVariables false

set_option maxRecDepth 100000 in
theorem cloneTN (w : World) : Calls Tryd.prog 86 #[.slice none 0 0] w fun e w' => e = .returned (.slice none 0 0) ∧ w' = w := by
  have q24 : ∀ (w : World) (a : Option Addr) (n c n' c' : Nat), (binOp .eql 35 (.slice a n c) (.slice none n' c')).run Tryd.prog w = .ok (.bool a.isNone) w := fun w a n c n' c' => Lib.run_eql_slice_nil w _ _ a n c n' c' Tryd.underlying35
  go_enter Tryd.func86, Tryd.ntmps86
  go_wp2
  go_ret
  exact ⟨rfl, rfl⟩

set_option maxRecDepth 100000 in
theorem cloneSN (w : World) : Calls Tryd.prog 84 #[.slice none 0 0] w fun e w' => e = .returned (.slice none 0 0) ∧ w' = w := by
  have q24 : ∀ (w : World) (a : Option Addr) (n c n' c' : Nat), (binOp .eql 23 (.slice a n c) (.slice none n' c')).run Tryd.prog w = .ok (.bool a.isNone) w := fun w a n c n' c' => Lib.run_eql_slice_nil w _ _ a n c n' c' Tryd.underlying23
  go_enter Tryd.func84, Tryd.ntmps84
  go_wp2
  go_ret
  exact ⟨rfl, rfl⟩

/-- A Qc without votes. -/
def qcN (v : Int) (b : ByteArray) : QcM := ⟨v, b, none, [], 0⟩

/-- A block without votes and marks. -/
def blkN (u v : Int) (b : ByteArray) : BlkM := ⟨u, qcN v b, none, [], 0⟩

set_option maxRecDepth 100000 in
set_option maxHeartbeats 1000000 in
theorem copyQc_nil (v : Int) (b : ByteArray) (w : World) :
    Calls Tryd.prog 64 #[(qcN v b).v] w fun e w' => e = .returned (qcN v b).v ∧ Below w.heap.size w w' := by
  obtain ⟨hX, hZ, hB⟩ := two_new w 37 37 [.int .i64 v, .string b, .slice none 0 0] [.int .i64 0, .string ⟨#[]⟩, .slice none 0 0]
  obtain ⟨w1, hw1⟩ : ∃ q, (w.alloc (.cells [.int .i64 v, .string b, .slice none 0 0].toArray 37)).alloc (.cells [.int .i64 0, .string ⟨#[]⟩, .slice none 0 0].toArray 37) = q := ⟨_, rfl⟩
  have hs1 : w.heap.size + 2 ≤ w1.heap.size := by rw [← hw1, alloc_size, alloc_size]; omega
  rw [hw1] at hX hZ hB
  have x2 := hX.cell (i := 2) rfl
  have f2 := hX.frozen 2
  have hX4 : Arr (w1.setCell ⟨w.heap.size, 2, none⟩ (.slice none 0 0)) w.heap.size 37 [.int .i64 v, .string b, .slice none 0 0] := hX.set 2 (.slice none 0 0)
  have hZ4 := hZ.other (p := ⟨w.heap.size, 2, none⟩) (by show w.heap.size + 1 ≠ w.heap.size; omega) (.slice none 0 0)
  have hB4 := hB.setCell (p := ⟨w.heap.size, 2, none⟩) (Nat.le_refl _) (.slice none 0 0)
  obtain ⟨w4, hw4⟩ : ∃ q, w1.setCell ⟨w.heap.size, 2, none⟩ (.slice none 0 0) = q := ⟨_, rfl⟩
  rw [hw4] at hX4 hZ4 hB4
  have y0 := hX4.cell (i := 0) rfl
  have y1 := hX4.cell (i := 1) rfl
  have y2 := hX4.cell (i := 2) rfl
  have z0 := hZ4.cell (i := 0) rfl
  have z1 := hZ4.cell (i := 1) rfl
  have z2 := hZ4.cell (i := 2) rfl
  have g0 := hZ4.frozen 0
  have g1 := hZ4.frozen 1
  have g2 := hZ4.frozen 2
  have hZF := hZ4.set3 (.int .i64 v) (.string b) (.slice none 0 0)
  have hBF := below_set3 hB4 (g := w.heap.size + 1) (Nat.le_succ _) (.int .i64 v) (.string b) (.slice none 0 0)
  unfold set3 at hZF hBF
  have cC := cloneTN w1
  clear hX hZ hB hX4 hZ4 hB4
  unfold qcN QcM.v
  go_enter Tryd.func64, Tryd.ntmps64
  go_wp2_with fail
  refine cC.mono ?_
  rintro e w5 ⟨rfl, rfl⟩
  go_wp2
  refine bodyPost_ret (v := QcM.v ⟨v, b, none, [], 0⟩) (results_qcO rfl _ _ (w.heap.size + 1) ⟨v, b, none, [], 0⟩ rfl hZF) rfl ?_
  exact ⟨rfl, hBF⟩

set_option maxRecDepth 100000 in
set_option maxHeartbeats 2000000 in
theorem copyBlk_nil (u v : Int) (b : ByteArray) (w : World) :
    Calls Tryd.prog 62 #[(blkN u v b).v] w fun e w' => e = .returned (blkN u v b).v ∧ Below w.heap.size w w' := by
  obtain ⟨hX, hZ, hB⟩ := two_new w 39 39 [.int .i64 u, .int .i64 v, .string b, .slice none 0 0, .slice none 0 0] [.int .i64 0, .int .i64 0, .string ⟨#[]⟩, .slice none 0 0, .slice none 0 0]
  obtain ⟨w0, hw0⟩ : ∃ q, (w.alloc (.cells [.int .i64 u, .int .i64 v, .string b, .slice none 0 0, .slice none 0 0].toArray 39)).alloc (.cells [.int .i64 0, .int .i64 0, .string ⟨#[]⟩, .slice none 0 0, .slice none 0 0].toArray 39) = q := ⟨_, rfl⟩
  have hs0 : w.heap.size + 2 ≤ w0.heap.size := by rw [← hw0, alloc_size, alloc_size]; omega
  rw [hw0] at hX hZ hB
  have hbd := below_drewN (Below.refl w0.heap.size w0) 1
  have hXd : Arr w0.drew w.heap.size 39 [.int .i64 u, .int .i64 v, .string b, .slice none 0 0, .slice none 0 0] := hX.below hbd hX.lt
  have hZd : Arr w0.drew (w.heap.size + 1) 39 [.int .i64 0, .int .i64 0, .string ⟨#[]⟩, .slice none 0 0, .slice none 0 0] := hZ.below hbd hZ.lt
  have hBd : Below w.heap.size w w0.drew := hB.trans (hbd.mono hB.size)
  have hsd : w.heap.size + 2 ≤ w0.drew.heap.size := hs0
  have cQ := copyQc_nil v b w0.drew
  have cS := fun w' => cloneSN w'
  have hkp : ∀ w' : World, Arr w' w.heap.size 39 [.int .i64 u, .int .i64 v, .string b, .slice none 0 0, .slice none 0 0] → (w'.cell? ⟨w.heap.size, 1, none⟩ = some (.int .i64 v) ∧ w'.cell? ⟨w.heap.size, 2, none⟩ = some (.string b) ∧ w'.cell? ⟨w.heap.size, 3, none⟩ = some (.slice none 0 0) ∧ w'.cell? ⟨w.heap.size, 4, none⟩ = some (.slice none 0 0)) := fun w' h => ⟨h.cell (i := 1) rfl, h.cell (i := 2) rfl, h.cell (i := 3) rfl, h.cell (i := 4) rfl⟩
  have hSd := hkp _ hXd
  unfold qcN QcM.v at cQ
  unfold blkN qcN BlkM.v
  clear hX hZ hB hbd
  go_enter Tryd.func62, Tryd.ntmps62
  go_wp2_with fail
  refine wp_region_noPanic ?_
  refine wp_region_held (S := fun w' => w'.cell? ⟨w.heap.size, 1, none⟩ = some (.int .i64 v) ∧ w'.cell? ⟨w.heap.size, 2, none⟩ = some (.string b) ∧ w'.cell? ⟨w.heap.size, 3, none⟩ = some (.slice none 0 0) ∧ w'.cell? ⟨w.heap.size, 4, none⟩ = some (.slice none 0 0)) (by kernel_rfl) ?_
  show wpAnyH _ _ _ _ _ 10 (Array.replicate 10 false) _ w0.drew
  refine wpAnyH_takeD (i := 0) (v := ?_) (some 3) rfl rfl (by kernel_rfl) (by kernel_rfl) (by kernel_rfl) (fun _ _ _ h => h) (Or.inl ⟨by rfl, ?_⟩) (by assumption) ?_
  rotate_left 1
  · intro w' hSw
    (try dsimp only at hSw)
    go_simp
    first | done | with_reducible rfl
  simp only [Act.put, List.setIfInBounds_toArray, List.set_cons_zero, List.set_cons_succ]
  refine wpAnyH_takeD (i := 1) (v := ?_) (some 4) rfl rfl (by kernel_rfl) (by kernel_rfl) (by kernel_rfl) (fun _ _ _ h => h) (Or.inl ⟨by rfl, ?_⟩) (by assumption) ?_
  rotate_left 1
  · intro w' hSw
    (try dsimp only at hSw)
    go_simp
    first | done | with_reducible rfl
  simp only [Act.put, List.setIfInBounds_toArray, List.set_cons_zero, List.set_cons_succ]
  refine wpAnyH_takeD (i := 3) (v := ?_) (some 6) rfl rfl (by kernel_rfl) (by kernel_rfl) (by kernel_rfl) (fun _ _ _ h => h) (Or.inl ⟨by rfl, ?_⟩) (by assumption) ?_
  rotate_left 1
  · intro w' hSw
    (try dsimp only at hSw)
    go_simp
    first | done | with_reducible rfl
  simp only [Act.put, List.setIfInBounds_toArray, List.set_cons_zero, List.set_cons_succ]
  refine wpAnyH_takeD (i := 4) (v := ?_) (some 7) rfl rfl (by kernel_rfl) (by kernel_rfl) (by kernel_rfl) (fun _ _ _ h => h) (Or.inl ⟨by rfl, ?_⟩) (by assumption) ?_
  rotate_left 1
  · intro w' hSw
    (try dsimp only at hSw)
    go_simp
    first | done | with_reducible rfl
  simp only [Act.put, List.setIfInBounds_toArray, List.set_cons_zero, List.set_cons_succ]
  refine wpAnyH_oneD (i := 2) (some 5) (by kernel_rfl) rfl rfl rfl (fun K' hK' => ?_)
  replace hK' : Hid _ := hK'
  go_simp
  refine cQ.mono ?_
  rintro e w5 ⟨rfl, hb5⟩
  show K' _ w5
  have hX5 := hXd.below hb5 hXd.lt
  have hZ5 := hZd.below hb5 hZd.lt
  have hB5 := hBd.trans (hb5.mono hBd.size)
  have hs5 := hb5.size
  have hS5 := hkp _ hX5
  refine hK'.out _ _ hS5 ?_
  clear hK' K'
  simp only [Act.put, List.setIfInBounds_toArray, List.set_cons_zero, List.set_cons_succ]
  refine wpAnyH_takeD (i := 6) (v := ?_) (some 9) rfl rfl (by kernel_rfl) (by kernel_rfl) (by kernel_rfl) (fun _ _ _ h => h) (Or.inl ⟨by rfl, ?_⟩) (by assumption) ?_
  rotate_left 1
  · intro w' hSw
    (try dsimp only at hSw)
    go_simp
    first | done | with_reducible rfl
  simp only [Act.put, List.setIfInBounds_toArray, List.set_cons_zero, List.set_cons_succ]
  refine wpAnyH_oneD (i := 5) (some 8) (by kernel_rfl) rfl rfl rfl (fun K' hK' => ?_)
  replace hK' : Hid _ := hK'
  go_simp
  refine (cS _).mono ?_
  rintro e w6 ⟨rfl, rfl⟩
  show K' _ w6
  refine hK'.out _ _ hS5 ?_
  clear hK' K'
  simp only [Act.put, List.setIfInBounds_toArray, List.set_cons_zero, List.set_cons_succ]
  have f1 := hX5.frozen 1
  have f2 := hX5.frozen 2
  have f3 := hX5.frozen 3
  have q1 := hX5.cell (i := 1) rfl
  have q2 := hX5.cell (i := 2) rfl
  have q3 := hX5.cell (i := 3) rfl
  have hX6 : Arr (((w6.setCell ⟨w.heap.size, 1, none⟩ (.int .i64 v)).setCell ⟨w.heap.size, 2, none⟩ (.string b)).setCell ⟨w.heap.size, 3, none⟩ (.slice none 0 0)) w.heap.size 39 [.int .i64 u, .int .i64 v, .string b, .slice none 0 0, .slice none 0 0] := ((hX5.set 1 (.int .i64 v)).set 2 (.string b)).set 3 (.slice none 0 0)
  have k3 := (((Kept.refl (fun k => k = w.heap.size) w6).set (p := ⟨w.heap.size, 1, none⟩) rfl (.int .i64 v)).set (p := ⟨w.heap.size, 2, none⟩) rfl (.string b)).set (p := ⟨w.heap.size, 3, none⟩) rfl (.slice none 0 0)
  have hZ6 := hZ5.kept k3 (by omega)
  have hB6 := ((hB5.setCell (p := ⟨w.heap.size, 1, none⟩) (Nat.le_refl _) (.int .i64 v)).setCell (p := ⟨w.heap.size, 2, none⟩) (Nat.le_refl _) (.string b)).setCell (p := ⟨w.heap.size, 3, none⟩) (Nat.le_refl _) (.slice none 0 0)
  have hS6 := hkp _ hX6
  refine wpAnyH_oneD (i := 7) none (by kernel_rfl) rfl rfl rfl (fun K' hK' => ?_)
  replace hK' : Hid _ := hK'
  go_simp
  refine hK'.out undef _ hS6 ?_
  clear hK' K'
  generalize ((w6.setCell ⟨w.heap.size, 1, none⟩ (.int .i64 v)).setCell ⟨w.heap.size, 2, none⟩ (.string b)).setCell ⟨w.heap.size, 3, none⟩ (.slice none 0 0) = w7 at *
  have f4 := hX6.frozen 4
  have q4 := hX6.cell (i := 4) rfl
  have hX7 : Arr (w7.setCell ⟨w.heap.size, 4, none⟩ (.slice none 0 0)) w.heap.size 39 [.int .i64 u, .int .i64 v, .string b, .slice none 0 0, .slice none 0 0] := hX6.set 4 (.slice none 0 0)
  have hZ7 := hZ6.other (p := ⟨w.heap.size, 4, none⟩) (by show w.heap.size + 1 ≠ w.heap.size; omega) (.slice none 0 0)
  have hB7 := hB6.setCell (p := ⟨w.heap.size, 4, none⟩) (Nat.le_refl _) (.slice none 0 0)
  have hS7 := hkp _ hX7
  refine wpAnyH_takeD (i := 8) (v := ?_) (some 10) rfl rfl (by kernel_rfl) (by kernel_rfl) (by kernel_rfl) (fun _ _ _ h => h) (Or.inl ⟨by rfl, ?_⟩) (by assumption) ?_
  rotate_left 1
  · intro w' hSw
    (try dsimp only at hSw)
    go_simp
    first | done | with_reducible rfl
  simp only [Act.put, List.setIfInBounds_toArray, List.set_cons_zero, List.set_cons_succ]
  refine wpAnyH_oneD (i := 9) none (by kernel_rfl) rfl rfl rfl (fun K' hK' => ?_)
  replace hK' : Hid _ := hK'
  go_simp
  refine hK'.out undef _ hS7 ?_
  clear hK' K'
  refine wpAnyH_done (by kernel_rfl) ?_ _
  refine NoPanic.normal ?_
  generalize w7.setCell ⟨w.heap.size, 4, none⟩ (.slice none 0 0) = w8 at *
  have y0 := hX7.cell (i := 0) rfl
  have y1 := hX7.cell (i := 1) rfl
  have y2 := hX7.cell (i := 2) rfl
  have y3 := hX7.cell (i := 3) rfl
  have y4 := hX7.cell (i := 4) rfl
  have z0 := hZ7.cell (i := 0) rfl
  have z1 := hZ7.cell (i := 1) rfl
  have z2 := hZ7.cell (i := 2) rfl
  have z3 := hZ7.cell (i := 3) rfl
  have z4 := hZ7.cell (i := 4) rfl
  have g0 := hZ7.frozen 0
  have g1 := hZ7.frozen 1
  have g2 := hZ7.frozen 2
  have g3 := hZ7.frozen 3
  have g4 := hZ7.frozen 4
  have hZF := hZ7.set5 (.int .i64 u) (.int .i64 v) (.string b) (.slice none 0 0) (.slice none 0 0)
  have hBF := below_set5 hB7 (g := w.heap.size + 1) (Nat.le_succ _) (.int .i64 u) (.int .i64 v) (.string b) (.slice none 0 0) (.slice none 0 0)
  unfold set5 at hZF hBF
  clear hX7 hZ7 hB7 hX6 hZ6 hB6 hX5 hZ5 hB5 k3
  go_wp2
  refine bodyPost_ret (v := BlkM.v ⟨u, ⟨v, b, none, [], 0⟩, none, [], 0⟩) (results_blkO rfl _ _ (w.heap.size + 1) ⟨u, ⟨v, b, none, [], 0⟩, none, [], 0⟩ rfl hZF) rfl ?_
  exact ⟨rfl, hBF⟩

section
variable {w w' : World} {L : LinP} {c m k lo lk la hi vt : Nat} {ad : Nat → Nat}

set_option maxRecDepth 100000 in
set_option maxHeartbeats 1000000 in
theorem highC_any (h : ChAt w L c m ad k lo lk la hi vt) :
    Calls Tryd.prog 34 #[ptrL c] w fun e w' => e = .returned (qcN (L.vw hi : Int) (L.ids hi)).v ∧ Below w.heap.size w w' := by
  have hZ := Arr.new w 37 [.int .i64 0, .string ⟨#[]⟩, .slice none 0 0]
  have hB := belowNew w (.cells #[.int .i64 0, .string ⟨#[]⟩, .slice none 0 0] 37)
  have hX := h.box.below hB h.box.lt
  have hcs : c ≠ w.heap.size := by have := h.box.lt; omega
  have hs1 : w.heap.size + 1 ≤ (w.alloc (.cells #[.int .i64 0, .string ⟨#[]⟩, .slice none 0 0] 37)).heap.size := by rw [alloc_size]; omega
  generalize L.vw hi = v at *
  generalize L.ids hi = b at *
  obtain ⟨w1, hw1⟩ : ∃ q, w.alloc (.cells #[.int .i64 0, .string ⟨#[]⟩, .slice none 0 0] 37) = q := ⟨_, rfl⟩
  replace hZ : Arr (w.alloc (.cells #[.int .i64 0, .string ⟨#[]⟩, .slice none 0 0] 37)) w.heap.size 37 [.int .i64 0, .string ⟨#[]⟩, .slice none 0 0] := hZ
  rw [hw1] at hX hZ hB hs1
  have x1 := hX.cell (i := 1) rfl
  have x2 := hX.cell (i := 2) rfl
  have x3 := hX.cell (i := 3) rfl
  have cQ := copyQc_nil (v : Int) b w1
  unfold qcN QcM.v at *
  unfold ptrL
  go_enter Tryd.func34, Tryd.ntmps34
  go_wp2_with fail
  refine cQ.mono ?_
  rintro e w5 ⟨rfl, hb5⟩
  have hZ5 := hZ.below hb5 hZ.lt
  have hB5 := hB.trans (hb5.mono hB.size)
  have z0 := hZ5.cell (i := 0) rfl
  have z1 := hZ5.cell (i := 1) rfl
  have z2 := hZ5.cell (i := 2) rfl
  have g0 := hZ5.frozen 0
  have g1 := hZ5.frozen 1
  have g2 := hZ5.frozen 2
  have hZF := hZ5.set3 (.int .i64 v) (.string b) (.slice none 0 0)
  have hBF := below_set3 hB5 (g := w.heap.size) (Nat.le_refl _) (.int .i64 v) (.string b) (.slice none 0 0)
  unfold set3 at hZF hBF
  clear hX hZ hB x1 x2 x3 hZ5 hB5
  go_wp2
  refine bodyPost_ret (v := QcM.v ⟨v, b, none, [], 0⟩) (results_qcO rfl _ _ w.heap.size ⟨v, b, none, [], 0⟩ rfl hZF) rfl ?_
  exact ⟨rfl, hBF⟩
end
end Go.Proofs.YthhildeocedpiaaDoor
