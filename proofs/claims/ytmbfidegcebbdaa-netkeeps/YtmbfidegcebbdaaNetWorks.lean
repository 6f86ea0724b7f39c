/- A new bag; that the bag works. -/
import Derived.Test.YtmbfidegcebbdaaNetTake
namespace Go.Proofs.Ytmbfidegcebbdaa
open Go.RowKit
set_option linter.unusedVariables false

/-- What comes from number i. -/
def envI (i : Nat) : EnvD := ⟨(i : Int), 0, ⟨#[]⟩⟩

theorem send_range {i : Nat} (h : i < 256) : sendL ((List.range i).map envI) (envI i) = (List.range (i + 1)).map envI := by
  unfold sendL
  rw [if_pos (by simpa using h), List.range_succ, List.map_append]
  rfl

/-- What an act on a bag turns is nothing old. -/
theorem BagAt.old {T : TypeId} {B : Nat} {w w1 w2 : World} {bb : Nat} {q : Value} {l : List EnvD} {n : Nat} (hb : Below B w w1) (hB : B ≤ bb) (h : BagAt T w1 bb q l n) (hk : Kept (BagS bb q) w1 w2) (hs : B ≤ w1.heap.size) : Below B w w2 :=
  hb.trans (hk.below hs (fun k e => by
    rcases e with e | e
    · omega
    · have := (h.ge e).1; omega))

set_option maxRecDepth 100000 in
set_option maxHeartbeats 1000000 in
theorem netNew_any (w : World) : Calls Try.prog 6 #[] w fun e w' => e = .returned (.pointer (some ⟨w.heap.size, 0, none⟩)) ∧ BagAt 46 w' w.heap.size (.slice none 0 0) [] 0 ∧ Below w.heap.size w w' := by
  have hb := belowNew w (.cells #[.slice none 0 0, .int .i64 0] 46)
  have hX := Arr.new w 46 [.slice none 0 0, .int .i64 0]
  go_enter Try.func6, Try.ntmps6
  go_wp2
  go_ret
  exact ⟨rfl, ⟨hX, KQ.empty _ _ _ _, by decide⟩, hb⟩

set_option maxRecDepth 100000 in
set_option maxHeartbeats 2000000 in
theorem netWorks_any (w : World) : Calls Try.prog 17 #[] w fun e w' => e = .returned (.bool true) ∧ Below w.heap.size w w' := by
  go_enter Try.func17, Try.ntmps17
  go_wp2_with fail
  refine (netNew_any w).mono ?_
  rintro e w1 ⟨rfl, h1, hb1⟩
  go_wp2_with fail
  go_loopw [2] (fun v2 wr => ∃ i : Nat, i ≤ 3 ∧ v2 = .int .i64 (i : Int) ∧ ∃ q, BagAt 46 wr w.heap.size q ((List.range i).map envI) 0 ∧ Below w.heap.size w wr) (fun v _ => 3 - (intOf v).toNat)
  case atStart => exact ⟨0, by omega, rfl, _, h1, hb1⟩
  case round =>
    obtain ⟨i, hi, rfl, q, hB, hbr⟩ := hrel
    by_cases hlt : i < 3
    · have hlt' : (i : Int) < 3 := by omega
      have cS := send_any (envI i) w.heap.size q _ 0 wr hB (by omega)
      have e1 := send_range (i := i) (by omega)
      have e2 : sendN ((List.range i).map envI) 0 = 0 := by unfold sendN; rw [if_pos (by simp; omega)]
      have e3 : decide (((List.range i).map envI).length < 256) = true := decide_eq_true (by simp; omega)
      rw [e1, e2, e3] at cS
      unfold EnvD.v envI at cS
      clear e1 e2 e3
      go_wp2_with fail
      refine cS.mono ?_
      rintro e w2 ⟨q2, rfl, h2, _, hk2⟩
      have hb2 := hB.old hbr (Nat.le_refl _) hk2 (by have := hbr.size; omega)
      clear cS hk2 hB hbr h1 hb1
      go_wp2
      go_roundw
      case rel => exact ⟨i + 1, by omega, by go_num, q2, h2, hb2⟩
      case measure => simp [intOf]; omega
    · obtain rfl : i = 3 := by omega
      have hlt' : ¬ ((3 : Nat) : Int) < 3 := by omega
      clear h1 hb1
      have cT := take_any 1 w.heap.size q _ 0 wr hB
      have a1 : atE ((List.range 3).map envI) 1 = envI 1 := rfl
      have a2 : atB ((List.range 3).map envI) 1 = true := rfl
      have a3 : takeL ((List.range 3).map envI) 1 = [envI 0, envI 2] := rfl
      rw [a1, a2, a3] at cT
      unfold EnvD.v envI at cT
      go_wp2_with fail
      refine cT.mono ?_
      rintro e w2 ⟨q2, rfl, h2, _, hk2⟩
      have hb2 := hB.old hbr (Nat.le_refl _) hk2 (by have := hbr.size; omega)
      clear cT hk2 hB hbr
      replace h2 : BagAt 46 w2 w.heap.size q2 [envI 0, envI 2] 0 := h2
      have hq2 : ∀ g, q2.ownBlock = some g → g < w2.heap.size := fun g hg => (h2.ge hg).2
      have hs2 : w.heap.size < w2.heap.size := h2.box.lt
      have hA := belowNew w2 (.cells #[.int .i64 1, .int .i64 0, .string ⟨#[]⟩] 30)
      have hX := Arr.new w2 30 [.int .i64 1, .int .i64 0, .string ⟨#[]⟩]
      have h3 := h2.below hA
      have hb3 := hb2.trans (hA.mono hb2.size)
      go_wp2_with fail
      generalize World.alloc _ _ = w3 at hA hX h3 hb3 ⊢
      have cA := at_any 1 w.heap.size q2 _ 0 w3 h3
      have a4 : atE [envI 0, envI 2] 1 = envI 2 := rfl
      have a5 : atB [envI 0, envI 2] 1 = true := rfl
      rw [a4, a5] at cA
      unfold EnvD.v envI at cA
      refine cA.mono ?_
      rintro e w4 ⟨rfl, hb4⟩
      have hX4 := hX.below hb4 hX.lt
      have h4 := h3.below hb4
      have hB4 := hb3.trans (hb4.mono hb3.size)
      have hB := belowNew w4 (.cells #[.int .i64 2, .int .i64 0, .string ⟨#[]⟩] 30)
      have hY := Arr.new w4 30 [.int .i64 2, .int .i64 0, .string ⟨#[]⟩]
      have hX5 := hX4.below hB hX4.lt
      have h5 := h4.below hB
      have hB5 := hB4.trans (hB.mono hB4.size)
      have hs4 : w2.heap.size ≤ w4.heap.size := by have := hA.size; have := hb4.size; omega
      clear cA hA hX h3 hb3 hb4 hX4 h4 hB4 h2 hb2
      go_wp2_with fail
      generalize World.alloc _ _ = w5 at hB hY hX5 h5 hB5 ⊢
      have cW := twice_any 0 w.heap.size q2 _ 0 w5 h5 (by omega)
      have a6 : twiceB [envI 0, envI 2] 0 = true := rfl
      have a7 : twiceL [envI 0, envI 2] 0 = [envI 0, envI 2, envI 0] := rfl
      have a8 : twiceN [envI 0, envI 2] 0 0 = 0 := rfl
      rw [a6, a7, a8] at cW
      refine cW.mono ?_
      rintro e w6 ⟨q6, rfl, h6, _, hk6⟩
      have hB6 := h5.old hB5 (Nat.le_refl _) hk6 (by have := hB5.size; omega)
      have hne : ∀ k, w2.heap.size ≤ k → ¬ BagS w.heap.size q2 k := by
        rintro k h1 (e | e)
        · omega
        · have := hq2 k e; omega
      have hX6 := hX5.kept hk6 (hne _ (Nat.le_refl _))
      have hY6 := hY.kept hk6 (hne _ hs4)
      have cB := at_any 2 w.heap.size q6 _ 0 w6 h6
      have a9 : atE [envI 0, envI 2, envI 0] 2 = envI 0 := rfl
      have a10 : atB [envI 0, envI 2, envI 0] 2 = true := rfl
      rw [a9, a10] at cB
      unfold EnvD.v envI at cB
      clear cW hk6 h5 hB5 hY hX5 hne hB
      go_wp2_with fail
      refine cB.mono ?_
      rintro e w7 ⟨rfl, hb7⟩
      have h7 := h6.below hb7
      have hX7 := hX6.below hb7 hX6.lt
      have hY7 := hY6.below hb7 hY6.lt
      have hB7 := hB6.trans (hb7.mono hB6.size)
      have hC := belowNew w7 (.cells #[.int .i64 0, .int .i64 0, .string ⟨#[]⟩] 30)
      have h8 := h7.below hC
      have hB8 := hB7.trans (hC.mono hB7.size)
      have cL := len_any w.heap.size q6 _ 0 _ h8
      have x0 := hX7.cell (i := 0) rfl
      have y0 := hY7.cell (i := 0) rfl
      have l2 := hX7.lt
      have l4 := hY7.lt
      clear cB hb7 h7 hX7 hY7 hB7 hC hX6 hY6 hB6 h6 h8
      go_wp2_with fail
      refine cL.mono ?_
      rintro e w8 ⟨rfl, rfl⟩
      go_wp2
      go_ret
      exact ⟨rfl, hB8⟩
end Go.Proofs.Ytmbfidegcebbdaa
