/- The program's chain: New, Skip, State, comesNext, restsOnLock. -/
import Derived.Test.YthhildeocedpiaaDoorChnLie
import Derived.Deep.RegionHeld3
import Derived.Test.YthhildeocedpiaaDoorRoundLone
namespace Go.Proofs.YthhildeocedpiaaDoor
open Go Go.RowKit
set_option linter.unusedVariables false

set_option maxRecDepth 100000 in
set_option maxHeartbeats 2000000 in
theorem newC_any (L : LinP) (K : Nat) (hL : L.Ok K) (w : World) :
    Calls Tryd.prog 27 #[] w fun e w' => ∃ c m ad, e = .returned (ptrL c) ∧ ChAt w' L c m ad 0 0 0 0 0 0 ∧ (∀ b, ChS c m ad 0 0 b → w.heap.size ≤ b) ∧ Below w.heap.size w w' := by
  have cG := genesis_any w
  go_enter Tryd.func27, Tryd.ntmps27
  go_wp2_with fail
  refine cG.mono ?_
  rintro e w1 ⟨rfl, hb1⟩
  have hX := Arr.new w1 112 [.string gen32, .int .i64 0, .int .i64 0, .string ⟨#[]⟩, .slice none 0 0, .slice none 0 0, .pointer none, .bool true]
  have hbX := belowNew w1 (.cells #[.string gen32, .int .i64 0, .int .i64 0, .string ⟨#[]⟩, .slice none 0 0, .slice none 0 0, .pointer none, .bool true] 112)
  have hXs : Hid ((w1.alloc (.cells #[.string gen32, .int .i64 0, .int .i64 0, .string ⟨#[]⟩, .slice none 0 0, .slice none 0 0, .pointer none, .bool true] 112)).heap.size = w1.heap.size + 1) := by unfold Hid; rw [alloc_size]
  have hg32 : gen32.size ≤ maxLen := by rw [← hL.i0]; exact Nat.le_trans (hL.sz 0) (by unfold maxLen; decide)
  go_wp2_with fail
  refine wp_region_noPanic ?_
  refine wp_region_held (S := fun w' => w'.cell? ⟨w1.heap.size, 0, none⟩ = some (.string gen32)) (by kernel_rfl) ?_
  show wpAnyH _ _ _ _ _ 18 (Array.replicate 18 false) _ (w1.alloc (.cells #[.string gen32, .int .i64 0, .int .i64 0, .string ⟨#[]⟩, .slice none 0 0, .slice none 0 0, .pointer none, .bool true] 112)).drew
  generalize hW2 : (w1.alloc (.cells #[.string gen32, .int .i64 0, .int .i64 0, .string ⟨#[]⟩, .slice none 0 0, .slice none 0 0, .pointer none, .bool true] 112)) = w2 at *
  have hXd : Arr w2.drew w1.heap.size 112 [.string gen32, .int .i64 0, .int .i64 0, .string ⟨#[]⟩, .slice none 0 0, .slice none 0 0, .pointer none, .bool true] := hX.below (below_drewN (Below.refl _ w2) 1) hX.lt
  have hbd : Below w2.heap.size w2 w2.drew := below_drewN (Below.refl _ w2) 1
  have hds : Hid (w2.drew.heap.size = w2.heap.size) := rfl
  generalize w2.drew = w3 at *
  have hM := SMap.new w3
  have hbM := belowNew w3 (.map #[] 0)
  have hMs : Hid ((w3.alloc (.map #[] 0)).heap.size = w3.heap.size + 1) := by unfold Hid; rw [alloc_size]
  have hXm := hXd.below hbM hXd.lt
  obtain ⟨w4, hrun, hM4, hk4⟩ := smap_updates hM (by unfold maxLen; decide) Tryd.underlying113 gen32 hg32 (ptrL w1.heap.size)
  have hX4 := hXm.kept hk4 (fun e => by have := hXs.out; have := hds.out; omega)
  have hS3 : w3.cell? ⟨w1.heap.size, 0, none⟩ = some (.string gen32) := hXd.cell (i := 0) rfl
  have hSm : (w3.alloc (.map #[] 0)).cell? ⟨w1.heap.size, 0, none⟩ = some (.string gen32) := hXm.cell (i := 0) rfl
  have hS4 : w4.cell? ⟨w1.heap.size, 0, none⟩ = some (.string gen32) := hX4.cell (i := 0) rfl
  unfold ptrL at hrun
  refine wpAnyH_takeD (i := 1) (v := ?_) (some 6) rfl rfl (by kernel_rfl) (by kernel_rfl) (by kernel_rfl) (fun _ _ _ h => h) (Or.inl ⟨by rfl, ?_⟩) (by assumption) ?_
  rotate_left 1
  · intro w' hSw
    (try dsimp only at hSw)
    go_simp
    first | done | with_reducible rfl
  simp only [Act.put, List.setIfInBounds_toArray, List.set_cons_zero, List.set_cons_succ]
  refine wpAnyH_takeD (i := 2) (v := ?_) (some 7) rfl rfl (by kernel_rfl) (by kernel_rfl) (by kernel_rfl) (fun _ _ _ h => h) (Or.inl ⟨by rfl, ?_⟩) (by assumption) ?_
  rotate_left 1
  · intro w' hSw
    (try dsimp only at hSw)
    go_simp
    first | done | with_reducible rfl
  simp only [Act.put, List.setIfInBounds_toArray, List.set_cons_zero, List.set_cons_succ]
  refine wpAnyH_takeD (i := 3) (v := ?_) (some 8) rfl rfl (by kernel_rfl) (by kernel_rfl) (by kernel_rfl) (fun _ _ _ h => h) (Or.inl ⟨by rfl, ?_⟩) (by assumption) ?_
  rotate_left 1
  · intro w' hSw
    (try dsimp only at hSw)
    go_simp
    first | done | with_reducible rfl
  simp only [Act.put, List.setIfInBounds_toArray, List.set_cons_zero, List.set_cons_succ]
  refine wpAnyH_takeD (i := 4) (v := ?_) (some 9) rfl rfl (by kernel_rfl) (by kernel_rfl) (by kernel_rfl) (fun _ _ _ h => h) (Or.inl ⟨by rfl, ?_⟩) (by assumption) ?_
  rotate_left 1
  · intro w' hSw
    (try dsimp only at hSw)
    go_simp
    first | done | with_reducible rfl
  simp only [Act.put, List.setIfInBounds_toArray, List.set_cons_zero, List.set_cons_succ]
  refine wpAnyH_takeD (i := 5) (v := ?_) (some 10) rfl rfl (by kernel_rfl) (by kernel_rfl) (by kernel_rfl) (fun _ _ _ h => h) (Or.inl ⟨by rfl, ?_⟩) (by assumption) ?_
  rotate_left 1
  · intro w' hSw
    (try dsimp only at hSw)
    go_simp
    first | done | with_reducible rfl
  simp only [Act.put, List.setIfInBounds_toArray, List.set_cons_zero, List.set_cons_succ]
  refine wpAnyH_takeD (i := 8) (v := ?_) (some 12) rfl rfl (by kernel_rfl) (by kernel_rfl) (by kernel_rfl) (fun _ _ _ h => h) (Or.inl ⟨by rfl, ?_⟩) (by assumption) ?_
  rotate_left 1
  · intro w' hSw
    (try dsimp only at hSw)
    go_simp
    first | done | with_reducible rfl
  simp only [Act.put, List.setIfInBounds_toArray, List.set_cons_zero, List.set_cons_succ]
  refine wpAnyH_takeD (i := 9) (v := ?_) (some 13) rfl rfl (by kernel_rfl) (by kernel_rfl) (by kernel_rfl) (fun _ _ _ h => h) (Or.inl ⟨by rfl, ?_⟩) (by assumption) ?_
  rotate_left 1
  · intro w' hSw
    (try dsimp only at hSw)
    go_simp
    first | done | with_reducible rfl
  simp only [Act.put, List.setIfInBounds_toArray, List.set_cons_zero, List.set_cons_succ]
  refine wpAnyH_takeD (i := 10) (v := ?_) (some 14) rfl rfl (by kernel_rfl) (by kernel_rfl) (by kernel_rfl) (fun _ _ _ h => h) (Or.inl ⟨by rfl, ?_⟩) (by assumption) ?_
  rotate_left 1
  · intro w' hSw
    (try dsimp only at hSw)
    go_simp
    first | done | with_reducible rfl
  simp only [Act.put, List.setIfInBounds_toArray, List.set_cons_zero, List.set_cons_succ]
  refine wpAnyH_takeD (i := 11) (v := ?_) (some 15) rfl rfl (by kernel_rfl) (by kernel_rfl) (by kernel_rfl) (fun _ _ _ h => h) (Or.inl ⟨by rfl, ?_⟩) (by assumption) ?_
  rotate_left 1
  · intro w' hSw
    (try dsimp only at hSw)
    go_simp
    first | done | with_reducible rfl
  simp only [Act.put, List.setIfInBounds_toArray, List.set_cons_zero, List.set_cons_succ]
  refine wpAnyH_takeD (i := 12) (v := ?_) (some 16) rfl rfl (by kernel_rfl) (by kernel_rfl) (by kernel_rfl) (fun _ _ _ h => h) (Or.inl ⟨by rfl, ?_⟩) (by assumption) ?_
  rotate_left 1
  · intro w' hSw
    (try dsimp only at hSw)
    go_simp
    first | done | with_reducible rfl
  simp only [Act.put, List.setIfInBounds_toArray, List.set_cons_zero, List.set_cons_succ]
  refine wpAnyH_takeD (i := 13) (v := ?_) (some 17) rfl rfl (by kernel_rfl) (by kernel_rfl) (by kernel_rfl) (fun _ _ _ h => h) (Or.inl ⟨by rfl, ?_⟩) (by assumption) ?_
  rotate_left 1
  · intro w' hSw
    (try dsimp only at hSw)
    go_simp
    first | done | with_reducible rfl
  simp only [Act.put, List.setIfInBounds_toArray, List.set_cons_zero, List.set_cons_succ]
  refine wpAnyH_takeD (i := 14) (v := ?_) (some 18) rfl rfl (by kernel_rfl) (by kernel_rfl) (by kernel_rfl) (fun _ _ _ h => h) (Or.inl ⟨by rfl, ?_⟩) (by assumption) ?_
  rotate_left 1
  · intro w' hSw
    (try dsimp only at hSw)
    go_simp
    first | done | with_reducible rfl
  simp only [Act.put, List.setIfInBounds_toArray, List.set_cons_zero, List.set_cons_succ]
  refine wpAnyH_oneD (i := 0) (some 5) (by kernel_rfl) rfl rfl rfl (fun K' hK' => ?_)
  replace hK' : Hid _ := hK'
  go_simp
  refine hK'.out (.map (some w3.heap.size)) (w3.alloc (.map #[] 0)) hSm ?_
  clear hK' K'
  simp only [Act.put, List.setIfInBounds_toArray, List.set_cons_zero, List.set_cons_succ]
  refine wpAnyH_oneD (i := 6) none (by kernel_rfl) rfl rfl rfl (fun K' hK' => ?_)
  replace hK' : Hid _ := hK'
  go_simp
  refine hK'.out undef w4 hS4 ?_
  clear hK' K'
  refine wpAnyH_takeD (i := 7) (v := ?_) (some 11) rfl rfl (by kernel_rfl) (by kernel_rfl) (by kernel_rfl) (fun _ _ _ h => h) (Or.inl ⟨by rfl, ?_⟩) (by assumption) ?_
  rotate_left 1
  · intro w' hSw
    (try dsimp only at hSw)
    go_simp
    first | done | with_reducible rfl
  simp only [Act.put, List.setIfInBounds_toArray, List.set_cons_zero, List.set_cons_succ]
  refine wpAnyH_takeD (i := 15) (v := ?_) (some 19) rfl rfl (by kernel_rfl) (by kernel_rfl) (by kernel_rfl) (fun _ _ _ h => h) (Or.inl ⟨by rfl, ?_⟩) (by assumption) ?_
  rotate_left 1
  · intro w' hSw
    (try dsimp only at hSw)
    go_simp
    first | done | with_reducible rfl
  simp only [Act.put, List.setIfInBounds_toArray, List.set_cons_zero, List.set_cons_succ]
  have h4s : w3.heap.size + 1 ≤ w4.heap.size := by have := hk4.size; have := hMs.out; omega
  have h3s : w3.heap.size = w1.heap.size + 1 := by have := hXs.out; have := hds.out; omega
  replace h3s : Hid _ := h3s
  have hC := Arr.new w4 115 [.map (some w3.heap.size), .int .i64 0, .string gen32, .slice none 0 0, ptrL w1.heap.size, ptrL w1.heap.size, .int .i64 0]
  have hbC := belowNew w4 (.cells #[.map (some w3.heap.size), .int .i64 0, .string gen32, .slice none 0 0, ptrL w1.heap.size, ptrL w1.heap.size, .int .i64 0] 115)
  have hS5 : (w4.alloc (.cells #[.map (some w3.heap.size), .int .i64 0, .string gen32, .slice none 0 0, ptrL w1.heap.size, ptrL w1.heap.size, .int .i64 0] 115)).cell? ⟨w1.heap.size, 0, none⟩ = some (.string gen32) := (hX4.below hbC hX4.lt).cell (i := 0) rfl
  refine wpAnyH_oneD (i := 16) (some 20) (by kernel_rfl) rfl rfl rfl (fun K' hK' => ?_)
  replace hK' : Hid _ := hK'
  go_simp
  refine hK'.out (ptrL w4.heap.size) (w4.alloc (.cells #[.map (some w3.heap.size), .int .i64 0, .string gen32, .slice none 0 0, ptrL w1.heap.size, ptrL w1.heap.size, .int .i64 0] 115)) hS5 ?_
  clear hK' K'
  unfold ptrL
  simp only [Act.put, List.setIfInBounds_toArray, List.set_cons_zero, List.set_cons_succ]
  unfold ptrL at hS5
  refine wpAnyH_takeD (i := 17) (v := ?_) (some 0) rfl rfl (by kernel_rfl) (by kernel_rfl) (by kernel_rfl) (fun _ _ _ h => h) (Or.inl ⟨by rfl, ?_⟩) (by assumption) ?_
  rotate_left 1
  · intro w' hSw
    (try dsimp only at hSw)
    go_simp
    first | done | with_reducible rfl
  simp only [Act.put, List.setIfInBounds_toArray, List.set_cons_zero]
  refine wpAnyH_done (by kernel_rfl) ?_ _
  refine NoPanic.normal ?_
  generalize hW5 : (w4.alloc (.cells #[.map (some w3.heap.size), .int .i64 0, .string gen32, .slice none 0 0, .pointer (some ⟨w1.heap.size, 0, none⟩), .pointer (some ⟨w1.heap.size, 0, none⟩), .int .i64 0] 115)) = w5
  have hC' : Arr w5 w4.heap.size 115 [.map (some w3.heap.size), .int .i64 0, .string gen32, .slice none 0 0, ptrL w1.heap.size, ptrL w1.heap.size, .int .i64 0] := by rw [← hW5]; exact hC
  have hbC' : Below w4.heap.size w4 w5 := by rw [← hW5]; exact hbC
  clear hW5 hC hbC hS3 hSm hS4 hS5 hrun
  have s1 := hXs.out
  have s3 := h3s.out
  have s0 := hb1.size
  have hd2 := hds.out
  have hMf : SMap w5 w3.heap.size (lnF L (fun _ => w1.heap.size) 0 0) 1 := by
    have h1 := hM4.below hbC'
    refine SMap.congr h1 (fun id => ?_)
    have h2 : lnF L (fun _ => w1.heap.size) 0 0 id = putF (fun _ => none) gen32 (ptrL w1.heap.size) id := by
      refine lnF_eq (K' := K) (k' := 0) (lo' := 0) (ad' := fun _ => w1.heap.size) hL (Nat.zero_le _) (fun v h => ?_) (fun j a b e => ?_)
      · unfold putF at h
        split at h
        · rename_i e
          exact ⟨0, Nat.le_refl _, Nat.le_refl _, by rw [hL.i0, e], by simpa using h.symm⟩
        · cases h
      · have : j = 0 := by omega
        subst this
        unfold putF
        rw [if_pos (by rw [← e, hL.i0])]
    exact h2
  have hbA : Below w.heap.size w w5 := by
    have b2 := hb1.trans (hbX.mono hb1.size)
    have b3 := b2.trans (hbd.mono b2.size)
    have b4 := b3.trans (hbM.mono b3.size)
    have b5 := b4.trans (hk4.below (B := w.heap.size) (by have := hMs.out; omega) (fun k e => by omega))
    exact b5.trans (hbC'.mono b5.size)
  have hLk : Arr w5 w1.heap.size 112 (lnC L (fun _ => w1.heap.size) 0 0) := by
    have h1 := hX4.below hbC' hX4.lt
    have e : lnC L (fun _ => w1.heap.size) 0 0 = [.string gen32, .int .i64 0, .int .i64 0, .string ⟨#[]⟩, .slice none 0 0, .slice none 0 0, .pointer none, .bool true] := by
      unfold lnC
      rw [hL.i0, hL.v0]
      rfl
    rw [e]
    exact h1
  have hbox : Arr w5 w4.heap.size 115 [.map (some w3.heap.size), .int .i64 (L.vw 0 : Int), .string (L.ids 0), .slice none 0 0, ptrL w1.heap.size, ptrL w1.heap.size, .int .i64 ((0 : Nat) : Int)] := by
    rw [hL.i0, hL.v0]
    exact hC'
  go_wp2
  go_ret
  refine ⟨w4.heap.size, w3.heap.size, fun _ => w1.heap.size, rfl, ⟨hbox, hMf, fun j a b => ?_, by omega, fun j _ _ => ⟨by omega, by omega⟩, fun i j a b c d e => by omega, Nat.le_refl _, Nat.le_refl _, Nat.le_refl _, Nat.le_refl _⟩, fun b hb => ?_, hbA⟩
  · have : j = 0 := by omega
    subst this
    exact hLk
  · rcases hb with e | e | ⟨j, _, _, e⟩
    · omega
    · omega
    · have e2 : b = w1.heap.size := e
      omega
end Go.Proofs.YthhildeocedpiaaDoor
