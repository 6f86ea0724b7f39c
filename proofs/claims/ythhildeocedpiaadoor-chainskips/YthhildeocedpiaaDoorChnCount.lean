/- How many blocks are in, but for the first one. -/
import Derived.Test.YthhildeocedpiaaDoorChnCopy
namespace Go.Proofs.YthhildeocedpiaaDoor
open Go Go.RowKit
set_option linter.unusedVariables false

section
variable {w w' : World} {L : LinP} {c m k lo lk la hi vt : Nat} {ad : Nat → Nat}

set_option maxRecDepth 100000 in
set_option maxHeartbeats 1000000 in
theorem countA_any {K : Nat} (hL : L.Ok K) (hK : k ≤ K) (hk : k ≤ 100000) (hlo : lo = 0) (h : ChAt w L c m ad k lo lk la hi vt) :
    Calls Tryd.prog 61 #[ptrL c] w fun e w' => e = .returned (.int .i64 (k : Int)) ∧ Below w.heap.size w w' := by
  have hlk0 : lo ≤ k := Nat.le_trans h.ola (Nat.le_trans h.olk h.okk)
  subst hlo
  have hf : lnF L ad 0 k gen32 = some (ptrL (ad 0)) := by have := lnF_at (ad := ad) (lo := 0) (j := 0) hL hK (Nat.le_refl _) (Nat.zero_le _); rw [hL.i0] at this; exact this
  have hv1 : (lnF L ad 0 k gen32).getD (.pointer none) = .pointer (some ⟨ad 0, 0, none⟩) := by rw [hf]; rfl
  have hv2 : (lnF L ad 0 k gen32).isSome = true := by rw [hf]; rfl
  have hg32 : gen32.size ≤ maxLen := by rw [← hL.i0]; exact sizeOk hL 0
  have hb1 : Below w.heap.size w w.drew := below_drewN (Below.refl _ w) 1
  have cG := genesis_any w.drew
  have hlk : ∀ w', Below w.heap.size w w' → (Instr.lookup 113 (.map (some m)) (.string gen32) true).run Tryd.prog w' = .ok (.tuple #[.pointer (some ⟨ad 0, 0, none⟩), .bool true]) w' := fun w' hb => smap_runOk (h.below hb).mp Tryd.underlying113 zeroLinkP hg32 hv1 hv2
  have hkp : ∀ w', Below w.heap.size w w' → (w'.cell? ⟨c, 0, none⟩ = some (.map (some m))) := fun w' hb => (h.box.below hb h.box.lt).cell (i := 0) rfl
  have hS1 := hkp _ hb1
  have hwn : IntKind.i64.wrap (((k + 1 - 0 : Nat) : Int) - 1) = (k : Int) := by simp [IntKind.wrap, IntKind.bits, IntKind.signed]; omega
  have hmp : ∀ w', Below w.heap.size w w' → SMap w' m (lnF L ad 0 k) (k + 1 - 0) := fun w' hb => (h.below hb).mp
  clear hf hv1 hv2
  generalize lnF L ad 0 k = f0 at *
  generalize hn : k + 1 - 0 = n at *
  unfold ptrL
  go_enter Tryd.func61, Tryd.ntmps61
  go_wp2_with fail
  refine wp_region_noPanic ?_
  refine wp_region_held (S := fun w' => w'.cell? ⟨c, 0, none⟩ = some (.map (some m))) (by kernel_rfl) ?_
  show wpAnyH _ _ _ _ _ 11 (Array.replicate 11 false) _ w.drew
  refine wpAnyH_takeD (i := 0) (v := ?_) (some 6) rfl rfl (by kernel_rfl) (by kernel_rfl) (by kernel_rfl) (fun _ _ _ h => h) (Or.inl ⟨by rfl, ?_⟩) (by assumption) ?_
  rotate_left 1
  · intro w' hSw
    (try dsimp only at hSw)
    go_simp
    first | done | with_reducible rfl
  simp only [Act.put, List.setIfInBounds_toArray, List.set_cons_zero, List.set_cons_succ]
  refine wpAnyH_takeD (i := 1) (v := ?_) (some 7) rfl rfl (by kernel_rfl) (by kernel_rfl) (by kernel_rfl) (fun _ _ _ h => h) (Or.inl ⟨by rfl, ?_⟩) (by assumption) ?_
  rotate_left 1
  · intro w' hSw
    (try dsimp only at hSw)
    go_simp
    first | done | with_reducible rfl
  simp only [Act.put, List.setIfInBounds_toArray, List.set_cons_zero, List.set_cons_succ]
  refine wpAnyH_takeD (i := 2) (v := ?_) (some 8) rfl rfl (by kernel_rfl) (by kernel_rfl) (by kernel_rfl) (fun _ _ _ h => h) (Or.inl ⟨by rfl, ?_⟩) (by assumption) ?_
  rotate_left 1
  · intro w' hSw
    (try dsimp only at hSw)
    go_simp
    first | done | with_reducible rfl
  simp only [Act.put, List.setIfInBounds_toArray, List.set_cons_zero, List.set_cons_succ]
  refine wpAnyH_takeD (i := 3) (v := ?_) (some 9) rfl rfl (by kernel_rfl) (by kernel_rfl) (by kernel_rfl) (fun _ _ _ h => h) (Or.inl ⟨by rfl, ?_⟩) (by assumption) ?_
  rotate_left 1
  · intro w' hSw
    (try dsimp only at hSw)
    go_simp
    first | done | with_reducible rfl
  simp only [Act.put, List.setIfInBounds_toArray, List.set_cons_zero, List.set_cons_succ]
  refine wpAnyH_oneD (i := 4) (some 10) (by kernel_rfl) rfl rfl rfl (fun K' hK' => ?_)
  replace hK' : Hid _ := hK'
  go_simp
  refine cG.mono ?_
  rintro e w5 ⟨rfl, hb5⟩
  show K' _ w5
  have hB5 : Below w.heap.size w w5 := hb1.trans (hb5.mono hb1.size)
  have hS5 := hkp _ hB5
  refine hK'.out _ _ hS5 ?_
  clear hK' K'
  simp only [Act.put, List.setIfInBounds_toArray, List.set_cons_zero, List.set_cons_succ]
  have hl5 := hlk _ hB5
  refine wpAnyH_oneD (i := 5) (some 11) (by kernel_rfl) rfl rfl rfl (fun K' hK' => ?_)
  replace hK' : Hid _ := hK'
  go_simp
  refine hK'.out _ _ hS5 ?_
  clear hK' K'
  simp only [Act.put, List.setIfInBounds_toArray, List.set_cons_zero, List.set_cons_succ]
  refine wpAnyH_takeD (i := 6) (v := ?_) (some 5) rfl rfl (by kernel_rfl) (by kernel_rfl) (by kernel_rfl) (fun _ _ _ h => h) (Or.inl ⟨by rfl, ?_⟩) (by assumption) ?_
  rotate_left 1
  · intro w' hSw
    (try dsimp only at hSw)
    go_simp
    first | done | with_reducible rfl
  simp only [Act.put, List.setIfInBounds_toArray, List.set_cons_zero, List.set_cons_succ]
  refine wpAnyH_takeD (i := 7) (v := ?_) (some 12) rfl rfl (by kernel_rfl) (by kernel_rfl) (by kernel_rfl) (fun _ _ _ h => h) (Or.inl ⟨by rfl, ?_⟩) (by assumption) ?_
  rotate_left 1
  · intro w' hSw
    (try dsimp only at hSw)
    go_simp
    first | done | with_reducible rfl
  simp only [Act.put, List.setIfInBounds_toArray, List.set_cons_zero, List.set_cons_succ]
  refine wpAnyH_takeD (i := 8) (v := ?_) (some 13) rfl rfl (by kernel_rfl) (by kernel_rfl) (by kernel_rfl) (fun _ _ _ h => h) (Or.inl ⟨by rfl, ?_⟩) (by assumption) ?_
  rotate_left 1
  · intro w' hSw
    (try dsimp only at hSw)
    go_simp
    first | done | with_reducible rfl
  simp only [Act.put, List.setIfInBounds_toArray, List.set_cons_zero, List.set_cons_succ]
  refine wpAnyH_takeD (i := 9) (v := ?_) (some 3) rfl rfl (by kernel_rfl) (by kernel_rfl) (by kernel_rfl) (fun _ _ _ h => h) (Or.inl ⟨by rfl, ?_⟩) (by assumption) ?_
  rotate_left 1
  · intro w' hSw
    (try dsimp only at hSw)
    go_simp
    first | done | with_reducible rfl
  simp only [Act.put, List.setIfInBounds_toArray, List.set_cons_zero, List.set_cons_succ]
  refine wpAnyH_takeD (i := 10) (v := ?_) (some 4) rfl rfl (by kernel_rfl) (by kernel_rfl) (by kernel_rfl) (fun _ _ _ h => h) (Or.inl ⟨by rfl, ?_⟩) (by assumption) ?_
  rotate_left 1
  · intro w' hSw
    (try dsimp only at hSw)
    go_simp
    first | done | with_reducible rfl
  simp only [Act.put, List.setIfInBounds_toArray, List.set_cons_zero, List.set_cons_succ]
  refine wpAnyH_done (by kernel_rfl) ?_ _
  refine NoPanic.normal ?_
  have hM5 := hmp _ hB5
  go_wp2_with (at_len; refine smap_len (by rfl) _ 113 rfl 110 Tryd.underlying113 m _ _ rfl hM5 ?_)
  go_wp2
  go_ret
  exact ⟨rfl, hB5⟩

set_option maxRecDepth 100000 in
set_option maxHeartbeats 1000000 in
theorem countB_any {K : Nat} (hL : L.Ok K) (hK : k ≤ K) (hk : k ≤ 100000) (hlo : 0 < lo) (h : ChAt w L c m ad k lo lk la hi vt) :
    Calls Tryd.prog 61 #[ptrL c] w fun e w' => e = .returned (.int .i64 ((k + 1 - lo : Nat) : Int)) ∧ Below w.heap.size w w' := by
  have hlk0 : lo ≤ k := Nat.le_trans h.ola (Nat.le_trans h.olk h.okk)
  have hf : lnF L ad lo k gen32 = none := lnF_none (fun j a b e => by
    have := hL.inj j 0 (by omega) (Nat.zero_le _) (by rw [e, hL.i0])
    omega)
  have hv1 : (lnF L ad lo k gen32).getD (.pointer none) = .pointer none := by rw [hf]; rfl
  have hv2 : (lnF L ad lo k gen32).isSome = false := by rw [hf]; rfl
  have hg32 : gen32.size ≤ maxLen := by rw [← hL.i0]; exact sizeOk hL 0
  have hb1 : Below w.heap.size w w.drew := below_drewN (Below.refl _ w) 1
  have cG := genesis_any w.drew
  have hlk : ∀ w', Below w.heap.size w w' → (Instr.lookup 113 (.map (some m)) (.string gen32) true).run Tryd.prog w' = .ok (.tuple #[.pointer none, .bool false]) w' := fun w' hb => smap_runOk (h.below hb).mp Tryd.underlying113 zeroLinkP hg32 hv1 hv2
  have hkp : ∀ w', Below w.heap.size w w' → (w'.cell? ⟨c, 0, none⟩ = some (.map (some m))) := fun w' hb => (h.box.below hb h.box.lt).cell (i := 0) rfl
  have hS1 := hkp _ hb1
  have hmp : ∀ w', Below w.heap.size w w' → SMap w' m (lnF L ad lo k) (k + 1 - lo) := fun w' hb => (h.below hb).mp
  clear hf hv1 hv2
  generalize lnF L ad lo k = f0 at *
  generalize hn : k + 1 - lo = n at *
  unfold ptrL
  go_enter Tryd.func61, Tryd.ntmps61
  go_wp2_with fail
  refine wp_region_noPanic ?_
  refine wp_region_held (S := fun w' => w'.cell? ⟨c, 0, none⟩ = some (.map (some m))) (by kernel_rfl) ?_
  show wpAnyH _ _ _ _ _ 11 (Array.replicate 11 false) _ w.drew
  refine wpAnyH_takeD (i := 0) (v := ?_) (some 6) rfl rfl (by kernel_rfl) (by kernel_rfl) (by kernel_rfl) (fun _ _ _ h => h) (Or.inl ⟨by rfl, ?_⟩) (by assumption) ?_
  rotate_left 1
  · intro w' hSw
    (try dsimp only at hSw)
    go_simp
    first | done | with_reducible rfl
  simp only [Act.put, List.setIfInBounds_toArray, List.set_cons_zero, List.set_cons_succ]
  refine wpAnyH_takeD (i := 1) (v := ?_) (some 7) rfl rfl (by kernel_rfl) (by kernel_rfl) (by kernel_rfl) (fun _ _ _ h => h) (Or.inl ⟨by rfl, ?_⟩) (by assumption) ?_
  rotate_left 1
  · intro w' hSw
    (try dsimp only at hSw)
    go_simp
    first | done | with_reducible rfl
  simp only [Act.put, List.setIfInBounds_toArray, List.set_cons_zero, List.set_cons_succ]
  refine wpAnyH_takeD (i := 2) (v := ?_) (some 8) rfl rfl (by kernel_rfl) (by kernel_rfl) (by kernel_rfl) (fun _ _ _ h => h) (Or.inl ⟨by rfl, ?_⟩) (by assumption) ?_
  rotate_left 1
  · intro w' hSw
    (try dsimp only at hSw)
    go_simp
    first | done | with_reducible rfl
  simp only [Act.put, List.setIfInBounds_toArray, List.set_cons_zero, List.set_cons_succ]
  refine wpAnyH_takeD (i := 3) (v := ?_) (some 9) rfl rfl (by kernel_rfl) (by kernel_rfl) (by kernel_rfl) (fun _ _ _ h => h) (Or.inl ⟨by rfl, ?_⟩) (by assumption) ?_
  rotate_left 1
  · intro w' hSw
    (try dsimp only at hSw)
    go_simp
    first | done | with_reducible rfl
  simp only [Act.put, List.setIfInBounds_toArray, List.set_cons_zero, List.set_cons_succ]
  refine wpAnyH_oneD (i := 4) (some 10) (by kernel_rfl) rfl rfl rfl (fun K' hK' => ?_)
  replace hK' : Hid _ := hK'
  go_simp
  refine cG.mono ?_
  rintro e w5 ⟨rfl, hb5⟩
  show K' _ w5
  have hB5 : Below w.heap.size w w5 := hb1.trans (hb5.mono hb1.size)
  have hS5 := hkp _ hB5
  refine hK'.out _ _ hS5 ?_
  clear hK' K'
  simp only [Act.put, List.setIfInBounds_toArray, List.set_cons_zero, List.set_cons_succ]
  have hl5 := hlk _ hB5
  refine wpAnyH_oneD (i := 5) (some 11) (by kernel_rfl) rfl rfl rfl (fun K' hK' => ?_)
  replace hK' : Hid _ := hK'
  go_simp
  refine hK'.out _ _ hS5 ?_
  clear hK' K'
  simp only [Act.put, List.setIfInBounds_toArray, List.set_cons_zero, List.set_cons_succ]
  refine wpAnyH_takeD (i := 6) (v := ?_) (some 5) rfl rfl (by kernel_rfl) (by kernel_rfl) (by kernel_rfl) (fun _ _ _ h => h) (Or.inl ⟨by rfl, ?_⟩) (by assumption) ?_
  rotate_left 1
  · intro w' hSw
    (try dsimp only at hSw)
    go_simp
    first | done | with_reducible rfl
  simp only [Act.put, List.setIfInBounds_toArray, List.set_cons_zero, List.set_cons_succ]
  refine wpAnyH_takeD (i := 7) (v := ?_) (some 12) rfl rfl (by kernel_rfl) (by kernel_rfl) (by kernel_rfl) (fun _ _ _ h => h) (Or.inl ⟨by rfl, ?_⟩) (by assumption) ?_
  rotate_left 1
  · intro w' hSw
    (try dsimp only at hSw)
    go_simp
    first | done | with_reducible rfl
  simp only [Act.put, List.setIfInBounds_toArray, List.set_cons_zero, List.set_cons_succ]
  refine wpAnyH_takeD (i := 8) (v := ?_) (some 13) rfl rfl (by kernel_rfl) (by kernel_rfl) (by kernel_rfl) (fun _ _ _ h => h) (Or.inl ⟨by rfl, ?_⟩) (by assumption) ?_
  rotate_left 1
  · intro w' hSw
    (try dsimp only at hSw)
    go_simp
    first | done | with_reducible rfl
  simp only [Act.put, List.setIfInBounds_toArray, List.set_cons_zero, List.set_cons_succ]
  refine wpAnyH_takeD (i := 9) (v := ?_) (some 3) rfl rfl (by kernel_rfl) (by kernel_rfl) (by kernel_rfl) (fun _ _ _ h => h) (Or.inl ⟨by rfl, ?_⟩) (by assumption) ?_
  rotate_left 1
  · intro w' hSw
    (try dsimp only at hSw)
    go_simp
    first | done | with_reducible rfl
  simp only [Act.put, List.setIfInBounds_toArray, List.set_cons_zero, List.set_cons_succ]
  refine wpAnyH_takeD (i := 10) (v := ?_) (some 4) rfl rfl (by kernel_rfl) (by kernel_rfl) (by kernel_rfl) (fun _ _ _ h => h) (Or.inl ⟨by rfl, ?_⟩) (by assumption) ?_
  rotate_left 1
  · intro w' hSw
    (try dsimp only at hSw)
    go_simp
    first | done | with_reducible rfl
  simp only [Act.put, List.setIfInBounds_toArray, List.set_cons_zero, List.set_cons_succ]
  refine wpAnyH_done (by kernel_rfl) ?_ _
  refine NoPanic.normal ?_
  have hM5 := hmp _ hB5
  go_wp2_with (at_len; refine smap_len (by rfl) _ 113 rfl 110 Tryd.underlying113 m _ _ rfl hM5 ?_)
  go_wp2
  go_ret
  exact ⟨rfl, hB5⟩
end
end Go.Proofs.YthhildeocedpiaaDoor
