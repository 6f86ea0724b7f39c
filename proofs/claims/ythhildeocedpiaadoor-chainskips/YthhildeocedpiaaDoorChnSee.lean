/- A Qc is seen. -/
import Derived.Test.YthhildeocedpiaaDoorChnCommit
import Derived.Deep.RegionHeld3
namespace Go.Proofs.YthhildeocedpiaaDoor
open Go Go.RowKit
set_option linter.unusedVariables false

section
variable {w w' : World} {L : LinP} {c m k lo lk la hi vt : Nat} {ad : Nat → Nat}

set_option maxRecDepth 100000 in
set_option maxHeartbeats 4000000 in
theorem see1_any {K : Nat} (hL : L.Ok K) (hK : k ≤ K) (hvw : ∀ j, j ≤ K → L.vw j = j) (h : ChAt w L c m ad k lo lk la hi vt) (hlk : lk = 0) (hhi : hi = 0) (hk1 : 1 ≤ k) :
    Calls Tryd.prog 31 #[ptrL c, (qcN (L.vw 1 : Int) (L.ids 1)).v] w fun e w' => e = .returned (.slice none 0 0) ∧ ChAt w' L c m ad k lo lk la 1 vt ∧ Kept (ChS c m ad lo k) w w' := by
  have hla0 : la = 0 := by have := h.olk; omega
  have hlo0 : lo = 0 := by have := h.ola; omega
  obtain ⟨i, hi1⟩ : ∃ i, i = 1 := ⟨1, rfl⟩
  rw [← hi1]
  have hik : i ≤ k := by omega
  have hlo : lo ≤ i - 1 := by omega
  have hhi' : hi < i := by omega
  have hlk0 : lo ≤ lk := Nat.le_trans h.ola h.olk
  have hlkk := h.okk
  have hM := h.mp
  have hid := sizeOk hL i
  have hf := lnF_at (ad := ad) (lo := lo) (j := i) hL hK (by omega) hik
  have hv1 : (lnF L ad lo k (L.ids i)).getD (.pointer none) = .pointer (some ⟨ad i, 0, none⟩) := by rw [hf]; rfl
  have hv2 : (lnF L ad lo k (L.ids i)).isSome = true := by rw [hf]; rfl
  have hX := Arr.new w 37 [.int .i64 (L.vw i : Int), .string (L.ids i), .slice none 0 0]
  have hB := belowNew w (.cells #[.int .i64 (L.vw i : Int), .string (L.ids i), .slice none 0 0] 37)
  have hcm1 : ∀ j, lo ≤ j → j ≤ k → ad j < w.heap.size := fun j a b => (h.ln j a b).lt
  have hcc : c < w.heap.size := h.box.lt
  -- whatever is read ahead of the first store
  have hrd : Hid (∀ w', Below (w.heap.size + 1) (w.alloc (.cells #[.int .i64 (L.vw i : Int), .string (L.ids i), .slice none 0 0] 37)) w' → (w'.cell? ⟨c, 0, none⟩ = some (.map (some m)) ∧ w'.cell? ⟨w.heap.size, 1, none⟩ = some (.string (L.ids i)) ∧ (Instr.lookup 113 (.map (some m)) (.string (L.ids i)) true).run Tryd.prog w' = .ok (.tuple #[.pointer (some ⟨ad i, 0, none⟩), .bool true]) w') ∧ (w'.cell? ⟨ad i, 1, none⟩ = some (.int .i64 (L.vw i : Int)) ∧ w'.cell? ⟨w.heap.size, 0, none⟩ = some (.int .i64 (L.vw i : Int)) ∧ w'.cell? ⟨c, 1, none⟩ = some (.int .i64 (L.vw hi : Int))) ∧ w'.cell? ⟨w.heap.size, 2, none⟩ = some (.slice none 0 0) ∧ ChAt w' L c m ad k lo lk la hi vt ∧ Below w.heap.size w w') := fun w' hb => by
    have hb1 := hB.trans (hb.mono (Nat.le_succ _))
    have h' := h.below hb1
    have hx' := hX.below hb (by omega)
    have hl' := h'.ln i (by omega) hik
    exact ⟨⟨h'.box.cell (i := 0) rfl, hx'.cell (i := 1) rfl, smap_runOk h'.mp Tryd.underlying113 zeroLinkP hid hv1 hv2⟩, ⟨hl'.cell (i := 1) rfl, hx'.cell (i := 0) rfl, h'.box.cell (i := 1) rfl⟩, hx'.cell (i := 2) rfl, h', hb1⟩
  have hsz1 : (w.alloc (.cells #[.int .i64 (L.vw i : Int), .string (L.ids i), .slice none 0 0] 37)).heap.size = w.heap.size + 1 := by rw [alloc_size]
  obtain ⟨w1, hw1⟩ : ∃ q, w.alloc (.cells #[.int .i64 (L.vw i : Int), .string (L.ids i), .slice none 0 0] 37) = q := ⟨_, rfl⟩
  rw [hw1] at hrd hsz1
  have b0 := Below.refl (w.heap.size + 1) w1
  have b1 : Below (w.heap.size + 1) w1 w1.drew := below_drewN b0 1
  have b2 : Below (w.heap.size + 1) w1 w1.drew.drew := below_drewN b1 1
  have b3 : Below (w.heap.size + 1) w1 w1.drew.drew.drew := below_drewN b2 1
  obtain ⟨⟨r10, r11, r12⟩, -, -, -, -⟩ := hrd.out _ b1
  obtain ⟨-, ⟨r20, r21, r22⟩, -, -, -⟩ := hrd.out _ b2
  obtain ⟨⟨-, r35, -⟩, ⟨r30, r31, r32⟩, r33, -, -⟩ := hrd.out _ b3
  obtain ⟨-, -, -, h3, hb3⟩ := hrd.out _ b3
  have r34 := h3.box.cell (i := 2) rfl
  have hvi : L.vw i = i := hvw i (by omega)
  have hvh : L.vw hi = hi := hvw hi (by omega)
  have hgt : (L.vw hi : Int) < (L.vw i : Int) := by rw [hvi, hvh]; omega
  have cQ := copyQc_nil (L.vw i : Int) (L.ids i) w1.drew.drew.drew
  -- behind the store of the Qc
  have hset : Hid (∀ w5, Below w1.drew.drew.drew.heap.size w1.drew.drew.drew w5 → w5.cell? ⟨c, 1, none⟩ = some (.int .i64 (L.vw hi : Int)) ∧ w5.cell? ⟨c, 2, none⟩ = some (.string (L.ids hi)) ∧ w5.cell? ⟨c, 3, none⟩ = some (.slice none 0 0) ∧ w5.frozen? ⟨c, 1, none⟩ = false ∧ w5.frozen? ⟨c, 2, none⟩ = false ∧ w5.frozen? ⟨c, 3, none⟩ = false ∧ ChAt (((w5.setCell ⟨c, 1, none⟩ (.int .i64 (L.vw i : Int))).setCell ⟨c, 2, none⟩ (.string (L.ids i))).setCell ⟨c, 3, none⟩ (.slice none 0 0)) L c m ad k lo lk la i vt ∧ Kept (ChS c m ad lo k) w (((w5.setCell ⟨c, 1, none⟩ (.int .i64 (L.vw i : Int))).setCell ⟨c, 2, none⟩ (.string (L.ids i))).setCell ⟨c, 3, none⟩ (.slice none 0 0))) := fun w5 hb5 => by
    have h5 := h3.below hb5
    have k3 := (((Kept.refl (fun b => b = c) w5).set (p := ⟨c, 1, none⟩) rfl (.int .i64 (L.vw i : Int))).set (p := ⟨c, 2, none⟩) rfl (.string (L.ids i))).set (p := ⟨c, 3, none⟩) rfl (.slice none 0 0)
    refine ⟨h5.box.cell (i := 1) rfl, h5.box.cell (i := 2) rfl, h5.box.cell (i := 3) rfl, h5.box.frozen 1, h5.box.frozen 2, h5.box.frozen 3, h5.rebox k3 (((h5.box.set 1 _).set 2 _).set 3 _) h5.olk h5.okk hik, ?_⟩
    exact (Kept.of_below (hb3.trans (hb5.mono hb3.size))).trans (k3.mono (fun b _ e => Or.inl e))
  have hbeh : Hid (∀ w', ChAt w' L c m ad k lo lk la i vt → (w'.cell? ⟨ad i, 6, none⟩ = some (.pointer (some ⟨ad (i - 1), 0, none⟩))) ∧ (w'.cell? ⟨ad (i - 1), 1, none⟩ = some (.int .i64 (L.vw (i - 1) : Int)) ∧ w'.cell? ⟨c, 4, none⟩ = some (.pointer (some ⟨ad lk, 0, none⟩)) ∧ w'.cell? ⟨ad lk, 1, none⟩ = some (.int .i64 (L.vw lk : Int))) ∧ w'.frozen? ⟨c, 4, none⟩ = false) := fun w' h' => by
    refine ⟨?_, ⟨(h'.ln (i - 1) hlo (by omega)).cell (i := 1) rfl, h'.box.cell (i := 4) rfl, (h'.ln lk hlk0 hlkk).cell (i := 1) rfl⟩, h'.box.frozen 4⟩
    have := (h'.ln i (by omega) hik).cell (i := 6) rfl
    rw [this, if_neg (by omega)]
    rfl
  have hvk : L.vw lk = lk := hvw lk (by omega)
  have hvi1 : L.vw (i - 1) = i - 1 := hvw (i - 1) (by omega)
  have hn1 : ∀ w', ChAt w' L c m ad k lo lk la i vt → Calls Tryd.prog 65 #[ptrL (ad i)] w' fun e w'' => e = .returned (.bool true) ∧ Below w'.heap.size w' w'' := fun w' h' => comesNext_any h' (j := i) (by omega) hik (hL.top i) true (by rw [hvi, hvi1]; simp; omega)
  have hn2 : ∀ w', ChAt w' L c m ad k lo lk la i vt → Calls Tryd.prog 65 #[ptrL (ad (i - 1))] w' fun e w'' => e = .returned (.bool false) ∧ Below w'.heap.size w' w'' := fun w' h' => comesNext_any h' (j := i - 1) hlo (by omega) (hL.top _) false (by subst hi1; simp [hvw 0 (Nat.zero_le _)])
  have hleN : ¬ (L.vw lk < L.vw (i - 1)) := by rw [hvk, hvi1]; omega
  have hle : ¬ ((L.vw lk : Int) < (L.vw (i - 1) : Int)) := by rw [hvk, hvi1]; omega
  clear hf hX hB hM h hv1 hv2 hvi hvh hvk hvi1 hvw hhi' hsz1
  replace hi1 : Hid (i = 1) := hi1
  clear hlk hhi hla0 hlo0
  obtain ⟨idi, hidi⟩ : ∃ z, Hid (L.ids i = z) := ⟨_, rfl⟩
  unfold qcN QcM.v at cQ ⊢
  rw [hidi.out] at hset cQ hrd r11 r12 r35 hw1 ⊢
  generalize hqi : L.vw i = vi at *
  generalize hqh : L.vw hi = vh at *
  unfold ptrL at hn1 hn2 ⊢
  go_enter Tryd.func31, Tryd.ntmps31
  go_wp2_with fail
  try rw [hw1]
  have hS1 := And.intro r10 (And.intro r11 r12)
  refine wp_region_noPanic ?_
  refine wp_region_held (S := fun w' => w'.cell? ⟨c, 0, none⟩ = some (.map (some m)) ∧ w'.cell? ⟨w.heap.size, 1, none⟩ = some (.string idi) ∧ (Instr.lookup 113 (.map (some m)) (.string idi) true).run Tryd.prog w' = .ok (.tuple #[.pointer (some ⟨ad i, 0, none⟩), .bool true]) w') (by kernel_rfl) ?_
  show wpAnyH _ _ _ _ _ 12 (Array.replicate 12 false) _ w1.drew
  refine wpAnyH_takeD (i := 0) (v := ?_) (some 9) rfl rfl (by kernel_rfl) (by kernel_rfl) (by kernel_rfl) (fun _ _ _ h => h) (Or.inl ⟨by rfl, ?_⟩) (by assumption) ?_
  rotate_left 1
  · intro w' hSw
    (try dsimp only at hSw)
    go_simp
    first | done | with_reducible rfl
  simp only [Act.put, List.setIfInBounds_toArray, List.set_cons_zero, List.set_cons_succ]
  refine wpAnyH_takeD (i := 1) (v := ?_) (some 10) rfl rfl (by kernel_rfl) (by kernel_rfl) (by kernel_rfl) (fun _ _ _ h => h) (Or.inl ⟨by rfl, ?_⟩) (by assumption) ?_
  rotate_left 1
  · intro w' hSw
    (try dsimp only at hSw)
    go_simp
    first | done | with_reducible rfl
  simp only [Act.put, List.setIfInBounds_toArray, List.set_cons_zero, List.set_cons_succ]
  refine wpAnyH_takeD (i := 2) (v := ?_) (some 11) rfl rfl (by kernel_rfl) (by kernel_rfl) (by kernel_rfl) (fun _ _ _ h => h) (Or.inl ⟨by rfl, ?_⟩) (by assumption) ?_
  rotate_left 1
  · intro w' hSw
    (try dsimp only at hSw)
    go_simp
    first | done | with_reducible rfl
  simp only [Act.put, List.setIfInBounds_toArray, List.set_cons_zero, List.set_cons_succ]
  refine wpAnyH_takeD (i := 3) (v := ?_) (some 12) rfl rfl (by kernel_rfl) (by kernel_rfl) (by kernel_rfl) (fun _ _ _ h => h) (Or.inl ⟨by rfl, ?_⟩) (by assumption) ?_
  rotate_left 1
  · intro w' hSw
    (try dsimp only at hSw)
    go_simp
    first | done | with_reducible rfl
  simp only [Act.put, List.setIfInBounds_toArray, List.set_cons_zero, List.set_cons_succ]
  refine wpAnyH_takeD (i := 4) (v := ?_) (some 13) rfl rfl (by kernel_rfl) (by kernel_rfl) (by kernel_rfl) (fun _ _ _ h => h) (Or.inl ⟨by rfl, ?_⟩) (by assumption) ?_
  rotate_left 1
  · intro w' hSw
    (try dsimp only at hSw)
    go_simp
    first | done | with_reducible rfl
  simp only [Act.put, List.setIfInBounds_toArray, List.set_cons_zero, List.set_cons_succ]
  refine wpAnyH_takeD (i := 5) (v := ?_) (some 14) rfl rfl (by kernel_rfl) (by kernel_rfl) (by kernel_rfl) (fun _ _ _ h => h) (Or.inl ⟨by rfl, ?_⟩) (by assumption) ?_
  rotate_left 1
  · intro w' hSw
    (try dsimp only at hSw)
    go_simp
    first | done | with_reducible rfl
  simp only [Act.put, List.setIfInBounds_toArray, List.set_cons_zero, List.set_cons_succ]
  refine wpAnyH_takeD (i := 6) (v := ?_) (some 15) rfl rfl (by kernel_rfl) (by kernel_rfl) (by kernel_rfl) (fun _ _ _ h => h) (Or.inl ⟨by rfl, ?_⟩) (by assumption) ?_
  rotate_left 1
  · intro w' hSw
    (try dsimp only at hSw)
    go_simp
    first | done | with_reducible rfl
  simp only [Act.put, List.setIfInBounds_toArray, List.set_cons_zero, List.set_cons_succ]
  refine wpAnyH_takeD (i := 7) (v := ?_) (some 8) rfl rfl (by kernel_rfl) (by kernel_rfl) (by kernel_rfl) (fun _ _ _ h => h) (Or.inl ⟨by rfl, ?_⟩) (by assumption) ?_
  rotate_left 1
  · intro w' hSw
    (try dsimp only at hSw)
    go_simp
    first | done | with_reducible rfl
  simp only [Act.put, List.setIfInBounds_toArray, List.set_cons_zero, List.set_cons_succ]
  refine wpAnyH_takeD (i := 8) (v := ?_) (some 16) rfl rfl (by kernel_rfl) (by kernel_rfl) (by kernel_rfl) (fun _ _ _ h => h) (Or.inl ⟨by rfl, ?_⟩) (by assumption) ?_
  rotate_left 1
  · intro w' hSw
    (try dsimp only at hSw)
    go_simp
    first | done | with_reducible rfl
  simp only [Act.put, List.setIfInBounds_toArray, List.set_cons_zero, List.set_cons_succ]
  refine wpAnyH_takeD (i := 9) (v := ?_) (some 17) rfl rfl (by kernel_rfl) (by kernel_rfl) (by kernel_rfl) (fun _ _ _ h => h) (Or.inl ⟨by rfl, ?_⟩) (by assumption) ?_
  rotate_left 1
  · intro w' hSw
    (try dsimp only at hSw)
    go_simp
    first | done | with_reducible rfl
  simp only [Act.put, List.setIfInBounds_toArray, List.set_cons_zero, List.set_cons_succ]
  refine wpAnyH_takeD (i := 10) (v := ?_) (some 5) rfl rfl (by kernel_rfl) (by kernel_rfl) (by kernel_rfl) (fun _ _ _ h => h) (Or.inl ⟨by rfl, ?_⟩) (by assumption) ?_
  rotate_left 1
  · intro w' hSw
    (try dsimp only at hSw)
    go_simp
    first | done | with_reducible rfl
  simp only [Act.put, List.setIfInBounds_toArray, List.set_cons_zero, List.set_cons_succ]
  refine wpAnyH_takeD (i := 11) (v := ?_) (some 6) rfl rfl (by kernel_rfl) (by kernel_rfl) (by kernel_rfl) (fun _ _ _ h => h) (Or.inl ⟨by rfl, ?_⟩) (by assumption) ?_
  rotate_left 1
  · intro w' hSw
    (try dsimp only at hSw)
    go_simp
    first | done | with_reducible rfl
  simp only [Act.put, List.setIfInBounds_toArray, List.set_cons_zero, List.set_cons_succ]
  refine wpAnyH_done (by kernel_rfl) ?_ _
  refine NoPanic.normal ?_
  go_wp2_with fail
  go_region_held3 (fun w' => (w'.cell? ⟨ad i, 1, none⟩ = some (.int .i64 (vi : Int)) ∧ w'.cell? ⟨w.heap.size, 0, none⟩ = some (.int .i64 (vi : Int)))) (first | assumption | exact ⟨r20, r21⟩) (fail)
  go_wp2_with fail
  go_region_held3 (fun w' => (w'.cell? ⟨w.heap.size, 0, none⟩ = some (.int .i64 (vi : Int)) ∧ w'.cell? ⟨c, 1, none⟩ = some (.int .i64 (vh : Int)))) (first | assumption | exact ⟨r31, r32⟩) (fail)
  go_wp2_with fail
  try simp only [hidi.out]
  refine cQ.mono ?_
  rintro e w5 ⟨rfl, hb5⟩
  obtain ⟨s1, s2, s3, f1, f2, f3, h6, hk6⟩ := hset.out _ hb5
  have hbd6 : Below (((w5.setCell ⟨c, 1, none⟩ (.int .i64 (vi : Int))).setCell ⟨c, 2, none⟩ (.string idi)).setCell ⟨c, 3, none⟩ (.slice none 0 0)).heap.size (((w5.setCell ⟨c, 1, none⟩ (.int .i64 (vi : Int))).setCell ⟨c, 2, none⟩ (.string idi)).setCell ⟨c, 3, none⟩ (.slice none 0 0)) (((w5.setCell ⟨c, 1, none⟩ (.int .i64 (vi : Int))).setCell ⟨c, 2, none⟩ (.string idi)).setCell ⟨c, 3, none⟩ (.slice none 0 0)).drew := below_drewN (Below.refl _ _) 1
  have h6d := h6.below hbd6
  have hk6d : Kept (ChS c m ad lo k) w (((w5.setCell ⟨c, 1, none⟩ (.int .i64 (vi : Int))).setCell ⟨c, 2, none⟩ (.string idi)).setCell ⟨c, 3, none⟩ (.slice none 0 0)).drew := hk6.trans (Kept.of_below hbd6)
  obtain ⟨g1, ⟨g2, g3, g4⟩, g5⟩ := hbeh.out _ h6
  obtain ⟨d1, ⟨d2, d3, d4⟩, d5⟩ := hbeh.out _ h6d
  generalize hqa : L.vw (i - 1) = va at *
  generalize hqb : L.vw lk = vb at *
  generalize ad lk = al at *
  go_wp2_with fail
  go_region_held3 (fun w' => (w'.cell? ⟨ad (i - 1), 1, none⟩ = some (.int .i64 (va : Int)) ∧ w'.cell? ⟨c, 4, none⟩ = some (.pointer (some ⟨al, 0, none⟩)) ∧ w'.cell? ⟨al, 1, none⟩ = some (.int .i64 (vb : Int)))) (first | assumption | exact ⟨d2, d3, d4⟩ | exact ⟨g2, g3, g4⟩) (fail)
  go_wp2_with fail
  refine (hn1 _ h6d).mono ?_
  rintro e w8 ⟨rfl, hb8⟩
  have h8 := h6d.below hb8
  have hk8 := hk6d.trans (Kept.of_below hb8)
  go_wp2_with fail
  refine (hn2 _ h8).mono ?_
  rintro e w9 ⟨rfl, hb9⟩
  have h9 := h8.below hb9
  have hk9 := hk8.trans (Kept.of_below hb9)
  go_wp2_with fail
  go_ret
  exact ⟨rfl, h9, hk9⟩

set_option maxRecDepth 100000 in
set_option maxHeartbeats 4000000 in
theorem seeC_any {K : Nat} (hL : L.Ok K) (hK : k ≤ K) (hvw : ∀ j, j ≤ K → L.vw j = j) (h : ChAt w L c m ad k lo lk la hi vt) {i : Nat} (hi2 : 2 ≤ i) (hik : i ≤ k) (hhi' : hi < i) (hlk : lk < i - 1) (hla : la ≤ i - 2) {G : Value → World → Prop} (hcm : ∀ w', ChAt w' L c m ad k lo (i - 1) la i vt → Kept (ChS c m ad lo k) w w' → Calls Tryd.prog 66 #[ptrL c, ptrL (ad (i - 2))] w' fun e w'' => ∃ v, e = .returned v ∧ G v w'') :
    Calls Tryd.prog 31 #[ptrL c, (qcN (L.vw i : Int) (L.ids i)).v] w fun e w'' => ∃ v, e = .returned v ∧ G v w'' := by
  have hlo : lo ≤ i - 1 := by have := h.ola; omega
  have hlk0 : lo ≤ lk := Nat.le_trans h.ola h.olk
  have hlkk := h.okk
  have hM := h.mp
  have hid := sizeOk hL i
  have hf := lnF_at (ad := ad) (lo := lo) (j := i) hL hK (by omega) hik
  have hv1 : (lnF L ad lo k (L.ids i)).getD (.pointer none) = .pointer (some ⟨ad i, 0, none⟩) := by rw [hf]; rfl
  have hv2 : (lnF L ad lo k (L.ids i)).isSome = true := by rw [hf]; rfl
  have hX := Arr.new w 37 [.int .i64 (L.vw i : Int), .string (L.ids i), .slice none 0 0]
  have hB := belowNew w (.cells #[.int .i64 (L.vw i : Int), .string (L.ids i), .slice none 0 0] 37)
  have hcm1 : ∀ j, lo ≤ j → j ≤ k → ad j < w.heap.size := fun j a b => (h.ln j a b).lt
  have hcc : c < w.heap.size := h.box.lt
  -- whatever is read ahead of the first store
  have hrd : Hid (∀ w', Below (w.heap.size + 1) (w.alloc (.cells #[.int .i64 (L.vw i : Int), .string (L.ids i), .slice none 0 0] 37)) w' → (w'.cell? ⟨c, 0, none⟩ = some (.map (some m)) ∧ w'.cell? ⟨w.heap.size, 1, none⟩ = some (.string (L.ids i)) ∧ (Instr.lookup 113 (.map (some m)) (.string (L.ids i)) true).run Tryd.prog w' = .ok (.tuple #[.pointer (some ⟨ad i, 0, none⟩), .bool true]) w') ∧ (w'.cell? ⟨ad i, 1, none⟩ = some (.int .i64 (L.vw i : Int)) ∧ w'.cell? ⟨w.heap.size, 0, none⟩ = some (.int .i64 (L.vw i : Int)) ∧ w'.cell? ⟨c, 1, none⟩ = some (.int .i64 (L.vw hi : Int))) ∧ w'.cell? ⟨w.heap.size, 2, none⟩ = some (.slice none 0 0) ∧ ChAt w' L c m ad k lo lk la hi vt ∧ Below w.heap.size w w') := fun w' hb => by
    have hb1 := hB.trans (hb.mono (Nat.le_succ _))
    have h' := h.below hb1
    have hx' := hX.below hb (by omega)
    have hl' := h'.ln i (by omega) hik
    exact ⟨⟨h'.box.cell (i := 0) rfl, hx'.cell (i := 1) rfl, smap_runOk h'.mp Tryd.underlying113 zeroLinkP hid hv1 hv2⟩, ⟨hl'.cell (i := 1) rfl, hx'.cell (i := 0) rfl, h'.box.cell (i := 1) rfl⟩, hx'.cell (i := 2) rfl, h', hb1⟩
  have hsz1 : (w.alloc (.cells #[.int .i64 (L.vw i : Int), .string (L.ids i), .slice none 0 0] 37)).heap.size = w.heap.size + 1 := by rw [alloc_size]
  obtain ⟨w1, hw1⟩ : ∃ q, w.alloc (.cells #[.int .i64 (L.vw i : Int), .string (L.ids i), .slice none 0 0] 37) = q := ⟨_, rfl⟩
  rw [hw1] at hrd hsz1
  have b0 := Below.refl (w.heap.size + 1) w1
  have b1 : Below (w.heap.size + 1) w1 w1.drew := below_drewN b0 1
  have b2 : Below (w.heap.size + 1) w1 w1.drew.drew := below_drewN b1 1
  have b3 : Below (w.heap.size + 1) w1 w1.drew.drew.drew := below_drewN b2 1
  obtain ⟨⟨r10, r11, r12⟩, -, -, -, -⟩ := hrd.out _ b1
  obtain ⟨-, ⟨r20, r21, r22⟩, -, -, -⟩ := hrd.out _ b2
  obtain ⟨⟨-, r35, -⟩, ⟨r30, r31, r32⟩, r33, -, -⟩ := hrd.out _ b3
  obtain ⟨-, -, -, h3, hb3⟩ := hrd.out _ b3
  have r34 := h3.box.cell (i := 2) rfl
  have hvi : L.vw i = i := hvw i (by omega)
  have hvh : L.vw hi = hi := hvw hi (by omega)
  have hgt : (L.vw hi : Int) < (L.vw i : Int) := by rw [hvi, hvh]; omega
  have cQ := copyQc_nil (L.vw i : Int) (L.ids i) w1.drew.drew.drew
  -- behind the store of the Qc
  have hset : Hid (∀ w5, Below w1.drew.drew.drew.heap.size w1.drew.drew.drew w5 → w5.cell? ⟨c, 1, none⟩ = some (.int .i64 (L.vw hi : Int)) ∧ w5.cell? ⟨c, 2, none⟩ = some (.string (L.ids hi)) ∧ w5.cell? ⟨c, 3, none⟩ = some (.slice none 0 0) ∧ w5.frozen? ⟨c, 1, none⟩ = false ∧ w5.frozen? ⟨c, 2, none⟩ = false ∧ w5.frozen? ⟨c, 3, none⟩ = false ∧ ChAt (((w5.setCell ⟨c, 1, none⟩ (.int .i64 (L.vw i : Int))).setCell ⟨c, 2, none⟩ (.string (L.ids i))).setCell ⟨c, 3, none⟩ (.slice none 0 0)) L c m ad k lo lk la i vt ∧ Kept (ChS c m ad lo k) w (((w5.setCell ⟨c, 1, none⟩ (.int .i64 (L.vw i : Int))).setCell ⟨c, 2, none⟩ (.string (L.ids i))).setCell ⟨c, 3, none⟩ (.slice none 0 0))) := fun w5 hb5 => by
    have h5 := h3.below hb5
    have k3 := (((Kept.refl (fun b => b = c) w5).set (p := ⟨c, 1, none⟩) rfl (.int .i64 (L.vw i : Int))).set (p := ⟨c, 2, none⟩) rfl (.string (L.ids i))).set (p := ⟨c, 3, none⟩) rfl (.slice none 0 0)
    refine ⟨h5.box.cell (i := 1) rfl, h5.box.cell (i := 2) rfl, h5.box.cell (i := 3) rfl, h5.box.frozen 1, h5.box.frozen 2, h5.box.frozen 3, h5.rebox k3 (((h5.box.set 1 _).set 2 _).set 3 _) h5.olk h5.okk hik, ?_⟩
    exact (Kept.of_below (hb3.trans (hb5.mono hb3.size))).trans (k3.mono (fun b _ e => Or.inl e))
  have hbeh : Hid (∀ w', ChAt w' L c m ad k lo lk la i vt → (w'.cell? ⟨ad i, 6, none⟩ = some (.pointer (some ⟨ad (i - 1), 0, none⟩))) ∧ (w'.cell? ⟨ad (i - 1), 1, none⟩ = some (.int .i64 (L.vw (i - 1) : Int)) ∧ w'.cell? ⟨c, 4, none⟩ = some (.pointer (some ⟨ad lk, 0, none⟩)) ∧ w'.cell? ⟨ad lk, 1, none⟩ = some (.int .i64 (L.vw lk : Int))) ∧ w'.frozen? ⟨c, 4, none⟩ = false) := fun w' h' => by
    refine ⟨?_, ⟨(h'.ln (i - 1) hlo (by omega)).cell (i := 1) rfl, h'.box.cell (i := 4) rfl, (h'.ln lk hlk0 hlkk).cell (i := 1) rfl⟩, h'.box.frozen 4⟩
    have := (h'.ln i (by omega) hik).cell (i := 6) rfl
    rw [this, if_neg (by omega)]
    rfl
  have hvk : L.vw lk = lk := hvw lk (by omega)
  have hvi1 : L.vw (i - 1) = i - 1 := hvw (i - 1) (by omega)
  have hn1 : ∀ w', ChAt w' L c m ad k lo (i - 1) la i vt → Calls Tryd.prog 65 #[ptrL (ad i)] w' fun e w'' => e = .returned (.bool true) ∧ Below w'.heap.size w' w'' := fun w' h' => comesNext_any h' (j := i) (by omega) hik (hL.top i) true (by rw [hvi, hvi1]; simp; omega)
  have hn2 : ∀ w', ChAt w' L c m ad k lo (i - 1) la i vt → Calls Tryd.prog 65 #[ptrL (ad (i - 1))] w' fun e w'' => e = .returned (.bool true) ∧ Below w'.heap.size w' w'' := fun w' h' => comesNext_any h' (j := i - 1) hlo (by omega) (hL.top _) true (by rw [hvi1, hvw (i - 1 - 1) (by omega)]; simp; omega)
  have hleN : L.vw lk < L.vw (i - 1) := by rw [hvk, hvi1]; omega
  have hle : (L.vw lk : Int) < (L.vw (i - 1) : Int) := by rw [hvk, hvi1]; omega
  have hpar : Hid (∀ w', ChAt w' L c m ad k lo (i - 1) la i vt → w'.cell? ⟨ad (i - 1), 6, none⟩ = some (.pointer (some ⟨ad (i - 2), 0, none⟩))) := fun w' h' => by
    have := (h'.ln (i - 1) hlo (by omega)).cell (i := 6) rfl
    rw [this, if_neg (by omega), show i - 1 - 1 = i - 2 by omega]
    rfl
  have hstl : Hid (∀ w', ChAt w' L c m ad k lo lk la i vt → Kept (ChS c m ad lo k) w w' → ChAt (w'.setCell ⟨c, 4, none⟩ (.pointer (some ⟨ad (i - 1), 0, none⟩))) L c m ad k lo (i - 1) la i vt ∧ Kept (ChS c m ad lo k) w (w'.setCell ⟨c, 4, none⟩ (.pointer (some ⟨ad (i - 1), 0, none⟩)))) := fun w' h' hk => by
    have k4 := Kept.setCell w' ⟨c, 4, none⟩ (.pointer (some ⟨ad (i - 1), 0, none⟩))
    exact ⟨h'.rebox k4 (h'.box.set 4 _) (by have := h'.olk; omega) (by omega) h'.ohi, hk.trans (k4.mono (fun b _ e => Or.inl e))⟩
  clear hf hX hB hM h hv1 hv2 hvi hvh hvk hvi1 hvw hhi' hsz1
  obtain ⟨idi, hidi⟩ : ∃ z, Hid (L.ids i = z) := ⟨_, rfl⟩
  unfold qcN QcM.v at cQ ⊢
  rw [hidi.out] at hset cQ hrd r11 r12 r35 hw1 ⊢
  generalize hqi : L.vw i = vi at *
  generalize hqh : L.vw hi = vh at *
  unfold ptrL at hn1 hn2 hcm ⊢
  go_enter Tryd.func31, Tryd.ntmps31
  go_wp2_with fail
  try rw [hw1]
  have hS1 := And.intro r10 (And.intro r11 r12)
  refine wp_region_noPanic ?_
  refine wp_region_held (S := fun w' => w'.cell? ⟨c, 0, none⟩ = some (.map (some m)) ∧ w'.cell? ⟨w.heap.size, 1, none⟩ = some (.string idi) ∧ (Instr.lookup 113 (.map (some m)) (.string idi) true).run Tryd.prog w' = .ok (.tuple #[.pointer (some ⟨ad i, 0, none⟩), .bool true]) w') (by kernel_rfl) ?_
  show wpAnyH _ _ _ _ _ 12 (Array.replicate 12 false) _ w1.drew
  refine wpAnyH_takeD (i := 0) (v := ?_) (some 9) rfl rfl (by kernel_rfl) (by kernel_rfl) (by kernel_rfl) (fun _ _ _ h => h) (Or.inl ⟨by rfl, ?_⟩) (by assumption) ?_
  rotate_left 1
  · intro w' hSw
    (try dsimp only at hSw)
    go_simp
    first | done | with_reducible rfl
  simp only [Act.put, List.setIfInBounds_toArray, List.set_cons_zero, List.set_cons_succ]
  refine wpAnyH_takeD (i := 1) (v := ?_) (some 10) rfl rfl (by kernel_rfl) (by kernel_rfl) (by kernel_rfl) (fun _ _ _ h => h) (Or.inl ⟨by rfl, ?_⟩) (by assumption) ?_
  rotate_left 1
  · intro w' hSw
    (try dsimp only at hSw)
    go_simp
    first | done | with_reducible rfl
  simp only [Act.put, List.setIfInBounds_toArray, List.set_cons_zero, List.set_cons_succ]
  refine wpAnyH_takeD (i := 2) (v := ?_) (some 11) rfl rfl (by kernel_rfl) (by kernel_rfl) (by kernel_rfl) (fun _ _ _ h => h) (Or.inl ⟨by rfl, ?_⟩) (by assumption) ?_
  rotate_left 1
  · intro w' hSw
    (try dsimp only at hSw)
    go_simp
    first | done | with_reducible rfl
  simp only [Act.put, List.setIfInBounds_toArray, List.set_cons_zero, List.set_cons_succ]
  refine wpAnyH_takeD (i := 3) (v := ?_) (some 12) rfl rfl (by kernel_rfl) (by kernel_rfl) (by kernel_rfl) (fun _ _ _ h => h) (Or.inl ⟨by rfl, ?_⟩) (by assumption) ?_
  rotate_left 1
  · intro w' hSw
    (try dsimp only at hSw)
    go_simp
    first | done | with_reducible rfl
  simp only [Act.put, List.setIfInBounds_toArray, List.set_cons_zero, List.set_cons_succ]
  refine wpAnyH_takeD (i := 4) (v := ?_) (some 13) rfl rfl (by kernel_rfl) (by kernel_rfl) (by kernel_rfl) (fun _ _ _ h => h) (Or.inl ⟨by rfl, ?_⟩) (by assumption) ?_
  rotate_left 1
  · intro w' hSw
    (try dsimp only at hSw)
    go_simp
    first | done | with_reducible rfl
  simp only [Act.put, List.setIfInBounds_toArray, List.set_cons_zero, List.set_cons_succ]
  refine wpAnyH_takeD (i := 5) (v := ?_) (some 14) rfl rfl (by kernel_rfl) (by kernel_rfl) (by kernel_rfl) (fun _ _ _ h => h) (Or.inl ⟨by rfl, ?_⟩) (by assumption) ?_
  rotate_left 1
  · intro w' hSw
    (try dsimp only at hSw)
    go_simp
    first | done | with_reducible rfl
  simp only [Act.put, List.setIfInBounds_toArray, List.set_cons_zero, List.set_cons_succ]
  refine wpAnyH_takeD (i := 6) (v := ?_) (some 15) rfl rfl (by kernel_rfl) (by kernel_rfl) (by kernel_rfl) (fun _ _ _ h => h) (Or.inl ⟨by rfl, ?_⟩) (by assumption) ?_
  rotate_left 1
  · intro w' hSw
    (try dsimp only at hSw)
    go_simp
    first | done | with_reducible rfl
  simp only [Act.put, List.setIfInBounds_toArray, List.set_cons_zero, List.set_cons_succ]
  refine wpAnyH_takeD (i := 7) (v := ?_) (some 8) rfl rfl (by kernel_rfl) (by kernel_rfl) (by kernel_rfl) (fun _ _ _ h => h) (Or.inl ⟨by rfl, ?_⟩) (by assumption) ?_
  rotate_left 1
  · intro w' hSw
    (try dsimp only at hSw)
    go_simp
    first | done | with_reducible rfl
  simp only [Act.put, List.setIfInBounds_toArray, List.set_cons_zero, List.set_cons_succ]
  refine wpAnyH_takeD (i := 8) (v := ?_) (some 16) rfl rfl (by kernel_rfl) (by kernel_rfl) (by kernel_rfl) (fun _ _ _ h => h) (Or.inl ⟨by rfl, ?_⟩) (by assumption) ?_
  rotate_left 1
  · intro w' hSw
    (try dsimp only at hSw)
    go_simp
    first | done | with_reducible rfl
  simp only [Act.put, List.setIfInBounds_toArray, List.set_cons_zero, List.set_cons_succ]
  refine wpAnyH_takeD (i := 9) (v := ?_) (some 17) rfl rfl (by kernel_rfl) (by kernel_rfl) (by kernel_rfl) (fun _ _ _ h => h) (Or.inl ⟨by rfl, ?_⟩) (by assumption) ?_
  rotate_left 1
  · intro w' hSw
    (try dsimp only at hSw)
    go_simp
    first | done | with_reducible rfl
  simp only [Act.put, List.setIfInBounds_toArray, List.set_cons_zero, List.set_cons_succ]
  refine wpAnyH_takeD (i := 10) (v := ?_) (some 5) rfl rfl (by kernel_rfl) (by kernel_rfl) (by kernel_rfl) (fun _ _ _ h => h) (Or.inl ⟨by rfl, ?_⟩) (by assumption) ?_
  rotate_left 1
  · intro w' hSw
    (try dsimp only at hSw)
    go_simp
    first | done | with_reducible rfl
  simp only [Act.put, List.setIfInBounds_toArray, List.set_cons_zero, List.set_cons_succ]
  refine wpAnyH_takeD (i := 11) (v := ?_) (some 6) rfl rfl (by kernel_rfl) (by kernel_rfl) (by kernel_rfl) (fun _ _ _ h => h) (Or.inl ⟨by rfl, ?_⟩) (by assumption) ?_
  rotate_left 1
  · intro w' hSw
    (try dsimp only at hSw)
    go_simp
    first | done | with_reducible rfl
  simp only [Act.put, List.setIfInBounds_toArray, List.set_cons_zero, List.set_cons_succ]
  refine wpAnyH_done (by kernel_rfl) ?_ _
  refine NoPanic.normal ?_
  go_wp2_with fail
  go_region_held3 (fun w' => (w'.cell? ⟨ad i, 1, none⟩ = some (.int .i64 (vi : Int)) ∧ w'.cell? ⟨w.heap.size, 0, none⟩ = some (.int .i64 (vi : Int)))) (first | assumption | exact ⟨r20, r21⟩) (fail)
  go_wp2_with fail
  go_region_held3 (fun w' => (w'.cell? ⟨w.heap.size, 0, none⟩ = some (.int .i64 (vi : Int)) ∧ w'.cell? ⟨c, 1, none⟩ = some (.int .i64 (vh : Int)))) (first | assumption | exact ⟨r31, r32⟩) (fail)
  go_wp2_with fail
  try simp only [hidi.out]
  refine cQ.mono ?_
  rintro e w5 ⟨rfl, hb5⟩
  obtain ⟨s1, s2, s3, f1, f2, f3, h6, hk6⟩ := hset.out _ hb5
  have hbd6 : Below (((w5.setCell ⟨c, 1, none⟩ (.int .i64 (vi : Int))).setCell ⟨c, 2, none⟩ (.string idi)).setCell ⟨c, 3, none⟩ (.slice none 0 0)).heap.size (((w5.setCell ⟨c, 1, none⟩ (.int .i64 (vi : Int))).setCell ⟨c, 2, none⟩ (.string idi)).setCell ⟨c, 3, none⟩ (.slice none 0 0)) (((w5.setCell ⟨c, 1, none⟩ (.int .i64 (vi : Int))).setCell ⟨c, 2, none⟩ (.string idi)).setCell ⟨c, 3, none⟩ (.slice none 0 0)).drew := below_drewN (Below.refl _ _) 1
  have h6d := h6.below hbd6
  have hk6d : Kept (ChS c m ad lo k) w (((w5.setCell ⟨c, 1, none⟩ (.int .i64 (vi : Int))).setCell ⟨c, 2, none⟩ (.string idi)).setCell ⟨c, 3, none⟩ (.slice none 0 0)).drew := hk6.trans (Kept.of_below hbd6)
  obtain ⟨g1, ⟨g2, g3, g4⟩, g5⟩ := hbeh.out _ h6
  obtain ⟨d1, ⟨d2, d3, d4⟩, d5⟩ := hbeh.out _ h6d
  generalize hqa : L.vw (i - 1) = va at *
  generalize hqb : L.vw lk = vb at *
  generalize ad lk = al at *
  go_wp2_with fail
  go_region_held3 (fun w' => (w'.cell? ⟨ad (i - 1), 1, none⟩ = some (.int .i64 (va : Int)) ∧ w'.cell? ⟨c, 4, none⟩ = some (.pointer (some ⟨al, 0, none⟩)) ∧ w'.cell? ⟨al, 1, none⟩ = some (.int .i64 (vb : Int)))) (first | assumption | exact ⟨d2, d3, d4⟩ | exact ⟨g2, g3, g4⟩) (fail)
  obtain ⟨h7, hk7⟩ := hstl.out _ h6d hk6d
  go_wp2_with fail
  refine (hn1 _ h7).mono ?_
  rintro e w8 ⟨rfl, hb8⟩
  have h8 := h7.below hb8
  have hk8 := hk7.trans (Kept.of_below hb8)
  go_wp2_with fail
  refine (hn2 _ h8).mono ?_
  rintro e w9 ⟨rfl, hb9⟩
  have h9 := h8.below hb9
  have hk9 := hk8.trans (Kept.of_below hb9)
  have p9 := hpar.out _ h9
  go_wp2_with fail
  refine (hcm _ h9 hk9).mono ?_
  rintro e w10 ⟨v, rfl, hG⟩
  go_wp2
  go_ret
  exact ⟨v, rfl, hG⟩

/-- A Qc is seen by which nothing more is committed. -/
theorem seeA_any {K : Nat} (hL : L.Ok K) (hK : k ≤ K) (hvw : ∀ j, j ≤ K → L.vw j = j) (h : ChAt w L c m ad k lo lk la hi vt) {i : Nat} (hi2 : 2 ≤ i) (hik : i ≤ k) (hhi' : hi < i) (hlk : lk < i - 1) (hla : la = i - 2) :
    Calls Tryd.prog 31 #[ptrL c, (qcN (L.vw i : Int) (L.ids i)).v] w fun e w' => e = .returned (.slice none 0 0) ∧ ChAt w' L c m ad k la (i - 1) la i vt ∧ Kept (ChS c m ad lo k) w w' := by
  refine (seeC_any hL hK hvw h hi2 hik hhi' hlk (by omega) (G := fun v w' => v = .slice none 0 0 ∧ ChAt w' L c m ad k la (i - 1) la i vt ∧ Kept (ChS c m ad lo k) w w') (fun w' h' hk => ?_)).mono ?_
  · rw [← hla]
    refine (commit0_any hL hK h' h'.ola (Nat.le_refl la)).mono ?_
    rintro e w'' ⟨rfl, q1, q2⟩
    exact ⟨_, rfl, rfl, q1, hk.trans q2⟩
  · rintro e w' ⟨v, rfl, rfl, q1, q2⟩
    exact ⟨rfl, q1, q2⟩

/-- A Qc is seen by which one more is committed. -/
theorem seeB_any {K : Nat} (hL : L.Ok K) (hK : k ≤ K) (hvw : ∀ j, j ≤ K → L.vw j = j) (h : ChAt w L c m ad k lo lk la hi vt) {i : Nat} (hi2 : 2 ≤ i) (hik : i ≤ k) (hhi' : hi < i) (hlk : lk < i - 1) (hla : la + 1 = i - 2) :
    Calls Tryd.prog 31 #[ptrL c, (qcN (L.vw i : Int) (L.ids i)).v] w fun e w' => ∃ ao cap, e = .returned (.slice ao 1 cap) ∧ KQ textK 9 w' w.heap.size (.slice ao 1 cap) [L.ids (i - 2)] ∧ ChAt w' L c m ad k la (i - 1) (la + 1) i vt ∧ Kept (ChS c m ad lo k) w w' := by
  refine (seeC_any hL hK hvw h hi2 hik hhi' hlk (by omega) (G := fun v w' => ∃ ao cap, v = .slice ao 1 cap ∧ KQ textK 9 w' w.heap.size (.slice ao 1 cap) [L.ids (i - 2)] ∧ ChAt w' L c m ad k la (i - 1) (la + 1) i vt ∧ Kept (ChS c m ad lo k) w w') (fun w' h' hk => ?_)).mono ?_
  · rw [← hla]
    refine (commit1_any hL hK h' (by omega)).mono ?_
    rintro e w'' ⟨ao, cap, rfl, q1, q2, q3⟩
    exact ⟨_, rfl, ao, cap, rfl, q1.rebase hk.size, q2, hk.trans q3⟩
  · rintro e w' ⟨v, rfl, ao, cap, rfl, q⟩
    exact ⟨ao, cap, rfl, q⟩
end
end Go.Proofs.YthhildeocedpiaaDoor
