/- The chain's links looked up; votes. -/
import Derived.Test.YthhildeocedpiaaDoorChnFns2
import Derived.Test.YthhildeocedpiaaDoorRoundLone
namespace Go.Proofs.YthhildeocedpiaaDoor
open Go Go.RowKit Go.Maps
set_option linter.unusedVariables false

theorem zeroLinkP (w : World) : (zeroValue 110).run Tryd.prog w = .ok (.pointer none) w := Tryd.zeroValue110 w

/-- 'm[k]' with its 'ok'. -/
theorem smap_runOk {w : World} {b : Nat} {f : ByteArray → Option Value} {n : Nat} (h : SMap w b f n) {t e : TypeId} (ht : Tryd.prog.underlying t = some (.map 9 e)) {z : Value} (hz : ∀ w, (zeroValue e).run Tryd.prog w = .ok z w) {id : ByteArray} (hid : id.size ≤ maxLen) {u : Value} {o : Bool} (e1 : (f id).getD z = u) (e2 : (f id).isSome = o) : (Instr.lookup t (.map (some b)) (.string id) true).run Tryd.prog w = .ok (.tuple #[u, .bool o]) w := by
  obtain ⟨D, ho, h1, h2, h3⟩ := h
  obtain ⟨v, ps, hrun, hv⟩ := ho.look_ok lawStr ht (hz w) (zd := .held z) (zp := []) rfl (keyS_of hid)
  have e1' : v = (f id).getD z := by
    have := h3 id (.held z)
    unfold heldElem at hv
    simp only [Option.some.injEq, Prod.mk.injEq] at hv
    rw [this] at hv
    cases hf : f id with
    | none => rw [hf] at hv; simpa using hv.1
    | some u => rw [hf] at hv; simpa using hv.1
  subst e1'
  rw [h2, e1, e2] at hrun
  exact hrun

section
variable {w w' : World} {L : LinP} {c m k lo lk la hi vt : Nat} {ad : Nat → Nat}

theorem sizeOk {K : Nat} (hL : L.Ok K) (j : Nat) : (L.ids j).size ≤ maxLen := Nat.le_trans (hL.sz j) (by unfold maxLen; decide)

set_option maxRecDepth 100000 in
set_option maxHeartbeats 1000000 in
theorem voteNo_any {K : Nat} (hL : L.Ok K) (hK : k ≤ K) (h : ChAt w L c m ad k lo lk la hi vt) {j : Nat} (h1 : lo ≤ j) (h2 : j ≤ k) (hv : L.vw j ≤ vt) :
    Calls Tryd.prog 36 #[ptrL c, .string (L.ids j)] w fun e w' => e = .returned (.bool false) ∧ Below w.heap.size w w' := by
  have hl := h.ln j h1 h2
  have hM := h.mp
  have hz := zeroLinkP w
  have hid := sizeOk hL j
  have hf := lnF_at (ad := ad) hL hK h1 h2
  have hv1 : (lnF L ad lo k (L.ids j)).getD (.pointer none) = .pointer (some ⟨ad j, 0, none⟩) := by rw [hf]; rfl
  have hv2 : (lnF L ad lo k (L.ids j)).isSome = true := by rw [hf]; rfl
  have c0 := h.box.cell (i := 0) rfl
  have hkp : ∀ w', Below w.heap.size w w' → (w'.cell? ⟨ad j, 1, none⟩ = some (.int .i64 (L.vw j : Int)) ∧ w'.cell? ⟨c, 6, none⟩ = some (.int .i64 (vt : Int))) := fun w' hb => ⟨(hl.below hb hl.lt).cell (i := 1) rfl, (h.box.below hb h.box.lt).cell (i := 6) rfl⟩
  have hb0 : Below w.heap.size w w := Below.refl _ w
  have hb1 : Below w.heap.size w w.drew := below_drewN hb0 1
  clear hf
  generalize lnF L ad lo k = f0 at *
  generalize L.ids j = id at *
  generalize L.vw j = x at *
  unfold ptrL
  go_enter Tryd.func36, Tryd.ntmps36
  go_wp2_with (at_lookup; refine smap_look_ok (by rfl) _ _ 113 rfl 110 Tryd.underlying113 _ hz m _ _ rfl hM id hid rfl ?_; rw [hv1, hv2])
  go_region_held3 (fun w' => (w'.cell? ⟨ad j, 1, none⟩ = some (.int .i64 (x : Int)) ∧ w'.cell? ⟨c, 6, none⟩ = some (.int .i64 (vt : Int)))) (exact hkp _ (by assumption)) (fail)
  go_wp2
  go_ret
  exact ⟨rfl, hb1⟩

set_option maxRecDepth 100000 in
set_option maxHeartbeats 1000000 in
theorem voteYes_any {K : Nat} (hL : L.Ok K) (hK : k ≤ K) (h : ChAt w L c m ad k lo lk la hi vt) {j : Nat} (h1 : lk ≤ j) (h2 : j ≤ k) (hv : vt < L.vw j) :
    Calls Tryd.prog 36 #[ptrL c, .string (L.ids j)] w fun e w' => e = .returned (.bool true) ∧ ChAt w' L c m ad k lo lk la hi (L.vw j) ∧ Kept (fun b => b = c) w w' := by
  have hlo : lo ≤ j := Nat.le_trans (Nat.le_trans h.ola h.olk) h1
  have hl := h.ln j hlo h2
  have hM := h.mp
  have hz := zeroLinkP w
  have hid := sizeOk hL j
  have hf := lnF_at (ad := ad) hL hK hlo h2
  have hv1 : (lnF L ad lo k (L.ids j)).getD (.pointer none) = .pointer (some ⟨ad j, 0, none⟩) := by rw [hf]; rfl
  have hv2 : (lnF L ad lo k (L.ids j)).isSome = true := by rw [hf]; rfl
  have c0 := h.box.cell (i := 0) rfl
  have hkp : ∀ w', Below w.heap.size w w' → (w'.cell? ⟨ad j, 1, none⟩ = some (.int .i64 (L.vw j : Int)) ∧ w'.cell? ⟨c, 6, none⟩ = some (.int .i64 (vt : Int))) := fun w' hb => ⟨(hl.below hb hl.lt).cell (i := 1) rfl, (h.box.below hb h.box.lt).cell (i := 6) rfl⟩
  have hb0 : Below w.heap.size w w := Below.refl _ w
  have hb1 : Below w.heap.size w w.drew := below_drewN hb0 1
  have hb2 : Below w.heap.size w w.drew.drew := below_drewN hb1 1
  have hR := rests_any hL hK (h.below hb2) h1 h2
  have hFin : Hid (∀ w', Below w.heap.size w w' → ChAt (w'.setCell ⟨c, 6, none⟩ (.int .i64 (L.vw j : Int))) L c m ad k lo lk la hi (L.vw j) ∧ Kept (fun b => b = c) w (w'.setCell ⟨c, 6, none⟩ (.int .i64 (L.vw j : Int)))) := fun w' hb => by
    have h' := h.below hb
    have hk := Kept.setCell w' ⟨c, 6, none⟩ (.int .i64 (L.vw j : Int))
    exact ⟨h'.rebox hk (h'.box.set 6 _) h'.olk h'.okk h'.ohi, (Kept.of_below hb).trans hk⟩
  have hfz : ∀ w', Below w.heap.size w w' → w'.frozen? ⟨c, 6, none⟩ = false := fun w' hb => (h.below hb).box.frozen 6
  clear hf
  generalize lnF L ad lo k = f0 at *
  generalize L.ids j = id at *
  generalize L.vw j = x at *
  unfold ptrL at hR ⊢
  have hd : decide (x ≤ vt) = false := by simp; omega
  have hdi : decide ((x : Int) ≤ (vt : Int)) = false := by simp; omega
  go_enter Tryd.func36, Tryd.ntmps36
  go_wp2_with (at_lookup; refine smap_look_ok (by rfl) _ _ 113 rfl 110 Tryd.underlying113 _ hz m _ _ rfl hM id hid rfl ?_; rw [hv1, hv2])
  go_region_held3 (fun w' => (w'.cell? ⟨ad j, 1, none⟩ = some (.int .i64 (x : Int)) ∧ w'.cell? ⟨c, 6, none⟩ = some (.int .i64 (vt : Int)))) (exact hkp _ (by assumption)) (fail)
  go_wp2_with fail
  have hS2 := (hkp _ hb2).2
  refine wp_region_noPanic ?_
  refine wp_region_held (S := fun w' => w'.cell? ⟨c, 6, none⟩ = some (.int .i64 (vt : Int))) (by kernel_rfl) ?_
  show wpAnyH _ _ _ _ _ 21 (Array.replicate 21 false) _ w.drew.drew
  refine wpAnyH_takeD (i := 0) (v := ?_) (some 30) rfl rfl (by kernel_rfl) (by kernel_rfl) (by kernel_rfl) (fun _ _ _ h => h) (Or.inl ⟨by rfl, ?_⟩) (by assumption) ?_
  rotate_left 1
  · intro w' hSw
    (try dsimp only at hSw)
    go_simp
    first | done | with_reducible rfl
  simp only [Act.put, List.setIfInBounds_toArray, List.set_cons_zero, List.set_cons_succ]
  refine wpAnyH_takeD (i := 1) (v := ?_) (some 31) rfl rfl (by kernel_rfl) (by kernel_rfl) (by kernel_rfl) (fun _ _ _ h => h) (Or.inl ⟨by rfl, ?_⟩) (by assumption) ?_
  rotate_left 1
  · intro w' hSw
    (try dsimp only at hSw)
    go_simp
    first | done | with_reducible rfl
  simp only [Act.put, List.setIfInBounds_toArray, List.set_cons_zero, List.set_cons_succ]
  refine wpAnyH_oneD (i := 2) (some 32) (by kernel_rfl) rfl rfl rfl (fun K' hK' => ?_)
  replace hK' : Hid _ := hK'
  go_simp
  refine hR.mono ?_
  rintro e w5 ⟨rfl, hb5⟩
  show K' _ w5
  have hK5 : Below w.heap.size w w5 := hb2.trans (hb5.mono hb2.size)
  have hS5 := (hkp _ hK5).2
  refine hK'.out _ _ hS5 ?_
  clear hK' K'
  simp only [Act.put, List.setIfInBounds_toArray, List.set_cons_zero, List.set_cons_succ]
  refine wpAnyH_takeD (i := 3) (v := ?_) (some 33) rfl rfl (by kernel_rfl) (by kernel_rfl) (by kernel_rfl) (fun _ _ _ h => h) (Or.inl ⟨by rfl, ?_⟩) (by assumption) ?_
  rotate_left 1
  · intro w' hSw
    (try dsimp only at hSw)
    go_simp
    first | done | with_reducible rfl
  simp only [Act.put, List.setIfInBounds_toArray, List.set_cons_zero, List.set_cons_succ]
  refine wpAnyH_takeD (i := 4) (v := ?_) (some 34) rfl rfl (by kernel_rfl) (by kernel_rfl) (by kernel_rfl) (fun _ _ _ h => h) (Or.inl ⟨by rfl, ?_⟩) (by assumption) ?_
  rotate_left 1
  · intro w' hSw
    (try dsimp only at hSw)
    go_simp
    first | done | with_reducible rfl
  simp only [Act.put, List.setIfInBounds_toArray, List.set_cons_zero, List.set_cons_succ]
  refine wpAnyH_takeD (i := 5) (v := undef) (some 35) rfl rfl (by kernel_rfl) (by kernel_rfl) (by kernel_rfl) (fun _ _ _ h => h) (Or.inr ⟨by rfl, rfl⟩) (by assumption) ?_
  simp only [Act.put, List.setIfInBounds_toArray, List.set_cons_zero, List.set_cons_succ]
  refine wpAnyH_takeD (i := 6) (v := undef) (some 36) rfl rfl (by kernel_rfl) (by kernel_rfl) (by kernel_rfl) (fun _ _ _ h => h) (Or.inr ⟨by rfl, rfl⟩) (by assumption) ?_
  simp only [Act.put, List.setIfInBounds_toArray, List.set_cons_zero, List.set_cons_succ]
  refine wpAnyH_takeD (i := 7) (v := undef) (some 37) rfl rfl (by kernel_rfl) (by kernel_rfl) (by kernel_rfl) (fun _ _ _ h => h) (Or.inr ⟨by rfl, rfl⟩) (by assumption) ?_
  simp only [Act.put, List.setIfInBounds_toArray, List.set_cons_zero, List.set_cons_succ]
  refine wpAnyH_takeD (i := 8) (v := undef) (some 38) rfl rfl (by kernel_rfl) (by kernel_rfl) (by kernel_rfl) (fun _ _ _ h => h) (Or.inr ⟨by rfl, rfl⟩) (by assumption) ?_
  simp only [Act.put, List.setIfInBounds_toArray, List.set_cons_zero, List.set_cons_succ]
  refine wpAnyH_takeD (i := 9) (v := undef) (some 39) rfl rfl (by kernel_rfl) (by kernel_rfl) (by kernel_rfl) (fun _ _ _ h => h) (Or.inr ⟨by rfl, rfl⟩) (by assumption) ?_
  simp only [Act.put, List.setIfInBounds_toArray, List.set_cons_zero, List.set_cons_succ]
  refine wpAnyH_takeD (i := 10) (v := undef) (some 40) rfl rfl (by kernel_rfl) (by kernel_rfl) (by kernel_rfl) (fun _ _ _ h => h) (Or.inr ⟨by rfl, rfl⟩) (by assumption) ?_
  simp only [Act.put, List.setIfInBounds_toArray, List.set_cons_zero, List.set_cons_succ]
  refine wpAnyH_takeD (i := 11) (v := undef) (some 41) rfl rfl (by kernel_rfl) (by kernel_rfl) (by kernel_rfl) (fun _ _ _ h => h) (Or.inr ⟨by rfl, rfl⟩) (by assumption) ?_
  simp only [Act.put, List.setIfInBounds_toArray, List.set_cons_zero, List.set_cons_succ]
  refine wpAnyH_takeD (i := 12) (v := undef) (some 42) rfl rfl (by kernel_rfl) (by kernel_rfl) (by kernel_rfl) (fun _ _ _ h => h) (Or.inr ⟨by rfl, rfl⟩) (by assumption) ?_
  simp only [Act.put, List.setIfInBounds_toArray, List.set_cons_zero, List.set_cons_succ]
  refine wpAnyH_takeD (i := 13) (v := undef) (some 43) rfl rfl (by kernel_rfl) (by kernel_rfl) (by kernel_rfl) (fun _ _ _ h => h) (Or.inr ⟨by rfl, rfl⟩) (by assumption) ?_
  simp only [Act.put, List.setIfInBounds_toArray, List.set_cons_zero, List.set_cons_succ]
  refine wpAnyH_takeD (i := 14) (v := undef) (some 44) rfl rfl (by kernel_rfl) (by kernel_rfl) (by kernel_rfl) (fun _ _ _ h => h) (Or.inr ⟨by rfl, rfl⟩) (by assumption) ?_
  simp only [Act.put, List.setIfInBounds_toArray, List.set_cons_zero, List.set_cons_succ]
  refine wpAnyH_takeD (i := 15) (v := undef) (some 45) rfl rfl (by kernel_rfl) (by kernel_rfl) (by kernel_rfl) (fun _ _ _ h => h) (Or.inr ⟨by rfl, rfl⟩) (by assumption) ?_
  simp only [Act.put, List.setIfInBounds_toArray, List.set_cons_zero, List.set_cons_succ]
  refine wpAnyH_takeD (i := 16) (v := undef) (some 46) rfl rfl (by kernel_rfl) (by kernel_rfl) (by kernel_rfl) (fun _ _ _ h => h) (Or.inr ⟨by rfl, rfl⟩) (by assumption) ?_
  simp only [Act.put, List.setIfInBounds_toArray, List.set_cons_zero, List.set_cons_succ]
  refine wpAnyH_takeD (i := 17) (v := undef) (some 47) rfl rfl (by kernel_rfl) (by kernel_rfl) (by kernel_rfl) (fun _ _ _ h => h) (Or.inr ⟨by rfl, rfl⟩) (by assumption) ?_
  simp only [Act.put, List.setIfInBounds_toArray, List.set_cons_zero, List.set_cons_succ]
  refine wpAnyH_takeD (i := 18) (v := undef) (some 48) rfl rfl (by kernel_rfl) (by kernel_rfl) (by kernel_rfl) (fun _ _ _ h => h) (Or.inr ⟨by rfl, rfl⟩) (by assumption) ?_
  simp only [Act.put, List.setIfInBounds_toArray, List.set_cons_zero, List.set_cons_succ]
  refine wpAnyH_takeD (i := 19) (v := undef) (some 49) rfl rfl (by kernel_rfl) (by kernel_rfl) (by kernel_rfl) (fun _ _ _ h => h) (Or.inr ⟨by rfl, rfl⟩) (by assumption) ?_
  simp only [Act.put, List.setIfInBounds_toArray, List.set_cons_zero, List.set_cons_succ]
  refine wpAnyH_takeD (i := 20) (v := ?_) (some 50) rfl rfl (by kernel_rfl) (by kernel_rfl) (by kernel_rfl) (fun _ _ _ h => h) (Or.inl ⟨by rfl, ?_⟩) (by assumption) ?_
  rotate_left 1
  · intro w' hSw
    (try dsimp only at hSw)
    go_simp
    first | done | with_reducible rfl
  simp only [Act.put, List.setIfInBounds_toArray, List.set_cons_zero, List.set_cons_succ]
  refine wpAnyH_done (by kernel_rfl) ?_ _
  refine NoPanic.normal ?_
  have hf5 := hfz _ hK5
  obtain ⟨g1, g2⟩ := hFin.out _ hK5
  obtain ⟨g3, g4⟩ := hkp _ hK5
  go_wp2
  go_ret
  exact ⟨rfl, g1, g2⟩
end
end Go.Proofs.YthhildeocedpiaaDoor
