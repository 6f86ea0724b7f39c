/- What tusklaw07.works does; nothing old in memory is turned. -/
import Derived.Test.YtjebfkgigijnhaaDoorVotesSt
import Derived.Test.YtjebfkgigijnhaaDoorHdrWorks
import Derived.Deep.RegionHeld3
namespace Go.Proofs.YtjebfkgigijnhaaDoor
open Go.RowKit Go.Sort
set_option linter.unusedVariables false

set_option maxRecDepth 100000 in
set_option maxHeartbeats 1000000 in
theorem both_zero (w : World) (hG : Mx.Glob w) :
    Calls Tryd.prog 8 #[.int .i64 0] w fun e w' => ∃ b r : Nat, e = .returned (.tuple #[.pointer (some ⟨b, 0, none⟩), .pointer (some ⟨r, 0, none⟩), .bool true]) ∧ Mx.TabAt w' b 1 (Mx.keysL seedW 4) ∧ Below w.heap.size w w' := by
  have cA := fun w1 hg => Mx.new_yes 1 seedW w1 (by omega) (by omega) (by decide) hg
  have cR := fun w1 hg => Mx.refNew_yes 1 seedW w1 (by omega) (by omega) (by decide) hg
  obtain ⟨ks, hks⟩ : ∃ q, Hid (q = Mx.keysL seedW 4) := ⟨_, rfl⟩
  have e4 : Mx.keysL seedW (3 * 1 + 1) = ks := hks.out.symm
  rw [e4] at cA cR
  rw [← hks.out]
  unfold seedW at cA cR
  clear e4 hks
  go_enter Tryd.func8, Tryd.ntmps8
  go_wp2_with fail
  refine (cA _ hG).mono ?_
  rintro e w1 ⟨b, rfl, hb1, hT1, hB1⟩
  clear cA
  go_wp2_with fail
  refine (cR _ (hG.below hB1)).mono ?_
  rintro e w2 ⟨r, rfl, hr2, hT2, hB2⟩
  have hT3 := hT1.below hB2
  have hB3 := hB1.trans (hB2.mono hB1.size)
  clear cR hT1 hB1 hB2
  go_wp2
  go_ret3
  exact ⟨b, r, rfl, hT3, hB3⟩

def kW : ByteArray := ⟨#[107]⟩
def wW : ByteArray := ⟨#[119]⟩

/-- The tags of the three. -/
def wkT (ks : List ByteArray) (k : Nat) : TagD := ⟨(k : Int), Mx.macOf (ks.getD k ⟨#[]⟩) kW wW⟩

/-- The places behind m rounds. -/
def wkP (ks : List ByteArray) : Nat → List (Option TagD)
  | 0 => noP
  | 1 => [none, none, some (wkT ks 2), none, none, none, none]
  | 2 => [none, some (wkT ks 1), some (wkT ks 2), none, none, none, none]
  | _ => [some (wkT ks 0), some (wkT ks 1), some (wkT ks 2), none, none, none, none]

theorem wkT_chk {ks : List ByteArray} (hk : ks.length = 4) {k : Nat} (h : k < 4) : chkT ks kW wW (wkT ks k) = 0 := by
  unfold chkT Mx.checkR wkT
  simp only
  rw [if_neg (by omega), if_pos (by rw [Int.toNat_natCast])]

theorem wkP_add {ks : List ByteArray} (hk : ks.length = 4) {m : Nat} (hm : m < 3) :
    addE (chkT ks kW wW) (wkP ks m) (wkT ks (2 - m)) = 0 ∧ addP (chkT ks kW wW) (wkP ks m) (wkT ks (2 - m)) = wkP ks (m + 1) ∧ addE (chkT ks kW wW) (wkP ks (m + 1)) (wkT ks (2 - m)) = 13 ∧ addP (chkT ks kW wW) (wkP ks (m + 1)) (wkT ks (2 - m)) = wkP ks (m + 1) := by
  have hc := wkT_chk hk (k := 2 - m) (by omega)
  have ht : (wkT ks (2 - m)).who.toNat = 2 - m := by simp [wkT]
  have h0 : (wkP ks m)[2 - m]? = some none := by
    match m, hm with
    | 0, _ => rfl
    | 1, _ => rfl
    | 2, _ => rfl
  have h1 : ∃ u, (wkP ks (m + 1))[2 - m]? = some (some u) := by
    match m, hm with
    | 0, _ => exact ⟨_, rfl⟩
    | 1, _ => exact ⟨_, rfl⟩
    | 2, _ => exact ⟨_, rfl⟩
  obtain ⟨u, h1⟩ := h1
  obtain ⟨a1, a2⟩ := addE_ok hc ht h0
  obtain ⟨b1, b2⟩ := addE_ok hc ht h1
  refine ⟨a1, ?_, b1, b2⟩
  rw [a2]
  match m, hm with
  | 0, _ => rfl
  | 1, _ => rfl
  | 2, _ => rfl

set_option maxRecDepth 100000 in
set_option maxHeartbeats 4000000 in
theorem works7_any (w : World) (hG : Mx.Glob w) :
    Calls Tryd.prog 24 #[] w fun e w' => e = .returned (.bool true) ∧ Below w.heap.size w w' := by
  have cB := both_zero w hG
  go_enter Tryd.func24, Tryd.ntmps24
  go_wp2_with fail
  refine cB.mono ?_
  rintro e w1 ⟨tb, rb, rfl, hT1, hB1⟩
  have hG1 := hG.below hB1
  have hk32 : ∀ k ∈ Mx.keysL seedW 4, k.size ≤ 32 := Mx.keysL_size _ _
  have hkl : (Mx.keysL seedW 4).length = 4 := Mx.keysL_len _ _
  generalize Mx.keysL seedW 4 = ks at *
  have env : VEnv w1 tb 1 ks kW wW := ⟨hT1, by omega, hkl, hk32, by decide, by decide, hG1⟩
  have cC := env.collect (Below.refl _ _)
  unfold kW wW at cC
  clear cB
  go_wp2_with fail
  refine cC.mono ?_
  rintro e w2 ⟨vb, rfl, hvb, hS2, hb2⟩
  have hS2' : VSt w1 tb 1 ks kW wW vb (wkP ks 0) w2 := hS2
  clear cC hS2 hb2
  have Hkl : Hid (ks.length = 4) := hkl
  clear hkl
  go_wp2_with fail
  go_loopw [5, 6, 7, 8] (fun v5 v6 _ _ wr => ∃ m : Nat, m ≤ 3 ∧ v5 = .int .i64 (m : Int) ∧ v6 = .int .i64 (2 - (m : Int)) ∧ VSt w1 tb 1 ks kW wW vb (wkP ks m) wr) (fun v _ _ _ _ => 3 - (intOf v).toNat)
  case atStart => exact ⟨0, by omega, rfl, rfl, hS2'⟩
  case round =>
    obtain ⟨m, hm, rfl, rfl, hS⟩ := hrel
    clear hS2'
    by_cases hlt : m < 3
    · obtain ⟨q, hq⟩ : ∃ q, q = 2 - m := ⟨_, rfl⟩
      have hqe : 2 - (m : Int) = (q : Int) := by omega
      have hge : (0 : Int) ≤ (q : Int) := by omega
      rw [hqe]
      obtain ⟨a1, a2, a3, a4⟩ := wkP_add Hkl.out hlt
      rw [← hq] at a1 a2 a3 a4
      have cS := Mx.sign_yes tb 1 ks q kW wW wr (hT1.below hS.bel) (ks.getD q ⟨#[]⟩) (Mx.getD_some (by have := Hkl.out; omega)) hk32 (by decide) (by decide) (hG1.below hS.bel)
      have cA1 := fun w h => VEnv.add env (P := wkP ks m) (w := w) (vb := vb) h (wkT ks q)
      have cA2 := fun w h => VEnv.add env (P := wkP ks (m + 1)) (w := w) (vb := vb) h (wkT ks q)
      rw [a1, a2] at cA1
      rw [a3, a4] at cA2
      unfold Mx.tagV at cS
      unfold wkT at cA1 cA2
      simp only at cA1 cA2
      obtain ⟨mac, hmac⟩ : ∃ z, z = Mx.macOf (ks.getD q ⟨#[]⟩) kW wW := ⟨_, rfl⟩
      rw [← hmac] at cS cA1 cA2
      unfold kW wW at cS
      have He : Hid (wrap64 ((q : Int) - 1) = 2 - ((m + 1 : Nat) : Int)) := by show _ = _; unfold wrap64; omega
      clear hmac a1 a2 a3 a4 hqe hq
      go_wp2_with fail
      refine cS.mono ?_
      rintro e w3 ⟨rfl, hb3⟩
      have hbx := belowNew w3 (.cells #[.int .i64 (q : Int), .string mac] 47)
      have hX4 := Arr.new w3 47 [.int .i64 (q : Int), .string mac]
      have hS4 := (hS.below hb3).below hbx
      have hne : w3.heap.size ≠ vb := by have := (hS.below hb3).lt; omega
      clear cS hS hb3 hbx
      obtain ⟨w4, hw4⟩ : ∃ z, w3.alloc (.cells #[.int .i64 (q : Int), .string mac] 47) = z := ⟨_, rfl⟩
      rw [hw4] at hX4 hS4
      have x0 := hX4.cell (i := 0) rfl
      have x1 := hX4.cell (i := 1) rfl
      go_wp2_with fail
      refine (cA1 _ hS4).mono ?_
      rintro e w5 ⟨rfl, hS5, hk5⟩
      have hX5 := hX4.kept hk5 hne
      clear cA1 hS4 hk5 hX4 hw4 x0 x1
      have x0 := hX5.cell (i := 0) rfl
      have x1 := hX5.cell (i := 1) rfl
      go_wp2_with fail
      refine (cA2 _ hS5).mono ?_
      rintro e w6 ⟨rfl, hS6, hk6⟩
      clear cA2 hS5 hk6 hX5 x0 x1
      go_wp2
      go_roundw
      case rel => exact ⟨m + 1, by omega, by go_num, by rw [← He.out], hS6⟩
      case measure => simp [intOf]; omega
    · obtain rfl : m = 3 := by omega
      have cT := env.tags hS
      have cF := fun w h => VEnv.full env (P := wkP ks 3) (w := w) (vb := vb) h
      have hl3 : inL (wkP ks 3) = [wkT ks 0, wkT ks 1, wkT ks 2] := rfl
      rw [hl3] at cT
      simp only [hl3] at cF
      have hd : decide (2 * 1 + 1 ≤ [wkT ks 0, wkT ks 1, wkT ks 2].length) = true := by simp
      rw [hd] at cF
      have hlen : [wkT ks 0, wkT ks 1, wkT ks 2].length = 3 := rfl
      rw [hlen] at cT
      clear hl3 hd
      have hneg : ¬ (0 : Int) ≤ 2 - ((3 : Nat) : Int) := by omega
      go_wp2_with fail
      refine cT.mono ?_
      rintro e w3 ⟨ao, cap, rfl, hA, hn, hf, hb3⟩
      have hS3 := hS.below hb3
      obtain ⟨b, off, rfl, hbl, y0, _⟩ := hA.tag (i := 0) rfl
      have hA2 : ∀ w', Below w3.heap.size w3 w' → RowAt tagK w' (some ⟨b, off, none⟩) [wkT ks 0, wkT ks 1, wkT ks 2] := fun w' h => hA.below h
      clear cT hS hb3
      go_wp2_with fail
      refine (cF _ hS3).mono ?_
      rintro e w4 ⟨rfl, hb4⟩
      have hBF := hB1.trans ((hS3.below hb4).bel.mono hB1.size)
      have hA4 := hA2 w4 hb4
      obtain ⟨b', off', e', _, z0, _⟩ := hA4.tag (i := 0) rfl
      obtain ⟨rfl, rfl⟩ : b' = b ∧ off' = off := by simp at e'; exact ⟨e'.1.symm, e'.2.symm⟩
      obtain ⟨b2, off2, e2, _, z2, _⟩ := hA4.tag (i := 2) rfl
      obtain ⟨rfl, rfl⟩ : b2 = b' ∧ off2 = off' := by simp at e2; exact ⟨e2.1.symm, e2.2.symm⟩
      have q0 : w4.cell? ⟨b2, off2, none⟩ = some (.int .i64 0) := by simpa [wkT] using z0
      have q2 : w4.cell? ⟨b2, off2 + 4, none⟩ = some (.int .i64 2) := by simpa [wkT] using z2
      clear cF hS3 hb4 hA2 hA4 hA z0 z2 y0 e' e2 hf hn
      go_wp2
      go_ret
      exact ⟨rfl, hBF⟩
end Go.Proofs.YtjebfkgigijnhaaDoor
