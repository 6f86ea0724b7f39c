/- A pace that the call has made; the laws' own example. -/
import Derived.Test.YtpppklflokfniaaPaceFns
namespace Go.Proofs.Ytpppklflokfniaa
open Go.RowKit
set_option linter.unusedVariables false

/-- A pace that is new since W, where nothing old is turned. -/
structure One18 (W w : World) (b : Nat) (d : PaD) : Prop where
  at_ : PaAt w b d
  ge : W.heap.size ≤ b
  bel : Below W.heap.size W w
  ok : PaOk d

theorem One18.step {W w w' : World} {b : Nat} {d d' : PaD} (h : One18 W w b d) (ha : PaAt w' b d') (hk : Kept (fun k => k = b) w w') (ho : PaOk d') : One18 W w' b d' :=
  ⟨ha, h.ge, h.bel.trans (hk.below h.bel.size (fun k e => by have := h.ge; have e' : k = b := e; omega)), ho⟩

theorem One18.drewN {W w : World} {b : Nat} {d : PaD} (h : One18 W w b d) (n : Nat) : One18 W (w.drewN n) b d := ⟨h.at_.drewN n, h.ge, h.bel.trans ((below_drewN (Below.refl _ _) n).mono h.bel.size), h.ok⟩

theorem One18.below {W w w' : World} {b : Nat} {d : PaD} (h : One18 W w b d) (hb : Below w.heap.size w w') : One18 W w' b d := ⟨h.at_.below hb, h.ge, h.bel.trans (hb.mono h.bel.size), h.ok⟩

theorem One18.new {W w w' : World} {d : PaD} (hb : Below W.heap.size W w) (h : PaAt w' w.heap.size d) (hb' : Below w.heap.size w w') (ho : PaOk d) : One18 W w' w.heap.size d := ⟨h, hb.size, hb.trans (hb'.mono hb.size), ho⟩

/-- The example's pace behind so many ticks. -/
def wkD (i : Nat) : PaD := if i < 4 then ⟨4, 10, 1, 0, i⟩ else ⟨4, 10, 2, 1, 0⟩

theorem wk_tick (i : Nat) (h : i < 4) : tickB (wkD i) = decide (i = 3) ∧ tickP (wkD i) = wkD (i + 1) ∧ (wkD i).fails = 0 := by
  rcases (by omega : i = 0 ∨ i = 1 ∨ i = 2 ∨ i = 3) with rfl | rfl | rfl | rfl <;> exact ⟨by decide, rfl, rfl⟩

set_option maxRecDepth 100000 in
set_option maxHeartbeats 1000000 in
theorem works18_any (W : World) : Calls Try.prog 20 #[] W fun e w' => e = .returned (.bool true) ∧ Below W.heap.size W w' := by
  have cN := paNew_yes 4 10 W (by decide) (by decide) (by decide) (by decide)
  go_enter Try.func20, Try.ntmps20
  go_wp2_with fail
  refine cN.mono ?_
  rintro e w0 ⟨rfl, h0, hb0⟩
  have hO : One18 W w0 W.heap.size (wkD 0) := One18.new (Below.refl _ _) h0 hb0 (PaOk.new (by decide) (by decide) (by decide) (by decide))
  clear cN h0 hb0
  generalize W.heap.size = b at hO ⊢
  go_wp2_with fail
  go_loopw [3, 4] (fun v3 v4 wr => ∃ i : Nat, i ≤ 4 ∧ v4 = .int .i64 (i : Int) ∧ v3 = .int .i64 (if i = 4 then 1 else 0) ∧ One18 W wr b (wkD i)) (fun _ v _ => 4 - (intOf v).toNat)
  case atStart => exact ⟨0, by omega, rfl, rfl, hO⟩
  case round =>
    obtain ⟨i, hi, rfl, rfl, hR⟩ := hrel
    clear hO
    by_cases h4 : i < 4
    · obtain ⟨t1, t2, t3⟩ := wk_tick i h4
      have cT := paTick_any b _ _ hR.at_ hR.ok (by rw [t3]; omega)
      rw [t1, t2] at cT
      have ho := hR.ok.tick
      rw [t2] at ho
      have g : (i : Int) < 4 := by omega
      rw [if_neg (by omega : ¬ i = 4)]
      by_cases h3 : i = 3
      · subst h3
        rw [decide_eq_true rfl] at cT
        go_wp2_with fail
        refine cT.mono ?_
        rintro e w1 ⟨rfl, h1, hk1⟩
        have hR1 := hR.step h1 hk1 ho
        clear cT hR h1 hk1 ho t1 t2 t3
        go_wp2
        go_roundw
        case rel => exact ⟨4, by omega, by go_num, by go_num, hR1⟩
        case measure => simp [intOf]
      · rw [decide_eq_false h3] at cT
        go_wp2_with fail
        refine cT.mono ?_
        rintro e w1 ⟨rfl, h1, hk1⟩
        have hR1 := hR.step h1 hk1 ho
        clear cT hR h1 hk1 ho t1 t2 t3
        go_wp2
        go_roundw
        case rel => exact ⟨i + 1, by omega, by go_num, by rw [if_neg (by omega)], hR1⟩
        case measure => simp [intOf]; omega
    · obtain rfl : i = 4 := by omega
      have e4 : wkD 4 = ⟨4, 10, 2, 1, 0⟩ := rfl
      rw [e4] at hR
      have cW := paWait_any b _ _ hR.at_ (by decide)
      rw [show waitN 1 10 = 8 by decide] at cW
      go_wp2_with fail
      refine cW.mono ?_
      rintro e w1 ⟨rfl, m, rfl⟩
      have hR1 := hR.drewN m
      clear cW hR
      generalize World.drewN _ m = w1 at hR1 ⊢
      have cV := paView_any b _ _ hR1.at_
      have cE := paEnter_any 5 b _ _ hR1.at_
      rw [show upB ⟨4, 10, 2, 1, 0⟩ 5 = true by decide, show enterP ⟨4, 10, 2, 1, 0⟩ 5 = ⟨4, 10, 5, 0, 0⟩ by rfl] at cE
      go_wp2_with fail
      refine cV.mono ?_
      rintro e w2 ⟨rfl, rfl⟩
      go_wp2_with fail
      refine cE.mono ?_
      rintro e w3 ⟨rfl, h3, hk3⟩
      have hR3 := hR1.step h3 hk3 (by have := hR1.ok.enter 5; rwa [show enterP ⟨4, 10, 2, 1, 0⟩ 5 = ⟨4, 10, 5, 0, 0⟩ by rfl] at this)
      have cV2 := paView_any b _ _ hR3.at_
      have cL := paLeader_any 5 b _ _ hR3.at_ hR3.ok
      rw [show leadN 4 5 = 1 by decide] at cL
      clear cV cE h3 hk3 hR1
      go_wp2_with fail
      refine cV2.mono ?_
      rintro e w4 ⟨rfl, rfl⟩
      go_wp2_with fail
      refine cL.mono ?_
      rintro e w5 ⟨rfl, rfl⟩
      go_wp2
      go_ret
      exact ⟨rfl, hR3.bel⟩
end Go.Proofs.Ytpppklflokfniaa
