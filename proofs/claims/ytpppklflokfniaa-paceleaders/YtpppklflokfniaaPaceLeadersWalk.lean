/- PaceLeaders: the walk. -/
import Derived.Test.YtpppklflokfniaaPaceWorks
import Derived.Test.YtpppklflokfniaaInts
import Derived.Test.YtpppklflokfniaaMapInt
namespace Go.Proofs.Ytpppklflokfniaa
open Go.RowKit Go.Maps
set_option linter.unusedVariables false

/-- Who led in the first i views from f on. -/
def ledF (n : Nat) (f : Int) (i : Nat) (k : Int) : Option Value := if ∃ j : Nat, j < i ∧ leadN n (f + j) = k then some (.bool true) else none

theorem led_none (n : Nat) (f : Int) (k : Int) : ledF n f 0 k = none := if_neg (fun ⟨j, h, _⟩ => by omega)

theorem lead_apart {n : Nat} {f : Int} {i j : Nat} (hf : 0 ≤ f) (hi : i < n) (hj : j < i) : leadN n (f + j) ≠ leadN n (f + i) := by
  unfold leadN
  rw [if_neg (by omega), if_neg (by omega)]
  intro e
  have h1 := Int.emod_emod_of_dvd (f + i - (f + j)) (Int.dvd_refl (n : Int))
  have h2 : (f + i - (f + j)) % (n : Int) = 0 := by rw [Int.sub_emod, e, Int.sub_self]; rfl
  have h3 : (f + (i : Int) - (f + j)) = ((i - j : Nat) : Int) := by omega
  rw [h3] at h2
  have h4 : ((i - j : Nat) : Int) % (n : Int) = ((i - j : Nat) : Int) := Int.emod_eq_of_lt (by omega) (by omega)
  omega

theorem led_new {n : Nat} {f : Int} {i : Nat} (hf : 0 ≤ f) (hi : i < n) : ledF n f i (leadN n (f + i)) = none := if_neg (fun ⟨j, h, e⟩ => lead_apart hf hi h e)

theorem led_put {n : Nat} {f : Int} {i : Nat} (k : Int) : ledF n f (i + 1) k = putFI (ledF n f i) (leadN n (f + i)) (.bool true) k := by
  unfold putFI ledF
  by_cases h : k = leadN n (f + i)
  · rw [if_pos h, if_pos ⟨i, by omega, h.symm⟩]
  · rw [if_neg h]
    congr 1
    simp only [eq_iff_iff]
    constructor
    · rintro ⟨j, h1, h2⟩
      rcases (by omega : j = i ∨ j < i) with rfl | h3
      · exact absurd h2.symm h
      · exact ⟨j, h3, h2⟩
    · rintro ⟨j, h1, h2⟩
      exact ⟨j, by omega, h2⟩

theorem lead_turn {n : Nat} {f : Int} (hf : 0 ≤ f) : leadN n (f + n) = leadN n f := by
  unfold leadN
  rw [if_neg (by omega), if_neg (by omega), Int.add_emod_right]

theorem zeroBool18 (w : World) : (zeroValue 4).run Try.prog w = .ok (.bool false) w := by kernel_rfl

set_option maxRecDepth 100000 in
set_option maxHeartbeats 2000000 in
theorem paceLeaders_walk (n from_ : Int) (W : World) (_ : (Lit.int .i64 n).wf = true) (_ : (Lit.int .i64 from_).wf = true) :
    Calls Try.prog 5 #[.int .i64 n, .int .i64 from_] W fun e w' => e = .returned (.bool true) ∧ Below W.heap.size W w' := by
  obtain ⟨m, hm, hme⟩ := pick_atC n 7 (by omega) (by omega)
  obtain ⟨f, hf, hfe⟩ := pick_atC from_ 1152921504606846976 (by omega) (by omega)
  have hme' : Hid (wrap64 ((IntKind.u64.wrap n).tmod 7) = (m : Int)) := hme
  have hfe' : Hid (wrap64 ((IntKind.u64.wrap from_).tmod 1152921504606846976) = (f : Int)) := hfe
  have hme2 : Hid (wrap64 (1 + wrap64 ((IntKind.u64.wrap n).tmod 7)) = ((1 + m : Nat) : Int)) := by
    show _ = _
    rw [hme'.out, Mx.wrap64_small _ (by omega) (by omega)]
    omega
  clear hme hfe hme'
  have cWk := works18_any W
  obtain ⟨N, hN⟩ : ∃ N : Nat, N = 1 + m := ⟨_, rfl⟩
  rw [← hN] at hme2
  have cN := fun w => paNew_yes N 10 w (by omega) (by omega) (by omega) (by omega)
  have hN1 : 1 ≤ N := by omega
  have hN2 : N ≤ 7 := by omega
  have hoN : PaOk ⟨N, 10, 1, 0, 0⟩ := PaOk.new (by omega) (by omega) (by omega) (by omega)
  clear hN
  have hf0 : (0 : Int) ≤ (f : Int) := by omega
  go_enter Try.func5, Try.ntmps5
  go_wp2_with fail
  refine cWk.mono ?_
  rintro e w0 ⟨rfl, hb0⟩
  clear cWk
  go_wp2_with fail
  rw [hme2.out]
  refine (cN w0).mono ?_
  rintro e w1 ⟨rfl, h1, hb1⟩
  have hO : One18 W w1 w0.heap.size ⟨N, 10, 1, 0, 0⟩ := One18.new hb0 h1 hb1 hoN
  clear cN h1 hb1 hb0 hoN hme2
  generalize w0.heap.size = b at hO ⊢
  have hmm := @run_makeMap Try.prog
  have hM0 := IMap.new w1
  have hbM := belowNew w1 (.map #[] 0)
  have hO2 := hO.below hbM
  have hmb : w1.heap.size ≠ b := by have := hO.at_.box.lt; omega
  have hmW : W.heap.size ≤ w1.heap.size := hO.bel.size
  go_wp2_with fail
  rw [hfe'.out]
  clear hmm hfe' hbM hO
  generalize hmbe : w1.heap.size = mb at *
  generalize w1.alloc (.map #[] 0) = w2 at *
  clear hmbe
  go_loopw [8, 9] (fun v8 _ wr => ∃ i : Nat, i ≤ N ∧ v8 = .int .i64 (i : Int) ∧ One18 W wr b ⟨N, 10, 1, 0, 0⟩ ∧ IMap wr mb (ledF N f i) i) (fun v _ _ => N - (intOf v).toNat)
  case atStart => exact ⟨0, by omega, rfl, hO2, hM0.congr (led_none N f)⟩
  case round =>
    obtain ⟨i, hi, rfl, hR, hM⟩ := hrel
    clear hO2 hM0
    by_cases hlt : i < N
    · have g : (i : Int) < (N : Int) := by omega
      have cL := paLeader_any ((f : Int) + (i : Int)) b _ _ hR.at_ hR.ok
      obtain ⟨k1, k2⟩ := lead_range hN1 ((f : Int) + (i : Int))
      have hnew := led_new (n := N) (f := f) (i := i) hf0 hlt
      have hput := @led_put N f i
      simp only at cL
      generalize leadN N ((f : Int) + (i : Int)) = K at cL k1 k2 hnew hput
      have hput' : Hid _ := hput
      have hpn : Hid (putNI (ledF N f i) K i = i + 1) := by show _ = _; unfold putNI; rw [hnew]; rfl
      have hgd : Hid ((ledF N f i K).getD (.bool false) = .bool false) := by show _ = _; rw [hnew]; rfl
      have hmx : i < maxLen := by unfold maxLen; omega
      have hkw : (Lit.int .i64 K).wf = true := WalkArith.wf_i64 (by omega)
      have g1 : (K < 0) = False := by simp only [eq_iff_iff, iff_false]; omega
      have g2 : ((N : Int) ≤ K) = False := by simp only [eq_iff_iff, iff_false]; omega
      clear k1 k2
      clear hput hnew
      go_wp2_with fail
      refine cL.mono ?_
      rintro e w3 ⟨rfl, rfl⟩
      have hz := zeroBool18 w3
      go_wp2_with (first
        | (at_lookup; refine imap_look (by rfl) _ _ 43 rfl 4 Try.underlying43 _ hz mb _ _ rfl hM K hkw rfl ?_; rw [hgd.out])
        | (at_mapUpdate; refine imap_put rfl _ _ _ 43 rfl 4 Try.underlying43 mb _ _ rfl hM hmx K hkw rfl _ rfl ?_; intro wM hM2 hkM; rw [hpn.out] at hM2; have hM3 := hM2.congr hput'.out))
      have hR4 : One18 W wM b ⟨N, 10, 1, 0, 0⟩ := ⟨hR.at_.kept hkM (fun e => hmb e.symm), hR.ge, hR.bel.trans (hkM.below hR.bel.size (fun k e => by have e' : k = mb := e; omega)), hR.ok⟩
      clear cL hM hR hM2 hkM hz hput' hpn hgd
      go_roundw
      case rel => exact ⟨i + 1, by omega, by go_num, hR4, hM3⟩
      case measure => simp [intOf]; omega
    · obtain rfl : i = N := by omega
      have g : ¬ (i : Int) < (i : Int) := by omega
      have cL := paLeader_any (f : Int) b _ _ hR.at_ hR.ok
      have cM := paLeader_any ((f : Int) + (i : Int)) b _ _ hR.at_ hR.ok
      simp only [lead_turn hf0] at cM
      simp only at cL
      generalize leadN i (f : Int) = K at cL cM
      go_wp2_with fail
      refine cL.mono ?_
      rintro e w3 ⟨rfl, rfl⟩
      go_wp2_with fail
      refine cM.mono ?_
      rintro e w4 ⟨rfl, rfl⟩
      go_wp2
      go_ret
      exact ⟨rfl, hR.bel⟩
end Go.Proofs.Ytpppklflokfniaa
