/- What the calls of the program's pace do. -/
import Derived.Test.YtpppklflokfniaaPaceMath
import Derived.BigQuiet
import Derived.BigRegion
import Derived.Deep.QuietTactic
import Derived.Deep.RegionWith
namespace Go.Proofs.Ytpppklflokfniaa
open Go.RowKit
set_option linter.unusedVariables false

/-- A pace, as it lies. -/
structure PaAt (w : World) (b : Nat) (d : PaD) : Prop where
  box : Arr w b 48 [.int .i64 d.view, .int .i64 (d.fails : Int), .int .i64 (d.ticks : Int), .int .i64 (d.n : Int), .int .i64 (d.most : Int)]

theorem PaAt.below {w w' : World} {b : Nat} {d : PaD} (h : PaAt w b d) (hb : Below w.heap.size w w') : PaAt w' b d := ⟨h.box.below hb h.box.lt⟩

theorem PaAt.kept {S : Nat → Prop} {w w' : World} {b : Nat} {d : PaD} (h : PaAt w b d) (hk : Kept S w w') (hn : ¬ S b) : PaAt w' b d := ⟨h.box.kept hk hn⟩

theorem PaAt.drewN {w : World} {b : Nat} {d : PaD} (h : PaAt w b d) (n : Nat) : PaAt (w.drewN n) b d := ⟨h.box.drewN n⟩

set_option maxRecDepth 100000 in
theorem paNew_yes (n most : Nat) (w : World) (h1 : 1 ≤ n) (h2 : n ≤ 7) (h3 : 1 ≤ most) (h4 : most ≤ 1000) :
    Calls Try.prog 7 #[.int .i64 (n : Int), .int .i64 (most : Int)] w fun e w' => e = .returned (.tuple #[.pointer (some ⟨w.heap.size, 0, none⟩), .int .i64 0]) ∧ PaAt w' w.heap.size ⟨n, most, 1, 0, 0⟩ ∧ Below w.heap.size w w' := by
  have g1 : ¬ (n : Int) < 1 := by omega
  have g2 : ¬ (7 : Int) < (n : Int) := by omega
  have g3 : ¬ (most : Int) < 1 := by omega
  have g4 : ¬ (1000 : Int) < (most : Int) := by omega
  have hA := Arr.new w 48 [.int .i64 1, .int .i64 0, .int .i64 0, .int .i64 (n : Int), .int .i64 (most : Int)]
  have hB := belowNew w (.cells #[.int .i64 1, .int .i64 0, .int .i64 0, .int .i64 (n : Int), .int .i64 (most : Int)] 48)
  go_enter Try.func7, Try.ntmps7
  go_wp2
  go_ret2
  exact ⟨rfl, ⟨hA⟩, hB⟩

set_option maxRecDepth 100000 in
theorem paNew_no (n most : Int) (w : World) (h : ¬ (1 ≤ n ∧ n ≤ 7 ∧ 1 ≤ most ∧ most ≤ 1000)) :
    Calls Try.prog 7 #[.int .i64 n, .int .i64 most] w fun e w' => e = .returned (.tuple #[.pointer none, .int .i64 2]) ∧ w' = w := by
  have hc : n < 1 ∨ (¬ n < 1 ∧ 7 < n) ∨ (¬ n < 1 ∧ ¬ 7 < n ∧ most < 1) ∨ (¬ n < 1 ∧ ¬ 7 < n ∧ ¬ most < 1 ∧ 1000 < most) := by omega
  rcases hc with k1 | ⟨k1, k2⟩ | ⟨k1, k2, k3⟩ | ⟨k1, k2, k3, k4⟩
  all_goals
    go_enter Try.func7, Try.ntmps7
    go_wp2
    go_ret2
    exact ⟨rfl, rfl⟩

set_option maxRecDepth 100000 in
theorem paView_any (b : Nat) (d : PaD) (w : World) (h : PaAt w b d) :
    Calls Try.prog 16 #[.pointer (some ⟨b, 0, none⟩)] w fun e w' => e = .returned (.int .i64 d.view) ∧ w' = w := by
  have c0 := h.box.cell (i := 0) rfl
  go_enter Try.func16, Try.ntmps16
  go_wp2
  go_ret
  exact ⟨rfl, rfl⟩

set_option maxRecDepth 100000 in
theorem paLeader_any (v : Int) (b : Nat) (d : PaD) (w : World) (h : PaAt w b d) (hd : PaOk d) :
    Calls Try.prog 18 #[.pointer (some ⟨b, 0, none⟩), .int .i64 v] w fun e w' => e = .returned (.int .i64 (leadN d.n v)) ∧ w' = w := by
  have c3 := h.box.cell (i := 3) rfl
  have hn1 := hd.n1
  have hn7 := hd.n7
  have hl := lead_range hn1 v
  generalize d.n = n at c3 hn1 hn7 hl ⊢
  unfold leadN at hl ⊢
  by_cases h0 : v < 0
  · rw [if_pos h0] at hl ⊢
    have g0 : (n : Int) ≠ 0 := by omega
    go_enter Try.func18, Try.ntmps18
    go_wp2
    go_ret
    exact ⟨rfl, rfl⟩
  · rw [if_neg h0] at hl ⊢
    have g0 : (n : Int) ≠ 0 := by omega
    go_enter Try.func18, Try.ntmps18
    go_wp2
    go_ret
    exact ⟨rfl, rfl⟩

set_option maxRecDepth 100000 in
theorem paDoubled_any (b : Nat) (d : PaD) (w : World) (h : PaAt w b d) (hf : d.fails ≤ 1000000000) :
    Calls Try.prog 22 #[.pointer (some ⟨b, 0, none⟩)] w fun e w' => e = .returned (.int .i64 ((4 * 2 ^ min d.fails 16 : Nat) : Int)) ∧ w' = w := by
  have c1 := h.box.cell (i := 1) rfl
  generalize d.fails = f at c1 hf ⊢
  by_cases hk : 16 < f
  · have e : min f 16 = 16 := by omega
    rw [e]
    have g : ¬ (f : Int) ≤ 16 := by omega
    go_enter Try.func22, Try.ntmps22
    have hw : wrap64 262144 = 262144 := Mx.wrap64_small _ (by decide) (by decide)
    go_wp2
    go_ret
    exact ⟨rfl, rfl⟩
  · have e : min f 16 = f := by omega
    rw [e]
    have g : (f : Int) ≤ 16 := by omega
    have hw := wrap_pow (Nat.not_lt.1 hk)
    have e2 : ((4 * 2 ^ f : Nat) : Int) = 4 * 2 ^ f := by simp
    rw [e2]
    clear e2
    go_enter Try.func22, Try.ntmps22
    go_wp2
    go_ret
    exact ⟨congrArg (fun v => Ending.returned (.int .i64 v)) hw, rfl⟩

theorem keptB {w w' : World} {b i : Nat} {v : Value} (h : Kept (fun k => k = b) w w') : Kept (fun k => k = b) w (w'.setCell ⟨b, i, none⟩ v) := h.set (p := ⟨b, i, none⟩) rfl v

theorem keptD {S : Nat → Prop} {w w' : World} (h : Kept S w w') (n : Nat) : Kept S w (w'.drewN n) := h.trans (Kept.of_below (below_drewN (Below.refl _ _) n))

set_option maxRecDepth 100000 in
theorem paWait_any (b : Nat) (d : PaD) (w : World) (h : PaAt w b d) (hf : d.fails ≤ 1000000000) :
    Calls Try.prog 15 #[.pointer (some ⟨b, 0, none⟩)] w fun e w' => e = .returned (.tuple #[.int .i64 (waitN d.fails d.most : Int), .int .i64 (d.ticks : Int)]) ∧ ∃ m, w' = w.drewN m := by
  have c4 := h.box.cell (i := 4) rfl
  have c2 := h.box.cell (i := 2) rfl
  have cD := fun m => paDoubled_any b d (w.drewN m) (h.drewN m) hf
  unfold waitN
  generalize 4 * 2 ^ min d.fails 16 = D at cD ⊢
  generalize d.most = M at c4 ⊢
  rcases (by omega : ((D : Int) ≤ (M : Int) ∧ min D M = D) ∨ (¬ (D : Int) ≤ (M : Int) ∧ min D M = M)) with ⟨g, e⟩ | ⟨g, e⟩
  all_goals
    rw [e]
    go_enter Try.func15, Try.ntmps15
    go_wp2_with fail
    go_quiet (exact Calls.quiet_of_same (cD _))
    go_wp2
    go_ret2
    exact ⟨rfl, _, rfl⟩

set_option maxRecDepth 100000 in
theorem paGoOn_any (v : Int) (b : Nat) (d : PaD) (w : World) (h : PaAt w b d) :
    Calls Try.prog 21 #[.pointer (some ⟨b, 0, none⟩), .int .i64 v] w fun e w' => e = .returned (.bool (upB d v)) ∧ PaAt w' b (followP d v) ∧ Kept (fun k => k = b) w w' := by
  have c0 := h.box.cell (i := 0) rfl
  have c2 := h.box.cell (i := 2) rfl
  have f0 := h.box.frozen 0
  have f2 := h.box.frozen 2
  unfold followP upB
  rcases (by omega : v ≤ d.view ∨ (¬ v ≤ d.view ∧ 4611686018427387903 < v) ∨ (¬ v ≤ d.view ∧ ¬ 4611686018427387903 < v)) with k | ⟨k, k2⟩ | ⟨k, k2⟩
  · rw [decide_eq_false (by omega : ¬ d.view < v), Bool.false_and, if_neg (by decide)]
    go_enter Try.func21, Try.ntmps21
    go_wp2
    go_ret
    exact ⟨rfl, h, Kept.refl _ _⟩
  · rw [decide_eq_false (by omega : ¬ v ≤ 4611686018427387903), Bool.and_false, if_neg (by decide)]
    go_enter Try.func21, Try.ntmps21
    go_wp2
    go_ret
    exact ⟨rfl, h, Kept.refl _ _⟩
  · rw [decide_eq_true (by omega : d.view < v), decide_eq_true (by omega : v ≤ 4611686018427387903), Bool.and_self, if_pos rfl]
    go_enter Try.func21, Try.ntmps21
    go_wp2
    go_ret
    exact ⟨rfl, ⟨(h.box.set 0 _).set 2 _⟩, keptB (keptB (Kept.refl _ _))⟩

set_option maxRecDepth 100000 in
theorem paFollow_any (v : Int) (b : Nat) (d : PaD) (w : World) (h : PaAt w b d) :
    Calls Try.prog 13 #[.pointer (some ⟨b, 0, none⟩), .int .i64 v] w fun e w' => e = .returned (.bool (upB d v)) ∧ PaAt w' b (followP d v) ∧ Kept (fun k => k = b) w w' := by
  have cG := paGoOn_any v b d w h
  go_enter Try.func13, Try.ntmps13
  go_wp2_with fail
  refine cG.mono ?_
  rintro e w1 ⟨rfl, h1, hk1⟩
  go_wp2
  go_ret
  exact ⟨rfl, h1, hk1⟩

set_option maxRecDepth 100000 in
theorem paEnter_any (v : Int) (b : Nat) (d : PaD) (w : World) (h : PaAt w b d) :
    Calls Try.prog 11 #[.pointer (some ⟨b, 0, none⟩), .int .i64 v] w fun e w' => e = .returned (.bool (upB d v)) ∧ PaAt w' b (enterP d v) ∧ Kept (fun k => k = b) w w' := by
  have cG := paGoOn_any v b d w h
  unfold enterP
  unfold followP at cG
  generalize upB d v = u at cG ⊢
  cases u with
  | false =>
    rw [if_neg (by decide)] at cG ⊢
    go_enter Try.func11, Try.ntmps11
    go_wp2_with fail
    refine cG.mono ?_
    rintro e w1 ⟨rfl, h1, hk1⟩
    go_wp2
    go_ret
    exact ⟨rfl, h1, hk1⟩
  | true =>
    rw [if_pos rfl] at cG ⊢
    go_enter Try.func11, Try.ntmps11
    go_wp2_with fail
    refine cG.mono ?_
    rintro e w1 ⟨rfl, h1, hk1⟩
    have c1 := h1.box.cell (i := 1) rfl
    have f1 := h1.box.frozen 1
    go_wp2
    go_ret
    exact ⟨rfl, ⟨h1.box.set 1 _⟩, keptB hk1⟩

set_option maxRecDepth 100000 in
set_option maxHeartbeats 1000000 in
theorem paTick_any (b : Nat) (d : PaD) (w : World) (h : PaAt w b d) (hd : PaOk d) (hf : d.fails ≤ 1000000) :
    Calls Try.prog 9 #[.pointer (some ⟨b, 0, none⟩)] w fun e w' => e = .returned (.bool (tickB d)) ∧ PaAt w' b (tickP d) ∧ Kept (fun k => k = b) w w' := by
  have c0 := h.box.cell (i := 0) rfl
  have c2 := h.box.cell (i := 2) rfl
  have f2 := h.box.frozen 2
  unfold tickB tickP
  by_cases hv : d.view < 4611686018427387903
  · rw [if_pos hv, decide_eq_true hv, Bool.true_and]
    have g0 : ¬ (4611686018427387903 : Int) ≤ d.view := by omega
    have ht := hd.tL
    have hm := hd.mL
    have hwl := wait_le d.fails d.most
    have hvv := hd.v1
    have h1 : PaAt (w.setCell ⟨b, 2, none⟩ (.int .i64 ((d.ticks : Int) + 1))) b { d with ticks := d.ticks + 1 } := ⟨h.box.set 2 _⟩
    have hk1 : Kept (fun k => k = b) w (w.setCell ⟨b, 2, none⟩ (.int .i64 ((d.ticks : Int) + 1))) := keptB (Kept.refl _ _)
    have cW := paWait_any b { d with ticks := d.ticks + 1 } _ h1 (by show d.fails ≤ _; omega)
    have e1 : ((d.ticks + 1 : Nat) : Int) = (d.ticks : Int) + 1 := by omega
    simp only [e1] at cW
    generalize waitN d.fails d.most = W at *
    by_cases hlt : d.ticks + 1 < W
    · have g1 : (d.ticks : Int) + 1 < (W : Int) := by omega
      rw [if_pos hlt, decide_eq_false (by omega)]
      go_enter Try.func9, Try.ntmps9
      go_wp2_with fail
      refine cW.mono ?_
      rintro e w2 ⟨rfl, m, rfl⟩
      have h2 := h1.drewN m
      have hk2 := keptD hk1 m
      clear cW c0 c2 f2 h1 hk1
      generalize (w.setCell ⟨b, 2, none⟩ (.int .i64 ((d.ticks : Int) + 1))).drewN m = w2 at h2 hk2 ⊢
      go_wp2
      go_ret
      exact ⟨rfl, h2, hk2⟩
    · have g1 : ¬ (d.ticks : Int) + 1 < (W : Int) := by omega
      rw [if_neg hlt, decide_eq_true (by omega)]
      go_enter Try.func9, Try.ntmps9
      go_wp2_with fail
      refine cW.mono ?_
      rintro e w2 ⟨rfl, m, rfl⟩
      have h2 := h1.drewN m
      have hk2 := keptD hk1 m
      clear cW c0 c2 f2 h1 hk1
      generalize (w.setCell ⟨b, 2, none⟩ (.int .i64 ((d.ticks : Int) + 1))).drewN m = w2 at h2 hk2 ⊢
      have c1 := h2.box.cell (i := 1) rfl
      have f1 := h2.box.frozen 1
      have h3 : PaAt (w2.setCell ⟨b, 1, none⟩ (.int .i64 ((d.fails : Int) + 1))) b { d with fails := d.fails + 1, ticks := d.ticks + 1 } := ⟨h2.box.set 1 _⟩
      have hk3 := keptB (i := 1) (v := .int .i64 ((d.fails : Int) + 1)) hk2
      go_wp2_with fail
      generalize w2.setCell ⟨b, 1, none⟩ (.int .i64 ((d.fails : Int) + 1)) = w3 at h3 hk3 ⊢
      clear h2 hk2 c1 f1
      have c0 : w3.cell? ⟨b, 0, none⟩ = some (.int .i64 d.view) := h3.box.cell (i := 0) rfl
      have hk4' : Kept (fun k => k = b) w w3.drew := keptD hk3 1
      have cG := paGoOn_any (d.view + 1) b _ w3.drew (h3.drewN 1)
      have hu : upB { d with fails := d.fails + 1, ticks := d.ticks + 1 } (d.view + 1) = true := by unfold upB; simp only [Bool.and_eq_true, decide_eq_true_eq]; omega
      unfold followP at cG
      simp only [hu, if_true] at cG
      have cG' : Calls Try.prog 21 #[.pointer (some ⟨b, 0, none⟩), .int .i64 (d.view + 1)] w3.drew fun e w' => e = .returned (.bool true) ∧ Hid (PaAt w' b ⟨d.n, d.most, d.view + 1, d.fails + 1, 0⟩ ∧ Kept (fun k => k = b) w w') := cG.mono fun e w' ⟨he, h4, hk4⟩ => ⟨he, h4, hk4'.trans hk4⟩
      clear cG hu hk4' hk3 h3
      have hw := wrapI_small (d.view + 1) (by omega) (by omega)
      go_region_with (go_at_call 21; refine cG'.mono ?_; rintro e w4 ⟨rfl, h4⟩)
      all_goals
        go_wp2
        go_ret
        exact ⟨rfl, h4.out⟩
  · rw [if_neg hv, decide_eq_false hv, Bool.false_and]
    have g0 : (4611686018427387903 : Int) ≤ d.view := by omega
    go_enter Try.func9, Try.ntmps9
    go_wp2
    go_ret
    exact ⟨rfl, h, Kept.refl _ _⟩
end Go.Proofs.Ytpppklflokfniaa
