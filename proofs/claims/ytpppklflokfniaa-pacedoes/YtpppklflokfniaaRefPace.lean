/- What the calls of the document's pace do. -/
import Derived.Test.YtpppklflokfniaaPaceFns
namespace Go.Proofs.Ytpppklflokfniaa
open Go.RowKit
set_option linter.unusedVariables false

/-- The document's pace, as it lies. -/
structure RPAt (w : World) (b : Nat) (d : PaD) : Prop where
  box : Arr w b 39 [.int .i64 (d.n : Int), .int .i64 (d.most : Int), .int .i64 d.view, .int .i64 (d.fails : Int), .int .i64 (d.ticks : Int)]

theorem RPAt.below {w w' : World} {b : Nat} {d : PaD} (h : RPAt w b d) (hb : Below w.heap.size w w') : RPAt w' b d := ⟨h.box.below hb h.box.lt⟩

theorem RPAt.kept {S : Nat → Prop} {w w' : World} {b : Nat} {d : PaD} (h : RPAt w b d) (hk : Kept S w w') (hn : ¬ S b) : RPAt w' b d := ⟨h.box.kept hk hn⟩

theorem RPAt.drewN {w : World} {b : Nat} {d : PaD} (h : RPAt w b d) (n : Nat) : RPAt (w.drewN n) b d := ⟨h.box.drewN n⟩

set_option maxRecDepth 100000 in
theorem rpNew_yes (n most : Nat) (w : World) (h1 : 1 ≤ n) (h2 : n ≤ 7) (h3 : 1 ≤ most) (h4 : most ≤ 1000) :
    Calls Try.prog 8 #[.int .i64 (n : Int), .int .i64 (most : Int)] w fun e w' => e = .returned (.tuple #[.pointer (some ⟨w.heap.size, 0, none⟩), .int .i64 0]) ∧ RPAt w' w.heap.size ⟨n, most, 1, 0, 0⟩ ∧ Below w.heap.size w w' := by
  have g1 : ¬ (n : Int) < 1 := by omega
  have g2 : ¬ (7 : Int) < (n : Int) := by omega
  have g3 : ¬ (most : Int) < 1 := by omega
  have g4 : ¬ (1000 : Int) < (most : Int) := by omega
  have hA := Arr.new w 39 [.int .i64 (n : Int), .int .i64 (most : Int), .int .i64 1, .int .i64 0, .int .i64 0]
  have hB := belowNew w (.cells #[.int .i64 (n : Int), .int .i64 (most : Int), .int .i64 1, .int .i64 0, .int .i64 0] 39)
  go_enter Try.func8, Try.ntmps8
  go_wp2
  go_ret2
  exact ⟨rfl, ⟨hA⟩, hB⟩

set_option maxRecDepth 100000 in
theorem rpNew_no (n most : Int) (w : World) (h : ¬ (1 ≤ n ∧ n ≤ 7 ∧ 1 ≤ most ∧ most ≤ 1000)) :
    Calls Try.prog 8 #[.int .i64 n, .int .i64 most] w fun e w' => e = .returned (.tuple #[.pointer none, .int .i64 2]) ∧ w' = w := by
  have hc : n < 1 ∨ (¬ n < 1 ∧ 7 < n) ∨ (¬ n < 1 ∧ ¬ 7 < n ∧ most < 1) ∨ (¬ n < 1 ∧ ¬ 7 < n ∧ ¬ most < 1 ∧ 1000 < most) := by omega
  rcases hc with k1 | ⟨k1, k2⟩ | ⟨k1, k2, k3⟩ | ⟨k1, k2, k3, k4⟩
  all_goals
    go_enter Try.func8, Try.ntmps8
    go_wp2
    go_ret2
    exact ⟨rfl, rfl⟩

set_option maxRecDepth 100000 in
theorem rpLeader_any (v : Int) (b : Nat) (d : PaD) (w : World) (h : RPAt w b d) (hd : PaOk d) :
    Calls Try.prog 19 #[.pointer (some ⟨b, 0, none⟩), .int .i64 v] w fun e w' => e = .returned (.int .i64 (leadN d.n v)) ∧ w' = w := by
  have c3 := h.box.cell (i := 0) rfl
  have hn1 := hd.n1
  have hn7 := hd.n7
  have hl := lead_range hn1 v
  generalize d.n = n at c3 hn1 hn7 hl ⊢
  unfold leadN at hl ⊢
  by_cases h0 : v < 0
  · rw [if_pos h0] at hl ⊢
    go_enter Try.func19, Try.ntmps19
    go_wp2
    go_ret
    exact ⟨rfl, rfl⟩
  · rw [if_neg h0] at hl ⊢
    have g0 : (n : Int) ≠ 0 := by omega
    go_enter Try.func19, Try.ntmps19
    go_wp2
    go_ret
    exact ⟨rfl, rfl⟩

set_option maxRecDepth 100000 in
theorem rpWait_any (b : Nat) (d : PaD) (w : World) (h : RPAt w b d) (hf : d.fails ≤ 1000000000) (hm : d.most ≤ 1000) :
    Calls Try.prog 17 #[.pointer (some ⟨b, 0, none⟩)] w fun e w' => e = .returned (.int .i64 (waitN d.fails d.most : Int)) ∧ w' = w := by
  have c1 := h.box.cell (i := 1) rfl
  have c3 := h.box.cell (i := 3) rfl
  unfold waitN
  generalize d.fails = f at c3 hf ⊢
  generalize d.most = M at c1 hm ⊢
  have hmin : ((16 : Int) ≤ (f : Int) ∧ Hid (min f 16 = 16)) ∨ (¬ (16 : Int) ≤ (f : Int) ∧ Hid (min f 16 = f)) := by
    rcases Nat.lt_or_ge f 16 with h | h
    · exact Or.inr ⟨by omega, Nat.min_eq_left (by omega)⟩
    · exact Or.inl ⟨by omega, Nat.min_eq_right h⟩
  have hN16 : min f 16 ≤ 16 := Nat.min_le_right _ _
  generalize min f 16 = N at hmin hN16 ⊢
  go_enter Try.func17, Try.ntmps17
  go_wp2_with fail
  go_loop [3, 4] (fun v3 v4 => ∃ k p : Nat, k ≤ N ∧ p ≤ 262144 ∧ v3 = .int .i64 (p : Int) ∧ v4 = .int .i64 (k : Int) ∧ Hid (p = 4 * 2 ^ k)) (fun _ v => N - (intOf v).toNat)
  case atStart => exact ⟨0, 4, by omega, by omega, rfl, rfl, rfl⟩
  case round =>
    obtain ⟨k, p, hk, hp, rfl, rfl, hpk⟩ := hrel
    by_cases hkN : k < N
    · have hpw : 2 ^ (k + 1) ≤ 65536 := Nat.le_trans (Nat.pow_le_pow_right (by decide) (show k + 1 ≤ 16 by omega)) (by decide)
      have hp2 : Hid (2 * p = 4 * 2 ^ (k + 1)) := by show _ = _; rw [hpk.out, Nat.pow_succ]; omega
      have hp3 : 2 * p ≤ 262144 := by have := hp2.out; omega
      clear hpk hpw
      rcases hmin with ⟨g, e⟩ | ⟨g, e⟩
      · have g2 : (k : Int) < 16 := by omega
        go_wp2
        go_round
        case rel => exact ⟨k + 1, 2 * p, by omega, hp3, by go_num, by go_num, hp2⟩
        case measure => simp [intOf]; omega
      · have g2 : (k : Int) < (f : Int) := by have := e.out; omega
        go_wp2
        go_round
        case rel => exact ⟨k + 1, 2 * p, by omega, hp3, by go_num, by go_num, hp2⟩
        case measure => simp [intOf]; omega
    · have hp2 : Hid (4 * 2 ^ N = p) := by show _ = _; rw [hpk.out]; congr 2; omega
      have hlast : ((p : Int) ≤ (M : Int) ∧ Hid (min p M = p)) ∨ (¬ (p : Int) ≤ (M : Int) ∧ Hid (min p M = M)) := by
        rcases Nat.lt_or_ge M p with h | h
        · exact Or.inr ⟨by omega, Nat.min_eq_right (by omega)⟩
        · exact Or.inl ⟨by omega, Nat.min_eq_left h⟩
      rcases hmin with ⟨g, e⟩ | ⟨g, e⟩
      · have g2 : ¬ (k : Int) < 16 := by have := e.out; omega
        rcases hlast with ⟨l1, l2⟩ | ⟨l1, l2⟩
        all_goals
          go_wp2
          go_ret
          exact ⟨by rw [hp2.out, l2.out]; rfl, rfl⟩
      · have g2 : ¬ (k : Int) < (f : Int) := by have := e.out; omega
        rcases hlast with ⟨l1, l2⟩ | ⟨l1, l2⟩
        all_goals
          go_wp2
          go_ret
          exact ⟨by rw [hp2.out, l2.out]; rfl, rfl⟩

set_option maxRecDepth 100000 in
theorem rpFollow_any (v : Int) (b : Nat) (d : PaD) (w : World) (h : RPAt w b d) :
    Calls Try.prog 14 #[.pointer (some ⟨b, 0, none⟩), .int .i64 v] w fun e w' => e = .returned (.bool (upB d v)) ∧ RPAt w' b (followP d v) ∧ Kept (fun k => k = b) w w' := by
  have c0 := h.box.cell (i := 2) rfl
  have c2 := h.box.cell (i := 4) rfl
  have f0 := h.box.frozen 2
  have f2 := h.box.frozen 4
  unfold followP upB
  rcases (by omega : v ≤ d.view ∨ (¬ v ≤ d.view ∧ 4611686018427387903 < v) ∨ (¬ v ≤ d.view ∧ ¬ 4611686018427387903 < v)) with k | ⟨k, k2⟩ | ⟨k, k2⟩
  · rw [decide_eq_false (by omega : ¬ d.view < v), Bool.false_and, if_neg (by decide)]
    go_enter Try.func14, Try.ntmps14
    go_wp2
    go_ret
    exact ⟨rfl, h, Kept.refl _ _⟩
  · rw [decide_eq_false (by omega : ¬ v ≤ 4611686018427387903), Bool.and_false, if_neg (by decide)]
    go_enter Try.func14, Try.ntmps14
    go_wp2
    go_ret
    exact ⟨rfl, h, Kept.refl _ _⟩
  · rw [decide_eq_true (by omega : d.view < v), decide_eq_true (by omega : v ≤ 4611686018427387903), Bool.and_self, if_pos rfl]
    go_enter Try.func14, Try.ntmps14
    go_wp2
    go_ret
    exact ⟨rfl, ⟨(h.box.set 2 _).set 4 _⟩, keptB (keptB (Kept.refl _ _))⟩

set_option maxRecDepth 100000 in
theorem rpEnter_any (v : Int) (b : Nat) (d : PaD) (w : World) (h : RPAt w b d) :
    Calls Try.prog 12 #[.pointer (some ⟨b, 0, none⟩), .int .i64 v] w fun e w' => e = .returned (.bool (upB d v)) ∧ RPAt w' b (enterP d v) ∧ Kept (fun k => k = b) w w' := by
  have cG := rpFollow_any v b d w h
  unfold enterP
  unfold followP at cG
  generalize upB d v = u at cG ⊢
  cases u with
  | false =>
    rw [if_neg (by decide)] at cG ⊢
    go_enter Try.func12, Try.ntmps12
    go_wp2_with fail
    refine cG.mono ?_
    rintro e w1 ⟨rfl, h1, hk1⟩
    go_wp2
    go_ret
    exact ⟨rfl, h1, hk1⟩
  | true =>
    rw [if_pos rfl] at cG ⊢
    go_enter Try.func12, Try.ntmps12
    go_wp2_with fail
    refine cG.mono ?_
    rintro e w1 ⟨rfl, h1, hk1⟩
    have c1 := h1.box.cell (i := 3) rfl
    have f1 := h1.box.frozen 3
    go_wp2
    go_ret
    exact ⟨rfl, ⟨h1.box.set 3 _⟩, keptB hk1⟩

set_option maxRecDepth 100000 in
set_option maxHeartbeats 1000000 in
theorem rpTick_any (b : Nat) (d : PaD) (w : World) (h : RPAt w b d) (hd : PaOk d) (hf : d.fails ≤ 1000000) :
    Calls Try.prog 10 #[.pointer (some ⟨b, 0, none⟩)] w fun e w' => e = .returned (.bool (tickB d)) ∧ RPAt w' b (tickP d) ∧ Kept (fun k => k = b) w w' := by
  have c0 := h.box.cell (i := 2) rfl
  have c2 := h.box.cell (i := 4) rfl
  have f2 := h.box.frozen 4
  unfold tickB tickP
  by_cases hv : d.view < 4611686018427387903
  · rw [if_pos hv, decide_eq_true hv, Bool.true_and]
    have g0 : ¬ (4611686018427387903 : Int) ≤ d.view := by omega
    have ht := hd.tL
    have hm := hd.mL
    have hwl := wait_le d.fails d.most
    have hvv := hd.v1
    have h1 : RPAt (w.setCell ⟨b, 4, none⟩ (.int .i64 ((d.ticks : Int) + 1))) b { d with ticks := d.ticks + 1 } := ⟨h.box.set 4 _⟩
    have hk1 : Kept (fun k => k = b) w (w.setCell ⟨b, 4, none⟩ (.int .i64 ((d.ticks : Int) + 1))) := keptB (Kept.refl _ _)
    generalize hw1 : w.setCell ⟨b, 4, none⟩ (.int .i64 ((d.ticks : Int) + 1)) = w1 at h1 hk1
    have cW := fun m => rpWait_any b { d with ticks := d.ticks + 1 } (w1.drewN m) (h1.drewN m) (by show d.fails ≤ _; omega) hm
    have x4 : w1.cell? ⟨b, 4, none⟩ = some (.int .i64 ((d.ticks : Int) + 1)) := h1.box.cell (i := 4) rfl
    simp only at cW
    generalize waitN d.fails d.most = W at *
    by_cases hlt : d.ticks + 1 < W
    · have g1 : (d.ticks : Int) + 1 < (W : Int) := by omega
      rw [if_pos hlt, decide_eq_false (by omega)]
      go_enter Try.func10, Try.ntmps10
      go_wp2_with fail
      go_quiet (exact Calls.quiet_of_same (cW _))
      have h2 := h1.drewN nq
      have hk2 := keptD hk1 nq
      clear cW c0 c2 f2 h1 hk1 hw1 x4
      generalize w1.drewN nq = w2 at h2 hk2 ⊢
      go_wp2
      go_ret
      exact ⟨rfl, h2, hk2⟩
    · have g1 : ¬ (d.ticks : Int) + 1 < (W : Int) := by omega
      rw [if_neg hlt, decide_eq_true (by omega)]
      go_enter Try.func10, Try.ntmps10
      go_wp2_with fail
      go_quiet (exact Calls.quiet_of_same (cW _))
      have h2 := h1.drewN nq
      have hk2 := keptD hk1 nq
      clear cW c0 c2 f2 h1 hk1 hw1 x4
      generalize w1.drewN nq = w2 at h2 hk2 ⊢
      have y2 : w2.cell? ⟨b, 2, none⟩ = some (.int .i64 d.view) := h2.box.cell (i := 2) rfl
      have y3 : w2.cell? ⟨b, 3, none⟩ = some (.int .i64 (d.fails : Int)) := h2.box.cell (i := 3) rfl
      have y4 : w2.cell? ⟨b, 4, none⟩ = some (.int .i64 ((d.ticks : Int) + 1)) := h2.box.cell (i := 4) rfl
      have q2 := h2.box.frozen 2
      have q3 := h2.box.frozen 3
      have q4 := h2.box.frozen 4
      go_wp2
      go_ret
      exact ⟨rfl, ⟨((h2.box.set 2 _).set 3 _).set 4 _⟩, keptB (keptB (keptB hk2))⟩
  · rw [if_neg hv, decide_eq_false hv, Bool.false_and]
    have g0 : (4611686018427387903 : Int) ≤ d.view := by omega
    go_enter Try.func10, Try.ntmps10
    go_wp2
    go_ret
    exact ⟨rfl, h, Kept.refl _ _⟩
end Go.Proofs.Ytpppklflokfniaa
