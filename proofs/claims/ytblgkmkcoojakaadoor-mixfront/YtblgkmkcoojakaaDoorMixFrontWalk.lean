/- tusklaw02.MixFront answers true; nothing old in memory is turned. -/
import Derived.Test.YtblgkmkcoojakaaDoorMixBareWalk
namespace Go.Proofs.YtblgkmkcoojakaaDoor
open Go.RowKit Go.Sort
set_option linter.unusedVariables false

set_option maxRecDepth 100000 in
set_option maxHeartbeats 400000 in
theorem mixFront_walk (key a b : ByteArray) (at' : Int) (w : World) (hk : key.size ≤ 140737488351232) (ha : a.size ≤ 140737488351232) (hb : b.size ≤ 140737488351232) (hat : (Lit.int .i64 at').wf = true) (hG : Glob w) :
    Calls Tryd.prog 6 #[.string key, .string a, .string b, .int .i64 at'] w fun e w' => e = .returned (.bool true) ∧ Below w.heap.size w w' := by
  go_enter Tryd.func6, Tryd.ntmps6
  go_wp2_with fail
  refine (works_any w hG).mono ?_
  rintro e w1 ⟨rfl, hB1⟩
  have hG1 := hG.below hB1
  by_cases h1 : 500 < key.size
  · have h1' : (500 : Int) < (key.size : Int) := by omega
    go_wp2
    go_ret
    exact ⟨rfl, hB1⟩
  have h1' : ¬ (500 : Int) < (key.size : Int) := by omega
  by_cases h2 : 1000 < a.size
  · have h2' : (1000 : Int) < (a.size : Int) := by omega
    go_wp2
    go_ret
    exact ⟨rfl, hB1⟩
  have h2' : ¬ (1000 : Int) < (a.size : Int) := by omega
  by_cases h3 : 1000 < b.size
  · have h3' : (1000 : Int) < (b.size : Int) := by omega
    go_wp2
    go_ret
    exact ⟨rfl, hB1⟩
  have h3' : ¬ (1000 : Int) < (b.size : Int) := by omega
  obtain ⟨s, hsd⟩ : ∃ z, Hid (z = a ++ b) := ⟨_, rfl⟩
  have hcat : a ++ b = s := hsd.out.symm
  have hss : s.size = a.size + b.size := by rw [hsd.out, ByteArray.size_append]
  go_wp2
  obtain ⟨k, hkk, hkl⟩ : ∃ k : Nat, wrap64 ((IntKind.u64.wrap at').tmod ((a.size : Int) + (b.size : Int) + 1)) = (k : Int) ∧ k ≤ s.size := by
    have h0 := wrap_u64_nonneg at'
    generalize IntKind.u64.wrap at' = u at h0
    rw [Int.tmod_eq_emod_of_nonneg h0]
    have e1 := Int.emod_nonneg u (show (a.size : Int) + (b.size : Int) + 1 ≠ 0 by omega)
    have e2 := Int.emod_lt_of_pos u (show 0 < (a.size : Int) + (b.size : Int) + 1 by omega)
    generalize u % ((a.size : Int) + (b.size : Int) + 1) = r at e1 e2
    refine ⟨r.toNat, ?_, by omega⟩
    unfold wrap64
    omega
  rw [hkk]
  have hk0 : (0 : Int) ≤ (k : Int) := by omega
  have hk1 : (k : Int) ≤ (s.size : Int) := by omega
  have hjoin : s.extract 0 (max k (a.size + b.size)) = s := by
    rw [Nat.max_eq_right (by omega), ← hss, ByteArray.extract_zero_size]
  obtain ⟨x, hx⟩ : ∃ z, Hid (z = bytes (keyedL key.data.toList s.data.toList)) := ⟨_, rfl⟩
  have hxs : x.size = 32 := by rw [hx.out, bytes_size]; exact keyedL_len _ _
  have cK : ∀ (d : Nat) (os : Array Obj), Calls Tryd.prog 9 #[.string key, .string s] (grow (redrawn w1 d) os) fun e w'' => e = .returned (.string x) ∧ ∃ p : Regrown, w'' = grow (redrawn w1 p.d) p.os := fun d os => by
    rw [hx.out]
    exact Calls.regrown_of (keyed_any key s _ (by omega) (by omega) (hG1.below (below_regrown w1 d os)))
  refine wp_region_quiet_below (by kernel_rfl) (by kernel_rfl) ?_
  iterate 8 (go_big_quiet_step (fail))
  go_big_quiet_step (exact cK _ _)
  go_big_quiet_step (fail)
  refine wpQuiet_nil ?_
  rintro w' ⟨p, rfl⟩
  have hb' := below_regrown w1 p.d p.os
  have hB2 := hB1.trans (hb'.mono hB1.size)
  have hG2 := hG1.below hb'
  clear cK
  generalize grow (redrawn w1 p.d) p.os = w2 at hB2 hG2 ⊢
  have h16 : (16 : Int) ≤ (x.size : Int) := by omega
  obtain ⟨y, hy⟩ : ∃ z, Hid (z = x.extract 0 16) := ⟨_, rfl⟩
  have hyx : x.extract 0 16 = y := hy.out.symm
  have cK : ∀ (d : Nat) (os : Array Obj), Calls Tryd.prog 9 #[.string key, .string s] (grow (redrawn w2 d) os) fun e w'' => e = .returned (.string x) ∧ ∃ p : Regrown, w'' = grow (redrawn w2 p.d) p.os := fun d os => by
    rw [hx.out]
    exact Calls.regrown_of (keyed_any key s _ (by omega) (by omega) (hG2.below (below_regrown w2 d os)))
  have cS : ∀ (d : Nat) (os : Array Obj), Calls Tryd.prog 11 #[.string key, .string s] (grow (redrawn w2 d) os) fun e w'' => e = .returned (.string y) ∧ ∃ p : Regrown, w'' = grow (redrawn w2 p.d) p.os := fun d os => by
    rw [hy.out, hx.out]
    exact Calls.regrown_of (short_any key s _ (by omega) (by omega) (hG2.below (below_regrown w2 d os)))
  go_wp2
  refine wp_region_quiet_below (by kernel_rfl) (by kernel_rfl) ?_
  iterate 8 (go_big_quiet_step (fail))
  go_big_quiet_step (exact cK _ _)
  iterate 8 (go_big_quiet_step (fail))
  go_big_quiet_step (exact cS _ _)
  iterate 5 (go_big_quiet_step (fail))
  refine wpQuiet_nil ?_
  rintro w' ⟨p2, rfl⟩
  have hb2 := below_regrown w2 p2.d p2.os
  have hB3 := hB2.trans (hb2.mono hB2.size)
  clear cK cS
  generalize grow (redrawn w2 p2.d) p2.os = w3 at hB3 ⊢
  go_wp2
  go_ret
  exact ⟨by simp, hB3⟩
end Go.Proofs.YtblgkmkcoojakaaDoor
