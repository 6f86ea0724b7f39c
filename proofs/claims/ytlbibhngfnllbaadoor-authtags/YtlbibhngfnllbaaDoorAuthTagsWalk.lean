/- tusklaw03.AuthTags answers true; nothing old in memory is turned. -/
import Derived.Test.YtlbibhngfnllbaaDoorRefAuthNew
import Derived.Test.YtlbibhngfnllbaaDoorRefAuthCheck
namespace Go.Proofs.YtlbibhngfnllbaaDoor
open Go.RowKit Go.Sort
set_option linter.unusedVariables false

set_option maxRecDepth 100000 in
set_option maxHeartbeats 400000 in
theorem authTags_walk (f who xw : Int) (xm kind word : ByteArray) (w : World) (hwf : (Lit.int .i64 f).wf = true) (hwf2 : (Lit.int .i64 who).wf = true) (hs : kind.size ≤ 140737488351232) (hs2 : word.size ≤ 140737488351232) (hG : Glob w) :
    Calls Tryd.prog 4 #[.int .i64 f, .int .i64 who, tagV xw xm, .string kind, .string word] w fun e w' => e = .returned (.bool true) ∧ Below w.heap.size w w' := by
  have hX := Arr.new w 32 [.int .i64 xw, .string xm]
  have hB := (Below.refl w.heap.size w).alloc (Nat.le_refl _) (.cells #[.int .i64 xw, .string xm] 32)
  have hG0 := hG.below hB
  unfold tagV
  by_cases hr : f < 1 ∨ 2 < f
  · go_enter Tryd.func4, Tryd.ntmps4
    go_wp2_with fail
    generalize w.alloc (.cells #[.int .i64 xw, .string xm] 32) = w0 at hB ⊢
    refine (new_range f _ w0 hr).mono ?_
    rintro e w1 ⟨rfl, rfl⟩
    go_wp2_with fail
    refine (refNew_range f _ w1 hr).mono ?_
    rintro e w2 ⟨rfl, rfl⟩
    clear hX hG0
    go_wp2
    go_ret
    exact ⟨rfl, hB⟩
  · obtain ⟨n, rfl⟩ := Int.eq_ofNat_of_zero_le (a := f) (by omega)
    have n2 : n ≤ 2 := by omega
    go_enter Tryd.func4, Tryd.ntmps4
    go_wp2_with fail
    generalize w.alloc (.cells #[.int .i64 xw, .string xm] 32) = w0 at hB hX hG0 ⊢
    refine (new_yes n _ w0 (by omega) n2 (by decide) hG0).mono ?_
    rintro e w1 ⟨b1, rfl, hb1, hT1, hB1⟩
    go_wp2_with fail
    refine (refNew_yes n _ w1 (by omega) n2 (by decide) (hG0.below hB1)).mono ?_
    rintro e w2 ⟨b2, rfl, hb2, hT2, hB2⟩
    have hT3 := hT1.below hB2
    have hBa := hB1.trans (hB2.mono hB1.size)
    have hX2 := hX.below hBa hX.lt
    have hB3 := hB.trans (hBa.mono hB.size)
    have hG2 := hG0.below hBa
    clear hT1 hB1 hB2 hBa hX hB hG0
    obtain ⟨ks, hks⟩ : ∃ z, Hid (z = keysL ⟨#[115, 101, 101, 100]⟩ (3 * n + 1)) := ⟨_, rfl⟩
    rw [← hks.out] at hT2 hT3
    have hk32 : ∀ k ∈ ks, k.size ≤ 32 := by rw [hks.out]; exact keysL_size _ _
    have hkl : ks.length = 3 * n + 1 := by rw [hks.out, keysL_len]
    by_cases h5 : (500 : Int) < (kind.size : Int)
    · go_wp2
      go_ret
      exact ⟨rfl, hB3⟩
    · by_cases h6 : (1000 : Int) < (word.size : Int)
      · go_wp2
        go_ret
        exact ⟨rfl, hB3⟩
      · obtain ⟨⟨sw, sm, se⟩, hrr⟩ : ∃ z, Hid (z = signR ks who kind word) := ⟨_, rfl⟩
        obtain ⟨c, hcc⟩ : ∃ z, Hid (z = checkR ks xw xm kind word) := ⟨_, rfl⟩
        have s1 := sign_any b1 n ks who kind word w2 hT3 hk32 (by omega) (by omega) hG2
        rw [← hrr.out] at s1
        unfold tagV at s1
        go_wp2_with fail
        refine s1.mono ?_
        rintro e w3 ⟨rfl, hB4⟩
        clear s1
        have hB5 := hB4.alloc hB4.size (.cells #[.int .i64 sw, .string sm] 32)
        have hP := Arr.new w3 32 [.int .i64 sw, .string sm]
        have hX4 := hX2.below hB5 hX2.lt
        have hT5 := hT3.below hB5
        have hU5 := hT2.below hB5
        have hG5 := hG2.below hB5
        have hB6 := hB3.trans (hB5.mono hB3.size)
        clear hB4 hB5 hX2 hT2 hT3 hG2 hB3
        go_wp2_with fail
        generalize w3.alloc (.cells #[.int .i64 sw, .string sm] 32) = w4 at hP hX4 hT5 hU5 hG5 hB6 ⊢
        have s1 := refSign_any b2 n ks who kind word w4 hU5 hk32 n2 hkl (by omega) (by omega) hG5
        rw [← hrr.out] at s1
        unfold tagV at s1
        refine s1.mono ?_
        rintro e w5 ⟨rfl, hB7⟩
        clear s1
        have hB8 := hB7.alloc hB7.size (.cells #[.int .i64 sw, .string sm] 32)
        have hP1 := hP.below hB8 hP.lt
        have hP2 := Arr.new w5 32 [.int .i64 sw, .string sm]
        have hX6 := hX4.below hB8 hX4.lt
        have hT6 := hT5.below hB8
        have hU6 := hU5.below hB8
        have hG6 := hG5.below hB8
        have hB9 := hB6.trans (hB8.mono hB6.size)
        clear hB7 hB8 hX4 hT5 hU5 hG5 hB6 hP
        generalize hq1 : w3.heap.size = q1 at hP1 ⊢
        go_wp2_with fail
        generalize hq2 : w5.heap.size = q2 at hP2 ⊢
        generalize w5.alloc (.cells #[.int .i64 sw, .string sm] 32) = w6 at hP1 hP2 hX6 hT6 hU6 hG6 hB9 ⊢
        have C0 : ∀ d os, (grow (redrawn w6 d) os).cell? ⟨q1, 0, none⟩ = some (.int .i64 sw) := fun d os => cell_regrown (hP1.cell rfl) d os
        have C1 : ∀ d os, (grow (redrawn w6 d) os).cell? ⟨q1, 1, none⟩ = some (.string sm) := fun d os => cell_regrown (hP1.cell rfl) d os
        have D0 : ∀ d os, (grow (redrawn w6 d) os).cell? ⟨q2, 0, none⟩ = some (.int .i64 sw) := fun d os => cell_regrown (hP2.cell rfl) d os
        have D1 : ∀ d os, (grow (redrawn w6 d) os).cell? ⟨q2, 1, none⟩ = some (.string sm) := fun d os => cell_regrown (hP2.cell rfl) d os
        have X0 : ∀ d os, (grow (redrawn w6 d) os).cell? ⟨w.heap.size, 0, none⟩ = some (.int .i64 xw) := fun d os => cell_regrown (hX6.cell rfl) d os
        have X1 : ∀ d os, (grow (redrawn w6 d) os).cell? ⟨w.heap.size, 1, none⟩ = some (.string xm) := fun d os => cell_regrown (hX6.cell rfl) d os
        have k1 : ∀ d os, Calls Tryd.prog 17 #[.pointer (some ⟨b1, 0, none⟩), .agg #[.int .i64 xw, .string xm], .string kind, .string word] (grow (redrawn w6 d) os) fun e w'' => e = .returned (.int .i64 (c : Int)) ∧ ∃ p : Regrown, w'' = grow (redrawn w6 p.d) p.os := fun d os => Calls.regrown_of (by
          have h := check_any b1 n ks xw xm kind word (grow (redrawn w6 d) os) (hT6.below (below_regrown w6 d os)) hk32 (by omega) (by omega) (hG6.below (below_regrown w6 d os))
          rw [← hcc.out] at h
          exact h)
        have k2 : ∀ d os, Calls Tryd.prog 18 #[.pointer (some ⟨b2, 0, none⟩), .agg #[.int .i64 xw, .string xm], .string kind, .string word] (grow (redrawn w6 d) os) fun e w'' => e = .returned (.int .i64 (c : Int)) ∧ ∃ p : Regrown, w'' = grow (redrawn w6 p.d) p.os := fun d os => Calls.regrown_of (by
          have h := refCheck_any b2 n ks xw xm kind word (grow (redrawn w6 d) os) (hU6.below (below_regrown w6 d os)) hk32 n2 hkl (by omega) (by omega) (hG6.below (below_regrown w6 d os))
          rw [← hcc.out] at h
          exact h)
        refine wp_region_quiet_below (by kernel_rfl) (by kernel_rfl) ?_
        repeat (first | go_big_quiet_step (first | exact k1 _ _ | exact k2 _ _) | quiet_step (first | exact k1 _ _ | exact k2 _ _))
        refine wpQuiet_nil ?_
        rintro w' ⟨p, rfl⟩
        have hb' := below_regrown w6 p.d p.os
        have hBz := hB9.trans (hb'.mono hB9.size)
        generalize grow (redrawn w6 p.d) p.os = w7 at hBz ⊢
        clear k1 k2 C0 C1 D0 D1 X0 X1
        go_wp2
        go_ret
        exact ⟨rfl, hBz⟩
end Go.Proofs.YtlbibhngfnllbaaDoor
