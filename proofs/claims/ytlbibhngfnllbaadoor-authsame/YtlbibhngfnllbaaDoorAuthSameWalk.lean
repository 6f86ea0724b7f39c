/- tusklaw03.AuthSame answers true; nothing old in memory is turned. -/
import Derived.Test.YtlbibhngfnllbaaDoorAuthWorks
namespace Go.Proofs.YtlbibhngfnllbaaDoor
open Go.RowKit Go.Sort
set_option linter.unusedVariables false

set_option maxRecDepth 100000 in
set_option maxHeartbeats 400000 in
theorem authSame_walk (f : Int) (seed : ByteArray) (who : Int) (kind word : ByteArray) (w : World) (hwf : (Lit.int .i64 f).wf = true) (hs : seed.size ≤ 140737488351232) (hwf2 : (Lit.int .i64 who).wf = true) (hs2 : kind.size ≤ 140737488351232) (hs3 : word.size ≤ 140737488351232) (hG : Glob w) :
    Calls Tryd.prog 8 #[.int .i64 f, .string seed, .int .i64 who, .string kind, .string word] w fun e w' => e = .returned (.bool true) ∧ Below w.heap.size w w' := by
  go_enter Tryd.func8, Tryd.ntmps8
  go_wp2_with fail
  refine (works_any w hG).mono ?_
  rintro e w1 ⟨rfl, hB1⟩
  have hG1 := hG.below hB1
  obtain ⟨n, n1, n2, hn⟩ := pick_f f
  by_cases hl : (32 : Int) < (seed.size : Int)
  · go_wp2_with fail
    refine (new_long (n : Int) seed w1 (by omega) (by omega) hl).mono ?_
    rintro e w' ⟨rfl, rfl⟩
    go_wp2_with fail
    refine (new_long (n : Int) seed w' (by omega) (by omega) hl).mono ?_
    rintro e w2 ⟨rfl, rfl⟩
    go_wp2
    go_ret
    exact ⟨rfl, hB1⟩
  · go_wp2_with fail
    refine (new_yes n seed w1 n1 n2 (by omega) hG1).mono ?_
    rintro e w2 ⟨a, rfl, ha, hTa, hB2⟩
    have hG2 := hG1.below hB2
    go_wp2_with fail
    refine (new_yes n seed w2 n1 n2 (by omega) hG2).mono ?_
    rintro e w3 ⟨b, rfl, hb, hTb, hB3⟩
    have hTa3 := hTa.below hB3
    have hG3 := hG2.below hB3
    have hB4 := hB1.trans ((hB2.trans (hB3.mono hB2.size)).mono hB1.size)
    clear hTa hB2 hB3 hG2 hG1 hB1 ha hb
    obtain ⟨ks, hks⟩ : ∃ z, Hid (z = keysL seed (3 * n + 1)) := ⟨_, rfl⟩
    rw [← hks.out] at hTb hTa3
    have hk32 : ∀ k ∈ ks, k.size ≤ 32 := by rw [hks.out]; exact keysL_size _ _
    have hkl : ks.length = 3 * n + 1 := by rw [hks.out, keysL_len]
    by_cases h5 : (300 : Int) < (kind.size : Int)
    · go_wp2
      go_ret
      exact ⟨rfl, hB4⟩
    · by_cases h6 : (500 : Int) < (word.size : Int)
      · go_wp2
        go_ret
        exact ⟨rfl, hB4⟩
      · obtain ⟨nn, hnn⟩ : ∃ z, Hid (z = 3 * n + 1) := ⟨_, rfl⟩
        have k1 := n_any a n ks w3 hTa3 n2
        rw [← hnn.out] at k1
        have hn8 : 0 < nn ∧ nn < 1000 := by have := hnn.out; omega
        obtain ⟨j, hj, hje⟩ := pick_j who nn hn8.1 hn8.2
        have hnw : IntKind.u64.wrap (nn : Int) = (nn : Int) := by rw [wrap_u64]; omega
        have hnz : ¬ nn = 0 := by omega
        go_wp2_with fail
        refine k1.mono ?_
        rintro e w' ⟨rfl, rfl⟩
        have hkj := getD_some (ks := ks) (i := j) (by have := hnn.out; omega)
        obtain ⟨x, hx⟩ : ∃ z, Hid (z = macOf (ks.getD j ⟨#[]⟩) kind word) := ⟨_, rfl⟩
        have hxs : x.size = 16 := by rw [hx.out]; exact macOf_size _ _ _
        have s1 := sign_yes a n ks j kind word w' hTa3 _ hkj hk32 (by omega) (by omega) hG3
        rw [← hx.out] at s1
        unfold tagV at s1
        go_wp2_with fail
        refine s1.mono ?_
        rintro e w4 ⟨rfl, hB5⟩
        clear s1 k1
        have hB6 := hB5.alloc hB5.size (.cells #[.int .i64 (j : Int), .string x] 32)
        have hP := Arr.new w4 32 [.int .i64 (j : Int), .string x]
        have hTa5 := hTa3.below hB6
        have hTb5 := hTb.below hB6
        have hG5 := hG3.below hB6
        have hB7 := hB4.trans (hB6.mono hB4.size)
        clear hB5 hB6 hTa3 hTb hG3 hB4
        go_wp2_with fail
        generalize w4.alloc (.cells #[.int .i64 (j : Int), .string x] 32) = w5 at hP hTa5 hTb5 hG5 hB7 ⊢
        generalize w4.heap.size = q1 at hP ⊢
        have s1 := sign_yes b n ks j kind word w5 hTb5 _ hkj hk32 (by omega) (by omega) hG5
        rw [← hx.out] at s1
        unfold tagV at s1
        refine s1.mono ?_
        rintro e w6 ⟨rfl, hB8⟩
        clear s1
        have hB9 := hB8.alloc hB8.size (.cells #[.int .i64 (j : Int), .string x] 32)
        have hP1 := hP.below hB9 hP.lt
        have hP2 := Arr.new w6 32 [.int .i64 (j : Int), .string x]
        have hTa7 := hTa5.below hB9
        have hTb7 := hTb5.below hB9
        have hG7 := hG5.below hB9
        have hB10 := hB7.trans (hB9.mono hB7.size)
        clear hB8 hB9 hTa5 hTb5 hG5 hB7 hP
        have t0 := hP1.cell (i := 0) (v := .int .i64 (j : Int)) rfl
        have t1 := hP1.cell (i := 1) (v := .string x) rfl
        have s0 := hP2.cell (i := 0) (v := .int .i64 (j : Int)) rfl
        have s1 := hP2.cell (i := 1) (v := .string x) rfl
        have c1 := check_ok b n ks j kind word _ hTb7 _ hkj hk32 (by omega) (by omega) hG7 x hx.out
        unfold tagV at c1
        go_wp2_with fail
        refine c1.mono ?_
        rintro e w8 ⟨rfl, hB11⟩
        have k1 := n_any a n ks w8 (hTa7.below hB11) n2
        have hB12 := hB10.trans (hB11.mono hB10.size)
        rw [← hnn.out] at k1
        have hnne : 3 * (n : Int) + 1 = (nn : Int) := by have := hnn.out; omega
        clear c1 t0 t1 s0 s1 hP1 hP2 hTa7 hTb7 hG7 hB10 hB11
        go_wp2_with fail
        refine k1.mono ?_
        rintro e w9 ⟨rfl, rfl⟩
        clear k1
        go_wp2
        go_ret
        exact ⟨by simp, hB12⟩
end Go.Proofs.YtlbibhngfnllbaaDoor
