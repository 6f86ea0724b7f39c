/- tusklaw03.AuthNobody answers true; nothing old in memory is turned. -/
import Derived.Test.YtlbibhngfnllbabDoorAuthWorks
namespace Go.Proofs.YtlbibhngfnllbabDoor
open Go.RowKit Go.Sort
set_option linter.unusedVariables false

theorem tags_one (w : World) (who : Int) (mac : ByteArray) : TagsAt (w.alloc (.cells #[.int .i64 who, .string mac] 29)) (some ⟨w.heap.size, 0, none⟩) [(who, mac)] := by
  intro j x hj
  have hA := Arr.new w 29 [.int .i64 who, .string mac]
  match j, hj with
  | 0, hj =>
    simp at hj
    subst hj
    exact ⟨w.heap.size, 0, rfl, hA.lt, hA.cell rfl, hA.cell rfl⟩

set_option maxRecDepth 100000 in
set_option maxHeartbeats 1000000 in
theorem authNobody_walk (f who : Int) (kind word mac : ByteArray) (w : World) (hwf : (Lit.int .i64 f).wf = true) (hwf2 : (Lit.int .i64 who).wf = true) (hs : kind.size ≤ 140737488351232) (hs2 : word.size ≤ 140737488351232) (hs3 : mac.size ≤ 140737488351232) (hG : Glob w) :
    Calls Tryd.prog 3 #[.int .i64 f, .int .i64 who, .string kind, .string word, .string mac] w fun e w' => e = .returned (.bool true) ∧ Below w.heap.size w w' := by
  go_enter Tryd.func3, Tryd.ntmps3
  go_wp2_with fail
  refine (works_any w hG).mono ?_
  rintro e w1 ⟨rfl, hB1⟩
  have hG1 := hG.below hB1
  obtain ⟨n, n1, n2, hn⟩ := pick_f f
  go_wp2_with fail
  refine (new_yes n _ w1 n1 n2 (by decide) hG1).mono ?_
  rintro e w2 ⟨b, rfl, hb1, hT, hB2⟩
  have hG2 := hG1.below hB2
  have hB3 := hB1.trans (hB2.mono hB1.size)
  clear hB1 hB2 hG1 hb1
  obtain ⟨ks, hks⟩ : ∃ z, Hid (z = keysL ⟨#[115, 101, 101, 100]⟩ (3 * n + 1)) := ⟨_, rfl⟩
  rw [← hks.out] at hT
  have hk32 : ∀ k ∈ ks, k.size ≤ 32 := by rw [hks.out]; exact keysL_size _ _
  have hkl : ks.length = 3 * n + 1 := by rw [hks.out, keysL_len]
  by_cases hin : 0 ≤ who ∧ who ≤ 3 * (n : Int)
  · obtain ⟨h0, h1⟩ := hin
    go_wp2
    go_ret
    exact ⟨rfl, hB3⟩
  · have hno : who < 0 ∨ (ks.length : Int) ≤ who := by omega
    by_cases h8 : (800 : Int) < (kind.size : Int) + (word.size : Int)
    · by_cases h00 : 0 ≤ who
      · have h01 : ¬ who ≤ 3 * (n : Int) := by omega
        go_wp2
        go_ret
        exact ⟨rfl, hB3⟩
      · go_wp2
        go_ret
        exact ⟨rfl, hB3⟩
    · have hq : enoughL ks n kind word [(who, mac)] = 2 := enough_stop (i := 0) (ahead := -1) (x := (who, mac)) rfl rfl 2 (by unfold tagErr; rw [if_pos hno]) (by decide)
      have c1 : ∀ w', TabAt w' b n ks → Calls Tryd.prog 6 #[.pointer (some ⟨b, 0, none⟩), .int .i64 who, .string kind, .string word] w' fun e w'' => e = .returned (.tuple #[.agg #[.int .i64 0, .string ⟨#[]⟩], .int .i64 2]) ∧ Below w'.heap.size w' w'' := fun w' h => sign_no b n ks who kind word w' h hno
      have c2 : ∀ w', TabAt w' b n ks → Calls Tryd.prog 7 #[.pointer (some ⟨b, 0, none⟩), .agg #[.int .i64 who, .string mac], .string kind, .string word] w' fun e w'' => e = .returned (.int .i64 2) ∧ Below w'.heap.size w' w'' := fun w' h => check_no b n ks who mac kind word w' h hno
      by_cases h00 : 0 ≤ who
      · have h01 : ¬ who ≤ 3 * (n : Int) := by omega
        go_wp2_with fail
        refine (c1 _ hT).mono ?_
        rintro e w3 ⟨rfl, hB4⟩
        have hB5 := hB4.alloc hB4.size (.cells #[.int .i64 0, .string ⟨#[]⟩] 29)
        have hT5 := hT.below hB5
        have hG5 := hG2.below hB5
        have hB6 := hB3.trans (hB5.mono hB3.size)
        clear hB4 hB5
        go_wp2_with fail
        refine (c2 _ hT5).mono ?_
        rintro e w4 ⟨rfl, hB7⟩
        have hB8 := hB7.alloc hB7.size (.cells #[.int .i64 who, .string mac] 29)
        have hTg := tags_one w4 who mac
        have hT8 := hT5.below hB8
        have hG8 := hG5.below hB8
        have hB9 := hB6.trans (hB8.mono hB6.size)
        clear hB7 hB8 hT5 hG5 hB6
        have c3 := enough_any b n ks (some ⟨w4.heap.size, 0, none⟩) 1 [(who, mac)] kind word _ hT8 n2 hk32 hTg (by show 1 ≤ maxLen; decide) (by omega) (by omega) hG8
        rw [hq] at c3
        go_wp2_with fail
        refine c3.mono ?_
        rintro e w5 ⟨rfl, hB10⟩
        have hB11 := hB9.trans (hB10.mono hB9.size)
        clear c3 hB10 hB9 hT8 hG8 hTg
        go_wp2
        go_ret
        exact ⟨rfl, hB11⟩
      · go_wp2_with fail
        refine (c1 _ hT).mono ?_
        rintro e w3 ⟨rfl, hB4⟩
        have hB5 := hB4.alloc hB4.size (.cells #[.int .i64 0, .string ⟨#[]⟩] 29)
        have hT5 := hT.below hB5
        have hG5 := hG2.below hB5
        have hB6 := hB3.trans (hB5.mono hB3.size)
        clear hB4 hB5
        go_wp2_with fail
        refine (c2 _ hT5).mono ?_
        rintro e w4 ⟨rfl, hB7⟩
        have hB8 := hB7.alloc hB7.size (.cells #[.int .i64 who, .string mac] 29)
        have hTg := tags_one w4 who mac
        have hT8 := hT5.below hB8
        have hG8 := hG5.below hB8
        have hB9 := hB6.trans (hB8.mono hB6.size)
        clear hB7 hB8 hT5 hG5 hB6
        have c3 := enough_any b n ks (some ⟨w4.heap.size, 0, none⟩) 1 [(who, mac)] kind word _ hT8 n2 hk32 hTg (by show 1 ≤ maxLen; decide) (by omega) (by omega) hG8
        rw [hq] at c3
        go_wp2_with fail
        refine c3.mono ?_
        rintro e w5 ⟨rfl, hB10⟩
        have hB11 := hB9.trans (hB10.mono hB9.size)
        clear c3 hB10 hB9 hT8 hG8 hTg
        go_wp2
        go_ret
        exact ⟨rfl, hB11⟩
end Go.Proofs.YtlbibhngfnllbabDoor
