/- tusklaw03.AuthEnough answers true; nothing old in memory is turned. -/
import Derived.Test.YtlbibhngfnllbaaDoorRefAuthNew
import Derived.Test.YtlbibhngfnllbaaDoorRefAuthEnough
import Derived.Test.YtlbibhngfnllbaaDoorAuthTagList
namespace Go.Proofs.YtlbibhngfnllbaaDoor
open Go.RowKit Go.Sort
set_option linter.unusedVariables false

set_option maxRecDepth 100000 in
set_option maxHeartbeats 400000 in
theorem authEnough_walk (f : Int) (ao : Option Addr) (cap : Nat) (l : List (Int × ByteArray)) (kind word : ByteArray) (w : World) (hwf : (Lit.int .i64 f).wf = true) (hl : TagsAt w ao l) (hlm : l.length ≤ maxLen) (hs : kind.size ≤ 140737488351232) (hs2 : word.size ≤ 140737488351232) (hG : Glob w) :
    Calls Tryd.prog 5 #[.int .i64 f, .slice ao l.length cap, .string kind, .string word] w fun e w' => e = .returned (.bool true) ∧ Below w.heap.size w w' := by
  by_cases hr : f < 1 ∨ 2 < f
  · go_enter Tryd.func5, Tryd.ntmps5
    go_wp2_with fail
    refine (new_range f _ w hr).mono ?_
    rintro e w1 ⟨rfl, rfl⟩
    go_wp2_with fail
    refine (refNew_range f _ w1 hr).mono ?_
    rintro e w2 ⟨rfl, rfl⟩
    go_wp2
    go_ret
    exact ⟨rfl, Below.refl _ _⟩
  · obtain ⟨n, rfl⟩ := Int.eq_ofNat_of_zero_le (a := f) (by omega)
    have n2 : n ≤ 2 := by omega
    go_enter Tryd.func5, Tryd.ntmps5
    go_wp2_with fail
    refine (new_yes n _ w (by omega) n2 (by decide) hG).mono ?_
    rintro e w1 ⟨b1, rfl, hb1, hT1, hB1⟩
    go_wp2_with fail
    refine (refNew_yes n _ w1 (by omega) n2 (by decide) (hG.below hB1)).mono ?_
    rintro e w2 ⟨b2, rfl, hb2, hT2, hB2⟩
    have hT3 := hT1.below hB2
    have hB3 := hB1.trans (hB2.mono hB1.size)
    have hG2 := hG.below hB3
    have hl2 := hl.below hB3
    clear hT1 hB1 hB2 hb1 hb2
    obtain ⟨ks, hks⟩ : ∃ z, Hid (z = keysL ⟨#[115, 101, 101, 100]⟩ (3 * n + 1)) := ⟨_, rfl⟩
    rw [← hks.out] at hT2 hT3
    have hk32 : ∀ k ∈ ks, k.size ≤ 32 := by rw [hks.out]; exact keysL_size _ _
    have hkl : ks.length = 3 * n + 1 := by rw [hks.out, keysL_len]
    by_cases h5 : (500 : Int) < (kind.size : Int)
    · go_wp2
      go_ret
      exact ⟨rfl, hB3⟩
    · by_cases h6 : (1000 : Int) < (word.size : Int)
      · go_wp2
        go_ret
        exact ⟨rfl, hB3⟩
      · by_cases h7 : (50 : Int) < (l.length : Int)
        · go_wp2
          go_ret
          exact ⟨rfl, hB3⟩
        · obtain ⟨i0, hi, hz0, hz1, hz2⟩ := info_parts infoTagAll
          have hbA := (Below.refl w2.heap.size w2).alloc (Nat.le_refl _) (.cells #[] 32)
          have hown0 : (w2.alloc (.cells #[] 32)).ownsRow w2.heap.size 32 2 (.slice (some ⟨w2.heap.size, 0, none⟩) 0 0) 0 [] := World.ownsRow_lit w2 #[] 0 (Nat.le_refl _) (Nat.zero_le _) rfl
          have hlA := hl2.below hbA
          have hszA := alloc_size w2 (.cells #[] 32)
          cases ao with
          | none =>
            have hst : ∀ (a : Addr) (w : World), (storeCells a []).run Tryd.prog w = .ok () w := fun _ _ => rfl
            obtain rfl : l = [] := by
              cases l with
              | nil => rfl
              | cons x l => obtain ⟨b, off, h, _⟩ := hl 0 x rfl; cases h
            obtain ⟨c, hcc⟩ : ∃ z, Hid (z = enoughL ks n kind word []) := ⟨_, rfl⟩
            have k1 := enough_any b1 n ks (some ⟨w2.heap.size, 0, none⟩) 0 [] kind word _ (hT3.below hbA) n2 hk32 (fun j x hj => by simp at hj) (Nat.zero_le _) (by omega) (by omega) (hG2.below hbA)
            rw [← hcc.out] at k1
            go_wp2_with fail
            refine k1.mono ?_
            rintro e w3 ⟨rfl, hB4⟩
            have hbB := hbA.trans (hB4.mono hbA.size)
            have k2 := refEnough_any b2 n ks none cap [] kind word w3 (hT2.below hbB) n2 hkl hk32 (fun j x hj => by simp at hj) (Nat.zero_le _) (by omega) (by omega) (hG2.below hbB)
            rw [← hcc.out] at k2
            have hB5 := hB3.trans (hbB.mono hB3.size)
            clear k1 hB4 hbA hbB hown0 hlA hszA
            go_wp2_with fail
            refine k2.mono ?_
            rintro e w4 ⟨rfl, hB6⟩
            have hB7 := hB5.trans (hB6.mono hB5.size)
            clear k2 hB6
            go_wp2
            go_ret
            exact ⟨rfl, hB7⟩
          | some ad =>
            obtain ⟨c, hcc⟩ : ∃ z, Hid (z = enoughL ks n kind word l) := ⟨_, rfl⟩
            go_wp2_with (at_builtin; refine wpList_append_own _ rfl _ _ 37 rfl w2.heap.size 32 i0 (.agg #[.int .i64 0, .string ⟨#[]⟩]) 2 24 Tryd.underlying37 hi hz0 hz1 hz2 rfl (by decide) _ 0 [] rfl hown0 ad l.length cap (flatT l) rfl (flatT_length l) (tags_news hlA) (flatT_one l) ?c3 ?c4 ?c5 ?_)
            case c3 => unfold maxLen; omega
            case c4 => omega
            case c5 => omega
            intro v' w3 hown' hgrow _
            have hbB : Below w2.heap.size w2 w3 := hbA.grown hgrow (by omega) (fun k hk => (hown0.lt k hk).1)
            obtain ⟨a', cap', rfl, hla⟩ := own_tags hown'
            have k1 := enough_any b1 n ks a' cap' l kind word w3 (hT3.below hbB) n2 hk32 hla hlm (by omega) (by omega) (hG2.below hbB)
            rw [← hcc.out] at k1
            clear hown0 hown' hgrow hlA hszA
            go_wp2_with fail
            refine k1.mono ?_
            rintro e w4 ⟨rfl, hB4⟩
            have hbC := hbB.trans (hB4.mono hbB.size)
            have k2 := refEnough_any b2 n ks (some ad) cap l kind word w4 (hT2.below hbC) n2 hkl hk32 (hl2.below hbC) hlm (by omega) (by omega) (hG2.below hbC)
            rw [← hcc.out] at k2
            have hB5 := hB3.trans (hbC.mono hB3.size)
            clear k1 hB4 hbA hbB hbC
            go_wp2_with fail
            refine k2.mono ?_
            rintro e w5 ⟨rfl, hB6⟩
            have hB7 := hB5.trans (hB6.mono hB5.size)
            clear k2 hB6
            go_wp2
            go_ret
            exact ⟨rfl, hB7⟩
end Go.Proofs.YtlbibhngfnllbaaDoor
