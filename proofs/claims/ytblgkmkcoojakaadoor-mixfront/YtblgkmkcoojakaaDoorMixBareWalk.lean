/- tusklaw02.works and tusklaw02.MixBare answer true; nothing old in memory is turned. -/
import Derived.Test.YtblgkmkcoojakaaDoorMixFace
import Derived.Test.YtblgkmkcoojakaaDoorMixVectors
namespace Go.Proofs.YtblgkmkcoojakaaDoor
open Go.RowKit Go.Sort
set_option linter.unusedVariables false

set_option maxRecDepth 100000 in
theorem works_any (w : World) (hG : Glob w) :
    Calls Tryd.prog 13 #[] w fun e w' => e = .returned (.bool true) ∧ Below w.heap.size w w' := by
  go_enter Tryd.func13, Tryd.ntmps13
  go_wp2_with fail
  refine (sum_any ⟨#[97, 98, 99]⟩ w (by decide) hG).mono ?_
  rintro e w' ⟨rfl, hB⟩
  have hG' := hG.below hB
  rw [show bytes (sumL (⟨#[97, 98, 99]⟩ : ByteArray).data.toList) = ⟨#[80, 140, 94, 140, 50, 124, 20, 226, 225, 167, 43, 163, 78, 235, 69, 47, 55, 69, 139, 32, 158, 214, 58, 41, 77, 153, 155, 76, 134, 103, 89, 130]⟩ from congrArg bytes sum_abc]
  go_wp2_with fail
  refine (keyed_any ⟨#[107, 101, 121]⟩ ⟨#[116, 101, 120, 116]⟩ w' (by decide) (by decide) hG').mono ?_
  rintro e w2 ⟨rfl, hB2⟩
  have hB3 := hB.trans (hB2.mono hB.size)
  rw [show bytes (keyedL (⟨#[107, 101, 121]⟩ : ByteArray).data.toList (⟨#[116, 101, 120, 116]⟩ : ByteArray).data.toList) = ⟨#[158, 31, 105, 202, 121, 34, 223, 151, 244, 103, 48, 12, 201, 83, 72, 16, 75, 118, 155, 198, 80, 236, 51, 38, 94, 186, 105, 151, 166, 242, 164, 211]⟩ from congrArg bytes keyed_text]
  go_wp2
  go_ret
  exact ⟨rfl, hB3⟩

set_option maxRecDepth 100000 in
set_option maxHeartbeats 400000 in
theorem mixBare_walk (key s : ByteArray) (w : World) (hk : key.size ≤ 140737488351232) (hs : s.size ≤ 140737488351232) (hG : Glob w) :
    Calls Tryd.prog 5 #[.string key, .string s] w fun e w' => e = .returned (.bool true) ∧ Below w.heap.size w w' := by
  go_enter Tryd.func5, Tryd.ntmps5
  go_wp2_with fail
  refine (works_any w hG).mono ?_
  rintro e w1 ⟨rfl, hB1⟩
  have hG1 := hG.below hB1
  by_cases h1 : 2000 < s.size
  · have h1' : (2000 : Int) < (s.size : Int) := by omega
    go_wp2
    go_ret
    exact ⟨rfl, hB1⟩
  by_cases h2 : 2000 < key.size
  · have h1' : ¬ (2000 : Int) < (s.size : Int) := by omega
    have h2' : (2000 : Int) < (key.size : Int) := by omega
    go_wp2
    go_ret
    exact ⟨rfl, hB1⟩
  have h1' : ¬ (2000 : Int) < (s.size : Int) := by omega
  have h2' : ¬ (2000 : Int) < (key.size : Int) := by omega
  go_wp2_with fail
  refine (keyed_any ⟨#[]⟩ s w1 (by decide) (by omega) hG1).mono ?_
  rintro e w2 ⟨rfl, hB2⟩
  have hG2 := hG1.below hB2
  have hB3 := hB1.trans (hB2.mono hB1.size)
  rw [show keyedL (⟨#[]⟩ : ByteArray).data.toList s.data.toList = sumL s.data.toList from rfl]
  obtain ⟨x, hx⟩ : ∃ z, Hid (z = bytes (sumL s.data.toList)) := ⟨_, rfl⟩
  have hxs : x.size = 32 := by rw [hx.out, bytes_size]; exact digestL_len _ _
  rw [← hx.out]
  go_wp2_with fail
  refine (sum_any s w2 (by omega) hG2).mono ?_
  rintro e w3 ⟨rfl, hB4⟩
  have hG3 := hG2.below hB4
  have hB5 := hB3.trans (hB4.mono hB3.size)
  rw [← hx.out]
  go_wp2_with fail
  refine (sum_any s w3 (by omega) hG3).mono ?_
  rintro e w4 ⟨rfl, hB6⟩
  have hG4 := hG3.below hB6
  have hB7 := hB5.trans (hB6.mono hB5.size)
  rw [← hx.out]
  clear hG1 hG2 hG3 hB1 hB2 hB3 hB4 hB5 hB6
  go_wp2_with fail
  refine (short_any key s w4 (by omega) (by omega) hG4).mono ?_
  rintro e w5 ⟨rfl, hB8⟩
  have hG5 := hG4.below hB8
  have hB9 := hB7.trans (hB8.mono hB7.size)
  obtain ⟨y, hy⟩ : ∃ z, Hid (z = (bytes (keyedL key.data.toList s.data.toList)).extract 0 16) := ⟨_, rfl⟩
  have hys : y.size = 16 := by
    rw [hy.out, ByteArray.size_extract, bytes_size, keyedL_len]; rfl
  rw [← hy.out]
  by_cases h3 : key.size ≤ 32
  · have h3' : (key.size : Int) ≤ 32 := by omega
    go_wp2
    go_ret
    exact ⟨by simp, hB9⟩
  · have h3' : ¬ (key.size : Int) ≤ 32 := by omega
    go_wp2_with fail
    refine (keyed_any key s w5 (by omega) (by omega) hG5).mono ?_
    rintro e w6 ⟨rfl, hB10⟩
    have hG6 := hG5.below hB10
    have hB11 := hB9.trans (hB10.mono hB9.size)
    obtain ⟨z, hz⟩ : ∃ z, Hid (z = bytes (keyedL key.data.toList s.data.toList)) := ⟨_, rfl⟩
    rw [← hz.out]
    go_wp2_with fail
    refine (sum_any key w6 (by omega) hG6).mono ?_
    rintro e w7 ⟨rfl, hB12⟩
    have hG7 := hG6.below hB12
    have hB13 := hB11.trans (hB12.mono hB11.size)
    go_wp2_with fail
    refine (keyed_any (bytes (sumL key.data.toList)) s w7 (by rw [bytes_size]; show (digestL _ _).length ≤ _; rw [digestL_len]; decide) (by omega) hG7).mono ?_
    rintro e w8 ⟨rfl, hB14⟩
    have hB15 := hB13.trans (hB14.mono hB13.size)
    have e1 : bytes (keyedL (bytes (sumL key.data.toList)).data.toList s.data.toList) = z := by
      rw [hz.out, bytes_list]
      unfold keyedL
      have hkl : key.data.toList.length = key.size := by simp
      rw [if_pos (show key.data.toList.length > 32 by omega), if_neg (by show ¬ (digestL _ _).length > 32; rw [digestL_len]; decide)]
    rw [e1]
    go_wp2
    go_ret
    exact ⟨by simp, hB15⟩
end Go.Proofs.YtblgkmkcoojakaaDoor
