/- What the reference's Sum, Keyed and Short do; nothing old in memory is turned. -/
import Derived.Test.YtlbibhngfnllbaaDoorMixFace
import Derived.Test.YtlbibhngfnllbaaDoorRefMixDigest
namespace Go.Proofs.YtlbibhngfnllbaaDoor
open Go.RowKit Go.Sort
set_option linter.unusedVariables false

set_option maxRecDepth 100000 in
theorem refSum_any (s : ByteArray) (w : World) (hs : s.size ≤ 4096) :
    Calls Tryd.prog 33 #[.string s] w fun e w' => e = .returned (.string (bytes (sumL s.data.toList))) ∧ Below w.heap.size w w' := by
  go_enter Tryd.func33, Tryd.ntmps33
  go_wp2_with fail
  refine (refDigest_any s 0 w hs (by decide)).mono ?_
  rintro e w' ⟨rfl, hB⟩
  go_wp2
  go_ret
  exact ⟨rfl, hB⟩

theorem ne_empty {k : ByteArray} (h : 0 < k.size) : k.data.toList ≠ [] := by
  intro e
  have : k.data.toList.length = 0 := by rw [e]; rfl
  have h2 : k.data.toList.length = k.size := by simp
  omega

theorem isEmpty_no {k : ByteArray} (h : 0 < k.size) : k.toList.isEmpty = false := by
  rw [ByteArray.toList_eq]
  cases hl : k.data.toList with
  | nil => exact absurd hl (ne_empty h)
  | cons _ _ => rfl

set_option maxRecDepth 100000 in
set_option maxHeartbeats 400000 in
theorem refKeyed_any (key s : ByteArray) (w : World) (hk : key.size ≤ 4000) (hs : s.size ≤ 4000) :
    Calls Tryd.prog 24 #[.string key, .string s] w fun e w' => e = .returned (.string (bytes (keyedL key.data.toList s.data.toList))) ∧ Below w.heap.size w w' := by
  obtain ⟨iB, hiB, hb0, hb1, hb2⟩ := info_parts infoByte
  have hkk : key.data.toList.length = key.size := by simp
  go_enter Tryd.func24, Tryd.ntmps24
  by_cases h : 32 < key.size
  · have h1 : (32 : Int) < (key.size : Int) := by omega
    go_wp2_with fail
    refine (refSum_any key w (by omega)).mono ?_
    rintro e w1 ⟨rfl, hB1⟩
    obtain ⟨k, hkd⟩ : ∃ z, Hid (z = bytes (sumL key.data.toList)) := ⟨_, rfl⟩
    have hk32 : k.size ≤ 32 ∧ 0 < k.size := by rw [hkd.out, bytes_size, show (sumL key.data.toList).length = 32 from digestL_len _ _]; omega
    have hk32a := hk32.1
    have hk32b := hk32.2
    rw [← hkd.out]
    have hkn := ne_empty (k := k) (by omega)
    have hke := isEmpty_no (k := k) (by omega)
    obtain ⟨nz, hnz⟩ : ∃ z, Hid (z = 64 - k.size) := ⟨_, rfl⟩
    go_wp2_with (refine wpList_make_full _ (by rfl) _ _ 55 (by rfl) w1.heap.size 5 iB (.int .u8 0) 1 Tryd.underlying55 hiB hb0 hb1 .i64 .i64 _ _ nz (by rfl) (by rfl) ?m1 ?m2 ?m3 ?m4 (Nat.le_refl _) ?_)
    case m1 => have := hnz.out; omega
    case m2 => have := hnz.out; omega
    case m3 => have := hnz.out; first | omega | (rw [hb2]; omega)
    case m4 => have := hnz.out; unfold maxLen; omega
    intro w3 hown3 hgrow3
    have hB3 : Below w1.heap.size w1 w3 := (Below.refl _ w1).grown hgrow3 (Nat.le_refl _) (fun k hk => by cases hk)
    rw [made_zeros] at hown3
    have hcv := own_string (l := List.replicate nz 0) (by simpa using hown3)
    clear hown3 hgrow3
    obtain ⟨T, hT⟩ : ∃ z, Hid (z = k ++ ⟨Array.replicate nz 0⟩) := ⟨_, rfl⟩
    have hTc : k ++ (⟨Array.replicate nz 0⟩ : ByteArray) = T := hT.out.symm
    have hTl : T.data.toList = k.data.toList ++ List.replicate nz 0 := by rw [hT.out]; simp
    have hkl : k.data.toList.length = k.size := by simp
    have hTs : Hid (T.size = 64) := by
      show _ = _
      have := congrArg List.length hTl
      have hn := hnz.out
      simp at this
      omega
    obtain ⟨U, hU⟩ : ∃ z, Hid (z = T ++ s) := ⟨_, rfl⟩
    have hUc : T ++ s = U := hU.out.symm
    have hUl : Hid (U.data.toList = k.data.toList ++ List.replicate (64 - k.data.toList.length) 0 ++ s.data.toList) := by show _ = _; rw [hU.out, hkl, ← hnz.out, ← hTl]; simp
    have hUs : U.size ≤ 4064 := by rw [hU.out, ByteArray.size_append, hTs.out]; omega
    have hmx : k.size + nz ≤ maxLen := by have := hnz.out; unfold maxLen; omega
    have hmx1 : ¬ (maxLen < k.size + nz) := by omega
    have hmx2 : T.size + s.size ≤ maxLen := by have := hTs.out; unfold maxLen; omega
    have hmx3 : ¬ (maxLen < T.size + s.size) := by omega
    go_wp2_with fail
    refine (refDigest_any U k.size w3 (by omega) (by omega)).mono ?_
    rintro e w4 ⟨rfl, hB4⟩
    have hB5 := hB1.trans ((hB3.trans (hB4.mono hB3.size)).mono hB1.size)
    have hres : Hid (keyedS k.data.toList s.data.toList = digestL U.data.toList k.size) := by
      show _ = _
      unfold keyedS
      rw [if_neg hkn, hUl.out, hkl]
    clear hB3 hB4 hUl
    go_wp2
    go_ret
    refine ⟨?_, hB5⟩
    unfold keyedL
    rw [if_pos (by omega), ← bytes_list (sumL key.data.toList), ← hkd.out, hres.out]
    rfl
  · have h1 : ¬ (32 : Int) < (key.size : Int) := by omega
    by_cases hz : key.size = 0
    · have hke : key.toList.isEmpty = true := by
        rw [ByteArray.toList_eq]
        rw [hz, List.length_eq_zero_iff] at hkk
        rw [hkk]; rfl
      go_wp2_with fail
      refine (refSum_any s w (by omega)).mono ?_
      rintro e w1 ⟨rfl, hB1⟩
      have hres : Hid (keyedL key.data.toList s.data.toList = sumL s.data.toList) := by
        show _ = _
        rw [hz, List.length_eq_zero_iff] at hkk
        rw [hkk, keyedL_nil]
      go_wp2
      go_ret
      refine ⟨?_, hB1⟩
      rw [hres.out]
      rfl
    · have hkn := ne_empty (k := key) (by omega)
      have hke := isEmpty_no (k := key) (by omega)
      have hB1 := Below.refl w.heap.size w
      obtain ⟨nz, hnz⟩ : ∃ z, Hid (z = 64 - key.size) := ⟨_, rfl⟩
      go_wp2_with (refine wpList_make_full _ (by rfl) _ _ 55 (by rfl) w.heap.size 5 iB (.int .u8 0) 1 Tryd.underlying55 hiB hb0 hb1 .i64 .i64 _ _ nz (by rfl) (by rfl) ?m1 ?m2 ?m3 ?m4 (Nat.le_refl _) ?_)
      case m1 => have := hnz.out; omega
      case m2 => have := hnz.out; omega
      case m3 => have := hnz.out; first | omega | (rw [hb2]; omega)
      case m4 => have := hnz.out; unfold maxLen; omega
      intro w3 hown3 hgrow3
      have hB3 : Below w.heap.size w w3 := (Below.refl _ w).grown hgrow3 (Nat.le_refl _) (fun k hk => by cases hk)
      rw [made_zeros] at hown3
      have hcv := own_string (l := List.replicate nz 0) (by simpa using hown3)
      clear hown3 hgrow3
      obtain ⟨T, hT⟩ : ∃ z, Hid (z = key ++ ⟨Array.replicate nz 0⟩) := ⟨_, rfl⟩
      have hTc : key ++ (⟨Array.replicate nz 0⟩ : ByteArray) = T := hT.out.symm
      have hTl : T.data.toList = key.data.toList ++ List.replicate nz 0 := by rw [hT.out]; simp
      have hkl : key.data.toList.length = key.size := by simp
      have hTs : Hid (T.size = 64) := by
        show _ = _
        have := congrArg List.length hTl
        have hn := hnz.out
        simp at this
        omega
      obtain ⟨U, hU⟩ : ∃ z, Hid (z = T ++ s) := ⟨_, rfl⟩
      have hUc : T ++ s = U := hU.out.symm
      have hUl : Hid (U.data.toList = key.data.toList ++ List.replicate (64 - key.data.toList.length) 0 ++ s.data.toList) := by show _ = _; rw [hU.out, hkl, ← hnz.out, ← hTl]; simp
      have hUs : U.size ≤ 4064 := by rw [hU.out, ByteArray.size_append, hTs.out]; omega
      have hmx : key.size + nz ≤ maxLen := by have := hnz.out; unfold maxLen; omega
      have hmx1 : ¬ (maxLen < key.size + nz) := by omega
      have hmx2 : T.size + s.size ≤ maxLen := by have := hTs.out; unfold maxLen; omega
      have hmx3 : ¬ (maxLen < T.size + s.size) := by omega
      go_wp2_with fail
      refine (refDigest_any U key.size w3 (by omega) (by omega)).mono ?_
      rintro e w4 ⟨rfl, hB4⟩
      have hB5 := hB1.trans ((hB3.trans (hB4.mono hB3.size)).mono hB1.size)
      have hres : Hid (keyedS key.data.toList s.data.toList = digestL U.data.toList key.size) := by
        show _ = _
        unfold keyedS
        rw [if_neg hkn, hUl.out, hkl]
      clear hB3 hB4 hUl
      go_wp2
      go_ret
      refine ⟨?_, hB5⟩
      unfold keyedL
      rw [if_neg (by omega), hres.out]
      rfl

set_option maxRecDepth 100000 in
theorem refShort_any (key s : ByteArray) (w : World) (hk : key.size ≤ 4000) (hs : s.size ≤ 4000) :
    Calls Tryd.prog 29 #[.string key, .string s] w fun e w' => e = .returned (.string ((bytes (keyedL key.data.toList s.data.toList)).extract 0 16)) ∧ Below w.heap.size w w' := by
  go_enter Tryd.func29, Tryd.ntmps29
  go_wp2_with fail
  refine (refKeyed_any key s w hk hs).mono ?_
  rintro e w' ⟨rfl, hB⟩
  have hz : (bytes (keyedL key.data.toList s.data.toList)).size = 32 := by rw [bytes_size]; exact keyedL_len _ _
  obtain ⟨x, hx⟩ : ∃ z, Hid (z = bytes (keyedL key.data.toList s.data.toList)) := ⟨_, rfl⟩
  rw [← hx.out] at hz ⊢
  have h16 : (16 : Int) ≤ (x.size : Int) := by omega
  go_wp2
  go_ret
  rw [← hx.out]
  exact ⟨rfl, hB⟩
end Go.Proofs.YtlbibhngfnllbaaDoor
