/- tusklaw01.WireTextBack answers true at every two strings; nothing old in memory is turned. -/
import Derived.Test.YtkjbaahoalcfbaaWireIntBackWalk
namespace Go.Proofs.Ytkjbaahoalcfbaa
open Go.RowKit Go.Sort

set_option maxRecDepth 100000 in
set_option maxHeartbeats 2000000 in
theorem textBack_long (t s : ByteArray) (w : World) (ht : t.size ≤ 140737488351232) (hs : s.size ≤ 140737488351232) (hl : 65536 < t.size) :
    Calls Try.prog 7 #[.string t, .string s] w fun e w' => e = .returned (.bool true) ∧ Below w.heap.size w w' := by
  have hg := goInt_length t.size
  obtain ⟨st, hst⟩ : ∃ st : ByteArray, st = ⟨(txt t.data.toList).toArray⟩ := ⟨_, rfl⟩
  have hz : st.size ≤ 140737488351241 := by rw [hst, size_mk]; simp [txt]; omega
  have HG : Hid (getText (st ++ s).data.toList = ([], 0, 8)) := by
    show _ = _
    rw [hst, append_list]
    exact getText_long t.data.toList s.data.toList (by simpa using hl) (by simp; omega)
  have hzs : Hid ((st ++ s).size ≤ maxLen) := by
    show _ ≤ _
    rw [ByteArray.size_append']
    unfold maxLen
    omega
  have Hst : Hid ((⟨(txt t.data.toList).toArray⟩ : ByteArray) = st) := hst.symm
  clear hst hg
  go_enter Try.func7, Try.ntmps7
  go_wp2_with (first | (go_at_call 22; refine (works_any _).mono ?_; rintro e w1 ⟨rfl, hw1⟩) | fail)
  refine (text_any _ _ (by omega)).mono ?_
  rintro e w2 ⟨rfl, hw2⟩
  rw [Hst.out]
  have hwa := hw1.trans (hw2.mono hw1.size)
  clear hw1 hw2
  go_wp2_with fail
  refine (getText_at _ _ [] 0 8 hzs.out HG.out).mono ?_
  rintro e w3 ⟨rfl, rfl⟩
  go_wp2
  go_ret
  exact ⟨rfl, hwa⟩

set_option maxRecDepth 100000 in
set_option maxHeartbeats 2000000 in
theorem textBack_err (t s : ByteArray) (w : World) (hs : s.size ≤ 140737488351232) (hl : t.size ≤ 65536) (y : List UInt8) (j er : Nat) (hr : getText s.data.toList = (y, j, er)) (her : er ≠ 0) :
    Calls Try.prog 7 #[.string t, .string s] w fun e w' => e = .returned (.bool true) ∧ Below w.heap.size w w' := by
  have hs0 : Hid (s.size ≤ maxLen) := by show _ ≤ _; unfold maxLen; omega
  have HR : Hid (getText s.data.toList = (y, j, er)) := hr
  have hg := goInt_length t.size
  obtain ⟨st, hst⟩ : ∃ st : ByteArray, st = ⟨(txt t.data.toList).toArray⟩ := ⟨_, rfl⟩
  have hz : st.size ≤ 70000 := by rw [hst, size_mk]; simp [txt]; omega
  have HG : Hid (getText (st ++ s).data.toList = (t.data.toList, st.size, 0)) := by
    show _ = _
    rw [hst, append_list, size_mk]
    exact getText_txt t.data.toList s.data.toList (by simpa using hl)
  have hzs : Hid ((st ++ s).size ≤ maxLen) := by
    show _ ≤ _
    rw [ByteArray.size_append']
    unfold maxLen
    omega
  have Hst : Hid ((⟨(txt t.data.toList).toArray⟩ : ByteArray) = st) := hst.symm
  have hne : ((er : Int) != 0) = true := by rw [bne_iff_ne]; omega
  clear hst hg hr
  go_enter Try.func7, Try.ntmps7
  go_wp2_with (first | (go_at_call 22; refine (works_any _).mono ?_; rintro e w1 ⟨rfl, hw1⟩) | fail)
  refine (text_any _ _ (by omega)).mono ?_
  rintro e w2 ⟨rfl, hw2⟩
  rw [Hst.out]
  have hwa := hw1.trans (hw2.mono hw1.size)
  clear hw1 hw2
  go_wp2_with fail
  refine (getText_at _ _ _ _ _ hzs.out HG.out).mono ?_
  rintro e w3 ⟨rfl, rfl⟩
  rw [mk_list]
  go_wp2_with fail
  refine (getText_at _ _ _ _ _ hs0.out HR.out).mono ?_
  rintro e w3 ⟨rfl, rfl⟩
  go_wp2_with fail
  go_quiet (fail)
  go_wp2
  go_ret
  exact ⟨rfl, below_drewN hwa nq⟩

set_option maxRecDepth 100000 in
set_option maxHeartbeats 2000000 in
theorem textBack_ok (t s : ByteArray) (w : World) (hs : s.size ≤ 140737488351232) (hl : t.size ≤ 65536) (y : List UInt8) (j : Nat) (hr : getText s.data.toList = (y, j, 0)) :
    Calls Try.prog 7 #[.string t, .string s] w fun e w' => e = .returned (.bool true) ∧ Below w.heap.size w w' := by
  have hs0 : Hid (s.size ≤ maxLen) := by show _ ≤ _; unfold maxLen; omega
  have HR : Hid (getText s.data.toList = (y, j, 0)) := hr
  have hg := goInt_length t.size
  obtain ⟨st, hst⟩ : ∃ st : ByteArray, st = ⟨(txt t.data.toList).toArray⟩ := ⟨_, rfl⟩
  have hz : st.size ≤ 70000 := by rw [hst, size_mk]; simp [txt]; omega
  have HG : Hid (getText (st ++ s).data.toList = (t.data.toList, st.size, 0)) := by
    show _ = _
    rw [hst, append_list, size_mk]
    exact getText_txt t.data.toList s.data.toList (by simpa using hl)
  have hzs : Hid ((st ++ s).size ≤ maxLen) := by
    show _ ≤ _
    rw [ByteArray.size_append']
    unfold maxLen
    omega
  have Hst : Hid ((⟨(txt t.data.toList).toArray⟩ : ByteArray) = st) := hst.symm
  have hb := getText_bounds _ y j hr
  have hsz : s.data.toList.length = s.size := by simp
  have hj1 : (j : Int) ≤ s.size := by omega
  have hbk := getText_back _ y j hr
  obtain ⟨sy, hsy⟩ : ∃ sy : ByteArray, sy = ⟨y.toArray⟩ := ⟨_, rfl⟩
  have hyl : sy.size ≤ 65536 := by rw [hsy, size_mk]; omega
  have Hy : Hid ((⟨(txt sy.data.toList).toArray⟩ : ByteArray) = s.extract 0 j) := by
    show _ = _
    rw [extract_take, hsy, hbk]
  have Hsy : Hid ((⟨y.toArray⟩ : ByteArray) = sy) := hsy.symm
  clear hst hg hr hb hsz hbk hsy
  go_enter Try.func7, Try.ntmps7
  go_wp2_with (first | (go_at_call 22; refine (works_any _).mono ?_; rintro e w1 ⟨rfl, hw1⟩) | fail)
  refine (text_any _ _ (by omega)).mono ?_
  rintro e w2 ⟨rfl, hw2⟩
  rw [Hst.out]
  have hwa := hw1.trans (hw2.mono hw1.size)
  clear hw1 hw2
  go_wp2_with fail
  refine (getText_at _ _ _ _ _ hzs.out HG.out).mono ?_
  rintro e w3 ⟨rfl, rfl⟩
  rw [mk_list]
  go_wp2_with fail
  refine (getText_at _ _ _ _ _ hs0.out HR.out).mono ?_
  rintro e w3 ⟨rfl, rfl⟩
  rw [Hsy.out]
  go_wp2_with fail
  have cI : ∀ d os, Calls Try.prog 15 #[.string sy] (grow (redrawn w3 d) os) fun e w'' => e = .returned (.string (s.extract 0 j)) ∧ ∃ p : Regrown, w'' = grow (redrawn w3 p.d) p.os := fun d os => Calls.regrown_of (by
    have h := text_any sy (grow (redrawn w3 d) os) (by omega)
    rw [Hy.out] at h
    exact h)
  have dk1 : decide ((j : Int) ≤ (s.size : Int)) = true := decide_eq_true hj1
  refine wp_region_quiet_below (by kernel_rfl) (by kernel_rfl) ?_
  repeat (first | go_big_quiet_step (exact cI _ _) | quiet_step (exact cI _ _))
  refine wpQuiet_nil ?_
  intro _ hw'
  obtain ⟨⟨dq, osq⟩, hw''⟩ := hw'
  subst hw''
  clear cI
  go_wp2
  go_ret
  exact ⟨rfl, hwa.trans ((below_regrown w3 dq osq).mono hwa.size)⟩

theorem textBack_walk (t s : ByteArray) (w : World) (ht : t.size ≤ 140737488351232) (hs : s.size ≤ 140737488351232) :
    Calls Try.prog 7 #[.string t, .string s] w fun e w' => e = .returned (.bool true) ∧ Below w.heap.size w w' := by
  by_cases hl : 65536 < t.size
  · exact textBack_long t s w ht hs hl
  · rcases hr : getText s.data.toList with ⟨y, j, er⟩
    by_cases he : er = 0
    · subst he; exact textBack_ok t s w hs (by omega) y j hr
    · exact textBack_err t s w hs (by omega) y j er hr he
end Go.Proofs.Ytkjbaahoalcfbaa
