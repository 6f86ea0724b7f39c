/- tusklaw01.WireIntBack answers true at every number and every string; nothing old in memory is turned. -/
import Derived.Test.YtkjbaahoalcfbaaWireWorks
import Derived.Test.YtkjbaahoalcfbaaWireBackMath
import Derived.Deep.QuietTactic
import Derived.BigQuiet
import Derived.Lib.QuietBelow
namespace Go.Proofs.Ytkjbaahoalcfbaa
open Go.RowKit Go.Sort

theorem str_self (x : ByteArray) : (x.toList == x.toList) = true := by simp

theorem extract_take (s : ByteArray) (k : Nat) : s.extract 0 k = ⟨(s.data.toList.take k).toArray⟩ := by
  rw [extract_list]
  simp

set_option maxRecDepth 100000 in
set_option maxHeartbeats 2000000 in
theorem intBack_in_err (n : Nat) (hn : n ≤ 4611686018427387903) (s : ByteArray) (w : World) (hs : s.size ≤ 140737488351232) (m k er : Nat) (hr : getInt s.data.toList = (m, k, er)) (her : er ≠ 0) :
    Calls Try.prog 6 #[.int .i64 n, .string s] w fun e w' => e = .returned (.bool true) ∧ Below w.heap.size w w' := by
  have hs0 : Hid (s.size ≤ maxLen) := by show _ ≤ _; unfold maxLen; omega
  have HR : Hid (getInt s.data.toList = (m, k, er)) := hr
  have h1 : (0 : Int) ≤ n := by omega
  have h2 : (n : Int) ≤ 4611686018427387903 := by omega
  have h9 := enc_length_nine n hn
  obtain ⟨st, hst⟩ : ∃ st : ByteArray, st = ⟨(enc n).toArray⟩ := ⟨_, rfl⟩
  have hz : st.size = (enc n).length := by rw [hst, size_mk]
  have hz9 : st.size ≤ 9 := by omega
  have HG : Hid (getInt (st ++ s).data.toList = (n, st.size, 0)) := by
    show _ = _
    rw [hz, hst, append_list]
    exact getInt_enc n s.data.toList hn
  have hzs : Hid ((st ++ s).size ≤ maxLen) := by
    show _ ≤ _
    rw [ByteArray.size_append']
    unfold maxLen
    omega
  have Hst : Hid ((⟨(goInt n).toArray⟩ : ByteArray) = st) := by show _ = _; rw [hst, goInt_nat n hn]
  have hne : ((er : Int) != 0) = true := by rw [bne_iff_ne]; omega
  clear hr
  go_enter Try.func6, Try.ntmps6
  go_wp2_with (first | (go_at_call 22; refine (works_any _).mono ?_; rintro e w1 ⟨rfl, hw1⟩) | fail)
  refine (int_any _ _).mono ?_
  rintro e w2 ⟨rfl, hw2⟩
  rw [Hst.out]
  have hwa := hw1.trans (hw2.mono hw1.size)
  clear hw1 hw2
  clear hst hz h9
  go_wp2_with fail
  refine (getInt_at _ _ n st.size 0 hzs.out HG.out).mono ?_
  rintro e w3 ⟨rfl, rfl⟩
  go_wp2_with fail
  refine (getInt_at _ _ m k _ hs0.out HR.out).mono ?_
  rintro e w3 ⟨rfl, rfl⟩
  go_wp2_with fail
  go_quiet (fail)
  go_wp2
  go_ret
  exact ⟨rfl, below_drewN hwa nq⟩

set_option maxRecDepth 100000 in
set_option maxHeartbeats 2000000 in
theorem intBack_in_ok (n : Nat) (hn : n ≤ 4611686018427387903) (s : ByteArray) (w : World) (hs : s.size ≤ 140737488351232) (m k : Nat) (hr : getInt s.data.toList = (m, k, 0)) :
    Calls Try.prog 6 #[.int .i64 n, .string s] w fun e w' => e = .returned (.bool true) ∧ Below w.heap.size w w' := by
  have hs0 : Hid (s.size ≤ maxLen) := by show _ ≤ _; unfold maxLen; omega
  have HR : Hid (getInt s.data.toList = (m, k, 0)) := hr
  have h1 : (0 : Int) ≤ n := by omega
  have h2 : (n : Int) ≤ 4611686018427387903 := by omega
  have h9 := enc_length_nine n hn
  obtain ⟨st, hst⟩ : ∃ st : ByteArray, st = ⟨(enc n).toArray⟩ := ⟨_, rfl⟩
  have hz : st.size = (enc n).length := by rw [hst, size_mk]
  have hz9 : st.size ≤ 9 := by omega
  have HG : Hid (getInt (st ++ s).data.toList = (n, st.size, 0)) := by
    show _ = _
    rw [hz, hst, append_list]
    exact getInt_enc n s.data.toList hn
  have hzs : Hid ((st ++ s).size ≤ maxLen) := by
    show _ ≤ _
    rw [ByteArray.size_append']
    unfold maxLen
    omega
  have Hst : Hid ((⟨(goInt n).toArray⟩ : ByteArray) = st) := by show _ = _; rw [hst, goInt_nat n hn]
  obtain ⟨g1, g2⟩ := getInt_back _ m k hr
  obtain ⟨b1, b2, b3⟩ := getInt_bounds _ m k hr
  have hsz : s.data.toList.length = s.size := by simp
  rw [hsz] at b3
  have hk1 : (k : Int) ≤ s.size := by omega
  have hk0 : (0 : Int) < k := by omega
  have Hm : Hid ((⟨(goInt m).toArray⟩ : ByteArray) = s.extract 0 k) := by
    show _ = _
    rw [extract_take, g1, goInt_nat m b1]
  clear hr g1 g2 hsz
  go_enter Try.func6, Try.ntmps6
  go_wp2_with (first | (go_at_call 22; refine (works_any _).mono ?_; rintro e w1 ⟨rfl, hw1⟩) | fail)
  refine (int_any _ _).mono ?_
  rintro e w2 ⟨rfl, hw2⟩
  rw [Hst.out]
  have hwa := hw1.trans (hw2.mono hw1.size)
  clear hw1 hw2
  clear hst hz h9
  go_wp2_with fail
  refine (getInt_at _ _ n st.size 0 hzs.out HG.out).mono ?_
  rintro e w3 ⟨rfl, rfl⟩
  go_wp2_with fail
  refine (getInt_at _ _ m k _ hs0.out HR.out).mono ?_
  rintro e w3 ⟨rfl, rfl⟩
  go_wp2_with fail
  have cI : ∀ d os, Calls Try.prog 11 #[.int .i64 m] (grow (redrawn w3 d) os) fun e w'' => e = .returned (.string (s.extract 0 k)) ∧ ∃ p : Regrown, w'' = grow (redrawn w3 p.d) p.os := fun d os => Calls.regrown_of (by
    have h := int_any (m : Int) (grow (redrawn w3 d) os)
    rw [Hm.out] at h
    exact h)
  have dk1 : decide ((k : Int) ≤ (s.size : Int)) = true := decide_eq_true hk1
  have dk0 : decide (0 < k) = true := decide_eq_true (by omega)
  refine wp_region_quiet_below (by kernel_rfl) (by kernel_rfl) ?_
  repeat (first | go_big_quiet_step (exact cI _ _) | quiet_step (exact cI _ _))
  refine wpQuiet_nil ?_
  intro _ hw'
  obtain ⟨⟨dq, osq⟩, hw''⟩ := hw'
  subst hw''
  clear cI
  go_wp2
  go_ret
  exact ⟨rfl, hwa.trans ((below_regrown w3 dq osq).mono hwa.size)⟩

set_option maxRecDepth 100000 in
set_option maxHeartbeats 2000000 in
theorem intBack_outneg_err (n : Int) (hn : n < 0) (s : ByteArray) (w : World) (hs : s.size ≤ 140737488351232) (m k er : Nat) (hr : getInt s.data.toList = (m, k, er)) (her : er ≠ 0) :
    Calls Try.prog 6 #[.int .i64 n, .string s] w fun e w' => e = .returned (.bool true) ∧ Below w.heap.size w w' := by
  have hs0 : Hid (s.size ≤ maxLen) := by show _ ≤ _; unfold maxLen; omega
  have HR : Hid (getInt s.data.toList = (m, k, er)) := hr
  have Hst : Hid ((⟨(goInt n).toArray⟩ : ByteArray) = ⟨#[]⟩) := by show _ = _; rw [goInt, if_neg (by omega)]
  have hne : ((er : Int) != 0) = true := by rw [bne_iff_ne]; omega
  clear hr
  go_enter Try.func6, Try.ntmps6
  go_wp2_with (first | (go_at_call 22; refine (works_any _).mono ?_; rintro e w1 ⟨rfl, hw1⟩) | fail)
  refine (int_any _ _).mono ?_
  rintro e w2 ⟨rfl, hw2⟩
  rw [Hst.out]
  have hwa := hw1.trans (hw2.mono hw1.size)
  clear hw1 hw2
  go_wp2_with fail
  refine (getInt_at _ _ m k _ hs0.out HR.out).mono ?_
  rintro e w3 ⟨rfl, rfl⟩
  go_wp2_with fail
  go_quiet (fail)
  go_wp2
  go_ret
  exact ⟨rfl, below_drewN hwa nq⟩

set_option maxRecDepth 100000 in
set_option maxHeartbeats 2000000 in
theorem intBack_outbig_err (n : Int) (hn : 4611686018427387903 < n) (s : ByteArray) (w : World) (hs : s.size ≤ 140737488351232) (m k er : Nat) (hr : getInt s.data.toList = (m, k, er)) (her : er ≠ 0) :
    Calls Try.prog 6 #[.int .i64 n, .string s] w fun e w' => e = .returned (.bool true) ∧ Below w.heap.size w w' := by
  have hs0 : Hid (s.size ≤ maxLen) := by show _ ≤ _; unfold maxLen; omega
  have HR : Hid (getInt s.data.toList = (m, k, er)) := hr
  have Hst : Hid ((⟨(goInt n).toArray⟩ : ByteArray) = ⟨#[]⟩) := by show _ = _; rw [goInt, if_neg (by omega)]
  have h0 : ¬ n < 0 := by omega
  have hne : ((er : Int) != 0) = true := by rw [bne_iff_ne]; omega
  clear hr
  go_enter Try.func6, Try.ntmps6
  go_wp2_with (first | (go_at_call 22; refine (works_any _).mono ?_; rintro e w1 ⟨rfl, hw1⟩) | fail)
  refine (int_any _ _).mono ?_
  rintro e w2 ⟨rfl, hw2⟩
  rw [Hst.out]
  have hwa := hw1.trans (hw2.mono hw1.size)
  clear hw1 hw2
  go_wp2_with fail
  refine (getInt_at _ _ m k _ hs0.out HR.out).mono ?_
  rintro e w3 ⟨rfl, rfl⟩
  go_wp2_with fail
  go_quiet (fail)
  go_wp2
  go_ret
  exact ⟨rfl, below_drewN hwa nq⟩

set_option maxRecDepth 100000 in
set_option maxHeartbeats 2000000 in
theorem intBack_outneg_ok (n : Int) (hn : n < 0) (s : ByteArray) (w : World) (hs : s.size ≤ 140737488351232) (m k : Nat) (hr : getInt s.data.toList = (m, k, 0)) :
    Calls Try.prog 6 #[.int .i64 n, .string s] w fun e w' => e = .returned (.bool true) ∧ Below w.heap.size w w' := by
  have hs0 : Hid (s.size ≤ maxLen) := by show _ ≤ _; unfold maxLen; omega
  have HR : Hid (getInt s.data.toList = (m, k, 0)) := hr
  have Hst : Hid ((⟨(goInt n).toArray⟩ : ByteArray) = ⟨#[]⟩) := by show _ = _; rw [goInt, if_neg (by omega)]
  obtain ⟨g1, g2⟩ := getInt_back _ m k hr
  obtain ⟨b1, b2, b3⟩ := getInt_bounds _ m k hr
  have hsz : s.data.toList.length = s.size := by simp
  rw [hsz] at b3
  have hk1 : (k : Int) ≤ s.size := by omega
  have hk0 : (0 : Int) < k := by omega
  have Hm : Hid ((⟨(goInt m).toArray⟩ : ByteArray) = s.extract 0 k) := by
    show _ = _
    rw [extract_take, g1, goInt_nat m b1]
  clear hr g1 g2 hsz
  go_enter Try.func6, Try.ntmps6
  go_wp2_with (first | (go_at_call 22; refine (works_any _).mono ?_; rintro e w1 ⟨rfl, hw1⟩) | fail)
  refine (int_any _ _).mono ?_
  rintro e w2 ⟨rfl, hw2⟩
  rw [Hst.out]
  have hwa := hw1.trans (hw2.mono hw1.size)
  clear hw1 hw2
  go_wp2_with fail
  refine (getInt_at _ _ m k _ hs0.out HR.out).mono ?_
  rintro e w3 ⟨rfl, rfl⟩
  go_wp2_with fail
  have cI : ∀ d os, Calls Try.prog 11 #[.int .i64 m] (grow (redrawn w3 d) os) fun e w'' => e = .returned (.string (s.extract 0 k)) ∧ ∃ p : Regrown, w'' = grow (redrawn w3 p.d) p.os := fun d os => Calls.regrown_of (by
    have h := int_any (m : Int) (grow (redrawn w3 d) os)
    rw [Hm.out] at h
    exact h)
  have dk1 : decide ((k : Int) ≤ (s.size : Int)) = true := decide_eq_true hk1
  have dk0 : decide (0 < k) = true := decide_eq_true (by omega)
  refine wp_region_quiet_below (by kernel_rfl) (by kernel_rfl) ?_
  repeat (first | go_big_quiet_step (exact cI _ _) | quiet_step (exact cI _ _))
  refine wpQuiet_nil ?_
  intro _ hw'
  obtain ⟨⟨dq, osq⟩, hw''⟩ := hw'
  subst hw''
  clear cI
  go_wp2
  go_ret
  exact ⟨rfl, hwa.trans ((below_regrown w3 dq osq).mono hwa.size)⟩

set_option maxRecDepth 100000 in
set_option maxHeartbeats 2000000 in
theorem intBack_outbig_ok (n : Int) (hn : 4611686018427387903 < n) (s : ByteArray) (w : World) (hs : s.size ≤ 140737488351232) (m k : Nat) (hr : getInt s.data.toList = (m, k, 0)) :
    Calls Try.prog 6 #[.int .i64 n, .string s] w fun e w' => e = .returned (.bool true) ∧ Below w.heap.size w w' := by
  have hs0 : Hid (s.size ≤ maxLen) := by show _ ≤ _; unfold maxLen; omega
  have HR : Hid (getInt s.data.toList = (m, k, 0)) := hr
  have Hst : Hid ((⟨(goInt n).toArray⟩ : ByteArray) = ⟨#[]⟩) := by show _ = _; rw [goInt, if_neg (by omega)]
  have h0 : ¬ n < 0 := by omega
  obtain ⟨g1, g2⟩ := getInt_back _ m k hr
  obtain ⟨b1, b2, b3⟩ := getInt_bounds _ m k hr
  have hsz : s.data.toList.length = s.size := by simp
  rw [hsz] at b3
  have hk1 : (k : Int) ≤ s.size := by omega
  have hk0 : (0 : Int) < k := by omega
  have Hm : Hid ((⟨(goInt m).toArray⟩ : ByteArray) = s.extract 0 k) := by
    show _ = _
    rw [extract_take, g1, goInt_nat m b1]
  clear hr g1 g2 hsz
  go_enter Try.func6, Try.ntmps6
  go_wp2_with (first | (go_at_call 22; refine (works_any _).mono ?_; rintro e w1 ⟨rfl, hw1⟩) | fail)
  refine (int_any _ _).mono ?_
  rintro e w2 ⟨rfl, hw2⟩
  rw [Hst.out]
  have hwa := hw1.trans (hw2.mono hw1.size)
  clear hw1 hw2
  go_wp2_with fail
  refine (getInt_at _ _ m k _ hs0.out HR.out).mono ?_
  rintro e w3 ⟨rfl, rfl⟩
  go_wp2_with fail
  have cI : ∀ d os, Calls Try.prog 11 #[.int .i64 m] (grow (redrawn w3 d) os) fun e w'' => e = .returned (.string (s.extract 0 k)) ∧ ∃ p : Regrown, w'' = grow (redrawn w3 p.d) p.os := fun d os => Calls.regrown_of (by
    have h := int_any (m : Int) (grow (redrawn w3 d) os)
    rw [Hm.out] at h
    exact h)
  have dk1 : decide ((k : Int) ≤ (s.size : Int)) = true := decide_eq_true hk1
  have dk0 : decide (0 < k) = true := decide_eq_true (by omega)
  refine wp_region_quiet_below (by kernel_rfl) (by kernel_rfl) ?_
  repeat (first | go_big_quiet_step (exact cI _ _) | quiet_step (exact cI _ _))
  refine wpQuiet_nil ?_
  intro _ hw'
  obtain ⟨⟨dq, osq⟩, hw''⟩ := hw'
  subst hw''
  clear cI
  go_wp2
  go_ret
  exact ⟨rfl, hwa.trans ((below_regrown w3 dq osq).mono hwa.size)⟩

theorem intBack_walk (n : Int) (s : ByteArray) (w : World) (_ : (Lit.int .i64 n).wf = true) (hs : s.size ≤ 140737488351232) :
    Calls Try.prog 6 #[.int .i64 n, .string s] w fun e w' => e = .returned (.bool true) ∧ Below w.heap.size w w' := by
  rcases hr : getInt s.data.toList with ⟨m, k, er⟩
  by_cases h : 0 ≤ n ∧ n ≤ 4611686018427387903
  · obtain ⟨q, rfl⟩ := Int.eq_ofNat_of_zero_le h.1
    by_cases he : er = 0
    · subst he; exact intBack_in_ok q (by omega) s w hs m k hr
    · exact intBack_in_err q (by omega) s w hs m k er hr he
  · by_cases hneg : n < 0
    · by_cases he : er = 0
      · subst he; exact intBack_outneg_ok n hneg s w hs m k hr
      · exact intBack_outneg_err n hneg s w hs m k er hr he
    · have hbig : 4611686018427387903 < n := by omega
      by_cases he : er = 0
      · subst he; exact intBack_outbig_ok n hbig s w hs m k hr
      · exact intBack_outbig_err n hbig s w hs m k er hr he
end Go.Proofs.Ytkjbaahoalcfbaa
