/- tusklaw01.WireCuts answers true at every input; nothing old in memory is turned. -/
import Derived.Test.YtkjbaahoalcfbabWireWorks
import Derived.Test.YtkjbaahoalcfbabWireBackMath
namespace Go.Proofs.Ytkjbaahoalcfbab
open Go.RowKit

theorem flat_le (ts : List (List UInt8)) (B : Nat) (h : ∀ t ∈ ts, t.length ≤ B) : (ts.flatMap txt).length ≤ ts.length * (B + 9) := by
  induction ts with
  | nil => simp
  | cons t ts ih =>
    have h1 := ih (fun x hx => h x (by simp [hx]))
    have h2 := h t (by simp)
    have h3 := goInt_length t.length
    have e : (t :: ts).flatMap txt = txt t ++ ts.flatMap txt := by simp
    rw [e, List.length_append, txt, List.length_append, List.length_cons, Nat.succ_mul]
    omega

theorem lst_le (ts : List (List UInt8)) (B : Nat) (h : ∀ t ∈ ts, t.length ≤ B) : (lst ts).length ≤ 9 + ts.length * (B + 9) := by
  have := flat_le ts B h
  have := goInt_length ts.length
  rw [lst, List.length_append]
  omega

theorem bl_mem {ss : List ByteArray} {B : Nat} (h : ∀ j (hj : j < ss.length), ss[j].size ≤ B) : ∀ t ∈ bl ss, t.length ≤ B := by
  intro t ht
  obtain ⟨s, hs, rfl⟩ := List.mem_map.1 ht
  obtain ⟨j, hj, rfl⟩ := List.getElem_of_mem hs
  simpa using h j hj

theorem not_empty {s : ByteArray} (h : 0 < s.size) : s.toList.isEmpty = false := by
  rw [ByteArray.toList_eq]
  cases hs : s.data.toList with
  | nil =>
    have e : s.data.toList.length = s.size := by simp
    rw [hs] at e
    simp at e
    omega
  | cons a l => rfl

theorem cut_at (a : Int) (m : Nat) (h : 0 < m) (h2 : m ≤ 30000) : ∃ q : Nat, q < m ∧ wrap64 ((IntKind.u64.wrap a).tmod (m : Int)) = (q : Int) := by
  have h0 : 0 ≤ IntKind.u64.wrap a := wrap_u64_nonneg a
  obtain ⟨x, hx⟩ := Int.eq_ofNat_of_zero_le h0
  rw [hx]
  refine ⟨x % m, Nat.mod_lt _ h, ?_⟩
  have e : ((x : Int).tmod (m : Int)) = ((x % m : Nat) : Int) := by
    rw [Int.tmod_eq_emod_of_nonneg (by omega)]; simp
  rw [e, wrap64_id _ (by have := Nat.mod_lt x h; omega)]

set_option maxRecDepth 100000 in
set_option maxHeartbeats 1000000 in
theorem cuts_in (n : Nat) (t : ByteArray) (ao : Option Addr) (cap : Nat) (ss : List ByteArray) (at_ : Int) (w : World) (hn : n ≤ 4611686018427387903) (ht : t.size ≤ 1000) (hc : StrsAt w ao ss) (hl : ss.length ≤ 20) :
    Calls Try.prog 3 #[.int .i64 n, .string t, .slice ao ss.length cap, .int .i64 at_] w fun e w' => e = .returned (.bool true) ∧ Below w.heap.size w w' := by
  have h1 : ¬ ((n : Int) < 0) := by omega
  have h2 : ¬ ((4611686018427387903 : Int) < n) := by omega
  have h3 : ¬ ((1000 : Int) < t.size) := by omega
  have h4 : ¬ ((20 : Int) < ss.length) := by omega
  go_enter Try.func3, Try.ntmps3
  go_wp2_with (first | (go_at_call 7; refine (works_any _).mono ?_; rintro e w1 ⟨rfl, hw1⟩) | fail)
  have hc1 := hc.below hw1
  clear hc
  go_loop [9] (fun i => ∃ k : Nat, k ≤ ss.length ∧ i = .int .i64 k ∧ Hid (∀ j (hj : j < ss.length), j < k → ss[j].size ≤ 1000)) (fun i => ss.length - (intOf i).toNat)
  case atStart => exact ⟨0, Nat.zero_le _, rfl, fun j _ hj => absurd hj (by omega)⟩
  case round =>
    obtain ⟨k, hk, rfl, hsm⟩ := hrel
    by_cases hlt : k < ss.length
    · obtain ⟨b, off, rfl, hbl, hcell⟩ := hc1 k hlt
      have hsm1 : ss[k].size ≤ 1000 → Hid (∀ j (hj : j < ss.length), j < k + 1 → ss[j].size ≤ 1000) := by
        intro h j hj hjk
        by_cases e : j = k
        · subst e; exact h
        · exact hsm.out j hj (by omega)
      by_cases hz : 1000 < ss[k].size
      · go_wp2
        go_ret
        exact ⟨rfl, hw1⟩
      · have hsm2 := hsm1 (by omega)
        clear hsm1 hsm
        go_wp2
        go_round
        case rel => exact ⟨k + 1, by omega, by go_num, hsm2⟩
        case measure => simp [intOf]; omega
    · have hsm2 : ∀ j (hj : j < ss.length), ss[j].size ≤ 1000 := fun j hj => hsm.out j hj (by omega)
      have hbm := bl_mem hsm2
      have hbl : (bl ss).length = ss.length := by simp [bl]
      have hll := lst_le (bl ss) 1000 hbm
      rw [hbl] at hll
      have HB : Hid (∀ t ∈ bl ss, t.length ≤ 1000) := hbm
      have HL : Hid ((lst (bl ss)).length ≤ 30000) := by
        show _ ≤ _
        have : ss.length * 1009 ≤ 20 * 1009 := Nat.mul_le_mul_right _ hl
        omega
      have Hbl : Hid ((bl ss).length = ss.length) := hbl
      clear hsm hsm2 hbm hbl hll
      go_wp2_with fail
      refine (int_any _ _).mono ?_
      rintro e w2 ⟨rfl, hw2⟩
      have hwa := hw1.trans (hw2.mono hw1.size)
      have hc2 := hc1.below hw2
      clear hw1 hw2 hc1
      go_wp2_with fail
      refine (text_any _ _ (by omega)).mono ?_
      rintro e w3 ⟨rfl, hw3⟩
      have hwb := hwa.trans (hw3.mono hwa.size)
      have hc3 := hc2.below hw3
      clear hwa hw3 hc2
      go_wp2_with fail
      refine (list_any _ _ ss _ hc3 (by have := HL.out; omega) (by omega)).mono ?_
      rintro e w4 ⟨rfl, hw4⟩
      have hwc := hwb.trans (hw4.mono hwb.size)
      clear hwb hw4 hc3
      rw [goInt_nat n hn]
      have ea0 := enc_length_pos n
      have ea9 := enc_length_nine n hn
      have hcutA : Hid (∀ q, q < (⟨(enc n).toArray⟩ : ByteArray).size → getInt ((⟨(enc n).toArray⟩ : ByteArray).extract 0 q).data.toList = (0, 0, 1)) := by
        intro q hq
        rw [size_mk] at hq
        rw [extract_list]
        simpa using getInt_cut n q hn hq
      have eb0 : 0 < (txt t.data.toList).length := by
        rw [txt_enc _ (by simp; omega), List.length_append]
        have := enc_length_pos t.data.toList.length
        omega
      have eb9 : (txt t.data.toList).length ≤ 2000 := by
        have := goInt_length t.size
        simp [txt]; omega
      have hcutB : Hid (∀ q, q < (⟨(txt t.data.toList).toArray⟩ : ByteArray).size → getText ((⟨(txt t.data.toList).toArray⟩ : ByteArray).extract 0 q).data.toList = ([], 0, 1)) := by
        intro q hq
        rw [size_mk] at hq
        rw [extract_list]
        simpa using getText_cut t.data.toList q (by simp; omega) hq
      have ec0 : 0 < (lst (bl ss)).length := by
        rw [lst, goInt_nat _ (by rw [Hbl.out]; omega), List.length_append]
        have := enc_length_pos (bl ss).length
        omega
      have ec9 := HL.out
      have hcutC : Hid (∀ q, q < (⟨(lst (bl ss)).toArray⟩ : ByteArray).size → getList ((⟨(lst (bl ss)).toArray⟩ : ByteArray).extract 0 q).data.toList ss.length = ([], 0, 1)) := by
        intro q hq
        rw [size_mk] at hq
        rw [extract_list]
        simpa using getList_cut (bl ss) ss.length q (fun x hx => by have := HB.out x hx; omega) (by rw [Hbl.out]; omega) (by rw [Hbl.out]; omega) hq
      rw [← size_mk] at ea0 ea9 eb0 eb9 ec0 ec9
      generalize (⟨(enc n).toArray⟩ : ByteArray) = sa at *
      generalize (⟨(txt t.data.toList).toArray⟩ : ByteArray) = sb at *
      generalize (⟨(lst (bl ss)).toArray⟩ : ByteArray) = sc at *
      have hea := not_empty ea0
      have heb := not_empty eb0
      have hec := not_empty ec0
      obtain ⟨qa, hqa, hwqa⟩ := cut_at at_ sa.size ea0 (by omega)
      obtain ⟨qb, hqb, hwqb⟩ := cut_at at_ sb.size eb0 (by omega)
      obtain ⟨qc, hqc, hwqc⟩ := cut_at at_ sc.size ec0 (by omega)
      have sza : (sa.extract 0 qa).size ≤ maxLen := by rw [ByteArray.size_extract]; unfold maxLen; omega
      have szb : (sb.extract 0 qb).size ≤ maxLen := by rw [ByteArray.size_extract]; unfold maxLen; omega
      have szc : (sc.extract 0 qc).size ≤ maxLen := by rw [ByteArray.size_extract]; unfold maxLen; omega
      have Sa : Hid ((sa.extract 0 qa).size ≤ maxLen) := sza
      have Sb : Hid ((sb.extract 0 qb).size ≤ maxLen) := szb
      have Sc : Hid ((sc.extract 0 qc).size ≤ maxLen) := szc
      clear sza szb szc
      go_wp2_with fail
      refine (getInt_at _ _ 0 0 1 Sa.out (hcutA.out qa hqa)).mono ?_
      rintro e w5 ⟨rfl, rfl⟩
      go_wp2_with fail
      refine (getText_at _ _ [] 0 1 Sb.out (hcutB.out qb hqb)).mono ?_
      rintro e w5 ⟨rfl, rfl⟩
      go_wp2_with fail
      refine (getList_any _ _ _ 20 Sc.out (Or.inr (by omega)) (by omega)).mono ?_
      rintro e w6 ⟨v, rfl, ⟨ao2, cap2, rfl, _⟩, hw6⟩
      rw [hcutC.out qc hqc]
      have hwd := hwc.trans (hw6.mono hwc.size)
      clear hwc hw6
      go_wp2
      go_ret
      exact ⟨rfl, hwd⟩

set_option maxRecDepth 100000 in
set_option maxHeartbeats 1000000 in
theorem cuts_out (n : Int) (t : ByteArray) (ao : Option Addr) (cap : Nat) (ss : List ByteArray) (at_ : Int) (w : World) (h : n < 0 ∨ 4611686018427387903 < n ∨ 1000 < t.size ∨ 20 < ss.length) :
    Calls Try.prog 3 #[.int .i64 n, .string t, .slice ao ss.length cap, .int .i64 at_] w fun e w' => e = .returned (.bool true) ∧ Below w.heap.size w w' := by
  rcases Decidable.em (n < 0) with h1 | h1
  · go_enter Try.func3, Try.ntmps3
    go_wp2_with (go_at_call 7; refine (works_any _).mono ?_; rintro e w1 ⟨rfl, hb⟩)
    go_ret
    exact ⟨rfl, hb⟩
  rcases Decidable.em (4611686018427387903 < n) with h2 | h2
  · go_enter Try.func3, Try.ntmps3
    go_wp2_with (go_at_call 7; refine (works_any _).mono ?_; rintro e w1 ⟨rfl, hb⟩)
    go_ret
    exact ⟨rfl, hb⟩
  rcases Decidable.em ((1000 : Int) < t.size) with h3 | h3
  · go_enter Try.func3, Try.ntmps3
    go_wp2_with (go_at_call 7; refine (works_any _).mono ?_; rintro e w1 ⟨rfl, hb⟩)
    go_ret
    exact ⟨rfl, hb⟩
  have h4 : (20 : Int) < ss.length := by omega
  go_enter Try.func3, Try.ntmps3
  go_wp2_with (go_at_call 7; refine (works_any _).mono ?_; rintro e w1 ⟨rfl, hb⟩)
  go_ret
  exact ⟨rfl, hb⟩

theorem cuts_walk (n : Int) (t : ByteArray) (ao : Option Addr) (cap : Nat) (ss : List ByteArray) (at_ : Int) (w : World) (_ : (Lit.int .i64 n).wf = true) (_ : t.size ≤ 140737488351232)
    (hc : StrsAt w ao ss) (_ : ss.length * 16 ≤ 140737488351232) (_ : ∀ s ∈ ss, s.size ≤ maxLen) (_ : (Lit.int .i64 at_).wf = true) :
    Calls Try.prog 3 #[.int .i64 n, .string t, .slice ao ss.length cap, .int .i64 at_] w fun e w' => e = .returned (.bool true) ∧ Below w.heap.size w w' := by
  by_cases h : n < 0 ∨ 4611686018427387903 < n ∨ 1000 < t.size ∨ 20 < ss.length
  · exact cuts_out n t ao cap ss at_ w h
  · obtain ⟨m, rfl⟩ := Int.eq_ofNat_of_zero_le (show 0 ≤ n by omega)
    exact cuts_in m t ao cap ss at_ w (by omega) (by omega) hc (by omega)

end Go.Proofs.Ytkjbaahoalcfbab
