/- What Encode does; nothing old in memory is turned. -/
import Derived.Test.YtolliiodfhdfiaaTxRight
import Derived.Test.YtolliiodfhdfiaaBld
namespace Go.Proofs.Ytolliiodfhdfiaa
open Go.RowKit
set_option linter.unusedVariables false

theorem isNm_size {s : ByteArray} (h : isNm s = true) : s.size ≤ 32 := by
  unfold isNm at h
  simp only [Bool.and_eq_true, decide_eq_true_eq] at h
  exact h.1.2

theorem isKy_size {s : ByteArray} (h : isKy s = true) : s.size ≤ 34 := by
  unfold isKy at h
  rw [Bool.and_eq_true] at h
  have := isNm_size h.2
  rw [ByteArray.size_extract] at this
  omega

theorem empty_size {s : ByteArray} (h : (s.toList == []) = true) : s.size = 0 := by
  rw [beq_iff_eq, ByteArray.toList_eq] at h
  have : s.data.toList.length = s.size := by simp
  rw [h] at this
  exact this.symm

theorem check_zero {d : TxD} (h : checkL d = 0) : (d.kind = 1 ∨ d.kind = 2) ∧ fieldsR d = true ∧ d.amt ≤ 4611686018427387903 ∧ d.non ≤ 4611686018427387903 ∧ keysL d.rs = 0 ∧ keysL d.ws = 0 := by
  unfold checkL at h
  by_cases h1 : d.kind ≠ 1 ∧ d.kind ≠ 2
  · rw [if_pos h1] at h; omega
  rw [if_neg h1] at h
  by_cases h2 : fieldsR d = false
  · rw [if_pos h2] at h; omega
  rw [if_neg h2] at h
  by_cases h3 : 4611686018427387903 < d.amt ∨ 4611686018427387903 < d.non
  · rw [if_pos h3] at h; omega
  rw [if_neg h3] at h
  by_cases h4 : keysL d.rs ≠ 0
  · rw [if_pos h4] at h; omega
  rw [if_neg h4] at h
  exact ⟨by omega, by simpa using h2, by omega, by omega, by omega, h⟩

theorem fields_sizes {d : TxD} (h : fieldsR d = true) : d.frm.size ≤ 32 ∧ d.to.size ≤ 32 ∧ d.key.size ≤ 32 ∧ d.val.size ≤ 64 := by
  unfold fieldsR at h
  rw [Bool.and_eq_true] at h
  have h1 := isNm_size h.1
  have h2 := h.2
  by_cases hk : d.kind = 1
  · rw [if_pos hk] at h2
    simp only [Bool.and_eq_true] at h2
    have a := isNm_size h2.1.1
    have b := empty_size h2.1.2
    have c := empty_size h2.2
    omega
  · rw [if_neg hk] at h2
    simp only [Bool.and_eq_true, decide_eq_true_eq] at h2
    have a := isNm_size h2.1.1.1
    have b := empty_size h2.1.2
    have c := h2.1.1.2
    omega

theorem keysGo_all : ∀ (l : List ByteArray) (a : ByteArray), keysGo a l = 0 → ∀ k ∈ l, isKy k = true
  | [], _, _ => by simp
  | k :: r, a, h => by
    rw [keysGo] at h
    by_cases h1 : isKy k = false
    · rw [if_pos h1] at h; omega
    rw [if_neg h1] at h
    by_cases h2 : (Op.bytesLess k.toList a.toList || k.toList == a.toList) = true
    · rw [if_pos h2] at h; omega
    rw [if_neg h2] at h
    intro x hx
    rw [List.mem_cons] at hx
    rcases hx with rfl | hx
    · simpa using h1
    · exact keysGo_all r k h x hx

theorem keys_sizes {l : List ByteArray} (h : keysL l = 0) : l.length ≤ 8 ∧ ∀ k ∈ l, isKy k = true := by
  have h8 := keysL_le l h
  unfold keysL at h
  rw [if_neg (by omega)] at h
  exact ⟨h8, keysGo_all l _ h⟩

theorem txt_le (l : List UInt8) : (txt l).length ≤ 9 + l.length := by
  have := goInt_length l.length
  rw [txt, List.length_append]
  omega

theorem flat_le : ∀ (l : List ByteArray), (∀ k ∈ l, k.size ≤ 34) → ((bl l).flatMap txt).length ≤ 43 * l.length
  | [], _ => by simp [bl]
  | k :: r, h => by
    have h1 := flat_le r (fun x hx => h x (by simp [hx]))
    have h2 := txt_le k.data.toList
    have h3 := h k (by simp)
    have h4 : k.data.toList.length = k.size := by simp
    simp only [bl, List.map_cons, List.flatMap_cons, List.length_append, List.length_cons]
    simp only [bl] at h1
    omega

theorem lst_le {l : List ByteArray} (h : keysL l = 0) : (lst (bl l)).length ≤ 353 := by
  obtain ⟨h8, hk⟩ := keys_sizes h
  have h1 := flat_le l (fun k hk' => isKy_size (hk k hk'))
  have h2 := goInt_length (bl l).length
  rw [lst, List.length_append]
  omega

set_option maxRecDepth 100000 in
set_option maxHeartbeats 1000000 in
theorem encode_no (d : TxD) (ra : Option Addr) (rc : Nat) (wa : Option Addr) (wc : Nat) (w : World) (hA : TxAt w d ra wa) (hz : checkL d ≠ 0) :
    Calls Try.prog 7 #[txV d ra rc wa wc] w fun e w' => e = .returned (.tuple #[.string ⟨#[]⟩, .int .i64 (checkL d : Int)]) ∧ Below w.heap.size w w' := by
  have hB := belowNew w (.cells (txC d ra rc wa wc).toArray 25)
  have cc := check_any d ra rc wa wc _ (hA.below hB)
  have hz' : ((checkL d : Int) != 0) = true := by rw [bne_iff_ne]; omega
  generalize checkL d = n at cc hz' ⊢
  clear hz hA
  unfold txV at cc ⊢
  go_enter Try.func7, Try.ntmps7
  go_wp2_with fail
  refine cc.mono ?_
  rintro e w1 ⟨rfl, hb1⟩
  have hB1 := hB.trans (hb1.mono hB.size)
  clear hb1 cc
  go_wp2
  go_ret2
  exact ⟨rfl, hB1⟩

set_option maxRecDepth 100000 in
set_option maxHeartbeats 2000000 in
theorem encode_yes (d : TxD) (ra : Option Addr) (rc : Nat) (wa : Option Addr) (wc : Nat) (w : World) (hA : TxAt w d ra wa) (hz : checkL d = 0) :
    Calls Try.prog 7 #[txV d ra rc wa wc] w fun e w' => e = .returned (.tuple #[.string ⟨(encL d).toArray⟩, .int .i64 0]) ∧ Below w.heap.size w w' := by
  have hX := TxBox.new w d ra rc wa wc
  have hB := belowNew w (.cells (txC d ra rc wa wc).toArray 25)
  have cc := check_any d ra rc wa wc _ (hA.below hB)
  rw [hz] at cc
  obtain ⟨z1, z2, z3, z4, z5, z6⟩ := check_zero hz
  obtain ⟨y1, y2, y3, y4⟩ := fields_sizes z2
  have y5 := lst_le z5
  have y6 := lst_le z6
  have y7 := (keys_sizes z5).1
  have y8 := (keys_sizes z6).1
  have x0 := goInt_length d.kind
  have x1 := txt_le d.frm.data.toList
  have x2 := txt_le d.to.data.toList
  have x3 := goInt_length d.amt
  have x4 := goInt_length d.non
  have x5 := txt_le d.key.data.toList
  have x6 := txt_le d.val.data.toList
  have e1 : d.frm.data.toList.length = d.frm.size := by simp
  have e2 : d.to.data.toList.length = d.to.size := by simp
  have e5 : d.key.data.toList.length = d.key.size := by simp
  have e6 : d.val.data.toList.length = d.val.size := by simp
  have hne : goInt d.kind ≠ [] := by
    rcases z1 with h | h
    · rw [h]; exact goInt_ne 1 (by omega)
    · rw [h]; exact goInt_ne 2 (by omega)
  have E : Hid (encL d = goInt d.kind ++ txt d.frm.data.toList ++ txt d.to.data.toList ++ goInt d.amt ++ goInt d.non ++ txt d.key.data.toList ++ txt d.val.data.toList ++ lst (bl d.rs) ++ lst (bl d.ws)) := (rfl : _ = _)
  have C0 := fun w1 => int_any d.kind w1
  have C1 := fun w1 => text_any d.frm w1 (by omega)
  have C2 := fun w1 => text_any d.to w1 (by omega)
  have C3 := fun w1 => int_any (d.amt : Int) w1
  have C4 := fun w1 => int_any (d.non : Int) w1
  have C5 := fun w1 => text_any d.key w1 (by omega)
  have C6 := fun w1 => text_any d.val w1 (by omega)
  have C7 := fun w1 (hb : Below w.heap.size w w1) => list_any ra rc d.rs w1 (hA.rd.below hb) (by omega) (by omega)
  have C8 := fun w1 (hb : Below w.heap.size w w1) => list_any wa wc d.ws w1 (hA.wr.below hb) (by omega) (by omega)
  obtain ⟨out, hout⟩ : ∃ out, out = (⟨(encL d).toArray⟩ : ByteArray) := ⟨_, rfl⟩
  rw [← hout]
  have Hout : Hid (out = (⟨(encL d).toArray⟩ : ByteArray)) := hout
  clear hout
  replace z3 : (d.amt : Int) ≤ 4611686018427387903 := by omega
  replace z4 : (d.non : Int) ≤ 4611686018427387903 := by omega
  replace hX : Arr _ _ _ (txC d ra rc wa wc) := hX
  generalize goInt d.kind = l0 at *
  generalize txt d.frm.data.toList = l1 at *
  generalize txt d.to.data.toList = l2 at *
  generalize goInt (d.amt : Int) = l3 at *
  generalize goInt (d.non : Int) = l4 at *
  generalize txt d.key.data.toList = l5 at *
  generalize txt d.val.data.toList = l6 at *
  generalize lst (bl d.rs) = l7 at *
  generalize lst (bl d.ws) = l8 at *
  have hlen : Hid (l0.length ≤ 9 ∧ l1.length ≤ 41 ∧ l2.length ≤ 41 ∧ l3.length ≤ 9 ∧ l4.length ≤ 9 ∧ l5.length ≤ 41 ∧ l6.length ≤ 73 ∧ l7.length ≤ 353 ∧ l8.length ≤ 353) := ⟨by omega, by omega, by omega, by omega, by omega, by omega, by omega, by omega, by omega⟩
  clear x0 x1 x2 x3 x4 x5 x6 y1 y2 y3 y4 y5 y6 y7 y8 e1 e2 e5 e6 z1 z2 z5 z6 hz hA
  unfold txV at cc ⊢
  go_enter Try.func7, Try.ntmps7
  go_wp2_with fail
  refine cc.mono ?_
  rintro e w1 ⟨rfl, hb1⟩
  have hX1 := hX.below hb1 hX.lt
  have hB1 := hB.trans (hb1.mono hB.size)
  clear hb1 cc hX hB
  have st := BldSt.new hX1 hB1
  clear hX1 hB1
  have c0 := st.box.cell (i := 0) rfl
  go_wp2_with fail
  refine (C0 _).mono ?_
  rintro e w2 ⟨rfl, hb⟩
  replace st := st.call hb
  clear hb c0 C0
  go_wp2_with fail
  refine (st.write l0 (by have := hlen.out; simp; omega)).mono ?_
  rintro e w3 ⟨rfl, st'⟩
  replace st := st'
  clear st'
  have c0 := st.box.cell (i := 1) rfl
  go_wp2_with fail
  refine (C1 _).mono ?_
  rintro e w4 ⟨rfl, hb⟩
  replace st := st.call hb
  clear hb c0 C1
  go_wp2_with fail
  refine (st.write l1 (by have := hlen.out; simp; omega)).mono ?_
  rintro e w5 ⟨rfl, st'⟩
  replace st := st'
  clear st'
  have c0 := st.box.cell (i := 2) rfl
  go_wp2_with fail
  refine (C2 _).mono ?_
  rintro e w6 ⟨rfl, hb⟩
  replace st := st.call hb
  clear hb c0 C2
  go_wp2_with fail
  refine (st.write l2 (by have := hlen.out; simp; omega)).mono ?_
  rintro e w7 ⟨rfl, st'⟩
  replace st := st'
  clear st'
  have c0 := st.box.cell (i := 3) rfl
  go_wp2_with fail
  refine (C3 _).mono ?_
  rintro e w8 ⟨rfl, hb⟩
  replace st := st.call hb
  clear hb c0 C3
  go_wp2_with fail
  refine (st.write l3 (by have := hlen.out; simp; omega)).mono ?_
  rintro e w9 ⟨rfl, st'⟩
  replace st := st'
  clear st'
  have c0 := st.box.cell (i := 4) rfl
  go_wp2_with fail
  refine (C4 _).mono ?_
  rintro e w10 ⟨rfl, hb⟩
  replace st := st.call hb
  clear hb c0 C4
  go_wp2_with fail
  refine (st.write l4 (by have := hlen.out; simp; omega)).mono ?_
  rintro e w11 ⟨rfl, st'⟩
  replace st := st'
  clear st'
  have c0 := st.box.cell (i := 5) rfl
  go_wp2_with fail
  refine (C5 _).mono ?_
  rintro e w12 ⟨rfl, hb⟩
  replace st := st.call hb
  clear hb c0 C5
  go_wp2_with fail
  refine (st.write l5 (by have := hlen.out; simp; omega)).mono ?_
  rintro e w13 ⟨rfl, st'⟩
  replace st := st'
  clear st'
  have c0 := st.box.cell (i := 6) rfl
  go_wp2_with fail
  refine (C6 _).mono ?_
  rintro e w14 ⟨rfl, hb⟩
  replace st := st.call hb
  clear hb c0 C6
  go_wp2_with fail
  refine (st.write l6 (by have := hlen.out; simp; omega)).mono ?_
  rintro e w15 ⟨rfl, st'⟩
  replace st := st'
  clear st'
  have c0 := st.box.cell (i := 7) rfl
  go_wp2_with fail
  refine (C7 _ st.bel).mono ?_
  rintro e w16 ⟨rfl, hb⟩
  replace st := st.call hb
  clear hb c0 C7
  go_wp2_with fail
  refine (st.write l7 (by have := hlen.out; simp; omega)).mono ?_
  rintro e w17 ⟨rfl, st'⟩
  replace st := st'
  clear st'
  have c0 := st.box.cell (i := 8) rfl
  go_wp2_with fail
  refine (C8 _ st.bel).mono ?_
  rintro e w18 ⟨rfl, hb⟩
  replace st := st.call hb
  clear hb c0 C8
  go_wp2_with fail
  refine (st.write l8 (by have := hlen.out; simp; omega)).mono ?_
  rintro e w19 ⟨rfl, st'⟩
  replace st := st'
  clear st'
  go_wp2_with fail
  have rd := st.read (by simpa using fun h => absurd h hne)
  have E2 : ([] ++ l0 ++ l1 ++ l2 ++ l3 ++ l4 ++ l5 ++ l6 ++ l7 ++ l8 : List UInt8) = encL d := by rw [E.out]; rfl
  rw [E2, ← Hout.out] at rd
  refine rd.mono ?_
  rintro e w20 ⟨rfl, hb⟩
  clear st rd E E2
  go_wp2
  go_ret2
  exact ⟨rfl, hb⟩

theorem encode_any (d : TxD) (ra : Option Addr) (rc : Nat) (wa : Option Addr) (wc : Nat) (w : World) (hA : TxAt w d ra wa) :
    Calls Try.prog 7 #[txV d ra rc wa wc] w fun e w' => e = .returned (.tuple #[.string (encB d), .int .i64 (checkL d : Int)]) ∧ Below w.heap.size w w' := by
  unfold encB
  by_cases hz : checkL d = 0
  · rw [if_pos hz, hz]
    exact encode_yes d ra rc wa wc w hA hz
  · rw [if_neg hz]
    exact encode_no d ra rc wa wc w hA hz
end Go.Proofs.Ytolliiodfhdfiaa
