/- What tuskref04.Decode does: the transaction of bytes, or the first error; nothing old in memory is turned. -/
import Derived.Test.YtdnkakmdhdceaaaRefTxReader
import Derived.Test.YtdnkakmdhdceaaaRefTxRight
import Derived.Test.YtdnkakmdhdceaaaTxDecode
import Derived.Laws.ResultCell
namespace Go.Proofs.Ytdnkakmdhdceaaa
open Go.RowKit
set_option linter.unusedVariables false

theorem results_tx_tmp {fn : Func} {p u : Tmp} (h : fn.results = #[.cell p 40, .tmp u]) (tmps : Array Value) (w : World) (g : Nat) (d : TxD) (ra : Option Addr) (rc : Nat) (wa : Option Addr) (wc : Nat)
    (hp : tmps.getD p undef = .pointer (some ⟨g, 0, none⟩)) (hg : Arr w g 40 (txC d ra rc wa wc)) (v : Value) (hv : tmps.getD u undef = v) :
    (results fn tmps).run Try.prog w = .ok (.tuple #[txV d ra rc wa wc, v]) w := by
  rw [results_cell_tmp h, hp, hv]
  have hl := run_loadVar_row w g 40 40 (txC d ra rc wa wc).toArray (0, 0) _ hg Try.underlying40 rfl infoTx
  simp [asAddr, hl, txV, txC, Result.andThen]

theorem runE_zero (r : TxD × Nat) : runE 0 r = r := by
  unfold runE
  rw [if_neg (by simp)]

theorem mk_size (t : List UInt8) (h : t.length ≤ 65536) : (⟨t.toArray⟩ : ByteArray).size ≤ maxLen := by
  rw [size_mk]
  unfold maxLen
  omega

theorem mks_size (ts : List (List UInt8)) (h : ∀ t ∈ ts, t.length ≤ 65536) : ∀ s ∈ mks ts, s.size ≤ maxLen := by
  intro s hs
  obtain ⟨t, ht, rfl⟩ := List.mem_map.1 hs
  exact mk_size t (h t ht)

set_option maxRecDepth 100000 in
set_option maxHeartbeats 4000000 in
theorem refDecode_own (s : ByteArray) (W : World) (hs : s.size ≤ maxLen) :
    Calls Try.prog 28 #[.string s] W fun e w' => GotDecO W (decL s.data.toList) e w' := by
  obtain ⟨hz1, hz2, hzB⟩ := two_new W 40 66 zeroC [.string s, .int .i64 0]
  have hz3 := Arr.new ((W.alloc (.cells zeroC.toArray 40)).alloc (.cells #[.string s, .int .i64 0] 66)) 40 zeroC
  rw [alloc_size, alloc_size] at hz3
  have st : RdSt W W.heap.size (W.heap.size + 1) W.heap.size (W.heap.size + 1 + 1) (W.heap.size + 1 + 1 + 1) 66 [] (((W.alloc (.cells zeroC.toArray 40)).alloc (.cells #[.string s, .int .i64 0] 66)).alloc (.cells zeroC.toArray 40)) [.string s, .int .i64 ((0 : Nat) : Int)] zeroC :=
    ⟨hz2.alloc _, hz1.alloc _, hz3, by omega, by omega, by omega, by omega, by omega, by omega, by omega, by omega, by omega, by rw [alloc_size, alloc_size, alloc_size]; omega, (fun p hp => by cases hp), hzB.alloc hzB.size _⟩
  clear hz1 hz2 hz3 hzB
  obtain ⟨out, hout⟩ : ∃ out, out = decL s.data.toList := ⟨_, rfl⟩
  rw [← hout]
  unfold decL at hout
  have hx := hout.trans (runE_zero _).symm
  have H : Hid (out = _) := hx
  clear hout hx
  have r0s : Hid (s.size ≤ maxLen) := hs
  clear hs
  go_enter Try.func28, Try.ntmps28
  have cE := inInt_any st r0s.out
  clear st
  go_wp2_with fail
  refine cE.mono ?_
  rintro e w1 ⟨v0, E1, r1, rfl, vb, rs, hf, st⟩
  have hx := H.out.trans (hf _)
  have r1s : Hid (r1.size ≤ maxLen) := rs
  clear cE rs hf
  have n0 : (v0 : Int) ≤ 4611686018427387903 := by omega
  clear vb
  replace H : Hid (out = _) := hx
  clear hx
  have cE := inText_any st r1s.out
  clear st
  go_wp2_with fail
  refine cE.mono ?_
  rintro e w2 ⟨v1, E2, r2, rfl, vb, rs, hf, st⟩
  have hx := H.out.trans (hf _)
  have r2s : Hid (r2.size ≤ maxLen) := rs
  clear cE rs hf
  have q1 : Hid ((⟨v1.toArray⟩ : ByteArray).size ≤ maxLen) := mk_size v1 vb
  generalize (⟨v1.toArray⟩ : ByteArray) = b1 at hx q1 ⊢
  clear vb
  replace H : Hid (out = _) := hx
  clear hx
  have y := st.tx.cell (i := 1) rfl
  have f := st.tx.frozen 1
  have st' := st.setT 1 (.string b1)
  obtain ⟨w3, hw⟩ : ∃ q, w2.setCell ⟨W.heap.size + 1 + 1, 1, none⟩ (.string b1) = q := ⟨_, rfl⟩
  rw [hw] at st'
  replace st' : RdSt W W.heap.size (W.heap.size + 1) W.heap.size (W.heap.size + 1 + 1) (W.heap.size + 1 + 1 + 1) 66 [] w3 [.string r2, .int .i64 (E2 : Int)] [.int .i64 0, .string b1, .string ⟨#[]⟩, .int .u64 0, .int .u64 0, .string ⟨#[]⟩, .string ⟨#[]⟩, .slice none 0 0, .slice none 0 0] := st'
  clear st
  have st := st'
  clear st'
  have cE := inText_any st r2s.out
  clear st
  go_wp2_with fail
  refine cE.mono ?_
  rintro e w4 ⟨v2, E3, r3, rfl, vb, rs, hf, st⟩
  have hx := H.out.trans (hf _)
  have r3s : Hid (r3.size ≤ maxLen) := rs
  clear cE rs hf
  have q2 : Hid ((⟨v2.toArray⟩ : ByteArray).size ≤ maxLen) := mk_size v2 vb
  generalize (⟨v2.toArray⟩ : ByteArray) = b2 at hx q2 ⊢
  clear vb
  replace H : Hid (out = _) := hx
  clear hx
  have y := st.tx.cell (i := 2) rfl
  have f := st.tx.frozen 2
  have st' := st.setT 2 (.string b2)
  obtain ⟨w5, hw⟩ : ∃ q, w4.setCell ⟨W.heap.size + 1 + 1, 2, none⟩ (.string b2) = q := ⟨_, rfl⟩
  rw [hw] at st'
  replace st' : RdSt W W.heap.size (W.heap.size + 1) W.heap.size (W.heap.size + 1 + 1) (W.heap.size + 1 + 1 + 1) 66 [] w5 [.string r3, .int .i64 (E3 : Int)] [.int .i64 0, .string b1, .string b2, .int .u64 0, .int .u64 0, .string ⟨#[]⟩, .string ⟨#[]⟩, .slice none 0 0, .slice none 0 0] := st'
  clear st
  have st := st'
  clear st'
  have cE := inInt_any st r3s.out
  clear st
  go_wp2_with fail
  refine cE.mono ?_
  rintro e w6 ⟨v3, E4, r4, rfl, vb, rs, hf, st⟩
  have hx := H.out.trans (hf _)
  have r4s : Hid (r4.size ≤ maxLen) := rs
  clear cE rs hf
  have n3 : (v3 : Int) ≤ 4611686018427387903 := by omega
  clear vb
  replace H : Hid (out = _) := hx
  clear hx
  have y := st.tx.cell (i := 3) rfl
  have f := st.tx.frozen 3
  have st' := st.setT 3 (.int .u64 (v3 : Int))
  obtain ⟨w7, hw⟩ : ∃ q, w6.setCell ⟨W.heap.size + 1 + 1, 3, none⟩ (.int .u64 (v3 : Int)) = q := ⟨_, rfl⟩
  rw [hw] at st'
  replace st' : RdSt W W.heap.size (W.heap.size + 1) W.heap.size (W.heap.size + 1 + 1) (W.heap.size + 1 + 1 + 1) 66 [] w7 [.string r4, .int .i64 (E4 : Int)] [.int .i64 0, .string b1, .string b2, .int .u64 (v3 : Int), .int .u64 0, .string ⟨#[]⟩, .string ⟨#[]⟩, .slice none 0 0, .slice none 0 0] := st'
  clear st
  have st := st'
  clear st'
  have cE := inInt_any st r4s.out
  clear st
  go_wp2_with fail
  refine cE.mono ?_
  rintro e w8 ⟨v4, E5, r5, rfl, vb, rs, hf, st⟩
  have hx := H.out.trans (hf _)
  have r5s : Hid (r5.size ≤ maxLen) := rs
  clear cE rs hf
  have n4 : (v4 : Int) ≤ 4611686018427387903 := by omega
  clear vb
  replace H : Hid (out = _) := hx
  clear hx
  have y := st.tx.cell (i := 4) rfl
  have f := st.tx.frozen 4
  have st' := st.setT 4 (.int .u64 (v4 : Int))
  obtain ⟨w9, hw⟩ : ∃ q, w8.setCell ⟨W.heap.size + 1 + 1, 4, none⟩ (.int .u64 (v4 : Int)) = q := ⟨_, rfl⟩
  rw [hw] at st'
  replace st' : RdSt W W.heap.size (W.heap.size + 1) W.heap.size (W.heap.size + 1 + 1) (W.heap.size + 1 + 1 + 1) 66 [] w9 [.string r5, .int .i64 (E5 : Int)] [.int .i64 0, .string b1, .string b2, .int .u64 (v3 : Int), .int .u64 (v4 : Int), .string ⟨#[]⟩, .string ⟨#[]⟩, .slice none 0 0, .slice none 0 0] := st'
  clear st
  have st := st'
  clear st'
  have cE := inText_any st r5s.out
  clear st
  go_wp2_with fail
  refine cE.mono ?_
  rintro e w10 ⟨v5, E6, r6, rfl, vb, rs, hf, st⟩
  have hx := H.out.trans (hf _)
  have r6s : Hid (r6.size ≤ maxLen) := rs
  clear cE rs hf
  have q5 : Hid ((⟨v5.toArray⟩ : ByteArray).size ≤ maxLen) := mk_size v5 vb
  generalize (⟨v5.toArray⟩ : ByteArray) = b5 at hx q5 ⊢
  clear vb
  replace H : Hid (out = _) := hx
  clear hx
  have y := st.tx.cell (i := 5) rfl
  have f := st.tx.frozen 5
  have st' := st.setT 5 (.string b5)
  obtain ⟨w11, hw⟩ : ∃ q, w10.setCell ⟨W.heap.size + 1 + 1, 5, none⟩ (.string b5) = q := ⟨_, rfl⟩
  rw [hw] at st'
  replace st' : RdSt W W.heap.size (W.heap.size + 1) W.heap.size (W.heap.size + 1 + 1) (W.heap.size + 1 + 1 + 1) 66 [] w11 [.string r6, .int .i64 (E6 : Int)] [.int .i64 0, .string b1, .string b2, .int .u64 (v3 : Int), .int .u64 (v4 : Int), .string b5, .string ⟨#[]⟩, .slice none 0 0, .slice none 0 0] := st'
  clear st
  have st := st'
  clear st'
  have cE := inText_any st r6s.out
  clear st
  go_wp2_with fail
  refine cE.mono ?_
  rintro e w12 ⟨v6, E7, r7, rfl, vb, rs, hf, st⟩
  have hx := H.out.trans (hf _)
  have r7s : Hid (r7.size ≤ maxLen) := rs
  clear cE rs hf
  have q6 : Hid ((⟨v6.toArray⟩ : ByteArray).size ≤ maxLen) := mk_size v6 vb
  generalize (⟨v6.toArray⟩ : ByteArray) = b6 at hx q6 ⊢
  clear vb
  replace H : Hid (out = _) := hx
  clear hx
  have y := st.tx.cell (i := 6) rfl
  have f := st.tx.frozen 6
  have st' := st.setT 6 (.string b6)
  obtain ⟨w13, hw⟩ : ∃ q, w12.setCell ⟨W.heap.size + 1 + 1, 6, none⟩ (.string b6) = q := ⟨_, rfl⟩
  rw [hw] at st'
  replace st' : RdSt W W.heap.size (W.heap.size + 1) W.heap.size (W.heap.size + 1 + 1) (W.heap.size + 1 + 1 + 1) 66 [] w13 [.string r7, .int .i64 (E7 : Int)] [.int .i64 0, .string b1, .string b2, .int .u64 (v3 : Int), .int .u64 (v4 : Int), .string b5, .string b6, .slice none 0 0, .slice none 0 0] := st'
  clear st
  have st := st'
  clear st'
  have cE := inList_any st r7s.out
  clear st
  go_wp2_with fail
  refine cE.mono ?_
  rintro e w14 ⟨v7, E8, r8, a7, c7, rfl, nn7, vb, rs, hf, st⟩
  have hx := H.out.trans (hf _)
  have r8s : Hid (r8.size ≤ maxLen) := rs
  clear cE rs hf
  have q7 : Hid (∀ s ∈ mks v7, s.size ≤ maxLen) := mks_size v7 vb
  generalize mks v7 = m7 at hx q7 st ⊢
  clear vb
  replace H : Hid (out = _) := hx
  clear hx
  have y := st.tx.cell (i := 7) rfl
  have f := st.tx.frozen 7
  have st' := st.setT 7 (.slice a7 m7.length c7)
  obtain ⟨w15, hw⟩ : ∃ q, w14.setCell ⟨W.heap.size + 1 + 1, 7, none⟩ (.slice a7 m7.length c7) = q := ⟨_, rfl⟩
  rw [hw] at st'
  replace st' : RdSt W W.heap.size (W.heap.size + 1) W.heap.size (W.heap.size + 1 + 1) (W.heap.size + 1 + 1 + 1) 66 ((a7, m7) :: []) w15 [.string r8, .int .i64 (E8 : Int)] [.int .i64 0, .string b1, .string b2, .int .u64 (v3 : Int), .int .u64 (v4 : Int), .string b5, .string b6, .slice a7 m7.length c7, .slice none 0 0] := st'
  clear st
  have st := st'
  clear st'
  have cE := inList_any st r8s.out
  clear st
  go_wp2_with fail
  refine cE.mono ?_
  rintro e w16 ⟨v8, E9, r9, a8, c8, rfl, nn8, vb, rs, hf, st⟩
  have hx := H.out.trans (hf _)
  have r9s : Hid (r9.size ≤ maxLen) := rs
  clear cE rs hf
  have q8 : Hid (∀ s ∈ mks v8, s.size ≤ maxLen) := mks_size v8 vb
  generalize mks v8 = m8 at hx q8 st ⊢
  clear vb
  replace H : Hid (out = _) := hx
  clear hx
  have y := st.tx.cell (i := 8) rfl
  have f := st.tx.frozen 8
  have st' := st.setT 8 (.slice a8 m8.length c8)
  obtain ⟨w17, hw⟩ : ∃ q, w16.setCell ⟨W.heap.size + 1 + 1, 8, none⟩ (.slice a8 m8.length c8) = q := ⟨_, rfl⟩
  rw [hw] at st'
  replace st' : RdSt W W.heap.size (W.heap.size + 1) W.heap.size (W.heap.size + 1 + 1) (W.heap.size + 1 + 1 + 1) 66 ((a8, m8) :: ((a7, m7) :: [])) w17 [.string r9, .int .i64 (E9 : Int)] [.int .i64 0, .string b1, .string b2, .int .u64 (v3 : Int), .int .u64 (v4 : Int), .string b5, .string b6, .slice a7 m7.length c7, .slice a8 m8.length c8] := st'
  clear st
  have st := st'
  clear st'
  replace H : Hid (out = runE E9 (finTx ⟨(v0 : Int), b1, b2, v3, v4, b5, b6, m7, m8⟩ r9.data.toList)) := H
  have xe := st.rd.cell (i := 1) rfl
  have fe := st.rd.frozen 1
  by_cases hE : E9 ≠ 0
  · have H1 : Hid (out = (.none, E9)) := (H.out.trans (if_pos hE) : _ = _)
    have hE1 : ((E9 : Int) == 0) = false := beq_eq_false_iff_ne.2 (by omega)
    have hE2 : ((E9 : Int) != 0) = true := by rw [bne_iff_ne]; omega
    have cN := inEnd_any st
    rw [if_neg (fun h => hE h.1)] at cN
    clear H st
    go_wp2_with fail
    refine cN.mono ?_
    rintro e we ⟨rfl, st⟩
    clear cN xe fe
    have y0 := st.tx.cell (i := 0) rfl
    have f0 := st.tx.frozen 0
    have st' := st.setT 0 (.int .i64 (v0 : Int))
    obtain ⟨wk, hwk⟩ : ∃ q, we.setCell ⟨W.heap.size + 1 + 1, 0, none⟩ (.int .i64 (v0 : Int)) = q := ⟨_, rfl⟩
    rw [hwk] at st'
    replace st' : RdSt W W.heap.size (W.heap.size + 1) W.heap.size (W.heap.size + 1 + 1) (W.heap.size + 1 + 1 + 1) 66 ((a8, m8) :: ((a7, m7) :: [])) wk [.string r9, .int .i64 (E9 : Int)] [.int .i64 (v0 : Int), .string b1, .string b2, .int .u64 (v3 : Int), .int .u64 (v4 : Int), .string b5, .string b6, .slice a7 m7.length c7, .slice a8 m8.length c8] := st'
    clear st
    have st := st'
    clear st'
    have x1 := st.rd.cell (i := 1) rfl
    obtain ⟨q0, q1, q2, q3, q4, q5', q6', q7', q8'⟩ := st.res.cells9
    have g0 := st.res.frozen 0
    have g1 := st.res.frozen 1
    have g2 := st.res.frozen 2
    have g3 := st.res.frozen 3
    have g4 := st.res.frozen 4
    have g5 := st.res.frozen 5
    have g6 := st.res.frozen 6
    have g7 := st.res.frozen 7
    have g8 := st.res.frozen 8
    have a1 : Arr (set9 wk W.heap.size (.int .i64 0) (.string ⟨#[]⟩) (.string ⟨#[]⟩) (.int .u64 0) (.int .u64 0) (.string ⟨#[]⟩) (.string ⟨#[]⟩) (.slice none 0 0) (.slice none 0 0)).drew W.heap.size 40 zeroC := (st.res.set9 (.int .i64 0) (.string ⟨#[]⟩) (.string ⟨#[]⟩) (.int .u64 0) (.int .u64 0) (.string ⟨#[]⟩) (.string ⟨#[]⟩) (.slice none 0 0) (.slice none 0 0)).drew
    have a3 : Below W.heap.size W (set9 wk W.heap.size (.int .i64 0) (.string ⟨#[]⟩) (.string ⟨#[]⟩) (.int .u64 0) (.int .u64 0) (.string ⟨#[]⟩) (.string ⟨#[]⟩) (.slice none 0 0) (.slice none 0 0)).drew := Below.drew (below_set9 st.bel (Nat.le_refl _) (.int .i64 0) (.string ⟨#[]⟩) (.string ⟨#[]⟩) (.int .u64 0) (.int .u64 0) (.string ⟨#[]⟩) (.string ⟨#[]⟩) (.slice none 0 0) (.slice none 0 0))
    unfold set9 at a1 a3
    have fin := And.intro a1 a3
    clear a1 a3 st
    go_wp2_with fail
    go_region
    revert fin
    generalize (World.setCell _ ⟨W.heap.size, 8, none⟩ (.slice none 0 0)).drew = wf
    intro fin
    try go_wp2
    refine bodyPost_ret (v := .tuple #[txV .none none 0 none 0, .int .i64 (E9 : Int)]) (results_tx_tmp rfl _ _ W.heap.size .none none 0 none 0 rfl fin.1 _ rfl) rfl ?_
    rw [H1.out]
    exact ⟨none, 0, none, 0, rfl, nil_own _ _ _, nil_own _ _ _, fun _ => rfl, fun _ => rfl, fin.2⟩
  replace hE : E9 = 0 := by omega
  subst hE
  replace H : Hid (out = finTx ⟨(v0 : Int), b1, b2, v3, v4, b5, b6, m7, m8⟩ r9.data.toList) := H
  unfold finTx at H
  by_cases hk : (2 : Int) < (v0 : Int)
  · have H1 : Hid (out = (.none, 2)) := (H.out.trans (if_pos hk) : _ = _)
    have st2 := st.setR 1 (.int .i64 ((2 : Nat) : Int))
    obtain ⟨wq, hwq⟩ : ∃ q, w17.setCell ⟨W.heap.size + 1, 1, none⟩ (.int .i64 2) = q := ⟨_, rfl⟩
    replace st2 : RdSt W W.heap.size (W.heap.size + 1) W.heap.size (W.heap.size + 1 + 1) (W.heap.size + 1 + 1 + 1) 66 ((a8, m8) :: ((a7, m7) :: [])) (w17.setCell ⟨W.heap.size + 1, 1, none⟩ (.int .i64 2)) [.string r9, .int .i64 ((2 : Nat) : Int)] [.int .i64 0, .string b1, .string b2, .int .u64 (v3 : Int), .int .u64 (v4 : Int), .string b5, .string b6, .slice a7 m7.length c7, .slice a8 m8.length c8] := st2
    rw [hwq] at st2
    have cN := inEnd_any st2
    rw [if_neg (fun h => by cases h.1)] at cN
    clear H st st2
    go_wp2_with fail
    refine cN.mono ?_
    rintro e we ⟨rfl, st⟩
    clear cN xe fe
    have y0 := st.tx.cell (i := 0) rfl
    have f0 := st.tx.frozen 0
    have st' := st.setT 0 (.int .i64 (v0 : Int))
    obtain ⟨wk, hwk⟩ : ∃ q, we.setCell ⟨W.heap.size + 1 + 1, 0, none⟩ (.int .i64 (v0 : Int)) = q := ⟨_, rfl⟩
    rw [hwk] at st'
    replace st' : RdSt W W.heap.size (W.heap.size + 1) W.heap.size (W.heap.size + 1 + 1) (W.heap.size + 1 + 1 + 1) 66 ((a8, m8) :: ((a7, m7) :: [])) wk [.string r9, .int .i64 ((2 : Nat) : Int)] [.int .i64 (v0 : Int), .string b1, .string b2, .int .u64 (v3 : Int), .int .u64 (v4 : Int), .string b5, .string b6, .slice a7 m7.length c7, .slice a8 m8.length c8] := st'
    clear st
    have st := st'
    clear st'
    have x1 := st.rd.cell (i := 1) rfl
    obtain ⟨q0, q1, q2, q3, q4, q5', q6', q7', q8'⟩ := st.res.cells9
    have g0 := st.res.frozen 0
    have g1 := st.res.frozen 1
    have g2 := st.res.frozen 2
    have g3 := st.res.frozen 3
    have g4 := st.res.frozen 4
    have g5 := st.res.frozen 5
    have g6 := st.res.frozen 6
    have g7 := st.res.frozen 7
    have g8 := st.res.frozen 8
    have a1 : Arr (set9 wk W.heap.size (.int .i64 0) (.string ⟨#[]⟩) (.string ⟨#[]⟩) (.int .u64 0) (.int .u64 0) (.string ⟨#[]⟩) (.string ⟨#[]⟩) (.slice none 0 0) (.slice none 0 0)).drew W.heap.size 40 zeroC := (st.res.set9 (.int .i64 0) (.string ⟨#[]⟩) (.string ⟨#[]⟩) (.int .u64 0) (.int .u64 0) (.string ⟨#[]⟩) (.string ⟨#[]⟩) (.slice none 0 0) (.slice none 0 0)).drew
    have a3 : Below W.heap.size W (set9 wk W.heap.size (.int .i64 0) (.string ⟨#[]⟩) (.string ⟨#[]⟩) (.int .u64 0) (.int .u64 0) (.string ⟨#[]⟩) (.string ⟨#[]⟩) (.slice none 0 0) (.slice none 0 0)).drew := Below.drew (below_set9 st.bel (Nat.le_refl _) (.int .i64 0) (.string ⟨#[]⟩) (.string ⟨#[]⟩) (.int .u64 0) (.int .u64 0) (.string ⟨#[]⟩) (.string ⟨#[]⟩) (.slice none 0 0) (.slice none 0 0))
    unfold set9 at a1 a3
    have fin := And.intro a1 a3
    clear a1 a3 st
    go_wp2_with fail
    go_region
    revert fin
    generalize (World.setCell _ ⟨W.heap.size, 8, none⟩ (.slice none 0 0)).drew = wf
    intro fin
    try go_wp2
    refine bodyPost_ret (v := .tuple #[txV .none none 0 none 0, .int .i64 (2 : Int)]) (results_tx_tmp rfl _ _ W.heap.size .none none 0 none 0 rfl fin.1 _ rfl) rfl ?_
    rw [H1.out]
    exact ⟨none, 0, none, 0, rfl, nil_own _ _ _, nil_own _ _ _, fun _ => rfl, fun _ => rfl, fin.2⟩
  replace H : Hid (out = _) := (H.out.trans (if_neg hk) : _ = _)
  have hk' : (v0 : Int) ≤ 2 := by omega
  clear hk
  have cN := inEnd_any st
  by_cases hr : r9.data.toList ≠ []
  · have H1 : Hid (out = (.none, 6)) := (H.out.trans (if_pos hr) : _ = _)
    rw [if_pos ⟨rfl, hr⟩] at cN
    clear H st hr
    go_wp2_with fail
    refine cN.mono ?_
    rintro e we ⟨rfl, st⟩
    clear cN xe fe
    have y0 := st.tx.cell (i := 0) rfl
    have f0 := st.tx.frozen 0
    have st' := st.setT 0 (.int .i64 (v0 : Int))
    obtain ⟨wk, hwk⟩ : ∃ q, we.setCell ⟨W.heap.size + 1 + 1, 0, none⟩ (.int .i64 (v0 : Int)) = q := ⟨_, rfl⟩
    rw [hwk] at st'
    replace st' : RdSt W W.heap.size (W.heap.size + 1) W.heap.size (W.heap.size + 1 + 1) (W.heap.size + 1 + 1 + 1) 66 ((a8, m8) :: ((a7, m7) :: [])) wk [.string r9, .int .i64 ((6 : Nat) : Int)] [.int .i64 (v0 : Int), .string b1, .string b2, .int .u64 (v3 : Int), .int .u64 (v4 : Int), .string b5, .string b6, .slice a7 m7.length c7, .slice a8 m8.length c8] := st'
    clear st
    have st := st'
    clear st'
    have x1 := st.rd.cell (i := 1) rfl
    obtain ⟨q0, q1, q2, q3, q4, q5', q6', q7', q8'⟩ := st.res.cells9
    have g0 := st.res.frozen 0
    have g1 := st.res.frozen 1
    have g2 := st.res.frozen 2
    have g3 := st.res.frozen 3
    have g4 := st.res.frozen 4
    have g5 := st.res.frozen 5
    have g6 := st.res.frozen 6
    have g7 := st.res.frozen 7
    have g8 := st.res.frozen 8
    have a1 : Arr (set9 wk W.heap.size (.int .i64 0) (.string ⟨#[]⟩) (.string ⟨#[]⟩) (.int .u64 0) (.int .u64 0) (.string ⟨#[]⟩) (.string ⟨#[]⟩) (.slice none 0 0) (.slice none 0 0)).drew W.heap.size 40 zeroC := (st.res.set9 (.int .i64 0) (.string ⟨#[]⟩) (.string ⟨#[]⟩) (.int .u64 0) (.int .u64 0) (.string ⟨#[]⟩) (.string ⟨#[]⟩) (.slice none 0 0) (.slice none 0 0)).drew
    have a3 : Below W.heap.size W (set9 wk W.heap.size (.int .i64 0) (.string ⟨#[]⟩) (.string ⟨#[]⟩) (.int .u64 0) (.int .u64 0) (.string ⟨#[]⟩) (.string ⟨#[]⟩) (.slice none 0 0) (.slice none 0 0)).drew := Below.drew (below_set9 st.bel (Nat.le_refl _) (.int .i64 0) (.string ⟨#[]⟩) (.string ⟨#[]⟩) (.int .u64 0) (.int .u64 0) (.string ⟨#[]⟩) (.string ⟨#[]⟩) (.slice none 0 0) (.slice none 0 0))
    unfold set9 at a1 a3
    have fin := And.intro a1 a3
    clear a1 a3 st
    go_wp2_with fail
    go_region
    revert fin
    generalize (World.setCell _ ⟨W.heap.size, 8, none⟩ (.slice none 0 0)).drew = wf
    intro fin
    try go_wp2
    refine bodyPost_ret (v := .tuple #[txV .none none 0 none 0, .int .i64 (6 : Int)]) (results_tx_tmp rfl _ _ W.heap.size .none none 0 none 0 rfl fin.1 _ rfl) rfl ?_
    rw [H1.out]
    exact ⟨none, 0, none, 0, rfl, nil_own _ _ _, nil_own _ _ _, fun _ => rfl, fun _ => rfl, fin.2⟩
  replace H : Hid (out = _) := (H.out.trans (if_neg hr) : _ = _)
  rw [if_neg (fun h => hr h.2)] at cN
  clear hr st
  go_wp2_with fail
  refine cN.mono ?_
  rintro e we ⟨rfl, st⟩
  clear cN xe fe
  have y0 := st.tx.cell (i := 0) rfl
  have f0 := st.tx.frozen 0
  have st' := st.setT 0 (.int .i64 (v0 : Int))
  obtain ⟨wk, hwk⟩ : ∃ q, we.setCell ⟨W.heap.size + 1 + 1, 0, none⟩ (.int .i64 (v0 : Int)) = q := ⟨_, rfl⟩
  rw [hwk] at st'
  replace st' : RdSt W W.heap.size (W.heap.size + 1) W.heap.size (W.heap.size + 1 + 1) (W.heap.size + 1 + 1 + 1) 66 ((a8, m8) :: ((a7, m7) :: [])) wk [.string r9, .int .i64 ((0 : Nat) : Int)] [.int .i64 (v0 : Int), .string b1, .string b2, .int .u64 (v3 : Int), .int .u64 (v4 : Int), .string b5, .string b6, .slice a7 m7.length c7, .slice a8 m8.length c8] := st'
  clear st
  have st := st'
  clear st'
  have x1 := st.rd.cell (i := 1) rfl
  have hA : TxAt wk ⟨(v0 : Int), b1, b2, v3, v4, b5, b6, m7, m8⟩ a7 a8 := ⟨(st.rows (a7, m7) (by simp)).at, (st.rows (a8, m8) (by simp)).at⟩
  have hS : TxSizes ⟨(v0 : Int), b1, b2, v3, v4, b5, b6, m7, m8⟩ := ⟨q1.out, q2.out, q5.out, q6.out, q7.out, q8.out⟩
  have cC := refCheck_any ⟨(v0 : Int), b1, b2, v3, v4, b5, b6, m7, m8⟩ a7 c7 a8 c8 wk hA hS
  obtain ⟨u0, u1, u2, u3, u4, u5, u6, u7, u8⟩ := st.tx.cells9
  clear hA hS
  by_cases hc : checkL ⟨(v0 : Int), b1, b2, v3, v4, b5, b6, m7, m8⟩ ≠ 0
  · have H1 : Hid (out = (.none, checkL ⟨(v0 : Int), b1, b2, v3, v4, b5, b6, m7, m8⟩)) := (H.out.trans (if_pos hc) : _ = _)
    generalize checkL ⟨(v0 : Int), b1, b2, v3, v4, b5, b6, m7, m8⟩ = er at cC H1 hc
    have hc2 : ((er : Int) != 0) = true := by rw [bne_iff_ne]; omega
    clear H
    go_wp2_with fail
    refine cC.mono ?_
    rintro e wy ⟨rfl, hbb⟩
    replace st := st.below hbb
    clear cC hbb u0 u1 u2 u3 u4 u5 u6 u7 u8 x1
    have z1 := st.rd.cell (i := 1) rfl
    have zf := st.rd.frozen 1
    have st' := st.setR 1 (.int .i64 (er : Int))
    obtain ⟨wv, hwv⟩ : ∃ q, wy.setCell ⟨W.heap.size + 1, 1, none⟩ (.int .i64 (er : Int)) = q := ⟨_, rfl⟩
    rw [hwv] at st'
    clear st
    have st := st'
    clear st'
    have x1 := st.rd.cell (i := 1) rfl
    obtain ⟨q0, q1, q2, q3, q4, q5', q6', q7', q8'⟩ := st.res.cells9
    have g0 := st.res.frozen 0
    have g1 := st.res.frozen 1
    have g2 := st.res.frozen 2
    have g3 := st.res.frozen 3
    have g4 := st.res.frozen 4
    have g5 := st.res.frozen 5
    have g6 := st.res.frozen 6
    have g7 := st.res.frozen 7
    have g8 := st.res.frozen 8
    have a1 : Arr (set9 wv W.heap.size (.int .i64 0) (.string ⟨#[]⟩) (.string ⟨#[]⟩) (.int .u64 0) (.int .u64 0) (.string ⟨#[]⟩) (.string ⟨#[]⟩) (.slice none 0 0) (.slice none 0 0)).drew W.heap.size 40 zeroC := (st.res.set9 (.int .i64 0) (.string ⟨#[]⟩) (.string ⟨#[]⟩) (.int .u64 0) (.int .u64 0) (.string ⟨#[]⟩) (.string ⟨#[]⟩) (.slice none 0 0) (.slice none 0 0)).drew
    have a3 : Below W.heap.size W (set9 wv W.heap.size (.int .i64 0) (.string ⟨#[]⟩) (.string ⟨#[]⟩) (.int .u64 0) (.int .u64 0) (.string ⟨#[]⟩) (.string ⟨#[]⟩) (.slice none 0 0) (.slice none 0 0)).drew := Below.drew (below_set9 st.bel (Nat.le_refl _) (.int .i64 0) (.string ⟨#[]⟩) (.string ⟨#[]⟩) (.int .u64 0) (.int .u64 0) (.string ⟨#[]⟩) (.string ⟨#[]⟩) (.slice none 0 0) (.slice none 0 0))
    unfold set9 at a1 a3
    have fin := And.intro a1 a3
    clear a1 a3 st
    go_wp2_with fail
    go_region
    revert fin
    generalize (World.setCell _ ⟨W.heap.size, 8, none⟩ (.slice none 0 0)).drew = wf
    intro fin
    try go_wp2
    refine bodyPost_ret (v := .tuple #[txV .none none 0 none 0, .int .i64 (er : Int)]) (results_tx_tmp rfl _ _ W.heap.size .none none 0 none 0 rfl fin.1 _ rfl) rfl ?_
    rw [H1.out]
    exact ⟨none, 0, none, 0, rfl, nil_own _ _ _, nil_own _ _ _, fun _ => rfl, fun _ => rfl, fin.2⟩
  replace H : Hid (out = (⟨(v0 : Int), b1, b2, v3, v4, b5, b6, m7, m8⟩, 0)) := (H.out.trans (if_neg hc) : _ = _)
  replace hc : checkL ⟨(v0 : Int), b1, b2, v3, v4, b5, b6, m7, m8⟩ = 0 := by omega
  rw [hc] at cC
  clear hc
  go_wp2_with fail
  refine cC.mono ?_
  rintro e wy ⟨rfl, hbb⟩
  replace st := st.below hbb
  clear cC hbb u0 u1 u2 u3 u4 u5 u6 u7 u8 x1
  have z1 := st.rd.cell (i := 1) rfl
  have zf := st.rd.frozen 1
  have st' := st.setR 1 (.int .i64 0)
  obtain ⟨wv, hwv⟩ : ∃ q, wy.setCell ⟨W.heap.size + 1, 1, none⟩ (.int .i64 0) = q := ⟨_, rfl⟩
  rw [hwv] at st'
  clear st
  have st := st'
  clear st'
  have x1 := st.rd.cell (i := 1) rfl
  obtain ⟨u0, u1, u2, u3, u4, u5, u6, u7, u8⟩ := st.tx.cells9
  obtain ⟨q0, q1, q2, q3, q4, q5', q6', q7', q8'⟩ := st.res.cells9
  have g0 := st.res.frozen 0
  have g1 := st.res.frozen 1
  have g2 := st.res.frozen 2
  have g3 := st.res.frozen 3
  have g4 := st.res.frozen 4
  have g5 := st.res.frozen 5
  have g6 := st.res.frozen 6
  have g7 := st.res.frozen 7
  have g8 := st.res.frozen 8
  go_wp2
  have hF := st.res.set9 (.int .i64 (v0 : Int)) (.string b1) (.string b2) (.int .u64 (v3 : Int)) (.int .u64 (v4 : Int)) (.string b5) (.string b6) (.slice a7 m7.length c7) (.slice a8 m8.length c8)
  have hBF := below_set9 st.bel (g := W.heap.size) (Nat.le_refl _) (.int .i64 (v0 : Int)) (.string b1) (.string b2) (.int .u64 (v3 : Int)) (.int .u64 (v4 : Int)) (.string b5) (.string b6) (.slice a7 m7.length c7) (.slice a8 m8.length c8)
  have hSF := (st.rows (a7, m7) (by simp)).set9 (g := W.heap.size) (by omega) (.int .i64 (v0 : Int)) (.string b1) (.string b2) (.int .u64 (v3 : Int)) (.int .u64 (v4 : Int)) (.string b5) (.string b6) (.slice a7 m7.length c7) (.slice a8 m8.length c8)
  have hTF := (st.rows (a8, m8) (by simp)).set9 (g := W.heap.size) (by omega) (.int .i64 (v0 : Int)) (.string b1) (.string b2) (.int .u64 (v3 : Int)) (.int .u64 (v4 : Int)) (.string b5) (.string b6) (.slice a7 m7.length c7) (.slice a8 m8.length c8)
  unfold set9 at hF hBF hSF hTF
  refine bodyPost_ret (v := .tuple #[txV ⟨(v0 : Int), b1, b2, v3, v4, b5, b6, m7, m8⟩ a7 c7 a8 c8, .int .i64 0]) (results_tx_tmp rfl _ _ W.heap.size ⟨(v0 : Int), b1, b2, v3, v4, b5, b6, m7, m8⟩ _ _ _ _ rfl hF _ rfl) rfl ?_
  rw [H.out]
  exact ⟨a7, c7, a8, c8, rfl, hSF.mono (by omega), hTF.mono (by omega), nn7, nn8, hBF⟩

theorem refDecode_any (s : ByteArray) (W : World) (hs : s.size ≤ maxLen) :
    Calls Try.prog 28 #[.string s] W fun e w' => GotDec W (decL s.data.toList) e w' := (refDecode_own s W hs).mono fun _ _ h => h.got
end Go.Proofs.Ytdnkakmdhdceaaa
