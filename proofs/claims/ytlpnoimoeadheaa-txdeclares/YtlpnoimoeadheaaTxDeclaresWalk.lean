/- tusklaw04.TxDeclares answers true at every transaction; nothing old in memory is turned. -/
import Derived.Test.YtlpnoimoeadheaaTxWorks
import Derived.Test.YtlpnoimoeadheaaTxFrame
import Derived.Test.YtlpnoimoeadheaaTxKeyMath
import Derived.Deep.QuietTactic
import Derived.BigQuiet
namespace Go.Proofs.Ytlpnoimoeadheaa
open Go.RowKit
set_option linter.unusedVariables false

set_option maxRecDepth 100000 in
set_option maxHeartbeats 1000000 in
theorem declares_no (d : TxD) (ra : Option Addr) (rc : Nat) (wa : Option Addr) (wc : Nat) (w : World) (hA : TxAt w d ra wa) (hr : ra = none → rc = 0) (hw : wa = none → wc = 0) (hl : d.rs.length * 16 ≤ 140737488351232 ∧ d.ws.length * 16 ≤ 140737488351232) (hz : checkL d ≠ 0) :
    Calls Try.prog 6 #[txV d ra rc wa wc] w fun e w' => e = .returned (.bool true) ∧ Below w.heap.size w w' := by
  have hX : Arr _ _ _ (txC d ra rc wa wc) := TxBox.new w d ra rc wa wc
  have hB := belowNew w (.cells (txC d ra rc wa wc).toArray 25)
  have cO := fun w1 (h : TxAt w1 d ra wa) => own_any d ra rc wa wc w1 h hr hw hl.1 hl.2
  have cN := fun r1 r2 r3 r4 w1 (h : TxAt w1 d r1 r3) => needs_any d r1 r2 r3 r4 w1 h
  have cC := fun r1 r2 r3 r4 w1 (h : TxAt w1 d r1 r3) => check_any d r1 r2 r3 r4 w1 h
  have hn : d.ws.length ≤ 9223372036854775807 := by omega
  have cF := fun r1 r2 r3 r4 w1 (h : TxAt w1 d r1 r3) => fits_any d r1 r2 r3 r4 w1 h hn
  have hf : fitsL d = false := by unfold fitsL; rw [needs_no hz]; rfl
  simp only [needs_no hz] at cN
  simp only [hf] at cF
  have hz' : ((checkL d : Int) != 0) = true := by rw [bne_iff_ne]; omega
  generalize checkL d = n at cC hz'
  have hAw : ∀ w1, Below w.heap.size w w1 → TxAt w1 d ra wa := fun w1 h => hA.below h
  clear hA hz hr hw hl hf hn
  unfold txV at cO ⊢
  go_enter Try.func6, Try.ntmps6
  go_wp2_with fail
  refine (works_any _).mono ?_
  rintro e w1 ⟨rfl, hb1⟩
  have hX1 := hX.below hb1 hX.lt
  have hB1 := hB.trans (hb1.mono hB.size)
  clear hb1 hX hB
  obtain ⟨x0, x1, x2, x3, x4, x5, x6, x7, x8⟩ := hX1.cells9
  go_wp2_with fail
  refine (cO _ (hAw _ hB1)).mono ?_
  rintro e w2 ⟨r1, r2, r3, r4, rfl, hA2, _, _, hb2⟩
  have hX2 := hX1.below hb2 hX1.lt
  have hB2 := hB1.trans (hb2.mono hB1.size)
  clear x0 x1 x2 x3 x4 x5 x6 x7 x8 hb2 hX1
  go_wp2_with fail
  refine (cN r1 r2 r3 r4 _ hA2).mono ?_
  rintro e w3 ⟨ao, rfl, hS3, hb3⟩
  have hX3 := hX2.below hb3 hX2.lt
  have hB3 := hB2.trans (hb3.mono hB2.size)
  clear hb3 hX2 hA2 cN hS3
  unfold txV
  obtain ⟨x0, x1, x2, x3, x4, x5, x6, x7, x8⟩ := hX3.cells9
  go_wp2_with fail
  refine (cO _ (hAw _ hB3)).mono ?_
  rintro e w4 ⟨s1, s2, s3, s4, rfl, hA4, _, _, hb4⟩
  have hX4 := hX3.below hb4 hX3.lt
  have hB4 := hB3.trans (hb4.mono hB3.size)
  clear x0 x1 x2 x3 x4 x5 x6 x7 x8 hb4 hX3
  go_wp2_with fail
  refine (cC s1 s2 s3 s4 _ hA4).mono ?_
  rintro e w5 ⟨rfl, hb5⟩
  have hX5 := hX4.below hb5 hX4.lt
  have hB5 := hB4.trans (hb5.mono hB4.size)
  clear hb5 hX4 hA4 cC
  unfold txV
  obtain ⟨x0, x1, x2, x3, x4, x5, x6, x7, x8⟩ := hX5.cells9
  go_wp2_with fail
  refine (cO _ (hAw _ hB5)).mono ?_
  rintro e w6 ⟨t1, t2, t3, t4, rfl, hA6, _, _, hb6⟩
  have hB6 := hB5.trans (hb6.mono hB5.size)
  clear x0 x1 x2 x3 x4 x5 x6 x7 x8 hb6 hX5
  go_wp2_with fail
  refine (cF t1 t2 t3 t4 _ hA6).mono ?_
  rintro e w7 ⟨rfl, hb7⟩
  have hB7 := hB6.trans (hb7.mono hB6.size)
  clear hb7 hA6 cF cO
  go_wp2
  go_ret
  exact ⟨rfl, hB7⟩

set_option maxRecDepth 100000 in
set_option maxHeartbeats 2000000 in
theorem declares_two (d : TxD) (ra : Option Addr) (rc : Nat) (wa : Option Addr) (wc : Nat) (w : World) (hA : TxAt w d ra wa) (hr : ra = none → rc = 0) (hw : wa = none → wc = 0) (hl : d.rs.length * 16 ≤ 140737488351232 ∧ d.ws.length * 16 ≤ 140737488351232) (hz : checkL d = 0)
    (a b : ByteArray) (hN : needsL d = [a, b]) (hab : Op.bytesLess a.toList b.toList = true) :
    Calls Try.prog 6 #[txV d ra rc wa wc] w fun e w' => e = .returned (.bool true) ∧ Below w.heap.size w w' := by
  have hX : Arr _ _ _ (txC d ra rc wa wc) := TxBox.new w d ra rc wa wc
  have hB := belowNew w (.cells (txC d ra rc wa wc).toArray 25)
  have cO := fun w1 (h : TxAt w1 d ra wa) => own_any d ra rc wa wc w1 h hr hw hl.1 hl.2
  have cN := fun r1 r2 r3 r4 w1 (h : TxAt w1 d r1 r3) => needs_any d r1 r2 r3 r4 w1 h
  have cC := fun r1 r2 r3 r4 w1 (h : TxAt w1 d r1 r3) => check_any d r1 r2 r3 r4 w1 h
  have cU := fun r1 r2 r3 r4 w1 (h : TxAt w1 { d with ws := [a, b] } r1 r3) => fits_any { d with ws := [a, b] } r1 r2 r3 r4 w1 h (by simp)
  have cV := fun r1 r2 r3 r4 w1 (h : TxAt w1 { d with ws := [b] } r1 r3) => fits_any { d with ws := [b] } r1 r2 r3 r4 w1 h (by simp)
  have hfu := fits_with hz
  have hfv := fits_without hz
  rw [hN] at hfu hfv
  replace hfv : fitsL { d with ws := [b] } = false := hfv
  simp only [hN] at cN
  simp only [hz] at cC
  simp only [hfu] at cU
  simp only [hfv] at cV
  have hAw : ∀ w1, Below w.heap.size w w1 → TxAt w1 d ra wa := fun w1 h => hA.below h
  clear hA hz hr hw hl hfu hfv hN
  unfold txV at cO ⊢
  go_enter Try.func6, Try.ntmps6
  go_wp2_with fail
  refine (works_any _).mono ?_
  rintro e w1 ⟨rfl, hb1⟩
  have hX1 := hX.below hb1 hX.lt
  have hB1 := hB.trans (hb1.mono hB.size)
  clear hb1 hX hB
  obtain ⟨x0, x1, x2, x3, x4, x5, x6, x7, x8⟩ := hX1.cells9
  go_wp2_with fail
  refine (cO _ (hAw _ hB1)).mono ?_
  rintro e w2 ⟨r1, r2, r3, r4, rfl, hA2, _, _, hb2⟩
  have hX2 := hX1.below hb2 hX1.lt
  have hB2 := hB1.trans (hb2.mono hB1.size)
  clear x0 x1 x2 x3 x4 x5 x6 x7 x8 hb2 hX1
  go_wp2_with fail
  refine (cN r1 r2 r3 r4 _ hA2).mono ?_
  rintro e w3 ⟨ao, rfl, hS3, hb3⟩
  have hX3 := hX2.below hb3 hX2.lt
  have hB3 := hB2.trans (hb3.mono hB2.size)
  clear hb3 hX2 hA2 cN
  unfold txV
  obtain ⟨x0, x1, x2, x3, x4, x5, x6, x7, x8⟩ := hX3.cells9
  go_wp2_with fail
  refine (cO _ (hAw _ hB3)).mono ?_
  rintro e w4 ⟨s1, s2, s3, s4, rfl, hA4, _, _, hb4⟩
  have hX4 := hX3.below hb4 hX3.lt
  have hB4 := hB3.trans (hb4.mono hB3.size)
  have hS4 := hS3.below hb4
  clear x0 x1 x2 x3 x4 x5 x6 x7 x8 hb4 hX3 hS3
  go_wp2_with fail
  refine (cC s1 s2 s3 s4 _ hA4).mono ?_
  rintro e w5 ⟨rfl, hb5⟩
  have hX5 := hX4.below hb5 hX4.lt
  have hB5 := hB4.trans (hb5.mono hB4.size)
  have hS5 := hS4.below hb5
  clear hb5 hX4 hA4 cC hS4
  unfold txV
  obtain ⟨nb, no, rfl, hlt, n0⟩ := hS5 0 (by simp)
  obtain ⟨nb', no', e1, _, n1⟩ := hS5 1 (by simp)
  simp at e1
  obtain ⟨rfl, rfl⟩ := e1
  replace n0 : w5.cell? ⟨nb, no, none⟩ = some (.string a) := n0
  replace n1 : w5.cell? ⟨nb, no + 1, none⟩ = some (.string b) := n1
  go_wp2_with fail
  go_quiet (fail)
  have hX6 := hX5.drewN nq
  have hB6 := below_drewN hB5 nq
  have hS6 := hS5.drewN nq
  clear n0 n1 hX5 hB5 hS5 hlt
  generalize w5.drewN nq = w6 at hX6 hB6 hS6 ⊢
  obtain ⟨x0, x1, x2, x3, x4, x5, x6, x7, x8⟩ := hX6.cells9
  go_wp2_with fail
  refine (cO _ (hAw _ hB6)).mono ?_
  rintro e w7 ⟨u1, u2, u3, u4, rfl, hA7, _, _, hb7⟩
  have hX7 := hX6.below hb7 hX6.lt
  have hB7 := hB6.trans (hb7.mono hB6.size)
  have hS7 := hS6.below hb7
  clear x0 x1 x2 x3 x4 x5 x6 x7 x8 hb7 hX6 hB6 hS6
  unfold txV
  have hsz7 : w.heap.size < w7.heap.size := hX7.lt
  have hU7 := Arr.new w7 25 (txC d u1 u2 u3 u4)
  have bU := belowNew w7 (.cells (txC d u1 u2 u3 u4).toArray 25)
  have bV := bU.alloc bU.size (.cells #[] 9)
  have hown := own_made (w7.alloc (.cells (txC d u1 u2 u3 u4).toArray 25)) (w7.heap.size + 1) (alloc_size _ _)
  have hX8 := (hX7.alloc (.cells (txC d u1 u2 u3 u4).toArray 25)).alloc (.cells #[] 9)
  have hU8 := hU7.alloc (.cells #[] 9)
  have hS8 := hS7.below bV
  have hs8 : w7.heap.size + 1 ≤ ((w7.alloc (.cells (txC d u1 u2 u3 u4).toArray 25)).alloc (.cells #[] 9)).heap.size := by rw [alloc_size, alloc_size]; omega
  clear hU7
  go_wp2_with (at_builtin; refine wpList_append_strs rfl _ _ rfl (w7.heap.size + 1) _ rfl hown (some ⟨nb, no, none⟩) 2 [a, b] rfl hS8 (fun h => by cases h) (by simp) hs8 ?_)
  intro a9 c9 w9 hT9 hn9 hb9
  have hX9 := hX8.below hb9 (by omega)
  have hU9 := hU8.below hb9 (by omega)
  have hN9 : Below w7.heap.size w7 w9 := bV.trans (hb9.mono (by omega))
  clear hb9 hX8 hU8 hS8 hs8 hown bU bV hX7
  have hUa := hU9.set 8 (.slice a9 2 c9)
  replace hUa : Arr (w9.setCell ⟨w7.heap.size, 8, none⟩ (.slice a9 2 c9)) w7.heap.size 25 (txC { d with ws := [a, b] } u1 u2 a9 c9) := hUa
  have hXa := hX9.other (p := ⟨w7.heap.size, 8, none⟩) (by show w.heap.size ≠ w7.heap.size; omega) (.slice a9 2 c9)
  have hNa := hN9.setCell (p := ⟨w7.heap.size, 8, none⟩) (Nat.le_refl _) (.slice a9 2 c9)
  have hTa := hT9.put (p := ⟨w7.heap.size, 8, none⟩) (by show w7.heap.size < _; omega) (.slice a9 2 c9)
  have k8 := hU9.cell (i := 8) rfl
  have z8 := hU9.frozen 8
  clear hX9 hU9 hN9 hT9
  obtain ⟨wa', hwa⟩ : ∃ w', w9.setCell ⟨w7.heap.size, 8, none⟩ (.slice a9 2 c9) = w' := ⟨_, rfl⟩
  rw [hwa] at hUa hXa hNa hTa
  have hBa := hB7.trans (hNa.mono (Nat.le_of_lt hsz7))
  have hSa := hS7.below hNa
  have hDa : TxAt wa' { d with ws := [a, b] } u1 a9 := ⟨hA7.rd.below hNa, hTa.at⟩
  clear hNa hTa hA7 hS7
  obtain ⟨x0, x1, x2, x3, x4, x5, x6, x7, x8⟩ := hXa.cells9
  go_wp2_with fail
  refine (cO _ (hAw _ hBa)).mono ?_
  rintro e wb ⟨v1, v2, v3, v4, rfl, hAb, _, _, hbb⟩
  have hUb := hUa.below hbb hUa.lt
  have hBb := hBa.trans (hbb.mono hBa.size)
  have hSb := hSa.below hbb
  have hDb := hDa.below hbb
  clear x0 x1 x2 x3 x4 x5 x6 x7 x8 hbb hXa hSa hUa hDa hwa k8 z8 cO hAw
  unfold txV
  have hVb := Arr.new wb 25 (txC { d with ws := [b] } v1 v2 (some ⟨nb, no + 1, none⟩) 1)
  have bN := belowNew wb (.cells (txC { d with ws := [b] } v1 v2 (some ⟨nb, no + 1, none⟩) 1).toArray 25)
  have hEb : TxAt _ { d with ws := [b] } v1 (some ⟨nb, no + 1, none⟩) := (⟨hAb.rd, by
    intro j hj
    obtain rfl : j = 0 := by simp at hj; omega
    obtain ⟨b', o', e1, e2, e3⟩ := hSb 1 (by simp)
    simp at e1
    obtain ⟨rfl, rfl⟩ := e1
    exact ⟨nb, no + 1, rfl, e2, e3⟩⟩ : TxAt wb { d with ws := [b] } v1 (some ⟨nb, no + 1, none⟩)).below bN
  have hBc := hBb.trans (bN.mono hBb.size)
  have hDc := hDb.below bN
  obtain ⟨y0, y1, y2, y3, y4, y5, y6, y7, y8⟩ := (hUb.below bN hUb.lt).cells9
  clear hUb hAb hSb hDb bN hBb
  simp only [txC, List.length_cons, List.length_nil, Nat.zero_add, Nat.reduceAdd] at y0 y1 y2 y3 y4 y5 y6 y7 y8
  go_wp2_with fail
  refine (cU u1 u2 a9 c9 _ hDc).mono ?_
  rintro e wd ⟨rfl, hbd⟩
  have hVd := hVb.below hbd hVb.lt
  have hBd := hBc.trans (hbd.mono hBc.size)
  have hEd := hEb.below hbd
  clear y0 y1 y2 y3 y4 y5 y6 y7 y8 hbd hVb hBc hDc hEb cU
  obtain ⟨x0, x1, x2, x3, x4, x5, x6, x7, x8⟩ := hVd.cells9
  go_wp2_with fail
  refine (cV v1 v2 _ 1 _ hEd).mono ?_
  rintro e we ⟨rfl, hbe⟩
  have hBe := hBd.trans (hbe.mono hBd.size)
  clear x0 x1 x2 x3 x4 x5 x6 x7 x8 hbe hVd hBd hEd cV
  go_wp2
  go_ret
  exact ⟨rfl, hBe⟩
set_option maxRecDepth 100000 in
set_option maxHeartbeats 2000000 in
theorem declares_one (d : TxD) (ra : Option Addr) (rc : Nat) (wa : Option Addr) (wc : Nat) (w : World) (hA : TxAt w d ra wa) (hr : ra = none → rc = 0) (hw : wa = none → wc = 0) (hl : d.rs.length * 16 ≤ 140737488351232 ∧ d.ws.length * 16 ≤ 140737488351232) (hz : checkL d = 0)
    (a : ByteArray) (hN : needsL d = [a]) :
    Calls Try.prog 6 #[txV d ra rc wa wc] w fun e w' => e = .returned (.bool true) ∧ Below w.heap.size w w' := by
  have hX : Arr _ _ _ (txC d ra rc wa wc) := TxBox.new w d ra rc wa wc
  have hB := belowNew w (.cells (txC d ra rc wa wc).toArray 25)
  have cO := fun w1 (h : TxAt w1 d ra wa) => own_any d ra rc wa wc w1 h hr hw hl.1 hl.2
  have cN := fun r1 r2 r3 r4 w1 (h : TxAt w1 d r1 r3) => needs_any d r1 r2 r3 r4 w1 h
  have cC := fun r1 r2 r3 r4 w1 (h : TxAt w1 d r1 r3) => check_any d r1 r2 r3 r4 w1 h
  have cU := fun r1 r2 r3 r4 w1 (h : TxAt w1 { d with ws := [a] } r1 r3) => fits_any { d with ws := [a] } r1 r2 r3 r4 w1 h (by simp)
  have cV := fun r1 r2 r3 r4 w1 (h : TxAt w1 { d with ws := [] } r1 r3) => fits_any { d with ws := [] } r1 r2 r3 r4 w1 h (by simp)
  have hfu := fits_with hz
  have hfv := fits_without hz
  rw [hN] at hfu hfv
  replace hfv : fitsL { d with ws := [] } = false := hfv
  simp only [hN] at cN
  simp only [hz] at cC
  simp only [hfu] at cU
  simp only [hfv] at cV
  have hAw : ∀ w1, Below w.heap.size w w1 → TxAt w1 d ra wa := fun w1 h => hA.below h
  clear hA hz hr hw hl hfu hfv hN
  unfold txV at cO ⊢
  go_enter Try.func6, Try.ntmps6
  go_wp2_with fail
  refine (works_any _).mono ?_
  rintro e w1 ⟨rfl, hb1⟩
  have hX1 := hX.below hb1 hX.lt
  have hB1 := hB.trans (hb1.mono hB.size)
  clear hb1 hX hB
  obtain ⟨x0, x1, x2, x3, x4, x5, x6, x7, x8⟩ := hX1.cells9
  go_wp2_with fail
  refine (cO _ (hAw _ hB1)).mono ?_
  rintro e w2 ⟨r1, r2, r3, r4, rfl, hA2, _, _, hb2⟩
  have hX2 := hX1.below hb2 hX1.lt
  have hB2 := hB1.trans (hb2.mono hB1.size)
  clear x0 x1 x2 x3 x4 x5 x6 x7 x8 hb2 hX1
  go_wp2_with fail
  refine (cN r1 r2 r3 r4 _ hA2).mono ?_
  rintro e w3 ⟨ao, rfl, hS3, hb3⟩
  have hX3 := hX2.below hb3 hX2.lt
  have hB3 := hB2.trans (hb3.mono hB2.size)
  clear hb3 hX2 hA2 cN
  unfold txV
  obtain ⟨x0, x1, x2, x3, x4, x5, x6, x7, x8⟩ := hX3.cells9
  go_wp2_with fail
  refine (cO _ (hAw _ hB3)).mono ?_
  rintro e w4 ⟨s1, s2, s3, s4, rfl, hA4, _, _, hb4⟩
  have hX4 := hX3.below hb4 hX3.lt
  have hB4 := hB3.trans (hb4.mono hB3.size)
  have hS4 := hS3.below hb4
  clear x0 x1 x2 x3 x4 x5 x6 x7 x8 hb4 hX3 hS3
  go_wp2_with fail
  refine (cC s1 s2 s3 s4 _ hA4).mono ?_
  rintro e w5 ⟨rfl, hb5⟩
  have hX5 := hX4.below hb5 hX4.lt
  have hB5 := hB4.trans (hb5.mono hB4.size)
  have hS5 := hS4.below hb5
  clear hb5 hX4 hA4 cC hS4
  unfold txV
  obtain ⟨nb, no, rfl, hlt, n0⟩ := hS5 0 (by simp)
  replace n0 : w5.cell? ⟨nb, no, none⟩ = some (.string a) := n0
  go_wp2_with fail
  go_quiet (fail)
  have hX6 := hX5.drewN nq
  have hB6 := below_drewN hB5 nq
  have hS6 := hS5.drewN nq
  clear n0 hX5 hB5 hS5 hlt
  generalize w5.drewN nq = w6 at hX6 hB6 hS6 ⊢
  obtain ⟨x0, x1, x2, x3, x4, x5, x6, x7, x8⟩ := hX6.cells9
  go_wp2_with fail
  refine (cO _ (hAw _ hB6)).mono ?_
  rintro e w7 ⟨u1, u2, u3, u4, rfl, hA7, _, _, hb7⟩
  have hX7 := hX6.below hb7 hX6.lt
  have hB7 := hB6.trans (hb7.mono hB6.size)
  have hS7 := hS6.below hb7
  clear x0 x1 x2 x3 x4 x5 x6 x7 x8 hb7 hX6 hB6 hS6
  unfold txV
  have hsz7 : w.heap.size < w7.heap.size := hX7.lt
  have hU7 := Arr.new w7 25 (txC d u1 u2 u3 u4)
  have bU := belowNew w7 (.cells (txC d u1 u2 u3 u4).toArray 25)
  have bV := bU.alloc bU.size (.cells #[] 9)
  have hown := own_made (w7.alloc (.cells (txC d u1 u2 u3 u4).toArray 25)) (w7.heap.size + 1) (alloc_size _ _)
  have hX8 := (hX7.alloc (.cells (txC d u1 u2 u3 u4).toArray 25)).alloc (.cells #[] 9)
  have hU8 := hU7.alloc (.cells #[] 9)
  have hS8 := hS7.below bV
  have hs8 : w7.heap.size + 1 ≤ ((w7.alloc (.cells (txC d u1 u2 u3 u4).toArray 25)).alloc (.cells #[] 9)).heap.size := by rw [alloc_size, alloc_size]; omega
  clear hU7
  go_wp2_with (at_builtin; refine wpList_append_strs rfl _ _ rfl (w7.heap.size + 1) _ rfl hown (some ⟨nb, no, none⟩) 1 [a] rfl hS8 (fun h => by cases h) (by simp) hs8 ?_)
  intro a9 c9 w9 hT9 hn9 hb9
  have hX9 := hX8.below hb9 (by omega)
  have hU9 := hU8.below hb9 (by omega)
  have hN9 : Below w7.heap.size w7 w9 := bV.trans (hb9.mono (by omega))
  clear hb9 hX8 hU8 hS8 hs8 hown bU bV hX7
  have hUa := hU9.set 8 (.slice a9 1 c9)
  replace hUa : Arr (w9.setCell ⟨w7.heap.size, 8, none⟩ (.slice a9 1 c9)) w7.heap.size 25 (txC { d with ws := [a] } u1 u2 a9 c9) := hUa
  have hXa := hX9.other (p := ⟨w7.heap.size, 8, none⟩) (by show w.heap.size ≠ w7.heap.size; omega) (.slice a9 1 c9)
  have hNa := hN9.setCell (p := ⟨w7.heap.size, 8, none⟩) (Nat.le_refl _) (.slice a9 1 c9)
  have hTa := hT9.put (p := ⟨w7.heap.size, 8, none⟩) (by show w7.heap.size < _; omega) (.slice a9 1 c9)
  have k8 := hU9.cell (i := 8) rfl
  have z8 := hU9.frozen 8
  clear hX9 hU9 hN9 hT9
  obtain ⟨wa', hwa⟩ : ∃ w', w9.setCell ⟨w7.heap.size, 8, none⟩ (.slice a9 1 c9) = w' := ⟨_, rfl⟩
  rw [hwa] at hUa hXa hNa hTa
  have hBa := hB7.trans (hNa.mono (Nat.le_of_lt hsz7))
  have hSa := hS7.below hNa
  have hDa : TxAt wa' { d with ws := [a] } u1 a9 := ⟨hA7.rd.below hNa, hTa.at⟩
  clear hNa hTa hA7 hS7
  obtain ⟨x0, x1, x2, x3, x4, x5, x6, x7, x8⟩ := hXa.cells9
  go_wp2_with fail
  refine (cO _ (hAw _ hBa)).mono ?_
  rintro e wb ⟨v1, v2, v3, v4, rfl, hAb, _, _, hbb⟩
  have hUb := hUa.below hbb hUa.lt
  have hBb := hBa.trans (hbb.mono hBa.size)
  have hSb := hSa.below hbb
  have hDb := hDa.below hbb
  clear x0 x1 x2 x3 x4 x5 x6 x7 x8 hbb hXa hSa hUa hDa hwa k8 z8 cO hAw
  unfold txV
  have hVb := Arr.new wb 25 (txC { d with ws := [] } v1 v2 (some ⟨nb, no, none⟩) 0)
  have bN := belowNew wb (.cells (txC { d with ws := [] } v1 v2 (some ⟨nb, no, none⟩) 0).toArray 25)
  have hEb : TxAt _ { d with ws := [] } v1 (some ⟨nb, no, none⟩) := (⟨hAb.rd, nil_strs _ _⟩ : TxAt wb { d with ws := [] } v1 (some ⟨nb, no, none⟩)).below bN
  have hBc := hBb.trans (bN.mono hBb.size)
  have hDc := hDb.below bN
  obtain ⟨y0, y1, y2, y3, y4, y5, y6, y7, y8⟩ := (hUb.below bN hUb.lt).cells9
  clear hUb hAb hSb hDb bN hBb
  simp only [txC, List.length_cons, List.length_nil, Nat.zero_add] at y0 y1 y2 y3 y4 y5 y6 y7 y8
  go_wp2_with fail
  refine (cU u1 u2 a9 c9 _ hDc).mono ?_
  rintro e wd ⟨rfl, hbd⟩
  have hVd := hVb.below hbd hVb.lt
  have hBd := hBc.trans (hbd.mono hBc.size)
  have hEd := hEb.below hbd
  clear y0 y1 y2 y3 y4 y5 y6 y7 y8 hbd hVb hBc hDc hEb cU
  obtain ⟨x0, x1, x2, x3, x4, x5, x6, x7, x8⟩ := hVd.cells9
  go_wp2_with fail
  refine (cV v1 v2 _ 0 _ hEd).mono ?_
  rintro e we ⟨rfl, hbe⟩
  have hBe := hBd.trans (hbe.mono hBd.size)
  clear x0 x1 x2 x3 x4 x5 x6 x7 x8 hbe hVd hBd hEd cV
  go_wp2
  go_ret
  exact ⟨rfl, hBe⟩

theorem declares_walk (d : TxD) (ra : Option Addr) (rc : Nat) (wa : Option Addr) (wc : Nat) (w : World) (hA : TxAt w d ra wa) (hr : ra = none → rc = 0) (hw : wa = none → wc = 0) (hs : TxSizes d) (hl : d.rs.length * 16 ≤ 140737488351232 ∧ d.ws.length * 16 ≤ 140737488351232) :
    Calls Try.prog 6 #[txV d ra rc wa wc] w fun e w' => e = .returned (.bool true) ∧ Below w.heap.size w w' := by
  by_cases hz : checkL d = 0
  · rcases needs_form hz with ⟨a, e⟩ | ⟨a, b, e, hab⟩
    · exact declares_one d ra rc wa wc w hA hr hw hl hz a e
    · exact declares_two d ra rc wa wc w hA hr hw hl hz a b e hab
  · exact declares_no d ra rc wa wc w hA hr hw hl hz
end Go.Proofs.Ytlpnoimoeadheaa
