/- tusklaw04.TxKinds answers true at every transaction; nothing old in memory is turned. -/
import Derived.Test.YtlpnoimoeadheaaTxWorks
import Derived.Test.YtlpnoimoeadheaaTxFrame
namespace Go.Proofs.Ytlpnoimoeadheaa
open Go.RowKit
set_option linter.unusedVariables false

theorem isNm_pos {s : ByteArray} (h : isNm s = true) : 1 ≤ s.size := by
  unfold isNm at h
  simp only [Bool.and_eq_true, decide_eq_true_eq] at h
  exact h.1.1

theorem isNm_zero {s : ByteArray} (h : s.size = 0) : isNm s = false := by
  cases hn : isNm s with
  | false => rfl
  | true => have := isNm_pos hn; omega

theorem other_kind {d : TxD} (h : checkL d = 0) : checkL { d with kind := 3 - d.kind } = 3 := by
  obtain ⟨z1, z2, _⟩ := check_zero h
  have hk : ¬ (({ d with kind := 3 - d.kind } : TxD).kind ≠ 1 ∧ ({ d with kind := 3 - d.kind } : TxD).kind ≠ 2) := by
    show ¬ (3 - d.kind ≠ 1 ∧ 3 - d.kind ≠ 2)
    omega
  have hf : fieldsR { d with kind := 3 - d.kind } = false := by
    unfold fieldsR at z2 ⊢
    rw [Bool.and_eq_true] at z2
    have z3 := z2.2
    rcases z1 with hk1 | hk1
    · rw [if_pos hk1] at z3
      simp only [Bool.and_eq_true] at z3
      rw [if_neg (by show ¬ (3 - d.kind = 1); omega)]
      show (isNm d.frm && (isNm d.key && _ && _ && _)) = false
      rw [isNm_zero (empty_size z3.1.2)]
      simp
    · rw [if_neg (by omega)] at z3
      simp only [Bool.and_eq_true] at z3
      rw [if_pos (by show 3 - d.kind = 1; omega)]
      show (isNm d.frm && (isNm d.to && _ && _)) = false
      rw [isNm_zero (empty_size z3.1.2)]
      simp
  unfold checkL
  rw [if_neg hk, if_pos hf]

theorem third_kind (d : TxD) : checkL { d with kind := 3 } = 5 := by
  unfold checkL
  rw [if_pos ⟨by show (3 : Int) ≠ 1; decide, by show (3 : Int) ≠ 2; decide⟩]

set_option maxRecDepth 100000 in
set_option maxHeartbeats 1000000 in
theorem kinds_walk (d : TxD) (ra : Option Addr) (rc : Nat) (wa : Option Addr) (wc : Nat) (w : World) (hA : TxAt w d ra wa) (hr : ra = none → rc = 0) (hw : wa = none → wc = 0) (hs : TxSizes d) (hl : d.rs.length * 16 ≤ 140737488351232 ∧ d.ws.length * 16 ≤ 140737488351232) :
    Calls Try.prog 8 #[txV d ra rc wa wc] w fun e w' => e = .returned (.bool true) ∧ Below w.heap.size w w' := by
  have hX := TxBox.new w d ra rc wa wc
  have hB := belowNew w (.cells (txC d ra rc wa wc).toArray 25)
  have hX' : Arr _ _ _ (txC d ra rc wa wc) := hX
  have cO := fun w1 (h : TxAt w1 d ra wa) => own_any d ra rc wa wc w1 h hr hw hl.1 hl.2
  have cC := fun r1 r2 r3 r4 w1 (h : TxAt w1 d r1 r3) => check_any d r1 r2 r3 r4 w1 h
  have cD := fun r1 r2 r3 r4 w1 (h : TxAt w1 { d with kind := 3 - d.kind } r1 r3) => check_any { d with kind := 3 - d.kind } r1 r2 r3 r4 w1 h
  have cE := fun r1 r2 r3 r4 w1 (h : TxAt w1 { d with kind := 3 } r1 r3) => check_any { d with kind := 3 } r1 r2 r3 r4 w1 h
  rw [third_kind] at cE
  by_cases hz : checkL d = 0
  · have ho := other_kind hz
    obtain ⟨z1, _⟩ := check_zero hz
    simp only [hz] at cC
    simp only [ho] at cD
    have hAw : ∀ w1, Below w.heap.size w w1 → TxAt w1 d ra wa := fun w1 h => hA.below h
    clear hX hA hz hr hw hs hl ho
    obtain ⟨kind, frm, to, amt, non, key, val, rs, ws⟩ := d
    replace z1 : kind = 1 ∨ kind = 2 := z1
    unfold txV at cO ⊢
    rcases z1 with rfl | rfl
    · go_enter Try.func8, Try.ntmps8
      go_wp2_with fail
      refine (works_any _).mono ?_
      rintro e w1 ⟨rfl, hb1⟩
      have hX1 := hX'.below hb1 hX'.lt
      have hB1 := hB.trans (hb1.mono hB.size)
      clear hb1 hX' hB
      obtain ⟨x0, x1, x2, x3, x4, x5, x6, x7, x8⟩ := hX1.cells9
      go_wp2_with fail
      refine (cO _ (hAw _ hB1)).mono ?_
      rintro e w2 ⟨r1, r2, r3, r4, rfl, hA2, _, _, hb2⟩
      have hX2 := hX1.below hb2 hX1.lt
      have hB2 := hB1.trans (hb2.mono hB1.size)
      clear x0 x1 x2 x3 x4 x5 x6 x7 x8 hb2 hX1
      go_wp2_with fail
      refine (cC r1 r2 r3 r4 _ hA2).mono ?_
      rintro e w3 ⟨rfl, hb3⟩
      have hX3 := hX2.below hb3 hX2.lt
      have hB3 := hB2.trans (hb3.mono hB2.size)
      clear hb3 cC hX2 hA2
      unfold txV
      obtain ⟨x0, x1, x2, x3, x4, x5, x6, x7, x8⟩ := hX3.cells9
      go_wp2_with fail
      refine (cO _ (hAw _ hB3)).mono ?_
      rintro e w4 ⟨s1, s2, s3, s4, rfl, hA4, _, _, hb4⟩
      have hX4 := hX3.below hb4 hX3.lt
      have hB4 := hB3.trans (hb4.mono hB3.size)
      clear x0 x1 x2 x3 x4 x5 x6 x7 x8 hb4 hX3 cO
      unfold txV
      have y0 := (hX4.alloc (.cells (txC ⟨1, frm, to, amt, non, key, val, rs, ws⟩ s1 s2 s3 s4).toArray 25)).cell (i := 0) rfl
      simp only [txC] at y0
      have hY := Arr.new w4 25 (txC ⟨2, frm, to, amt, non, key, val, rs, ws⟩ s1 s2 s3 s4)
      have hB5 := hB4.alloc hB4.size (.cells (txC ⟨2, frm, to, amt, non, key, val, rs, ws⟩ s1 s2 s3 s4).toArray 25)
      have hA5 : TxAt _ ⟨2, frm, to, amt, non, key, val, rs, ws⟩ s1 s3 := (⟨hA4.rd, hA4.wr⟩ : TxAt w4 ⟨2, frm, to, amt, non, key, val, rs, ws⟩ s1 s3).below (belowNew w4 (.cells (txC ⟨2, frm, to, amt, non, key, val, rs, ws⟩ s1 s2 s3 s4).toArray 25))
      have hsz := hB4.size
      clear hX4 hB4
      go_wp2_with fail
      refine (cD s1 s2 s3 s4 _ hA5).mono ?_
      rintro e w5 ⟨rfl, hb5⟩
      have hY5 := hY.below hb5 hY.lt
      have hB6 := hB5.trans (hb5.mono hB5.size)
      have hN5 := (belowNew w4 (.cells (txC ⟨2, frm, to, amt, non, key, val, rs, ws⟩ s1 s2 s3 s4).toArray 25)).trans (hb5.mono (belowNew w4 (.cells (txC ⟨2, frm, to, amt, non, key, val, rs, ws⟩ s1 s2 s3 s4).toArray 25)).size)
      clear hb5 hB5 hA5 hY y0
      have hY6 := hY5.set 0 (.int .i64 3)
      replace hB6 := hB6.setCell (p := ⟨w4.heap.size, 0, none⟩) hsz (.int .i64 3)
      replace hN5 := hN5.setCell (p := ⟨w4.heap.size, 0, none⟩) (Nat.le_refl _) (.int .i64 3)
      have hA6 : TxAt _ ⟨3, frm, to, amt, non, key, val, rs, ws⟩ s1 s3 := (⟨hA4.rd, hA4.wr⟩ : TxAt w4 ⟨3, frm, to, amt, non, key, val, rs, ws⟩ s1 s3).below hN5
      have y0 := hY5.cell (i := 0) rfl
      have f0 := hY5.frozen 0
      obtain ⟨w6, hw6⟩ : ∃ w6, w5.setCell ⟨w4.heap.size, 0, none⟩ (.int .i64 3) = w6 := ⟨_, rfl⟩
      rw [hw6] at hY6 hB6 hA6
      replace hY6 : Arr w6 w4.heap.size 25 (txC ⟨3, frm, to, amt, non, key, val, rs, ws⟩ s1 s2 s3 s4) := hY6
      obtain ⟨x0, x1, x2, x3, x4, x5, x6, x7, x8⟩ := hY6.cells9
      clear hN5 hY5 hY6 hA4 cD
      go_wp2_with fail
      refine (cE s1 s2 s3 s4 _ hA6).mono ?_
      rintro e w7 ⟨rfl, hb7⟩
      have hB7 := hB6.trans (hb7.mono hB6.size)
      clear hb7 hB6
      go_wp2
      go_ret
      exact ⟨rfl, hB7⟩
    · go_enter Try.func8, Try.ntmps8
      go_wp2_with fail
      refine (works_any _).mono ?_
      rintro e w1 ⟨rfl, hb1⟩
      have hX1 := hX'.below hb1 hX'.lt
      have hB1 := hB.trans (hb1.mono hB.size)
      clear hb1 hX' hB
      obtain ⟨x0, x1, x2, x3, x4, x5, x6, x7, x8⟩ := hX1.cells9
      go_wp2_with fail
      refine (cO _ (hAw _ hB1)).mono ?_
      rintro e w2 ⟨r1, r2, r3, r4, rfl, hA2, _, _, hb2⟩
      have hX2 := hX1.below hb2 hX1.lt
      have hB2 := hB1.trans (hb2.mono hB1.size)
      clear x0 x1 x2 x3 x4 x5 x6 x7 x8 hb2 hX1
      go_wp2_with fail
      refine (cC r1 r2 r3 r4 _ hA2).mono ?_
      rintro e w3 ⟨rfl, hb3⟩
      have hX3 := hX2.below hb3 hX2.lt
      have hB3 := hB2.trans (hb3.mono hB2.size)
      clear hb3 cC hX2 hA2
      unfold txV
      obtain ⟨x0, x1, x2, x3, x4, x5, x6, x7, x8⟩ := hX3.cells9
      go_wp2_with fail
      refine (cO _ (hAw _ hB3)).mono ?_
      rintro e w4 ⟨s1, s2, s3, s4, rfl, hA4, _, _, hb4⟩
      have hX4 := hX3.below hb4 hX3.lt
      have hB4 := hB3.trans (hb4.mono hB3.size)
      clear x0 x1 x2 x3 x4 x5 x6 x7 x8 hb4 hX3 cO
      unfold txV
      have y0 := (hX4.alloc (.cells (txC ⟨2, frm, to, amt, non, key, val, rs, ws⟩ s1 s2 s3 s4).toArray 25)).cell (i := 0) rfl
      simp only [txC] at y0
      have hY := Arr.new w4 25 (txC ⟨1, frm, to, amt, non, key, val, rs, ws⟩ s1 s2 s3 s4)
      have hB5 := hB4.alloc hB4.size (.cells (txC ⟨1, frm, to, amt, non, key, val, rs, ws⟩ s1 s2 s3 s4).toArray 25)
      have hA5 : TxAt _ ⟨1, frm, to, amt, non, key, val, rs, ws⟩ s1 s3 := (⟨hA4.rd, hA4.wr⟩ : TxAt w4 ⟨1, frm, to, amt, non, key, val, rs, ws⟩ s1 s3).below (belowNew w4 (.cells (txC ⟨1, frm, to, amt, non, key, val, rs, ws⟩ s1 s2 s3 s4).toArray 25))
      have hsz := hB4.size
      clear hX4 hB4
      go_wp2_with fail
      refine (cD s1 s2 s3 s4 _ hA5).mono ?_
      rintro e w5 ⟨rfl, hb5⟩
      have hY5 := hY.below hb5 hY.lt
      have hB6 := hB5.trans (hb5.mono hB5.size)
      have hN5 := (belowNew w4 (.cells (txC ⟨1, frm, to, amt, non, key, val, rs, ws⟩ s1 s2 s3 s4).toArray 25)).trans (hb5.mono (belowNew w4 (.cells (txC ⟨1, frm, to, amt, non, key, val, rs, ws⟩ s1 s2 s3 s4).toArray 25)).size)
      clear hb5 hB5 hA5 hY y0
      have hY6 := hY5.set 0 (.int .i64 3)
      replace hB6 := hB6.setCell (p := ⟨w4.heap.size, 0, none⟩) hsz (.int .i64 3)
      replace hN5 := hN5.setCell (p := ⟨w4.heap.size, 0, none⟩) (Nat.le_refl _) (.int .i64 3)
      have hA6 : TxAt _ ⟨3, frm, to, amt, non, key, val, rs, ws⟩ s1 s3 := (⟨hA4.rd, hA4.wr⟩ : TxAt w4 ⟨3, frm, to, amt, non, key, val, rs, ws⟩ s1 s3).below hN5
      have y0 := hY5.cell (i := 0) rfl
      have f0 := hY5.frozen 0
      obtain ⟨w6, hw6⟩ : ∃ w6, w5.setCell ⟨w4.heap.size, 0, none⟩ (.int .i64 3) = w6 := ⟨_, rfl⟩
      rw [hw6] at hY6 hB6 hA6
      replace hY6 : Arr w6 w4.heap.size 25 (txC ⟨3, frm, to, amt, non, key, val, rs, ws⟩ s1 s2 s3 s4) := hY6
      obtain ⟨x0, x1, x2, x3, x4, x5, x6, x7, x8⟩ := hY6.cells9
      clear hN5 hY5 hY6 hA4 cD
      go_wp2_with fail
      refine (cE s1 s2 s3 s4 _ hA6).mono ?_
      rintro e w7 ⟨rfl, hb7⟩
      have hB7 := hB6.trans (hb7.mono hB6.size)
      clear hb7 hB6
      go_wp2
      go_ret
      exact ⟨rfl, hB7⟩
  · have hz' : ((checkL d : Int) != 0) = true := by rw [bne_iff_ne]; omega
    generalize checkL d = n at cC hz'
    have hAw : ∀ w1, Below w.heap.size w w1 → TxAt w1 d ra wa := fun w1 h => hA.below h
    clear cD cE hX hA hz hr hw hs hl
    unfold txV at cO ⊢
    go_enter Try.func8, Try.ntmps8
    go_wp2_with fail
    refine (works_any _).mono ?_
    rintro e w1 ⟨rfl, hb1⟩
    replace hb1 : Below (w.alloc (.cells (txC d ra rc wa wc).toArray 25)).heap.size (w.alloc (.cells (txC d ra rc wa wc).toArray 25)) w1 := hb1
    have hX1 := hX'.below hb1 hX'.lt
    have hB1 := hB.trans (hb1.mono hB.size)
    clear hb1 hX' hB
    obtain ⟨x0, x1, x2, x3, x4, x5, x6, x7, x8⟩ := hX1.cells9
    go_wp2_with fail
    refine (cO _ (hAw _ hB1)).mono ?_
    rintro e w2 ⟨r1, r2, r3, r4, rfl, hA2, _, _, hb2⟩
    have hB2 := hB1.trans (hb2.mono hB1.size)
    clear x0 x1 x2 x3 x4 x5 x6 x7 x8 hb2 hX1
    go_wp2_with fail
    refine (cC r1 r2 r3 r4 _ hA2).mono ?_
    rintro e w3 ⟨rfl, hb3⟩
    have hB3 := hB2.trans (hb3.mono hB2.size)
    clear hb3 cC cO
    go_wp2
    go_ret
    exact ⟨rfl, hB3⟩
end Go.Proofs.Ytlpnoimoeadheaa
