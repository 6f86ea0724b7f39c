/- What tuskref08.DecodeQc and tuskref08.Decode do; nothing old in memory is turned. -/
import Derived.Test.YtepgdbpofppdcaaBlkDecode
import Derived.Test.YtepgdbpofppdcaaRefHdrDecode
namespace Go.Proofs.Ytepgdbpofppdcaa
open Go.RowKit
set_option linter.unusedVariables false

set_option maxRecDepth 100000 in
set_option maxHeartbeats 2000000 in
theorem refDecodeQc_any (s : ByteArray) (W : World) (hs : s.size ≤ maxLen) :
    Calls Try.prog 17 #[.string s] W fun e w' => GotQc W (decQ s.data.toList) e w' := by
  obtain ⟨hZ, hR, hB⟩ := two_new W 37 63 [.int .i64 0, .string ⟨#[]⟩, .slice none 0 0] [.string s, .int .i64 0]
  obtain ⟨out, hout⟩ : ∃ out, out = decQ s.data.toList := ⟨_, rfl⟩
  rw [← hout]
  have H : Hid (out = runX 0 (decQ s.data.toList)) := hout
  clear hout
  have c0 := inInt_k (W.heap.size + 1) _ s 0 hR hs
  have hw0 := hR.lt
  go_enter Try.func17, Try.ntmps17
  go_wp2_with fail
  refine c0.mono ?_
  rintro e w1 ⟨v, E1, r1, rfl, hvl, hr1, hf, hR1, hk1⟩
  have hZ1 := hZ.kept hk1 (by omega)
  have hB1 := hB.trans (hk1.below hB.size (fun k hk => by rw [hk]; omega))
  have hx := H.out.trans (hf _ _)
  replace H : Hid (out = _) := hx
  clear hx hf c0 hZ hR hB hk1
  have c1 := inText_k (W.heap.size + 1) w1 r1 E1 hR1 hr1
  go_wp2_with fail
  refine c1.mono ?_
  rintro e w2 ⟨t, E2, r2, rfl, htl, hr2, hf, hR2, hk2⟩
  have hZ2 := hZ1.kept hk2 (by omega)
  have hB2 := hB1.trans (hk2.below hB1.size (fun k hk => by rw [hk]; omega))
  have hx := H.out.trans (hf _ _)
  replace H : Hid (out = _) := hx
  clear hx hf c1 hZ1 hR1 hB1 hk2
  have c2 := some_k (W.heap.size + 1) w2 r2 E2 hR2 hr2
  have hw2 := hR2.lt
  go_wp2_with fail
  refine c2.mono ?_
  rintro e w5 ⟨ts, E5, r5, va, vc, rfl, h7, hr5, hf, hT5, hTn, hTf, hR5, hk5⟩
  have hZ5 := hZ2.kept hk5 (by omega)
  have hB5 := hB2.trans (hk5.below hB2.size (fun k hk => by rw [hk]; omega))
  have hTl : ∀ b, rowFoot tagK va ts b → W.heap.size + 1 < b := fun b hb => by have := hTf b hb; omega
  have hx := H.out.trans (hf _ _)
  replace H : Hid (out = _) := hx
  clear hx hf c2 hZ2 hR2 hB2 hk5 hTf
  have cE := inEnd_k (W.heap.size + 1) w5 r5 E5 hR5
  obtain ⟨E7, hE7⟩ : ∃ q, Hid (q = (if E5 = 0 ∧ r5.data.toList ≠ [] then 6 else E5)) := ⟨_, rfl⟩
  rw [← hE7.out] at cE
  have HF : Hid ((E7 = 0 ∧ out = .ok (QcM.d ⟨(v : Int), ⟨t.toArray⟩, va, ts, vc⟩)) ∨ (E7 ≠ 0 ∧ out = .error E7)) := by
    have e7 := hE7.out
    have hh := H.out
    by_cases h1 : E5 = 0
    · rw [h1, runX_zero] at hh
      by_cases hm : r5.data.toList ≠ []
      · rw [if_pos hm] at hh
        rw [if_pos ⟨h1, hm⟩] at e7
        exact Or.inr ⟨by omega, by rw [hh, e7]⟩
      · rw [if_neg hm] at hh
        rw [if_neg (fun h => hm h.2)] at e7
        exact Or.inl ⟨by omega, hh⟩
    · rw [runX_err h1] at hh
      rw [if_neg (fun h => h1 h.1)] at e7
      exact Or.inr ⟨by omega, by rw [hh, e7]⟩
  clear H hE7 h7 hr5
  go_wp2_with fail
  refine cE.mono ?_
  rintro e w7 ⟨rfl, hR7, hk7⟩
  have hZ7 := hZ5.kept hk7 (by omega)
  have hT7 := hT5.kept hk7 (fun b hb e => by have := hTl b hb; have e' : b = W.heap.size + 1 := e; omega)
  have hB7 := hB5.trans (hk7.below hB5.size (fun k hk => by rw [hk]; omega))
  clear cE hZ5 hT5 hB5 hk7 hR5
  have u1 := hR7.cell (i := 1) rfl
  have z0 := hZ7.cell (i := 0) rfl
  have z1 := hZ7.cell (i := 1) rfl
  have z2 := hZ7.cell (i := 2) rfl
  have g0 := hZ7.frozen 0
  have g1 := hZ7.frozen 1
  have g2 := hZ7.frozen 2
  by_cases he : E7 ≠ 0
  · have hne : ((E7 : Int) != 0) = true := by rw [bne_iff_ne]; omega
    have ho : out = .error E7 := by
      rcases HF.out with ⟨h, _⟩ | ⟨_, h⟩
      · exact absurd h he
      · exact h
    have fin : Arr (set3 w7 W.heap.size (.int .i64 0) (.string ⟨#[]⟩) (.slice none 0 0)).drew W.heap.size 37 qc0.c ∧ Below W.heap.size W (set3 w7 W.heap.size (.int .i64 0) (.string ⟨#[]⟩) (.slice none 0 0)).drew :=
      ⟨(hZ7.set3 (.int .i64 0) (.string ⟨#[]⟩) (.slice none 0 0)).drew, Below.drew (below_set3 hB7 (Nat.le_refl _) (.int .i64 0) (.string ⟨#[]⟩) (.slice none 0 0))⟩
    have hfin := fun w' e hb hv => gotQc_err (W := W) (w := w') (e := e) ho he hb hv
    unfold set3 at fin
    clear hR7 hZ7 hB7 hT7 HF
    go_wp2_with fail
    go_region
    revert fin
    generalize (World.setCell _ ⟨W.heap.size, 2, none⟩ (.slice none 0 0)).drew = wf
    intro fin
    try go_wp2
    refine bodyPost_ret (v := .tuple #[qc0.v, .int .i64 (E7 : Int)]) (results_qc_tmp rfl _ _ W.heap.size qc0 rfl fin.1 _ rfl) rfl ?_
    exact hfin _ _ fin.2 rfl
  have he0 : E7 = 0 := by omega
  subst he0
  obtain ⟨tb, htb⟩ : ∃ q, q = (⟨t.toArray⟩ : ByteArray) := ⟨_, rfl⟩
  rw [← htb] at HF ⊢
  have ho : out = .ok (QcM.d ⟨(v : Int), tb, va, ts, vc⟩) := by
    rcases HF.out with ⟨_, h⟩ | ⟨h, _⟩
    · exact h
    · exact absurd rfl h
  have hZF := hZ7.set3 (.int .i64 (v : Int)) (.string tb) (.slice va ts.length vc)
  have hBF := below_set3 hB7 (Nat.le_refl _) (.int .i64 (v : Int)) (.string tb) (.slice va ts.length vc)
  have kF := kept_set3 w7 W.heap.size (.int .i64 (v : Int)) (.string tb) (.slice va ts.length vc)
  have hTF := hT7.kept kF (fun b hb e => by have := hTl b hb; have e' : b = W.heap.size := e; omega)
  have fin : ∀ e, e = .returned (.tuple #[QcM.v ⟨(v : Int), tb, va, ts, vc⟩, .int .i64 0]) → GotQc W out e _ := fun e hv => ⟨_, 0, hv, ⟨hTF, hTn⟩, Or.inl ⟨rfl, ho⟩, fun b h => by have := hTl b h; omega, hBF⟩
  unfold set3 at hZF fin
  clear hR7 hZ7 hT7 hB7 hBF kF hTF ho HF htb
  go_wp2
  refine bodyPost_ret (v := .tuple #[QcM.v ⟨(v : Int), tb, va, ts, vc⟩, .int .i64 0]) (results_qc_tmp rfl _ _ W.heap.size ⟨(v : Int), tb, va, ts, vc⟩ rfl hZF _ rfl) rfl ?_
  exact fin _ rfl

set_option maxRecDepth 100000 in
set_option maxHeartbeats 2000000 in
theorem refBlkDecode_any (s : ByteArray) (W : World) (hs : s.size ≤ maxLen) :
    Calls Try.prog 15 #[.string s] W fun e w' => GotBlk W (decK s.data.toList) e w' := by
  obtain ⟨hZ, hR, hB⟩ := two_new W 39 63 [.int .i64 0, .int .i64 0, .string ⟨#[]⟩, .slice none 0 0, .slice none 0 0] [.string s, .int .i64 0]
  obtain ⟨out, hout⟩ : ∃ out, out = decK s.data.toList := ⟨_, rfl⟩
  rw [← hout]
  have H : Hid (out = runX 0 (decK s.data.toList)) := hout
  clear hout
  have c0 := inInt_k (W.heap.size + 1) _ s 0 hR hs
  have hw0 := hR.lt
  go_enter Try.func15, Try.ntmps15
  go_wp2_with fail
  refine c0.mono ?_
  rintro e w0 ⟨v, E0, r0, rfl, hvl, hr0, hf, hR0, hk0⟩
  have hZ0 := hZ.kept hk0 (by omega)
  have hB0 := hB.trans (hk0.below hB.size (fun k hk => by rw [hk]; omega))
  have hx := H.out.trans (hf _ _)
  replace H : Hid (out = _) := hx
  clear hx hf c0 hZ hR hB hk0
  have c1 := inText_k (W.heap.size + 1) w0 r0 E0 hR0 hr0
  go_wp2_with fail
  refine c1.mono ?_
  rintro e w1 ⟨t, E1, r1, rfl, htl, hr1, hf, hR1, hk1⟩
  have hZ1 := hZ0.kept hk1 (by omega)
  have hB1 := hB0.trans (hk1.below hB0.size (fun k hk => by rw [hk]; omega))
  have hx := H.out.trans (hf _ _)
  replace H : Hid (out = _) := hx
  clear hx hf c1 hZ0 hR0 hB0 hk1
  have u1 := hR1.cell (i := 1) rfl
  have fu1 := hR1.frozen 1
  have z0 := hZ1.cell (i := 0) rfl
  have z1 := hZ1.cell (i := 1) rfl
  have z2 := hZ1.cell (i := 2) rfl
  have z3 := hZ1.cell (i := 3) rfl
  have z4 := hZ1.cell (i := 4) rfl
  have g0 := hZ1.frozen 0
  have g1 := hZ1.frozen 1
  have g2 := hZ1.frozen 2
  have g3 := hZ1.frozen 3
  have g4 := hZ1.frozen 4
  by_cases he : E1 ≠ 0
  · have hne : ((E1 : Int) != 0) = true := by rw [bne_iff_ne]; omega
    have ho : out = .error E1 := H.out.trans (runX_err he _)
    have fin : Arr (set5 w1 W.heap.size (.int .i64 0) (.int .i64 0) (.string ⟨#[]⟩) (.slice none 0 0) (.slice none 0 0)).drew W.heap.size 39 blk0.c ∧ Below W.heap.size W (set5 w1 W.heap.size (.int .i64 0) (.int .i64 0) (.string ⟨#[]⟩) (.slice none 0 0) (.slice none 0 0)).drew :=
      ⟨(hZ1.set5 (.int .i64 0) (.int .i64 0) (.string ⟨#[]⟩) (.slice none 0 0) (.slice none 0 0)).drew, Below.drew (below_set5 hB1 (Nat.le_refl _) (.int .i64 0) (.int .i64 0) (.string ⟨#[]⟩) (.slice none 0 0) (.slice none 0 0))⟩
    have hfin := fun w' e hb hv => gotBlk_err (W := W) (w := w') (e := e) ho he hb hv
    unfold set5 at fin
    clear hR1 hZ1 hB1 H
    go_wp2_with fail
    go_region
    revert fin
    generalize (World.setCell _ ⟨W.heap.size, 4, none⟩ (.slice none 0 0)).drew = wf
    intro fin
    try go_wp2
    refine bodyPost_ret (v := .tuple #[blk0.v, .int .i64 (E1 : Int)]) (results_blk_tmp rfl _ _ W.heap.size blk0 rfl fin.1 _ rfl) rfl ?_
    exact hfin _ _ fin.2 rfl
  replace he : E1 = 0 := by omega
  subst he
  have ht6 : (⟨t.toArray⟩ : ByteArray).size ≤ maxLen := by rw [size_mk]; unfold maxLen; omega
  have cQ := fun w1 => refDecodeQc_any ⟨t.toArray⟩ w1 ht6
  obtain ⟨tb, htb⟩ : ∃ q, q = (⟨t.toArray⟩ : ByteArray) := ⟨_, rfl⟩
  rw [← htb] at cQ ⊢
  have htd : tb.data.toList = t := by rw [htb]
  rw [htd] at cQ
  have hst := H.out
  rw [runX_zero] at hst
  generalize decQ t = dq at cQ hst
  have Hst : Hid _ := hst
  clear htb htd hst H ht6 htl
  have hw1 := hR1.lt
  go_wp2_with fail
  refine (cQ _).mono ?_
  rintro e w2 ⟨x, e1, rfl, hx, hres, hxf, hb2⟩
  unfold QcM.v
  have hZ2 := hZ1.below hb2 hZ1.lt
  have hR2 := hR1.below hb2 hR1.lt
  have hB2 := hB1.trans (hb2.mono hB1.size)
  have hbx := belowNew w2 (.cells #[.int .i64 x.view, .string x.block, .slice x.va x.votes.length x.vc] 37)
  have hX3 := Arr.new w2 37 [.int .i64 x.view, .string x.block, .slice x.va x.votes.length x.vc]
  have hZ3 := hZ2.below hbx hZ2.lt
  have hR3 := hR2.below hbx hR2.lt
  have hB3 := hB2.trans (hbx.mono hB2.size)
  have hx3 := hx.below hbx
  have hxl : ∀ b, x.foot b → W.heap.size + 1 < b := fun b hb => by have := hxf b hb; omega
  have hw2 : W.heap.size + 1 < w2.heap.size := hR2.lt
  clear hZ1 hR1 hB1 hb2 hbx hZ2 hR2 hB2 hx hxf cQ u1 fu1 z0 z1 z2 z3 z4 g0 g1 g2 g3 g4
  obtain ⟨w3, hw3⟩ : ∃ q, w2.alloc (.cells #[.int .i64 x.view, .string x.block, .slice x.va x.votes.length x.vc] 37) = q := ⟨_, rfl⟩
  rw [hw3] at hX3 hZ3 hR3 hB3 hx3
  have u1 := hR3.cell (i := 1) rfl
  have fu1 := hR3.frozen 1
  have hR4 := hR3.set 1 (.int .i64 (e1 : Int))
  have hZ4 := hZ3.other (p := ⟨W.heap.size + 1, 1, none⟩) (by show W.heap.size ≠ W.heap.size + 1; omega) (.int .i64 (e1 : Int))
  have hX4 := hX3.other (p := ⟨W.heap.size + 1, 1, none⟩) (by show w2.heap.size ≠ W.heap.size + 1; omega) (.int .i64 (e1 : Int))
  have hB4 := hB3.setCell (p := ⟨W.heap.size + 1, 1, none⟩) (by show W.heap.size ≤ W.heap.size + 1; omega) (.int .i64 (e1 : Int))
  have hx4 := Kind.kept qcK hx3 (Kept.setCell w3 ⟨W.heap.size + 1, 1, none⟩ (.int .i64 (e1 : Int))) (fun b hb e => by have := hxl b hb; have e' : b = W.heap.size + 1 := e; omega)
  obtain ⟨w4, hw4⟩ : ∃ q, w3.setCell ⟨W.heap.size + 1, 1, none⟩ (.int .i64 (e1 : Int)) = q := ⟨_, rfl⟩
  rw [hw4] at hR4 hZ4 hX4 hB4 hx4
  replace hR4 : Arr w4 (W.heap.size + 1) 63 [.string r1, .int .i64 (e1 : Int)] := hR4
  have H : Hid (out = runX e1 (rdL 8 r1.data.toList fun cs l => if l ≠ [] then .error 6 else .ok ⟨(v : Int), x.d, mks cs⟩)) := by
    have := Hst.out
    rcases hres with ⟨h0, h⟩ | ⟨h0, h, _⟩
    · rw [h] at this
      rw [h0, runX_zero]
      exact this
    · rw [h] at this
      rw [runX_err h0]
      exact this
  clear Hst hres hR3 hZ3 hX3 hB3 hx3
  have c3 := inList_k (W.heap.size + 1) w4 r1 e1 8 (by decide) hR4 hr1
  have hw4l := hX4.lt
  go_wp2_with fail
  refine c3.mono ?_
  rintro e w5 ⟨cs, E5, r5, ca, cc, rfl, h7, h8, hr5, hf, hO5, hR5, hk5, hCn⟩
  have hZ5 := hZ4.kept hk5 (by omega)
  have hX5 := hX4.kept hk5 (by omega)
  have hx5 := Kind.kept qcK hx4 hk5 (fun b hb e => by have := hxl b hb; have e' : b = W.heap.size + 1 := e; omega)
  have hB5 := hB4.trans (hk5.below hB4.size (fun k hk => by rw [hk]; omega))
  have hT5 := hO5.at.row
  have hTl : ∀ b, rowFoot strK ca (mks cs) b → W.heap.size + 1 < b := fun b hb => by have := hO5.foot hb; omega
  have hx := H.out.trans (hf _ _)
  replace H : Hid (out = _) := hx
  clear hx hf c3 hZ4 hR4 hB4 hX4 hx4 hk5 hO5 hw3 hw4 u1 fu1 h7 h8
  have cE := inEnd_k (W.heap.size + 1) w5 r5 E5 hR5
  obtain ⟨cl, hcl⟩ : ∃ q, q = mks cs := ⟨_, rfl⟩
  rw [← hcl] at H hTl hT5 ⊢
  obtain ⟨E7, hE7⟩ : ∃ q, Hid (q = (if E5 = 0 ∧ r5.data.toList ≠ [] then 6 else E5)) := ⟨_, rfl⟩
  rw [← hE7.out] at cE
  have HF : Hid ((E7 = 0 ∧ out = .ok (BlkM.d ⟨(v : Int), x, ca, cl, cc⟩)) ∨ (E7 ≠ 0 ∧ out = .error E7)) := by
    have e7 := hE7.out
    have hh := H.out
    by_cases h1 : E5 = 0
    · rw [h1, runX_zero] at hh
      by_cases hm : r5.data.toList ≠ []
      · rw [if_pos hm] at hh
        rw [if_pos ⟨h1, hm⟩] at e7
        exact Or.inr ⟨by omega, by rw [hh, e7]⟩
      · rw [if_neg hm] at hh
        rw [if_neg (fun h => hm h.2)] at e7
        exact Or.inl ⟨by omega, hh⟩
    · rw [runX_err h1] at hh
      rw [if_neg (fun h => h1 h.1)] at e7
      exact Or.inr ⟨by omega, by rw [hh, e7]⟩
  clear H hE7 hr5 hcl
  go_wp2_with fail
  refine cE.mono ?_
  rintro e w7 ⟨rfl, hR7, hk7⟩
  have hZ7 := hZ5.kept hk7 (by omega)
  have hX7 := hX5.kept hk7 (by omega)
  have hx7 := Kind.kept qcK hx5 hk7 (fun b hb e => by have := hxl b hb; have e' : b = W.heap.size + 1 := e; omega)
  have hT7 := hT5.kept hk7 (fun b hb e => by have := hTl b hb; have e' : b = W.heap.size + 1 := e; omega)
  have hB7 := hB5.trans (hk7.below hB5.size (fun k hk => by rw [hk]; omega))
  clear cE hZ5 hX5 hx5 hT5 hB5 hk7 hR5
  have u1 := hR7.cell (i := 1) rfl
  have z0 := hZ7.cell (i := 0) rfl
  have z1 := hZ7.cell (i := 1) rfl
  have z2 := hZ7.cell (i := 2) rfl
  have z3 := hZ7.cell (i := 3) rfl
  have z4 := hZ7.cell (i := 4) rfl
  have g0 := hZ7.frozen 0
  have g1 := hZ7.frozen 1
  have g2 := hZ7.frozen 2
  have g3 := hZ7.frozen 3
  have g4 := hZ7.frozen 4
  by_cases he : E7 ≠ 0
  · have hne : ((E7 : Int) != 0) = true := by rw [bne_iff_ne]; omega
    have ho : out = .error E7 := by
      rcases HF.out with ⟨h, _⟩ | ⟨_, h⟩
      · exact absurd h he
      · exact h
    have fin : Arr (set5 w7 W.heap.size (.int .i64 0) (.int .i64 0) (.string ⟨#[]⟩) (.slice none 0 0) (.slice none 0 0)).drew W.heap.size 39 blk0.c ∧ Below W.heap.size W (set5 w7 W.heap.size (.int .i64 0) (.int .i64 0) (.string ⟨#[]⟩) (.slice none 0 0) (.slice none 0 0)).drew :=
      ⟨(hZ7.set5 (.int .i64 0) (.int .i64 0) (.string ⟨#[]⟩) (.slice none 0 0) (.slice none 0 0)).drew, Below.drew (below_set5 hB7 (Nat.le_refl _) (.int .i64 0) (.int .i64 0) (.string ⟨#[]⟩) (.slice none 0 0) (.slice none 0 0))⟩
    have hfin := fun w' e hb hv => gotBlk_err (W := W) (w := w') (e := e) ho he hb hv
    unfold set5 at fin
    clear hR7 hZ7 hB7 hX7 hx7 hT7 HF
    go_wp2_with fail
    go_region
    revert fin
    generalize (World.setCell _ ⟨W.heap.size, 4, none⟩ (.slice none 0 0)).drew = wf
    intro fin
    try go_wp2
    refine bodyPost_ret (v := .tuple #[blk0.v, .int .i64 (E7 : Int)]) (results_blk_tmp rfl _ _ W.heap.size blk0 rfl fin.1 _ rfl) rfl ?_
    exact hfin _ _ fin.2 rfl
  have he0 : E7 = 0 := by omega
  subst he0
  have ho : out = .ok (BlkM.d ⟨(v : Int), x, ca, cl, cc⟩) := by
    rcases HF.out with ⟨_, h⟩ | ⟨h, _⟩
    · exact h
    · exact absurd rfl h
  have q0 := hX7.cell (i := 0) rfl
  have q1 := hX7.cell (i := 1) rfl
  have q2 := hX7.cell (i := 2) rfl
  have hZF := hZ7.set5 (.int .i64 (v : Int)) (.int .i64 x.view) (.string x.block) (.slice x.va x.votes.length x.vc) (.slice ca cl.length cc)
  have hBF := below_set5 hB7 (Nat.le_refl _) (.int .i64 (v : Int)) (.int .i64 x.view) (.string x.block) (.slice x.va x.votes.length x.vc) (.slice ca cl.length cc)
  have kF := kept_set5 w7 W.heap.size (.int .i64 (v : Int)) (.int .i64 x.view) (.string x.block) (.slice x.va x.votes.length x.vc) (.slice ca cl.length cc)
  have hxF := Kind.kept qcK hx7 kF (fun b hb e => by have := hxl b hb; have e' : b = W.heap.size := e; omega)
  have hTF := hT7.kept kF (fun b hb e => by have := hTl b hb; have e' : b = W.heap.size := e; omega)
  have fin : ∀ e, e = .returned (.tuple #[BlkM.v ⟨(v : Int), x, ca, cl, cc⟩, .int .i64 0]) → GotBlk W out e _ := fun e hv => ⟨_, 0, hv, ⟨hxF, hTF, hCn⟩, Or.inl ⟨rfl, ho⟩, fun b hb => hb.elim (fun h => by have := hxl b h; omega) (fun h => by have := hTl b h; omega), hBF⟩
  unfold set5 at hZF fin
  clear hR7 hZ7 hX7 hx7 hT7 hB7 hBF kF hxF hTF ho HF
  go_wp2
  refine bodyPost_ret (v := .tuple #[BlkM.v ⟨(v : Int), x, ca, cl, cc⟩, .int .i64 0]) (results_blk_tmp rfl _ _ W.heap.size ⟨(v : Int), x, ca, cl, cc⟩ rfl hZF _ rfl) rfl ?_
  exact fin _ rfl
end Go.Proofs.Ytepgdbpofppdcaa
