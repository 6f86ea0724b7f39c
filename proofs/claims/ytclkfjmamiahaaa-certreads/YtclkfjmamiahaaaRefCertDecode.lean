/- What tuskref07.Decode does; nothing old in memory is turned. -/
import Derived.Test.YtclkfjmamiahaaaCertDecode
import Derived.Test.YtclkfjmamiahaaaRefHdrDecode
import Derived.Deep.RegionHeld3
namespace Go.Proofs.Ytclkfjmamiahaaa
open Go.RowKit
set_option linter.unusedVariables false

set_option maxRecDepth 100000 in
set_option maxHeartbeats 2000000 in
theorem refCertDecode_any (s : ByteArray) (W : World) (hs : s.size ≤ maxLen) :
    Calls Try.prog 14 #[.string s] W fun e w' => GotCert W (decC s.data.toList) e w' := by
  obtain ⟨hZ, hR, hB⟩ := two_new W 37 53 [.int .i64 0, .int .i64 0, .slice none 0 0, .slice none 0 0, .slice none 0 0] [.string s, .int .i64 0]
  obtain ⟨out, hout⟩ : ∃ out, out = decC s.data.toList := ⟨_, rfl⟩
  rw [← hout]
  have H : Hid (out = runX 0 (decC s.data.toList)) := hout
  clear hout
  have c0 := inText_k (W.heap.size + 1) _ s 0 hR hs
  have hw0 := hR.lt
  go_enter Try.func14, Try.ntmps14
  go_wp2_with fail
  refine c0.mono ?_
  rintro e w1 ⟨t, E1, r1, rfl, htl, hr1, hf, hR1, hk1⟩
  have hZ1 := hZ.kept hk1 (by omega)
  have hB1 := hB.trans (hk1.below hB.size (fun k hk => by rw [hk]; omega))
  have hx := H.out.trans (hf _ _)
  replace H : Hid (out = _) := hx
  clear hx hf c0 hZ hR hB hk1
  have u1 := hR1.cell (i := 1) rfl
  have fu1 := hR1.frozen 1
  have z0 := hZ1.cell (i := 0) rfl
  have z1 := hZ1.cell (i := 1) rfl
  have z2 := hZ1.cell (i := 2) rfl
  have z3 := hZ1.cell (i := 3) rfl
  have z4 := hZ1.cell (i := 4) rfl
  have g0 := hZ1.frozen 0
  have g1 := hZ1.frozen 1
  have g2 := hZ1.frozen 2
  have g3 := hZ1.frozen 3
  have g4 := hZ1.frozen 4
  by_cases he : E1 ≠ 0
  · have hne : ((E1 : Int) != 0) = true := by rw [bne_iff_ne]; omega
    have ho : out = .error E1 := H.out.trans (runX_err he _)
    have fin : Arr (set5 w1 W.heap.size (.int .i64 0) (.int .i64 0) (.slice none 0 0) (.slice none 0 0) (.slice none 0 0)).drew W.heap.size 37 cert0.c ∧ Below W.heap.size W (set5 w1 W.heap.size (.int .i64 0) (.int .i64 0) (.slice none 0 0) (.slice none 0 0) (.slice none 0 0)).drew :=
      ⟨(hZ1.set5 (.int .i64 0) (.int .i64 0) (.slice none 0 0) (.slice none 0 0) (.slice none 0 0)).drew, Below.drew (below_set5 hB1 (Nat.le_refl _) (.int .i64 0) (.int .i64 0) (.slice none 0 0) (.slice none 0 0) (.slice none 0 0))⟩
    have hfin := fun w' e hb hv => gotCert_err (W := W) (w := w') (e := e) ho he hb hv
    unfold set5 at fin
    clear hR1 hZ1 hB1 H
    go_wp2_with fail
    go_region
    revert fin
    generalize (World.setCell _ ⟨W.heap.size, 4, none⟩ (.slice none 0 0)).drew = wf
    intro fin
    try go_wp2
    refine bodyPost_ret (v := .tuple #[cert0.v, .int .i64 (E1 : Int)]) (results_cert_tmp rfl _ _ W.heap.size cert0 rfl fin.1 _ rfl) rfl ?_
    exact hfin _ _ fin.2 rfl
  replace he : E1 = 0 := by omega
  subst he
  have ht6 : (⟨t.toArray⟩ : ByteArray).size ≤ maxLen := by rw [size_mk]; unfold maxLen; omega
  have cH := fun w1 => refHdrDecode_any ⟨t.toArray⟩ w1 ht6
  obtain ⟨tb, htb⟩ : ∃ q, q = (⟨t.toArray⟩ : ByteArray) := ⟨_, rfl⟩
  rw [← htb] at cH ⊢
  have htd : tb.data.toList = t := by rw [htb]
  rw [htd] at cH
  have hdt : Hid (∀ dh, dh = decH t → out = match dh with | .error e => .error e | .ok h => rdG r1.data.toList fun v l => if l ≠ [] then .error 6 else .ok ⟨h, v⟩) := by
    intro dh e
    rw [e]
    have := H.out
    rw [runX_zero] at this
    exact this
  generalize hgd : decH t = dh at cH
  have hst := hdt.out dh hgd.symm
  have Hst : Hid _ := hst
  clear htb htd hdt hgd hst H ht6 htl
  have hw1 := hR1.lt
  go_wp2_with fail
  refine (cH _).mono ?_
  rintro e w2 ⟨x, e1, rfl, hx, hres, hxf, hb2⟩
  unfold HdrM.v
  have hZ2 := hZ1.below hb2 hZ1.lt
  have hR2 := hR1.below hb2 hR1.lt
  have hB2 := hB1.trans (hb2.mono hB1.size)
  have hbx := belowNew w2 (.cells #[.int .i64 x.author, .int .i64 x.round, .slice x.ra x.refs.length x.rc, .slice x.pa x.parents.length x.pc] 26)
  have hX3 := Arr.new w2 26 [.int .i64 x.author, .int .i64 x.round, .slice x.ra x.refs.length x.rc, .slice x.pa x.parents.length x.pc]
  have hZ3 := hZ2.below hbx hZ2.lt
  have hR3 := hR2.below hbx hR2.lt
  have hB3 := hB2.trans (hbx.mono hB2.size)
  have hx3 := hx.below hbx
  have hxl : ∀ b, x.foot b → W.heap.size + 1 < b := fun b hb => by have := hxf b hb; omega
  have hw2 : W.heap.size + 1 < w2.heap.size := hR2.lt
  clear hZ1 hR1 hB1 hb2 hbx hZ2 hR2 hB2 hx hxf cH u1 fu1 z0 z1 z2 z3 z4 g0 g1 g2 g3 g4
  obtain ⟨w3, hw3⟩ : ∃ q, w2.alloc (.cells #[.int .i64 x.author, .int .i64 x.round, .slice x.ra x.refs.length x.rc, .slice x.pa x.parents.length x.pc] 26) = q := ⟨_, rfl⟩
  rw [hw3] at hX3 hZ3 hR3 hB3 hx3
  have u1 := hR3.cell (i := 1) rfl
  have fu1 := hR3.frozen 1
  have hR4 := hR3.set 1 (.int .i64 (e1 : Int))
  have hZ4 := hZ3.other (p := ⟨W.heap.size + 1, 1, none⟩) (by show W.heap.size ≠ W.heap.size + 1; omega) (.int .i64 (e1 : Int))
  have hX4 := hX3.other (p := ⟨W.heap.size + 1, 1, none⟩) (by show w2.heap.size ≠ W.heap.size + 1; omega) (.int .i64 (e1 : Int))
  have hB4 := hB3.setCell (p := ⟨W.heap.size + 1, 1, none⟩) (by show W.heap.size ≤ W.heap.size + 1; omega) (.int .i64 (e1 : Int))
  have hx4 := Kind.kept hdrK hx3 (Kept.setCell w3 ⟨W.heap.size + 1, 1, none⟩ (.int .i64 (e1 : Int))) (fun b hb e => by have := hxl b hb; have e' : b = W.heap.size + 1 := e; omega)
  have hz4 := setCell_size w3 ⟨W.heap.size + 1, 1, none⟩ (.int .i64 (e1 : Int))
  obtain ⟨w4, hw4⟩ : ∃ q, w3.setCell ⟨W.heap.size + 1, 1, none⟩ (.int .i64 (e1 : Int)) = q := ⟨_, rfl⟩
  rw [hw4] at hR4 hZ4 hX4 hB4 hx4 hz4
  replace hR4 : Arr w4 (W.heap.size + 1) 53 [.string r1, .int .i64 (e1 : Int)] := hR4
  have H : Hid (out = runX e1 (rdG r1.data.toList fun v l => if l ≠ [] then .error 6 else .ok ⟨x.d, v⟩)) := by
    have := Hst.out
    rcases hres with ⟨h0, h⟩ | ⟨h0, h, _⟩
    · rw [h] at this
      rw [h0, runX_zero]
      exact this
    · rw [h] at this
      rw [runX_err h0]
      exact this
  clear Hst hres hR3 hZ3 hX3 hB3 hx3 hz4
  have cS := fun w1 h => some_k (W.heap.size + 1) w1 r1 e1 h hr1
  have hRd : Arr w4.drew (W.heap.size + 1) 53 [.string r1, .int .i64 (e1 : Int)] := hR4.drew
  have hRa : Arr (w4.drew.alloc (.cells #[.int .i64 0, .int .i64 0, .slice none 0 0, .slice none 0 0, .slice none 0 0] 37)) (W.heap.size + 1) 53 [.string r1, .int .i64 (e1 : Int)] := hRd.alloc _
  have hkp : ∀ U, Kept (fun k => k = W.heap.size + 1) w4 U → (U.cell? ⟨w2.heap.size, 0, none⟩ = some (.int .i64 x.author) ∧ U.cell? ⟨w2.heap.size, 1, none⟩ = some (.int .i64 x.round) ∧ U.cell? ⟨w2.heap.size, 2, none⟩ = some (.slice x.ra x.refs.length x.rc) ∧ U.cell? ⟨w2.heap.size, 3, none⟩ = some (.slice x.pa x.parents.length x.pc)) := fun U hU => by
    have hn : w2.heap.size ≠ W.heap.size + 1 := by omega
    have h := hX4.kept hU hn
    exact ⟨h.cell (i := 0) rfl, h.cell (i := 1) rfl, h.cell (i := 2) rfl, h.cell (i := 3) rfl⟩
  have kd : Kept (fun k => k = W.heap.size + 1) w4 w4.drew := Kept.of_below (below_drewN (Below.refl _ w4) 1)
  have ka : Kept (fun k => k = W.heap.size + 1) w4 (w4.drew.alloc (.cells #[.int .i64 0, .int .i64 0, .slice none 0 0, .slice none 0 0, .slice none 0 0] 37)) := Kept.of_below ((below_drewN (Below.refl _ w4) 1).alloc (Nat.le_refl _) _)
  have hS0 := hkp _ kd
  go_wp2_with fail
  clear hw3 hw4 u1 fu1
  have zA : Arr (w4.drew.alloc (.cells #[.int .i64 0, .int .i64 0, .slice none 0 0, .slice none 0 0, .slice none 0 0] 37)) w4.heap.size 37 [.int .i64 0, .int .i64 0, .slice none 0 0, .slice none 0 0, .slice none 0 0] := Arr.new w4.drew 37 [.int .i64 0, .int .i64 0, .slice none 0 0, .slice none 0 0, .slice none 0 0]
  have hne4 : w4.heap.size ≠ W.heap.size + 1 := by have := hR4.lt; omega
  go_region_held3 (fun w' => w'.cell? ⟨w2.heap.size, 0, none⟩ = some (.int .i64 x.author) ∧ w'.cell? ⟨w2.heap.size, 1, none⟩ = some (.int .i64 x.round) ∧ w'.cell? ⟨w2.heap.size, 2, none⟩ = some (.slice x.ra x.refs.length x.rc) ∧ w'.cell? ⟨w2.heap.size, 3, none⟩ = some (.slice x.pa x.parents.length x.pc)) (exact hkp _ (by assumption))
    (first
    | (go_at_call 35; refine (cS _ hRd).mono ?_; rintro e w5 ⟨ts, E5, r5, va, vc, rfl, h7, hr5, hf5, hT5, hTn, hTf, hR5, hk5⟩; have k5 := kd.trans hk5; have ka5 := k5.trans (Kept.of_below (belowNew w5 (.cells #[.int .i64 0, .int .i64 0, .slice none 0 0, .slice none 0 0, .slice none 0 0] 37))); have kb5 := k5.trans (Kept.of_below (belowNew w5 (.cells #[.int .i64 x.author, .int .i64 x.round, .slice x.ra x.refs.length x.rc, .slice x.pa x.parents.length x.pc, .slice va ts.length vc] 37))))
    | (go_at_call 35; refine (cS _ hRa).mono ?_; rintro e w5 ⟨ts, E5, r5, va, vc, rfl, h7, hr5, hf5, hT5, hTn, hTf, hR5, hk5⟩; have k5 := ka.trans hk5; have z5 := zA.kept hk5 hne4; have y0 := z5.cell (i := 0) rfl; have y1 := z5.cell (i := 1) rfl; have y2 := z5.cell (i := 2) rfl; have y3 := z5.cell (i := 3) rfl; have y4 := z5.cell (i := 4) rfl; have l0 := z5.frozen 0; have l1 := z5.frozen 1; have l2 := z5.frozen 2; have l3 := z5.frozen 3; have l4 := z5.frozen 4; have kb5 := ((((k5.setNew (a := ⟨w4.heap.size, 0, none⟩) (Nat.le_refl _) (.int .i64 x.author)).setNew (a := ⟨w4.heap.size, 1, none⟩) (Nat.le_refl _) (.int .i64 x.round)).setNew (a := ⟨w4.heap.size, 2, none⟩) (Nat.le_refl _) (.slice x.ra x.refs.length x.rc)).setNew (a := ⟨w4.heap.size, 3, none⟩) (Nat.le_refl _) (.slice x.pa x.parents.length x.pc)).setNew (a := ⟨w4.heap.size, 4, none⟩) (Nat.le_refl _) (.slice va ts.length vc)))
  · have hb6 := belowNew w5 (.cells #[.int .i64 x.author, .int .i64 x.round, .slice x.ra x.refs.length x.rc, .slice x.pa x.parents.length x.pc, .slice va ts.length vc] 37)
    have hC6 := Arr.new w5 37 [.int .i64 x.author, .int .i64 x.round, .slice x.ra x.refs.length x.rc, .slice x.pa x.parents.length x.pc, .slice va ts.length vc]
    have hR6 := hR5.below hb6 hR5.lt
    have hZ5 := hZ4.kept k5 (by omega)
    have hZ6 := hZ5.below hb6 hZ5.lt
    have hx5 := Kind.kept hdrK hx4 k5 (fun b hb e => by have := hxl b hb; have e' : b = W.heap.size + 1 := e; omega)
    have hx6 := Kind.below hdrK hx5 hb6
    have hT6 := hT5.below hb6
    have hB5 := hB4.trans (k5.below hB4.size (fun k hk => by rw [hk]; omega))
    have hB6 := hB5.trans (hb6.mono hB5.size)
    have hTl : ∀ b, rowFoot tagK va ts b → W.heap.size + 1 < b := fun b hb => by have h1 := hTf b hb; have h2 := hR4.lt; have h3 : w4.drew.heap.size = w4.heap.size := rfl; omega
    have hcb : W.heap.size + 1 < w5.heap.size := hR5.lt
    obtain ⟨cb, hcbe⟩ : ∃ q, q = w5.heap.size := ⟨_, rfl⟩
    rw [← hcbe] at hC6 hcb ⊢
    obtain ⟨w6, hw6⟩ : ∃ q, w5.alloc (.cells #[.int .i64 x.author, .int .i64 x.round, .slice x.ra x.refs.length x.rc, .slice x.pa x.parents.length x.pc, .slice va ts.length vc] 37) = q := ⟨_, rfl⟩
    rw [hw6] at hC6 hR6 hZ6 hx6 hT6 hB6 ⊢
    clear hw6 hcbe hb6 hR5 hZ5 hx5 hT5 hB5 hTf k5 ka5 kb5 hk5 hZ4 hX4 hB4 hx4 hR4
    clear cS hRd hRa hkp kd ka hS0 zA hne4
    have hh := H.out.trans (hf5 _ _)
    replace H : Hid (out = _) := hh
    clear hh hf5
    have cE := inEnd_k (W.heap.size + 1) w6 r5 E5 hR6
    obtain ⟨E7, hE7⟩ : ∃ q, Hid (q = (if E5 = 0 ∧ r5.data.toList ≠ [] then 6 else E5)) := ⟨_, rfl⟩
    rw [← hE7.out] at cE
    have HF : Hid ((E7 = 0 ∧ out = .ok (CertM.d ⟨x, va, ts, vc⟩)) ∨ (E7 ≠ 0 ∧ out = .error E7)) := by
      have e7 := hE7.out
      have hh := H.out
      by_cases h1 : E5 = 0
      · rw [h1, runX_zero] at hh
        by_cases hm : r5.data.toList ≠ []
        · rw [if_pos hm] at hh
          rw [if_pos ⟨h1, hm⟩] at e7
          exact Or.inr ⟨by omega, by rw [hh, e7]⟩
        · rw [if_neg hm] at hh
          rw [if_neg (fun h => hm h.2)] at e7
          exact Or.inl ⟨by omega, hh⟩
      · rw [runX_err h1] at hh
        rw [if_neg (fun h => h1 h.1)] at e7
        exact Or.inr ⟨by omega, by rw [hh, e7]⟩
    clear H hE7 h7 hr5
    go_wp2_with fail
    refine cE.mono ?_
    rintro e w7 ⟨rfl, hR7, hk7⟩
    have hZ7 := hZ6.kept hk7 (by omega)
    have hC7 := hC6.kept hk7 (by omega)
    have hx7 := Kind.kept hdrK hx6 hk7 (fun b hb e => by have := hxl b hb; have e' : b = W.heap.size + 1 := e; omega)
    have hT7 := hT6.kept hk7 (fun b hb e => by have := hTl b hb; have e' : b = W.heap.size + 1 := e; omega)
    have hB7 := hB6.trans (hk7.below hB6.size (fun k hk => by rw [hk]; omega))
    clear cE hZ6 hC6 hx6 hT6 hB6 hk7 hR6
    have u1 := hR7.cell (i := 1) rfl
    have z0 := hZ7.cell (i := 0) rfl
    have z1 := hZ7.cell (i := 1) rfl
    have z2 := hZ7.cell (i := 2) rfl
    have z3 := hZ7.cell (i := 3) rfl
    have z4 := hZ7.cell (i := 4) rfl
    have g0 := hZ7.frozen 0
    have g1 := hZ7.frozen 1
    have g2 := hZ7.frozen 2
    have g3 := hZ7.frozen 3
    have g4 := hZ7.frozen 4
    by_cases he : E7 ≠ 0
    · have hne : ((E7 : Int) != 0) = true := by rw [bne_iff_ne]; omega
      have ho : out = .error E7 := by
        rcases HF.out with ⟨h, _⟩ | ⟨_, h⟩
        · exact absurd h he
        · exact h
      have fin : Arr (set5 w7 W.heap.size (.int .i64 0) (.int .i64 0) (.slice none 0 0) (.slice none 0 0) (.slice none 0 0)).drew W.heap.size 37 cert0.c ∧ Below W.heap.size W (set5 w7 W.heap.size (.int .i64 0) (.int .i64 0) (.slice none 0 0) (.slice none 0 0) (.slice none 0 0)).drew :=
        ⟨(hZ7.set5 (.int .i64 0) (.int .i64 0) (.slice none 0 0) (.slice none 0 0) (.slice none 0 0)).drew, Below.drew (below_set5 hB7 (Nat.le_refl _) (.int .i64 0) (.int .i64 0) (.slice none 0 0) (.slice none 0 0) (.slice none 0 0))⟩
      have hfin := fun w' e hb hv => gotCert_err (W := W) (w := w') (e := e) ho he hb hv
      unfold set5 at fin
      clear hR7 hZ7 hB7 hC7 hx7 hT7 HF
      go_wp2_with fail
      go_region
      revert fin
      generalize (World.setCell _ ⟨W.heap.size, 4, none⟩ (.slice none 0 0)).drew = wf
      intro fin
      try go_wp2
      refine bodyPost_ret (v := .tuple #[cert0.v, .int .i64 (E7 : Int)]) (results_cert_tmp rfl _ _ W.heap.size cert0 rfl fin.1 _ rfl) rfl ?_
      exact hfin _ _ fin.2 rfl
    have he0 : E7 = 0 := by omega
    subst he0
    have ho : out = .ok (CertM.d ⟨x, va, ts, vc⟩) := by
      rcases HF.out with ⟨_, h⟩ | ⟨h, _⟩
      · exact h
      · exact absurd rfl h
    have q0 := hC7.cell (i := 0) rfl
    have q1 := hC7.cell (i := 1) rfl
    have q2 := hC7.cell (i := 2) rfl
    have q3 := hC7.cell (i := 3) rfl
    have q4 := hC7.cell (i := 4) rfl
    have hZF := hZ7.set5 (.int .i64 x.author) (.int .i64 x.round) (.slice x.ra x.refs.length x.rc) (.slice x.pa x.parents.length x.pc) (.slice va ts.length vc)
    have hBF := below_set5 hB7 (Nat.le_refl _) (.int .i64 x.author) (.int .i64 x.round) (.slice x.ra x.refs.length x.rc) (.slice x.pa x.parents.length x.pc) (.slice va ts.length vc)
    have kF := kept_set5 w7 W.heap.size (.int .i64 x.author) (.int .i64 x.round) (.slice x.ra x.refs.length x.rc) (.slice x.pa x.parents.length x.pc) (.slice va ts.length vc)
    have hxF := Kind.kept hdrK hx7 kF (fun b hb e => by have := hxl b hb; have e' : b = W.heap.size := e; omega)
    have hTF := hT7.kept kF (fun b hb e => by have := hTl b hb; have e' : b = W.heap.size := e; omega)
    have fin : ∀ e, e = .returned (.tuple #[CertM.v ⟨x, va, ts, vc⟩, .int .i64 0]) → GotCert W out e _ := fun e hv => ⟨_, 0, hv, ⟨hxF, hTF, hTn⟩, Or.inl ⟨rfl, ho⟩, fun b hb => hb.elim (fun h => by have := hxl b h; omega) (fun h => by have := hTl b h; omega), hBF⟩
    unfold set5 at hZF fin
    clear hR7 hZ7 hC7 hx7 hT7 hB7 hBF kF hxF hTF ho HF
    go_wp2
    refine bodyPost_ret (v := .tuple #[CertM.v ⟨x, va, ts, vc⟩, .int .i64 0]) (results_cert_tmp rfl _ _ W.heap.size ⟨x, va, ts, vc⟩ rfl hZF _ rfl) rfl ?_
    exact fin _ rfl
  · have k6 := kept_set5 w5 w4.heap.size (.int .i64 x.author) (.int .i64 x.round) (.slice x.ra x.refs.length x.rc) (.slice x.pa x.parents.length x.pc) (.slice va ts.length vc)
    have hC6 := z5.set5 (.int .i64 x.author) (.int .i64 x.round) (.slice x.ra x.refs.length x.rc) (.slice x.pa x.parents.length x.pc) (.slice va ts.length vc)
    have h4lt := hR4.lt
    have hR6 := hR5.kept k6 (by omega)
    have hZ5 := hZ4.kept k5 (by omega)
    have hZ6 := hZ5.kept k6 (by have := hZ4.lt; omega)
    have hx5 := Kind.kept hdrK hx4 k5 (fun b hb e => by have := hxl b hb; have e' : b = W.heap.size + 1 := e; omega)
    have hx6 := Kind.kept hdrK hx5 k6 (fun b hb e => by have := Kind.lt hdrK hx4 hb; have e' : b = w4.heap.size := e; omega)
    have hTg : ∀ b, rowFoot tagK va ts b → w4.heap.size + 1 ≤ b := fun b hb => by have h1 := hTf b hb; rw [alloc_size] at h1; exact h1
    have hT6 := hT5.kept k6 (fun b hb e => by have := hTg b hb; have e' : b = w4.heap.size := e; omega)
    have hB5 := hB4.trans (k5.below hB4.size (fun k hk => by rw [hk]; omega))
    have hB6 := below_set5 hB5 (g := w4.heap.size) (by omega) (.int .i64 x.author) (.int .i64 x.round) (.slice x.ra x.refs.length x.rc) (.slice x.pa x.parents.length x.pc) (.slice va ts.length vc)
    have hTl : ∀ b, rowFoot tagK va ts b → W.heap.size + 1 < b := fun b hb => by have := hTg b hb; omega
    have hcb : W.heap.size + 1 < w4.heap.size := hR4.lt
    unfold set5 at hC6 hR6 hZ6 hx6 hT6 hB6
    generalize (((((w5.setCell ⟨w4.heap.size, 0, none⟩ (.int .i64 x.author)).setCell ⟨w4.heap.size, 1, none⟩ (.int .i64 x.round)).setCell ⟨w4.heap.size, 2, none⟩ (.slice x.ra x.refs.length x.rc)).setCell ⟨w4.heap.size, 3, none⟩ (.slice x.pa x.parents.length x.pc)).setCell ⟨w4.heap.size, 4, none⟩ (.slice va ts.length vc)) = w6 at hC6 hR6 hZ6 hx6 hT6 hB6 ⊢
    obtain ⟨cb, hcbe⟩ : ∃ q, q = w4.heap.size := ⟨_, rfl⟩
    rw [← hcbe] at hC6 hcb ⊢
    clear hcbe hR5 hZ5 hx5 hT5 hB5 hTf hTg k5 kb5 hk5 z5 y0 y1 y2 y3 y4 l0 l1 l2 l3 l4 hZ4 hX4 hB4 hx4 hR4 h4lt k6
    clear cS hRd hRa hkp kd ka hS0 zA hne4
    have hh := H.out.trans (hf5 _ _)
    replace H : Hid (out = _) := hh
    clear hh hf5
    have cE := inEnd_k (W.heap.size + 1) w6 r5 E5 hR6
    obtain ⟨E7, hE7⟩ : ∃ q, Hid (q = (if E5 = 0 ∧ r5.data.toList ≠ [] then 6 else E5)) := ⟨_, rfl⟩
    rw [← hE7.out] at cE
    have HF : Hid ((E7 = 0 ∧ out = .ok (CertM.d ⟨x, va, ts, vc⟩)) ∨ (E7 ≠ 0 ∧ out = .error E7)) := by
      have e7 := hE7.out
      have hh := H.out
      by_cases h1 : E5 = 0
      · rw [h1, runX_zero] at hh
        by_cases hm : r5.data.toList ≠ []
        · rw [if_pos hm] at hh
          rw [if_pos ⟨h1, hm⟩] at e7
          exact Or.inr ⟨by omega, by rw [hh, e7]⟩
        · rw [if_neg hm] at hh
          rw [if_neg (fun h => hm h.2)] at e7
          exact Or.inl ⟨by omega, hh⟩
      · rw [runX_err h1] at hh
        rw [if_neg (fun h => h1 h.1)] at e7
        exact Or.inr ⟨by omega, by rw [hh, e7]⟩
    clear H hE7 h7 hr5
    go_wp2_with fail
    refine cE.mono ?_
    rintro e w7 ⟨rfl, hR7, hk7⟩
    have hZ7 := hZ6.kept hk7 (by omega)
    have hC7 := hC6.kept hk7 (by omega)
    have hx7 := Kind.kept hdrK hx6 hk7 (fun b hb e => by have := hxl b hb; have e' : b = W.heap.size + 1 := e; omega)
    have hT7 := hT6.kept hk7 (fun b hb e => by have := hTl b hb; have e' : b = W.heap.size + 1 := e; omega)
    have hB7 := hB6.trans (hk7.below hB6.size (fun k hk => by rw [hk]; omega))
    clear cE hZ6 hC6 hx6 hT6 hB6 hk7 hR6
    have u1 := hR7.cell (i := 1) rfl
    have z0 := hZ7.cell (i := 0) rfl
    have z1 := hZ7.cell (i := 1) rfl
    have z2 := hZ7.cell (i := 2) rfl
    have z3 := hZ7.cell (i := 3) rfl
    have z4 := hZ7.cell (i := 4) rfl
    have g0 := hZ7.frozen 0
    have g1 := hZ7.frozen 1
    have g2 := hZ7.frozen 2
    have g3 := hZ7.frozen 3
    have g4 := hZ7.frozen 4
    by_cases he : E7 ≠ 0
    · have hne : ((E7 : Int) != 0) = true := by rw [bne_iff_ne]; omega
      have ho : out = .error E7 := by
        rcases HF.out with ⟨h, _⟩ | ⟨_, h⟩
        · exact absurd h he
        · exact h
      have fin : Arr (set5 w7 W.heap.size (.int .i64 0) (.int .i64 0) (.slice none 0 0) (.slice none 0 0) (.slice none 0 0)).drew W.heap.size 37 cert0.c ∧ Below W.heap.size W (set5 w7 W.heap.size (.int .i64 0) (.int .i64 0) (.slice none 0 0) (.slice none 0 0) (.slice none 0 0)).drew :=
        ⟨(hZ7.set5 (.int .i64 0) (.int .i64 0) (.slice none 0 0) (.slice none 0 0) (.slice none 0 0)).drew, Below.drew (below_set5 hB7 (Nat.le_refl _) (.int .i64 0) (.int .i64 0) (.slice none 0 0) (.slice none 0 0) (.slice none 0 0))⟩
      have hfin := fun w' e hb hv => gotCert_err (W := W) (w := w') (e := e) ho he hb hv
      unfold set5 at fin
      clear hR7 hZ7 hB7 hC7 hx7 hT7 HF
      go_wp2_with fail
      go_region
      revert fin
      generalize (World.setCell _ ⟨W.heap.size, 4, none⟩ (.slice none 0 0)).drew = wf
      intro fin
      try go_wp2
      refine bodyPost_ret (v := .tuple #[cert0.v, .int .i64 (E7 : Int)]) (results_cert_tmp rfl _ _ W.heap.size cert0 rfl fin.1 _ rfl) rfl ?_
      exact hfin _ _ fin.2 rfl
    have he0 : E7 = 0 := by omega
    subst he0
    have ho : out = .ok (CertM.d ⟨x, va, ts, vc⟩) := by
      rcases HF.out with ⟨_, h⟩ | ⟨h, _⟩
      · exact h
      · exact absurd rfl h
    have q0 := hC7.cell (i := 0) rfl
    have q1 := hC7.cell (i := 1) rfl
    have q2 := hC7.cell (i := 2) rfl
    have q3 := hC7.cell (i := 3) rfl
    have q4 := hC7.cell (i := 4) rfl
    have hZF := hZ7.set5 (.int .i64 x.author) (.int .i64 x.round) (.slice x.ra x.refs.length x.rc) (.slice x.pa x.parents.length x.pc) (.slice va ts.length vc)
    have hBF := below_set5 hB7 (Nat.le_refl _) (.int .i64 x.author) (.int .i64 x.round) (.slice x.ra x.refs.length x.rc) (.slice x.pa x.parents.length x.pc) (.slice va ts.length vc)
    have kF := kept_set5 w7 W.heap.size (.int .i64 x.author) (.int .i64 x.round) (.slice x.ra x.refs.length x.rc) (.slice x.pa x.parents.length x.pc) (.slice va ts.length vc)
    have hxF := Kind.kept hdrK hx7 kF (fun b hb e => by have := hxl b hb; have e' : b = W.heap.size := e; omega)
    have hTF := hT7.kept kF (fun b hb e => by have := hTl b hb; have e' : b = W.heap.size := e; omega)
    have fin : ∀ e, e = .returned (.tuple #[CertM.v ⟨x, va, ts, vc⟩, .int .i64 0]) → GotCert W out e _ := fun e hv => ⟨_, 0, hv, ⟨hxF, hTF, hTn⟩, Or.inl ⟨rfl, ho⟩, fun b hb => hb.elim (fun h => by have := hxl b h; omega) (fun h => by have := hTl b h; omega), hBF⟩
    unfold set5 at hZF fin
    clear hR7 hZ7 hC7 hx7 hT7 hB7 hBF kF hxF hTF ho HF
    go_wp2
    refine bodyPost_ret (v := .tuple #[CertM.v ⟨x, va, ts, vc⟩, .int .i64 0]) (results_cert_tmp rfl _ _ W.heap.size ⟨x, va, ts, vc⟩ rfl hZF _ rfl) rfl ?_
    exact fin _ rfl
end Go.Proofs.Ytclkfjmamiahaaa
