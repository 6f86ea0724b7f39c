/- Texts as one: RefStaApply. -/
import Derived.Test.YtajpfkenhchafaaGreatDoorEz24
/- What the reference's Apply does. (Laid by gen_refstaapply.py.) -/
namespace Go.Proofs.YtajpfkenhchafaaGreatDoor
open Go Go.RowKit
set_option linter.unusedVariables false

section
variable {W w w' : World} {rb bx : Nat} {S : Nat → Prop} {qa qv qa' qv' : Value} {A A' : List (ByteArray × (Nat × Nat))} {V V' : List (ByteArray × ByteArray)} {x : TxM} {s : StF} {N : Nat}

set_option maxRecDepth 100000 in
set_option maxHeartbeats 8000000 in
theorem rsApply_put (x : TxM) (hA : x.At w) (hs : TxSizes x.d) (hn : x.d.ws.length ≤ 500) (h : RS w rb S s N) (hN : N ≤ 100000) (hz : applyE s x.d = 0) (hkind : Hid (x.d.kind ≠ 1)) :
    Calls Tryz.prog 23 #[.pointer (some ⟨rb, 0, none⟩), x.v] w fun e w' => e = .returned (.int .i64 0) ∧ ∃ S', RS w' rb S' (applyF s x.d) (N + 2) ∧ FreshS w S S' ∧ Kept S w w' := by
  obtain ⟨z1, z2, z3, z4⟩ := applyE_zero hz
  obtain ⟨-, -, -, q4, -, q6⟩ := fits_names z1
  obtain ⟨qa, qv, A, V, h1, hM, h3⟩ := h.ex
  have hB := belowNew w (.cells (txC x.d x.ra x.rc x.wa x.wc).toArray 55)
  have hI := RI.new h h1 h3 x
  have cf := refFits_any x.d x.ra x.rc x.wa x.wc _ (hA.at_.below hB) hs (by omega)
  rw [z1] at cf
  have ho1 := hM.ok.amt x.d.frm
  have ho2 := hM.ok.amt x.d.to
  have hm1 := hM.ok.num x.d.frm
  have ha1 := hM.acc x.d.frm
  have ha2 := hM.acc x.d.to
  have hRA : RA A s.acc N := ⟨hM.ra, hM.acc, hM.la⟩
  have hok := hM.ok.apply x.d
  have hlA : A.length ≤ 1000000 := by have := hM.la; omega
  have hfin : Hid (∀ w' qa' qv' A' V' f, RI w w' rb w.heap.size S qa' qv' A' V' x → RA A' f (N + 2) → f = accD s.acc x.d → KRise V' → (∀ n, kGet V' n = (if x.d.kind = 1 then s.val else pnF s.val x.d.key (some x.d.val)) n) → V'.length ≤ N + 2 → ∃ S', RS w' rb S' (applyF s x.d) (N + 2) ∧ FreshS w S S' ∧ Kept S w w') := by
    intro w' qa' qv' A' V' f r1 r2 r3 r4 r5 r6
    refine r1.fin ⟨r2.rise, r4, fun n => ?_, fun n => ?_, r2.len, r6, (hok.mono (by omega))⟩
    · rw [r2.acc n, r3]
      unfold applyF
      rw [if_pos hz]
    · rw [r5 n]
      unfold applyF
      rw [if_pos hz]
  have hV : Hid (KRise V ∧ (∀ n, kGet V n = s.val n) ∧ V.length ≤ N) := ⟨hM.rv, hM.val, hM.lv⟩
  replace q6 : Hid _ := q6
  replace z3 : Hid _ := z3
  replace z4 : Hid _ := z4
  have z2' : Hid (x.d.non = (s.acc x.d.frm).2) := z2
  clear z2
  clear h h1 hM h3 hA hok hB hz z1
  obtain ⟨bx, hbx⟩ : ∃ q, Hid (w.heap.size = q) := ⟨_, rfl⟩
  rw [hbx.out] at hI hfin
  unfold TxM.v txV at *
  go_enter Tryz.func23, Tryz.ntmps23
  go_wp2_with fail
  rw [hbx.out]
  clear hbx
  refine cf.mono ?_
  rintro e w2 ⟨rfl, hb2⟩
  replace hI := hI.below hb2
  clear hb2 cf
  have t1 := hI.bxA.cell (i := 1) rfl
  have cA := rsAccount_at x.d.frm hI.st hlA
  rw [ha1] at cA
  obtain ⟨x1, hx1⟩ : ∃ q, Hid ((s.acc x.d.frm).1 = q) := ⟨_, rfl⟩
  obtain ⟨x2, hx2⟩ : ∃ q, Hid ((s.acc x.d.frm).2 = q) := ⟨_, rfl⟩
  rw [hx1.out] at cA ho1
  have z2 : Hid (x.d.non = x2) := by show _ = _; rw [z2'.out, hx2.out]
  rw [hx2.out] at cA hm1
  clear z2'
  go_wp2_with fail
  refine cA.mono ?_
  rintro e w3 ⟨rfl, hb3⟩
  replace hI := hI.below hb3
  clear cA hb3 t1
  have t2 := hI.bxA.cell (i := 2) rfl
  have cA := rsAccount_at x.d.to hI.st hlA
  rw [ha2] at cA
  obtain ⟨y1, hy1⟩ : ∃ q, Hid ((s.acc x.d.to).1 = q) := ⟨_, rfl⟩
  obtain ⟨y2, hy2⟩ : ∃ q, Hid ((s.acc x.d.to).2 = q) := ⟨_, rfl⟩
  rw [hy1.out] at cA ho2
  rw [hy2.out] at cA
  go_wp2_with fail
  refine cA.mono ?_
  rintro e w4 ⟨rfl, hb4⟩
  replace hI := hI.below hb4
  clear cA hb4 t2 ha1 ha2
  have t4 := hI.bxA.cell (i := 4) rfl
  have g2 : ((x.d.non : Int) != (x2 : Int)) = false := by rw [z2.out]; exact bne_self_eq_false _
  clear z2
  go_upto_region 7 with fail
  clear t4 g2
  have hle : x.d.amt ≤ x1 := by
    by_cases hk : x.d.kind = 1
    · have := z3.out hk
      rw [hx1.out] at this
      exact this
    · rw [(q6.out hk).2]; exact Nat.zero_le _
  have t0 := hI.bxA.cell (i := 0) rfl
  have t1 := hI.bxA.cell (i := 1) rfl
  have t2 := hI.bxA.cell (i := 2) rfl
  have t3 := hI.bxA.cell (i := 3) rfl
  go_cut [34] (fun s34 wx => s34 = .bool false ∧ wx = w4)
  case first =>
    by_cases hk : x.d.kind = 1
    · have g3 : (x.d.kind == 1) = true := by rw [hk]; rfl
      have g4 : ¬ (x1 : Int) < (x.d.amt : Int) := by omega
      clear hk
      go_wp2_with fail
      go_meet
      exact ⟨rfl, rfl⟩
    · have g3 : (x.d.kind == 1) = false := beq_eq_false_iff_ne.2 hk
      clear hk
      go_wp2_with fail
      go_meet
      exact ⟨rfl, rfl⟩
  case rest =>
  obtain ⟨rfl, rfl⟩ := hcut
  generalize wc = w4 at *
  go_upto_region 9 with fail
  go_cut [44] (fun s44 wx => s44 = .bool false ∧ wx = w4)
  case first =>
    by_cases hk : x.d.kind = 1
    · have g3 : (x.d.kind == 1) = true := by rw [hk]; rfl
      by_cases h5 : x.d.to = x.d.frm
      · have g5 : (x.d.to.toList == x.d.frm.toList) = true := by rw [h5]; exact beq_self_eq_true _
        clear hk h5
        go_wp2_with fail
        go_meet
        exact ⟨rfl, rfl⟩
      · have g5 : (x.d.to.toList == x.d.frm.toList) = false := by rw [pick_text, decide_eq_false h5]
        have h6 := z4.out hk h5
        rw [hy1.out] at h6
        have hw : IntKind.u64.wrap ((y1 : Int) + (x.d.amt : Int)) = (y1 : Int) + (x.d.amt : Int) := wrap64u _ (by omega) (by omega)
        have g6 : ¬ (4611686018427387903 : Int) < (y1 : Int) + (x.d.amt : Int) := by omega
        clear hk h5
        go_wp2_with fail
        go_meet
        exact ⟨rfl, rfl⟩
    · have g3 : (x.d.kind == 1) = false := beq_eq_false_iff_ne.2 hk
      clear hk
      go_wp2_with fail
      go_meet
      exact ⟨rfl, rfl⟩
  case rest =>
  obtain ⟨rfl, rfl⟩ := hcut
  generalize wc = w4 at *
  have cT := rsAt_at x.d.frm hI.st hRA.rise (by have := hRA.len; omega)
  obtain ⟨hRA5, hx5⟩ := hRA.at x.d.frm
  obtain ⟨i, hi⟩ : ∃ i, Hid (kAt A x.d.frm = i) := ⟨_, rfl⟩
  obtain ⟨A1, hA1⟩ : ∃ A1, Hid (atL A x.d.frm = A1) := ⟨_, rfl⟩
  rw [hi.out] at cT hx5
  rw [hA1.out] at cT hRA5 hx5
  have hpr : s.acc x.d.frm = (x1, x2) := by rw [← hx1.out, ← hx2.out]
  rw [hpr] at hx5
  replace hpr : Hid _ := hpr
  clear hi hA1 hRA hlA
  go_upto_region 11 with fail
  go_wp2_with fail
  refine cT.mono ?_
  rintro e w5 ⟨rfl, qa5, h5, hf5, hk5⟩
  have hI5 := hI.newA h5 hf5 hk5
  clear cT h5 hf5 hk5 hI t0 t1 t2 t3
  obtain ⟨g, off, cap, rfl, hgl, hgF, c1, c2, hfz, hs1, hs2⟩ := hI5.st.setA hx5
  have c0 := hI5.st.box.cell (i := 0) rfl
  have hil := (List.getElem?_eq_some_iff.1 hx5).1
  have g1 : (i : Int) < (A1.length : Int) := by omega
  have g0 : (0 : Int) ≤ (i : Int) := by omega
  have hwr : IntKind.u64.wrap ((x2 : Int) + 1) = ((x2 + 1 : Nat) : Int) := by rw [wrap64u _ (by omega) (by omega)]; rfl
  have hfz2 := hfz (off + i * 3 + 2)
  have hI6 := hI5.set (p := ⟨g, off + i * 3 + 2, none⟩) (v := .int .u64 ((x2 + 1 : Nat) : Int)) hgF (hs2 (x2 + 1))
  obtain ⟨hRA6, hx6⟩ := hRA5.set hx5 (x1, x2 + 1)
  clear hs1 hs2 hfz hI5 hRA5 hx5
  rw [show ((x2 + 1 : Nat) : Int) = (x2 : Int) + 1 from rfl] at hI6
  go_upto_region 13 with fail
  clear c0 c1 c2 hfz2 hwr hgF hgl
  generalize w5.setCell ⟨g, off + i * 3 + 2, none⟩ (.int .u64 ((x2 : Int) + 1)) = w6 at *
  have hil6 := (List.getElem?_eq_some_iff.1 hx6).1
  rw [List.length_set] at hil6
  have hl1 : A1.length = (A1.set i (x.d.frm, (x1, x2 + 1))).length := by rw [List.length_set]
  rw [hl1] at hI6 g1 ⊢
  generalize A1.set i (x.d.frm, (x1, x2 + 1)) = A2 at *
  clear hl1 hil6 hil
  have t0 := hI6.bxA.cell (i := 0) rfl
  by_cases hk : x.d.kind = 1
  · exact absurd hk hkind.out
  · have hk2 := (q6.out hk).1
    have g3 : (x.d.kind == 1) = false := beq_eq_false_iff_ne.2 hk
    obtain ⟨hV1, hV2, hV3⟩ := hV.out
    have hacc : pnF s.acc x.d.frm (x1, x2 + 1) = accD s.acc x.d := by
      unfold accD
      rw [if_neg hk, hpr.out]
    obtain ⟨vo, vc, hqv, hvnil0, -⟩ := hI6.st.rv.form
    have hvlc : V.length ≤ vc := by
      obtain ⟨a', c', e, hle, _⟩ := hI6.st.rv.row.form
      rw [hqv] at e
      simp only [Value.slice.injEq, true_and] at e
      omega
    have hpn : ¬ vc = V.length → ∀ ad, vo = some ad → ad.spot = none := by
      intro hcn ad e
      rcases hI6.st.rv.row.2 with ⟨ao', hv, hn⟩ | ⟨g, pre, post, c, hv, _⟩
      · rw [hqv] at hv
        simp only [Value.slice.injEq] at hv
        omega
      · rw [hqv] at hv
        simp only [Value.slice.injEq] at hv
        rw [hv.1] at e
        cases e
        rfl
    subst hqv
    obtain ⟨kv, hkv⟩ : ∃ q, Hid (kAt V x.d.key = q) := ⟨_, rfl⟩
    have hpl : kv ≤ V.length := by rw [← hkv.out]; exact kAt_le _ _
    have hst : Hid (∀ j y, V[j]? = some y → j ≤ kv → (j < kv ↔ Op.bytesLess y.1.toList x.d.key.toList = true)) := by
      intro j y hy hj
      rw [← hkv.out] at hj ⊢
      exact kAt_step hy hj
    have hset : Hid (∀ w' qv' V', RI w w' rb bx S (.slice (some ⟨g, off, none⟩) A2.length cap) qv' A2 V' x → V' = kPut x.d.key x.d.val V → ∃ S', RS w' rb S' (applyF s x.d) (N + 2) ∧ FreshS w S S' ∧ Kept S w w') := by
      intro w' qv' V' r1 r2
      have hl := kPut_len (A := V) x.d.key x.d.val
      exact hfin.out w' _ qv' A2 V' _ r1 ⟨hRA6.rise, hRA6.acc, Nat.le_succ_of_le hRA6.len⟩ hacc (by rw [r2]; exact hV1.put _ _) (fun n => by
        rw [r2, kGet_put, if_neg hk]
        unfold pnF
        split
        · rfl
        · exact hV2 n) (by rw [r2]; omega)
    have hput : Hid (∀ y, V[kv]? = some (x.d.key, y) → V.set kv (x.d.key, x.d.val) = kPut x.d.key x.d.val V) := by
      intro y hy
      have := kPut_set x.d.key x.d.val y (by rw [hkv.out]; exact hy)
      rw [this, hkv.out]
    have hnew : Hid ((∀ y, V[kv]? ≠ some (x.d.key, y)) → V.take kv ++ (x.d.key, x.d.val) :: V.drop kv = kPut x.d.key x.d.val V) := by
      intro hy
      have := kPut_new x.d.key x.d.val (L := V) (by rw [hkv.out]; exact hy)
      rw [this, hkv.out]
    have hvl : V.length ≤ 900000 := by omega
    replace hvnil0 : Hid _ := hvnil0
    clear hfin hacc hk hk2 hkv hV hV1 hV2 hV3 hx6 hRA6 hpr g1 g0
    generalize (Value.slice (some ⟨g, off, none⟩) A2.length cap) = qa6 at *
    go_upto_region 18 with fail
    clear t0 g3
    go_wp2_with fail
    go_loopw [11] (fun v11 wr => ∃ k : Nat, k ≤ kv ∧ v11 = .int .i64 (k : Int) ∧ RI w wr rb bx S qa6 (.slice vo V.length vc) A2 V x) (fun v _ => kv - (intOf v).toNat)
    case atStart => exact ⟨0, Nat.zero_le _, rfl, hI6⟩
    case round =>
      clear hI6
      obtain ⟨k, hkk, rfl, hI⟩ := hrel
      have c1 := hI.st.box.cell (i := 1) rfl
      have t5 := hI.bxA.cell (i := 5) rfl
      have t6 := hI.bxA.cell (i := 6) rfl
      obtain ⟨vo', vc', hee, -, hRow⟩ := hI.st.rv.form
      simp only [Value.slice.injEq, true_and] at hee
      obtain ⟨rfl, rfl⟩ := hee
      by_cases hlt : k < V.length
      · have g1 : (k : Int) < (V.length : Int) := by omega
        obtain ⟨y, hy⟩ : ∃ y, V[k]? = some y := ⟨_, List.getElem?_eq_getElem hlt⟩
        have hst1 := hst.out k y hy hkk
        obtain ⟨b, voff, hao, hbl, y0, _⟩ := hRow.val hy
        cases hls : Op.bytesLess y.1.toList x.d.key.toList with
        | true =>
          have hlt2 := hst1.2 hls
          subst hao
          clear hst1 hy
          go_wp2_with fail
          go_quiet (fail)
          replace hI := hI.below (below_drewN (Below.refl _ _) nq)
          generalize wr.drewN nq = w7 at *
          clear c1 t5 t6 y0
          go_wp2
          go_roundw
          case rel => exact ⟨k + 1, by omega, by go_num, hI⟩
          case measure => simp [intOf]; omega
        | false =>
          have hip : k = kv := by
            have : ¬ k < kv := fun h => by rw [hst1.1 h] at hls; cases hls
            omega
          subst hao
          subst hip
          clear hst1 hst
          go_wp2_with fail
          go_quiet (fail)
          replace hI := hI.below (below_drewN (Below.refl _ _) nq)
          generalize wr.drewN nq = w7 at *
          clear c1 t5 t6 y0
          have c1 := hI.st.box.cell (i := 1) rfl
          have t5 := hI.bxA.cell (i := 5) rfl
          have t6 := hI.bxA.cell (i := 6) rfl
          obtain ⟨vo', vc', hee, -, hRow⟩ := hI.st.rv.form
          simp only [Value.slice.injEq, true_and] at hee
          obtain ⟨hee1, rfl⟩ := hee
          subst hee1
          obtain ⟨b', voff', hao, hbl, y0, y1⟩ := hRow.val hy
          simp only [Option.some.injEq, Addr.mk.injEq, and_true] at hao
          obtain ⟨rfl, rfl⟩ := hao
          cases he : y.1.toList == x.d.key.toList with
          | true =>
            have hyk : y = (x.d.key, y.2) := by rw [bytes_eq] at he; rw [← of_decide_eq_true he]
            have hy' : V[k]? = some (x.d.key, y.2) := by rw [hy]; exact congrArg some hyk
            have hpt : Hid _ := hput.out _ hy'
            replace hy' : Hid _ := hy'
            clear hyk
            go_wp2_with fail
            go_quiet (fail)
            replace hI := hI.below (below_drewN (Below.refl _ _) nq)
            generalize w7.drewN nq = w8 at *
            clear c1 t5 t6 y0 y1
            have c1 := hI.st.box.cell (i := 1) rfl
            have t6 := hI.bxA.cell (i := 6) rfl
            obtain ⟨g', off', cap', hee, hgl, hgF, c2, hfz, hs1⟩ := hI.st.setV hy'.out
            simp only [Value.slice.injEq, Option.some.injEq, Addr.mk.injEq, and_true, true_and] at hee
            obtain ⟨⟨rfl, rfl⟩, rfl⟩ := hee
            have hfz1 := hfz (voff + k * 2 + 1)
            have hend := hset.out _ _ _ ((hI.set (p := ⟨b, voff + k * 2 + 1, none⟩) (v := .string x.d.val) hgF (hs1 x.d.val)).below (Below.drew (Below.refl _ _))) hpt.out
            clear hs1 hfz hgF hI hRow hpt hy' hy hset hput hnew
            go_wp2_with fail
            go_region
            rename_i K hK
            refine hK _ _ ?_
            clear hK c1 t6 hfz1 c2
            go_wp2
            go_ret
            exact ⟨rfl, hend⟩
          | false =>
            have hno : Hid (∀ z, V[k]? ≠ some (x.d.key, z)) := fun z e => by
              rw [hy] at e
              cases e
              simp at he
            go_wp2_with fail
            go_quiet (fail)
            replace hI := hI.below (below_drewN (Below.refl _ _) nq)
            replace hRow := hRow.below (below_drewN (Below.refl _ _) nq)
            generalize w7.drewN nq = w4 at *
            clear c1 t5 t6 y0 y1 hy he hls hbl
            have hbx := hI.st.box
            have hci : (vc = k) = False := by simp; omega
            have hrD : ∀ U, Below w4.heap.size w4 U → RowAt valK U (some ⟨b, voff + k * 2, none⟩) (V.drop k) := fun U hb => (hRow.below hb).dropG k
            have hnD : Hid (some (⟨b, voff + k * 2, none⟩ : Addr) = none → vc - k = 0) := fun h => by cases h
            go_wp2_with fail
            obtain ⟨i0, z0, hi0, hz0, hz1, hz2, hz3⟩ := valInfo
            have hc := fun w' (hb : Below w4.heap.size w4 w') => (hbx.below hb hbx.lt).cell (i := 1) rfl
            have hck := fun w' (hb : Below w4.heap.size w4 w') => (hI.bxA.below hb hI.bxA.lt).cell (i := 5) rfl
            have hcv := fun w' (hb : Below w4.heap.size w4 w') => (hI.bxA.below hb hI.bxA.lt).cell (i := 6) rfl
            have hbox := hbx
            have j1 : (0 : Int) ≤ (k : Int) := by omega
            have j2 : (k : Int) ≤ (vc : Int) := by omega
            have j3 : (k : Int) ≤ (V.length : Int) := by omega
            have hTl : (V.take k).length = k := by rw [List.length_take]; omega
            have hDl : (V.drop k).length = V.length - k := List.length_drop
            have hN3 : Hid (k + 1 + (V.length - k) = V.length + 1) := by show k + 1 + (V.length - k) = V.length + 1; omega
            have hrT := fun U (hb : Below w4.heap.size w4 U) => (hRow.below hb).take k
            have hnT : Hid _ := hvnil0.out
            have m1 : k ≤ maxLen := by unfold maxLen; omega
            have m2 : k * 32 ≤ 140737488355328 := by omega
            have m3 : k + 1 ≤ maxLen := by unfold maxLen; omega
            have m4 : (k + 1) * 32 ≤ 140737488355328 := by omega
            have m5 : V.length + 1 ≤ maxLen := by unfold maxLen; omega
            have m6 : (V.length + 1) * 32 ≤ 140737488355328 := by omega
            obtain ⟨lo, hlo⟩ : ∃ lo, lo = V.take k ++ (x.d.key, x.d.val) :: V.drop k := ⟨_, rfl⟩
            have HL : Hid (lo = V.take k ++ (x.d.key, x.d.val) :: V.drop k) := hlo
            have HN : Hid (V.length + 1 = lo.length) := by
              show V.length + 1 = lo.length
              rw [hlo, List.length_append, List.length_cons, hTl, hDl]
              omega
            clear hlo
            have hbd : Below w4.heap.size w4 w4.drew := below_drewN (Below.refl _ w4) 1
            go_wp2_with fail
            refine wp_region_K (fun w' => Below w4.heap.size w4 w') 25 (by kernel_rfl) ?_
            generalize w4.drew = w5 at hbd ⊢
            refine wpAnyK_takeD (i := 0) (v := ?_) (some 171) rfl rfl (by kernel_rfl) (by kernel_rfl) (by kernel_rfl) (by kernel_rfl) (by decide) (fun _ _ _ h => h) (by assumption) (Or.inl ⟨by rfl, ?_⟩) ?_
            rotate_left 1
            · intro w' hSw
              have cF := hc w' hSw
              have cK := hck w' hSw
              have cV := hcv w' hSw
              go_simp
              first | done | with_reducible rfl
            simp only [Act.put, List.setIfInBounds_toArray, List.set_cons_zero, List.set_cons_succ]
            refine wpAnyK_takeD (i := 2) (v := ?_) (some 173) rfl rfl (by kernel_rfl) (by kernel_rfl) (by kernel_rfl) (by kernel_rfl) (by decide) (fun _ _ _ h => h) (by assumption) (Or.inl ⟨by rfl, ?_⟩) ?_
            rotate_left 1
            · intro w' hSw
              have cF := hc w' hSw
              have cK := hck w' hSw
              have cV := hcv w' hSw
              go_simp
              first | done | with_reducible rfl
            simp only [Act.put, List.setIfInBounds_toArray, List.set_cons_zero, List.set_cons_succ]
            refine wpAnyK_takeD (i := 3) (v := ?_) (some 174) rfl rfl (by kernel_rfl) (by kernel_rfl) (by kernel_rfl) (by kernel_rfl) (by decide) (fun _ _ _ h => h) (by assumption) (Or.inl ⟨by rfl, ?_⟩) ?_
            rotate_left 1
            · intro w' hSw
              have cF := hc w' hSw
              have cK := hck w' hSw
              have cV := hcv w' hSw
              go_simp
              first | done | with_reducible rfl
            simp only [Act.put, List.setIfInBounds_toArray, List.set_cons_zero, List.set_cons_succ]
            refine wpAnyK_takeD (i := 4) (v := ?_) (some 175) rfl rfl (by kernel_rfl) (by kernel_rfl) (by kernel_rfl) (by kernel_rfl) (by decide) (fun _ _ _ h => h) (by assumption) (Or.inl ⟨by rfl, ?_⟩) ?_
            rotate_left 1
            · intro w' hSw
              have cF := hc w' hSw
              have cK := hck w' hSw
              have cV := hcv w' hSw
              go_simp
              first | done | with_reducible rfl
            simp only [Act.put, List.setIfInBounds_toArray, List.set_cons_zero, List.set_cons_succ]
            refine wpAnyK_takeD (i := 5) (v := ?_) (some 176) rfl rfl (by kernel_rfl) (by kernel_rfl) (by kernel_rfl) (by kernel_rfl) (by decide) (fun _ _ _ h => h) (by assumption) (Or.inl ⟨by rfl, ?_⟩) ?_
            rotate_left 1
            · intro w' hSw
              have cF := hc w' hSw
              have cK := hck w' hSw
              have cV := hcv w' hSw
              go_simp
              first | done | with_reducible rfl
            simp only [Act.put, List.setIfInBounds_toArray, List.set_cons_zero, List.set_cons_succ]
            refine wpAnyK_takeD (i := 6) (v := ?_) (some 177) rfl rfl (by kernel_rfl) (by kernel_rfl) (by kernel_rfl) (by kernel_rfl) (by decide) (fun _ _ _ h => h) (by assumption) (Or.inl ⟨by rfl, ?_⟩) ?_
            rotate_left 1
            · intro w' hSw
              have cF := hc w' hSw
              have cK := hck w' hSw
              have cV := hcv w' hSw
              go_simp
              first | done | with_reducible rfl
            simp only [Act.put, List.setIfInBounds_toArray, List.set_cons_zero, List.set_cons_succ]
            refine wpAnyK_takeD (i := 7) (v := ?_) (some 178) rfl rfl (by kernel_rfl) (by kernel_rfl) (by kernel_rfl) (by kernel_rfl) (by decide) (fun _ _ _ h => h) (by assumption) (Or.inl ⟨by rfl, ?_⟩) ?_
            rotate_left 1
            · intro w' hSw
              have cF := hc w' hSw
              have cK := hck w' hSw
              have cV := hcv w' hSw
              go_simp
              first | done | with_reducible rfl
            simp only [Act.put, List.setIfInBounds_toArray, List.set_cons_zero, List.set_cons_succ]
            refine wpAnyK_takeD (i := 9) (v := ?_) (some 180) rfl rfl (by kernel_rfl) (by kernel_rfl) (by kernel_rfl) (by kernel_rfl) (by decide) (fun _ _ _ h => h) (by assumption) (Or.inl ⟨by rfl, ?_⟩) ?_
            rotate_left 1
            · intro w' hSw
              have cF := hc w' hSw
              have cK := hck w' hSw
              have cV := hcv w' hSw
              go_simp
              first | done | with_reducible rfl
            simp only [Act.put, List.setIfInBounds_toArray, List.set_cons_zero, List.set_cons_succ]
            refine wpAnyK_takeD (i := 10) (v := ?_) (some 181) rfl rfl (by kernel_rfl) (by kernel_rfl) (by kernel_rfl) (by kernel_rfl) (by decide) (fun _ _ _ h => h) (by assumption) (Or.inl ⟨by rfl, ?_⟩) ?_
            rotate_left 1
            · intro w' hSw
              have cF := hc w' hSw
              have cK := hck w' hSw
              have cV := hcv w' hSw
              go_simp
              first | done | with_reducible rfl
            simp only [Act.put, List.setIfInBounds_toArray, List.set_cons_zero, List.set_cons_succ]
            refine wpAnyK_takeD (i := 11) (v := ?_) (some 182) rfl rfl (by kernel_rfl) (by kernel_rfl) (by kernel_rfl) (by kernel_rfl) (by decide) (fun _ _ _ h => h) (by assumption) (Or.inl ⟨by rfl, ?_⟩) ?_
            rotate_left 1
            · intro w' hSw
              have cF := hc w' hSw
              have cK := hck w' hSw
              have cV := hcv w' hSw
              go_simp
              first | done | with_reducible rfl
            simp only [Act.put, List.setIfInBounds_toArray, List.set_cons_zero, List.set_cons_succ]
            refine wpAnyK_takeD (i := 12) (v := ?_) (some 183) rfl rfl (by kernel_rfl) (by kernel_rfl) (by kernel_rfl) (by kernel_rfl) (by decide) (fun _ _ _ h => h) (by assumption) (Or.inl ⟨by rfl, ?_⟩) ?_
            rotate_left 1
            · intro w' hSw
              have cF := hc w' hSw
              have cK := hck w' hSw
              have cV := hcv w' hSw
              go_simp
              first | done | with_reducible rfl
            simp only [Act.put, List.setIfInBounds_toArray, List.set_cons_zero, List.set_cons_succ]
            refine wpAnyK_takeD (i := 13) (v := ?_) (some 184) rfl rfl (by kernel_rfl) (by kernel_rfl) (by kernel_rfl) (by kernel_rfl) (by decide) (fun _ _ _ h => h) (by assumption) (Or.inl ⟨by rfl, ?_⟩) ?_
            rotate_left 1
            · intro w' hSw
              have cF := hc w' hSw
              have cK := hck w' hSw
              have cV := hcv w' hSw
              go_simp
              first | done | with_reducible rfl
            simp only [Act.put, List.setIfInBounds_toArray, List.set_cons_zero, List.set_cons_succ]
            refine wpAnyK_takeD (i := 16) (v := ?_) (some 187) rfl rfl (by kernel_rfl) (by kernel_rfl) (by kernel_rfl) (by kernel_rfl) (by decide) (fun _ _ _ h => h) (by assumption) (Or.inl ⟨by rfl, ?_⟩) ?_
            rotate_left 1
            · intro w' hSw
              have cF := hc w' hSw
              have cK := hck w' hSw
              have cV := hcv w' hSw
              go_simp
              first | done | with_reducible rfl
            simp only [Act.put, List.setIfInBounds_toArray, List.set_cons_zero, List.set_cons_succ]
            refine wpAnyK_takeD (i := 17) (v := ?_) (some 188) rfl rfl (by kernel_rfl) (by kernel_rfl) (by kernel_rfl) (by kernel_rfl) (by decide) (fun _ _ _ h => h) (by assumption) (Or.inl ⟨by rfl, ?_⟩) ?_
            rotate_left 1
            · intro w' hSw
              have cF := hc w' hSw
              have cK := hck w' hSw
              have cV := hcv w' hSw
              go_simp
              first | done | with_reducible rfl
            simp only [Act.put, List.setIfInBounds_toArray, List.set_cons_zero, List.set_cons_succ]
            refine wpAnyK_takeD (i := 18) (v := ?_) (some 189) rfl rfl (by kernel_rfl) (by kernel_rfl) (by kernel_rfl) (by kernel_rfl) (by decide) (fun _ _ _ h => h) (by assumption) (Or.inl ⟨by rfl, ?_⟩) ?_
            rotate_left 1
            · intro w' hSw
              have cF := hc w' hSw
              have cK := hck w' hSw
              have cV := hcv w' hSw
              go_simp
              first | done | with_reducible rfl
            simp only [Act.put, List.setIfInBounds_toArray, List.set_cons_zero, List.set_cons_succ]
            refine wpAnyK_takeD (i := 19) (v := ?_) (some 190) rfl rfl (by kernel_rfl) (by kernel_rfl) (by kernel_rfl) (by kernel_rfl) (by decide) (fun _ _ _ h => h) (by assumption) (Or.inl ⟨by rfl, ?_⟩) ?_
            rotate_left 1
            · intro w' hSw
              have cF := hc w' hSw
              have cK := hck w' hSw
              have cV := hcv w' hSw
              go_simp
              first | done | with_reducible rfl
            simp only [Act.put, List.setIfInBounds_toArray, List.set_cons_zero, List.set_cons_succ]
            refine wpAnyK_takeD (i := 20) (v := ?_) (some 191) rfl rfl (by kernel_rfl) (by kernel_rfl) (by kernel_rfl) (by kernel_rfl) (by decide) (fun _ _ _ h => h) (by assumption) (Or.inl ⟨by rfl, ?_⟩) ?_
            rotate_left 1
            · intro w' hSw
              have cF := hc w' hSw
              have cK := hck w' hSw
              have cV := hcv w' hSw
              go_simp
              first | done | with_reducible rfl
            simp only [Act.put, List.setIfInBounds_toArray, List.set_cons_zero, List.set_cons_succ]
            refine wpAnyK_takeD (i := 21) (v := ?_) (some 192) rfl rfl (by kernel_rfl) (by kernel_rfl) (by kernel_rfl) (by kernel_rfl) (by decide) (fun _ _ _ h => h) (by assumption) (Or.inl ⟨by rfl, ?_⟩) ?_
            rotate_left 1
            · intro w' hSw
              have cF := hc w' hSw
              have cK := hck w' hSw
              have cV := hcv w' hSw
              go_simp
              first | done | with_reducible rfl
            simp only [Act.put, List.setIfInBounds_toArray, List.set_cons_zero, List.set_cons_succ]
            refine wpAnyK_ready (rs := [1, 14]) (by kernel_rfl) (by simp) ?_
            refine AllReadyK.cons rfl (fun K' hK => ?_) ?_
            · go_simp
              have bw6 := hbd.trans ((belowNew w5 (.cells #[] 94)).mono hbd.size)
              have hOw6 : (w5.alloc (.cells #[] 94)).ownsRow w4.heap.size 94 valK.n (.slice (some ⟨w5.heap.size, 0, none⟩) 0 0) 0 [] := World.ownsRow_made w5 #[] 0 hbd.size (by unfold maxLen; omega) (by simp)
              have hsw6 : w5.heap.size < (w5.alloc (.cells #[] 94)).heap.size := by rw [alloc_size]; omega
              obtain ⟨w6, hww6⟩ : ∃ q, w5.alloc (.cells #[] 94) = q := ⟨_, rfl⟩
              rw [hww6] at bw6 hOw6 hsw6 ⊢
              refine hK.out _ _ (fun _ => bw6) ?_
              clear hK K' hww6
              refine wpAnyK_ready (rs := [8, 14]) (by kernel_rfl) (by simp) ?_
              refine AllReadyK.consD (some 179) rfl rfl (fun K' hK => ?_) ?_
              · refine step_ownR (K := valK) w6 (by rfl) _ _ 88 (by rfl) w4.heap.size 94 i0 _ 32 Tryz.underlying88 hi0 hz0 hz1 hz2 hz3 _ _ _ _ _ (by rfl) hOw6 _ _ _ hTl (Nat.zero_add _) (by rfl) (hrT _ bw6) (fun e => hnT.out (by first | exact e | trivial)) m1 m2 bw6.size ?_
                intro aw7 cw7 w7 hOw7 hkw7
                have bw7 := bw6.trans (Kept.below hkw7 bw6.size (fun k hk => (hOw6.lt k hk).1))
                refine hK.out _ _ (fun _ => bw7) ?_
                clear hK K' hkw7
                simp only [Act.put, List.setIfInBounds_toArray, List.set_cons_zero, List.set_cons_succ]
                refine wpAnyK_ready (rs := [14]) (by kernel_rfl) (by simp) ?_
                refine AllReadyK.cons rfl (fun K' hK => ?_) ?_
                · go_simp
                  have bw8 := bw7.trans ((belowNew w7 (.cells #[.string x.d.key, .string x.d.val] 94)).mono bw7.size)
                  have hRw8 := valOne w7 x.d.key x.d.val
                  have hsw8 : w7.heap.size < (w7.alloc (.cells #[.string x.d.key, .string x.d.val] 94)).heap.size := by rw [alloc_size]; omega
                  have hOw8 := own_belowT hOw7 (belowNew w7 (.cells #[.string x.d.key, .string x.d.val] 94))
                  obtain ⟨w8, hww8⟩ : ∃ q, w7.alloc (.cells #[.string x.d.key, .string x.d.val] 94) = q := ⟨_, rfl⟩
                  rw [hww8] at bw8 hRw8 hsw8 hOw8 ⊢
                  refine hK.out _ _ (fun _ => bw8) ?_
                  clear hK K' hww8
                  refine wpAnyK_ready (rs := [15]) (by kernel_rfl) (by simp) ?_
                  refine AllReadyK.consD (some 186) rfl rfl (fun K' hK => ?_) ?_
                  · refine step_ownR (K := valK) w8 (by rfl) _ _ 88 (by rfl) w4.heap.size 94 i0 _ 32 Tryz.underlying88 hi0 hz0 hz1 hz2 hz3 _ _ _ _ _ (by rfl) hOw8 _ _ _ rfl rfl (by rfl) hRw8 (fun h => by cases h) m3 m4 bw8.size ?_
                    intro aw9 cw9 w9 hOw9 hkw9
                    have bw9 := bw8.trans (Kept.below hkw9 bw8.size (fun k hk => (hOw8.lt k hk).1))
                    refine hK.out _ _ (fun _ => bw9) ?_
                    clear hK K' hkw9
                    simp only [Act.put, List.setIfInBounds_toArray, List.set_cons_zero, List.set_cons_succ]
                    refine wpAnyK_ready (rs := [22]) (by kernel_rfl) (by simp) ?_
                    refine AllReadyK.consD (some 193) rfl rfl (fun K' hK => ?_) ?_
                    · refine step_ownR (K := valK) w9 (by rfl) _ _ 88 (by rfl) w4.heap.size 94 i0 _ 32 Tryz.underlying88 hi0 hz0 hz1 hz2 hz3 _ _ _ _ _ (by rfl) hOw9 _ _ _ hDl hN3.out (by rfl) (hrD _ bw9) (fun e => hnD.out (by first | exact e | trivial)) m5 m6 bw9.size ?_
                      intro aw10 cw10 w10 hOw10 hkw10
                      have bw10 := bw9.trans (Kept.below hkw10 bw9.size (fun k hk => (hOw9.lt k hk).1))
                      refine hK.out _ _ (fun _ => bw10) ?_
                      clear hK K' hkw10
                      simp only [Act.put, List.setIfInBounds_toArray, List.set_cons_zero, List.set_cons_succ]
                      refine wpAnyK_ready (rs := [23]) (by kernel_rfl) (by simp) ?_
                      refine AllReadyK.cons rfl (fun K' hK => ?_) AllReadyK.nil
                      go_simp
                      refine hK.out _ _ (fun _ => bw10) ?_
                      clear hK K'
                      refine wpAnyK_ready (rs := [24]) (by kernel_rfl) (by simp) ?_
                      refine AllReadyK.cons rfl (fun K' hK => ?_) AllReadyK.nil
                      go_simp
                      refine hK.out _ _ (fun _ => bw10) ?_
                      clear hK K'
                      refine wpAnyK_ready (rs := [25]) (by kernel_rfl) (by simp) ?_
                      refine AllReadyK.cons rfl (fun K' hK => ?_) AllReadyK.nil
                      have cF := hc w10 bw10
                      have fF := (hbox.below bw10 hbox.lt).frozen 1
                      go_simp
                      have hq := KQ.joined (K := valK) (T := 94) (lo := lo) (fun _ _ h => h.elim) (fun _ => trivial) hOw10 HL.out HN.out
                      obtain ⟨hn1, hn2⟩ := hI.st.newV bw10 hq
                      have fin := hset.out _ _ _ (hI.newV hn1 (fun k e => Or.inr (hq.lt k e).1) hn2) (HL.out.trans (hnew.out hno.out))
                      refine hK.out _ _ (fun h => absurd rfl h) ?_
                      clear hK K'
                      refine wpAnyK_done (by kernel_rfl) ?_ _
                      go_wp2
                      go_ret
                      exact ⟨rfl, fin⟩
                    exact AllReadyK.nil
                  exact AllReadyK.nil
                exact AllReadyK.nil
              refine AllReadyK.cons rfl (fun K' hK => ?_) ?_
              · go_simp
                have bw11 := bw6.trans ((belowNew w6 (.cells #[.string x.d.key, .string x.d.val] 94)).mono bw6.size)
                have hRw11 := valOne w6 x.d.key x.d.val
                have hsw11 : w6.heap.size < (w6.alloc (.cells #[.string x.d.key, .string x.d.val] 94)).heap.size := by rw [alloc_size]; omega
                have hOw11 := own_belowT hOw6 (belowNew w6 (.cells #[.string x.d.key, .string x.d.val] 94))
                obtain ⟨w11, hww11⟩ : ∃ q, w6.alloc (.cells #[.string x.d.key, .string x.d.val] 94) = q := ⟨_, rfl⟩
                rw [hww11] at bw11 hRw11 hsw11 hOw11 ⊢
                refine hK.out _ _ (fun _ => bw11) ?_
                clear hK K' hww11
                refine wpAnyK_ready (rs := [8]) (by kernel_rfl) (by simp) ?_
                refine AllReadyK.consD (some 179) rfl rfl (fun K' hK => ?_) ?_
                · refine step_ownR (K := valK) w11 (by rfl) _ _ 88 (by rfl) w4.heap.size 94 i0 _ 32 Tryz.underlying88 hi0 hz0 hz1 hz2 hz3 _ _ _ _ _ (by rfl) hOw11 _ _ _ hTl (Nat.zero_add _) (by rfl) (hrT _ bw11) (fun e => hnT.out (by first | exact e | trivial)) m1 m2 bw11.size ?_
                  intro aw12 cw12 w12 hOw12 hkw12
                  have bw12 := bw11.trans (Kept.below hkw12 bw11.size (fun k hk => (hOw11.lt k hk).1))
                  have hRw12 := hRw11.kept hkw12 (fun k hk e => by
                    rcases hk with ⟨_, off', e'⟩ | ⟨_, _, f'⟩
                    · simp at e'
                      simp [Value.ownBlock] at e
                      omega
                    · exact f'.elim)
                  refine hK.out _ _ (fun _ => bw12) ?_
                  clear hK K' hkw12
                  simp only [Act.put, List.setIfInBounds_toArray, List.set_cons_zero, List.set_cons_succ]
                  refine wpAnyK_ready (rs := [15]) (by kernel_rfl) (by simp) ?_
                  refine AllReadyK.consD (some 186) rfl rfl (fun K' hK => ?_) ?_
                  · refine step_ownR (K := valK) w12 (by rfl) _ _ 88 (by rfl) w4.heap.size 94 i0 _ 32 Tryz.underlying88 hi0 hz0 hz1 hz2 hz3 _ _ _ _ _ (by rfl) hOw12 _ _ _ rfl rfl (by rfl) hRw12 (fun h => by cases h) m3 m4 bw12.size ?_
                    intro aw13 cw13 w13 hOw13 hkw13
                    have bw13 := bw12.trans (Kept.below hkw13 bw12.size (fun k hk => (hOw12.lt k hk).1))
                    refine hK.out _ _ (fun _ => bw13) ?_
                    clear hK K' hkw13
                    simp only [Act.put, List.setIfInBounds_toArray, List.set_cons_zero, List.set_cons_succ]
                    refine wpAnyK_ready (rs := [22]) (by kernel_rfl) (by simp) ?_
                    refine AllReadyK.consD (some 193) rfl rfl (fun K' hK => ?_) ?_
                    · refine step_ownR (K := valK) w13 (by rfl) _ _ 88 (by rfl) w4.heap.size 94 i0 _ 32 Tryz.underlying88 hi0 hz0 hz1 hz2 hz3 _ _ _ _ _ (by rfl) hOw13 _ _ _ hDl hN3.out (by rfl) (hrD _ bw13) (fun e => hnD.out (by first | exact e | trivial)) m5 m6 bw13.size ?_
                      intro aw14 cw14 w14 hOw14 hkw14
                      have bw14 := bw13.trans (Kept.below hkw14 bw13.size (fun k hk => (hOw13.lt k hk).1))
                      refine hK.out _ _ (fun _ => bw14) ?_
                      clear hK K' hkw14
                      simp only [Act.put, List.setIfInBounds_toArray, List.set_cons_zero, List.set_cons_succ]
                      refine wpAnyK_ready (rs := [23]) (by kernel_rfl) (by simp) ?_
                      refine AllReadyK.cons rfl (fun K' hK => ?_) AllReadyK.nil
                      go_simp
                      refine hK.out _ _ (fun _ => bw14) ?_
                      clear hK K'
                      refine wpAnyK_ready (rs := [24]) (by kernel_rfl) (by simp) ?_
                      refine AllReadyK.cons rfl (fun K' hK => ?_) AllReadyK.nil
                      go_simp
                      refine hK.out _ _ (fun _ => bw14) ?_
                      clear hK K'
                      refine wpAnyK_ready (rs := [25]) (by kernel_rfl) (by simp) ?_
                      refine AllReadyK.cons rfl (fun K' hK => ?_) AllReadyK.nil
                      have cF := hc w14 bw14
                      have fF := (hbox.below bw14 hbox.lt).frozen 1
                      go_simp
                      have hq := KQ.joined (K := valK) (T := 94) (lo := lo) (fun _ _ h => h.elim) (fun _ => trivial) hOw14 HL.out HN.out
                      obtain ⟨hn1, hn2⟩ := hI.st.newV bw14 hq
                      have fin := hset.out _ _ _ (hI.newV hn1 (fun k e => Or.inr (hq.lt k e).1) hn2) (HL.out.trans (hnew.out hno.out))
                      refine hK.out _ _ (fun h => absurd rfl h) ?_
                      clear hK K'
                      refine wpAnyK_done (by kernel_rfl) ?_ _
                      go_wp2
                      go_ret
                      exact ⟨rfl, fin⟩
                    exact AllReadyK.nil
                  exact AllReadyK.nil
                exact AllReadyK.nil
              exact AllReadyK.nil
            refine AllReadyK.cons rfl (fun K' hK => ?_) ?_
            · go_simp
              have bw15 := hbd.trans ((belowNew w5 (.cells #[.string x.d.key, .string x.d.val] 94)).mono hbd.size)
              have hRw15 := valOne w5 x.d.key x.d.val
              have hsw15 : w5.heap.size < (w5.alloc (.cells #[.string x.d.key, .string x.d.val] 94)).heap.size := by rw [alloc_size]; omega
              obtain ⟨w15, hww15⟩ : ∃ q, w5.alloc (.cells #[.string x.d.key, .string x.d.val] 94) = q := ⟨_, rfl⟩
              rw [hww15] at bw15 hRw15 hsw15 ⊢
              refine hK.out _ _ (fun _ => bw15) ?_
              clear hK K' hww15
              refine wpAnyK_ready (rs := [1]) (by kernel_rfl) (by simp) ?_
              refine AllReadyK.cons rfl (fun K' hK => ?_) ?_
              · go_simp
                have bw16 := bw15.trans ((belowNew w15 (.cells #[] 94)).mono bw15.size)
                have hOw16 : (w15.alloc (.cells #[] 94)).ownsRow w4.heap.size 94 valK.n (.slice (some ⟨w15.heap.size, 0, none⟩) 0 0) 0 [] := World.ownsRow_made w15 #[] 0 bw15.size (by unfold maxLen; omega) (by simp)
                have hsw16 : w15.heap.size < (w15.alloc (.cells #[] 94)).heap.size := by rw [alloc_size]; omega
                have hRw16 := hRw15.below (belowNew w15 (.cells #[] 94))
                obtain ⟨w16, hww16⟩ : ∃ q, w15.alloc (.cells #[] 94) = q := ⟨_, rfl⟩
                rw [hww16] at bw16 hOw16 hsw16 hRw16 ⊢
                refine hK.out _ _ (fun _ => bw16) ?_
                clear hK K' hww16
                refine wpAnyK_ready (rs := [8]) (by kernel_rfl) (by simp) ?_
                refine AllReadyK.consD (some 179) rfl rfl (fun K' hK => ?_) ?_
                · refine step_ownR (K := valK) w16 (by rfl) _ _ 88 (by rfl) w4.heap.size 94 i0 _ 32 Tryz.underlying88 hi0 hz0 hz1 hz2 hz3 _ _ _ _ _ (by rfl) hOw16 _ _ _ hTl (Nat.zero_add _) (by rfl) (hrT _ bw16) (fun e => hnT.out (by first | exact e | trivial)) m1 m2 bw16.size ?_
                  intro aw17 cw17 w17 hOw17 hkw17
                  have bw17 := bw16.trans (Kept.below hkw17 bw16.size (fun k hk => (hOw16.lt k hk).1))
                  have hRw17 := hRw16.kept hkw17 (fun k hk e => by
                    rcases hk with ⟨_, off', e'⟩ | ⟨_, _, f'⟩
                    · simp at e'
                      simp [Value.ownBlock] at e
                      omega
                    · exact f'.elim)
                  refine hK.out _ _ (fun _ => bw17) ?_
                  clear hK K' hkw17
                  simp only [Act.put, List.setIfInBounds_toArray, List.set_cons_zero, List.set_cons_succ]
                  refine wpAnyK_ready (rs := [15]) (by kernel_rfl) (by simp) ?_
                  refine AllReadyK.consD (some 186) rfl rfl (fun K' hK => ?_) ?_
                  · refine step_ownR (K := valK) w17 (by rfl) _ _ 88 (by rfl) w4.heap.size 94 i0 _ 32 Tryz.underlying88 hi0 hz0 hz1 hz2 hz3 _ _ _ _ _ (by rfl) hOw17 _ _ _ rfl rfl (by rfl) hRw17 (fun h => by cases h) m3 m4 bw17.size ?_
                    intro aw18 cw18 w18 hOw18 hkw18
                    have bw18 := bw17.trans (Kept.below hkw18 bw17.size (fun k hk => (hOw17.lt k hk).1))
                    refine hK.out _ _ (fun _ => bw18) ?_
                    clear hK K' hkw18
                    simp only [Act.put, List.setIfInBounds_toArray, List.set_cons_zero, List.set_cons_succ]
                    refine wpAnyK_ready (rs := [22]) (by kernel_rfl) (by simp) ?_
                    refine AllReadyK.consD (some 193) rfl rfl (fun K' hK => ?_) ?_
                    · refine step_ownR (K := valK) w18 (by rfl) _ _ 88 (by rfl) w4.heap.size 94 i0 _ 32 Tryz.underlying88 hi0 hz0 hz1 hz2 hz3 _ _ _ _ _ (by rfl) hOw18 _ _ _ hDl hN3.out (by rfl) (hrD _ bw18) (fun e => hnD.out (by first | exact e | trivial)) m5 m6 bw18.size ?_
                      intro aw19 cw19 w19 hOw19 hkw19
                      have bw19 := bw18.trans (Kept.below hkw19 bw18.size (fun k hk => (hOw18.lt k hk).1))
                      refine hK.out _ _ (fun _ => bw19) ?_
                      clear hK K' hkw19
                      simp only [Act.put, List.setIfInBounds_toArray, List.set_cons_zero, List.set_cons_succ]
                      refine wpAnyK_ready (rs := [23]) (by kernel_rfl) (by simp) ?_
                      refine AllReadyK.cons rfl (fun K' hK => ?_) AllReadyK.nil
                      go_simp
                      refine hK.out _ _ (fun _ => bw19) ?_
                      clear hK K'
                      refine wpAnyK_ready (rs := [24]) (by kernel_rfl) (by simp) ?_
                      refine AllReadyK.cons rfl (fun K' hK => ?_) AllReadyK.nil
                      go_simp
                      refine hK.out _ _ (fun _ => bw19) ?_
                      clear hK K'
                      refine wpAnyK_ready (rs := [25]) (by kernel_rfl) (by simp) ?_
                      refine AllReadyK.cons rfl (fun K' hK => ?_) AllReadyK.nil
                      have cF := hc w19 bw19
                      have fF := (hbox.below bw19 hbox.lt).frozen 1
                      go_simp
                      have hq := KQ.joined (K := valK) (T := 94) (lo := lo) (fun _ _ h => h.elim) (fun _ => trivial) hOw19 HL.out HN.out
                      obtain ⟨hn1, hn2⟩ := hI.st.newV bw19 hq
                      have fin := hset.out _ _ _ (hI.newV hn1 (fun k e => Or.inr (hq.lt k e).1) hn2) (HL.out.trans (hnew.out hno.out))
                      refine hK.out _ _ (fun h => absurd rfl h) ?_
                      clear hK K'
                      refine wpAnyK_done (by kernel_rfl) ?_ _
                      go_wp2
                      go_ret
                      exact ⟨rfl, fin⟩
                    exact AllReadyK.nil
                  exact AllReadyK.nil
                exact AllReadyK.nil
              exact AllReadyK.nil
            exact AllReadyK.nil
      · have g1 : ¬ (k : Int) < (V.length : Int) := by omega
        have hil2' : k = V.length := by omega
        have hip : k = kv := by omega
        subst hip
        have hil2 : Hid (k = V.length) := hil2'
        clear hil2'
        have hno : Hid (∀ z, V[k]? ≠ some (x.d.key, z)) := fun z e => by
          have := (List.getElem?_eq_some_iff.1 e).1
          omega
        clear hst hkk
        go_wp2_with fail
        go_quiet (fail)
        replace hI := hI.below (below_drewN (Below.refl _ _) nq)
        replace hRow := hRow.below (below_drewN (Below.refl _ _) nq)
        generalize wr.drewN nq = w7 at *
        clear c1 t5 t6
        have c1 := hI.st.box.cell (i := 1) rfl
        go_wp2_with fail
        go_quiet (fail)
        replace hI := hI.below (below_drewN (Below.refl _ _) nq)
        replace hRow := hRow.below (below_drewN (Below.refl _ _) nq)
        generalize w7.drewN nq = w4 at *
        clear c1
        have hbx := hI.st.box
        cases vo with
        | none =>
          have hl0 : V = [] := by
            cases V with
            | nil => rfl
            | cons y r => obtain ⟨_, _, e, _⟩ := hRow.cell 0 y rfl; cases e
          have hc0 := hvnil0.out rfl
          subst hc0
          subst hl0
          obtain rfl : k = 0 := by simpa using hil2.out
          clear hil2 hvnil0 hpn hvlc g1 hpl hlt
          go_wp2_with fail
          obtain ⟨i0, z0, hi0, hz0, hz1, hz2, hz3⟩ := valInfo
          have hc := fun w' (hb : Below w4.heap.size w4 w') => (hbx.below hb hbx.lt).cell (i := 1) rfl
          have hck := fun w' (hb : Below w4.heap.size w4 w') => (hI.bxA.below hb hI.bxA.lt).cell (i := 5) rfl
          have hcv := fun w' (hb : Below w4.heap.size w4 w') => (hI.bxA.below hb hI.bxA.lt).cell (i := 6) rfl
          have hbox := hbx
          have hTl : (([] : List (ByteArray × ByteArray)).take 0).length = 0 := rfl
          have hDl : (([] : List (ByteArray × ByteArray)).drop 0).length = 0 := rfl
          have hrT : ∀ U, Below w4.heap.size w4 U → RowAt valK U none (([] : List (ByteArray × ByteArray)).take 0) := fun U _ => nil_row _ _
          have hrD : ∀ U, Below w4.heap.size w4 U → RowAt valK U none (([] : List (ByteArray × ByteArray)).drop 0) := fun U _ => nil_row _ _
          have m1 : 0 ≤ maxLen := by unfold maxLen; omega
          have m2 : 0 * 32 ≤ 140737488355328 := by omega
          have m3 : 0 + 1 ≤ maxLen := by unfold maxLen; omega
          have m4 : (0 + 1) * 32 ≤ 140737488355328 := by omega
          have m5 := m3
          have m6 := m4
          obtain ⟨lo, hlo⟩ : ∃ lo, lo = ([] : List (ByteArray × ByteArray)).take 0 ++ (x.d.key, x.d.val) :: ([] : List (ByteArray × ByteArray)).drop 0 := ⟨_, rfl⟩
          have HL : Hid (lo = ([] : List (ByteArray × ByteArray)).take 0 ++ (x.d.key, x.d.val) :: ([] : List (ByteArray × ByteArray)).drop 0) := hlo
          have HN : Hid (0 + 1 = lo.length) := by show 0 + 1 = lo.length; rw [hlo]; rfl
          clear hlo
          have hbd : Below w4.heap.size w4 w4.drew := below_drewN (Below.refl _ w4) 1
          go_wp2_with fail
          refine wp_region_K (fun w' => Below w4.heap.size w4 w') 25 (by kernel_rfl) ?_
          generalize w4.drew = w5 at hbd ⊢
          refine wpAnyK_takeD (i := 0) (v := ?_) (some 171) rfl rfl (by kernel_rfl) (by kernel_rfl) (by kernel_rfl) (by kernel_rfl) (by decide) (fun _ _ _ h => h) (by assumption) (Or.inl ⟨by rfl, ?_⟩) ?_
          rotate_left 1
          · intro w' hSw
            have cF := hc w' hSw
            have cK := hck w' hSw
            have cV := hcv w' hSw
            go_simp
            first | done | with_reducible rfl
          simp only [Act.put, List.setIfInBounds_toArray, List.set_cons_zero, List.set_cons_succ]
          refine wpAnyK_takeD (i := 2) (v := ?_) (some 173) rfl rfl (by kernel_rfl) (by kernel_rfl) (by kernel_rfl) (by kernel_rfl) (by decide) (fun _ _ _ h => h) (by assumption) (Or.inl ⟨by rfl, ?_⟩) ?_
          rotate_left 1
          · intro w' hSw
            have cF := hc w' hSw
            have cK := hck w' hSw
            have cV := hcv w' hSw
            go_simp
            first | done | with_reducible rfl
          simp only [Act.put, List.setIfInBounds_toArray, List.set_cons_zero, List.set_cons_succ]
          refine wpAnyK_takeD (i := 3) (v := ?_) (some 174) rfl rfl (by kernel_rfl) (by kernel_rfl) (by kernel_rfl) (by kernel_rfl) (by decide) (fun _ _ _ h => h) (by assumption) (Or.inl ⟨by rfl, ?_⟩) ?_
          rotate_left 1
          · intro w' hSw
            have cF := hc w' hSw
            have cK := hck w' hSw
            have cV := hcv w' hSw
            go_simp
            first | done | with_reducible rfl
          simp only [Act.put, List.setIfInBounds_toArray, List.set_cons_zero, List.set_cons_succ]
          refine wpAnyK_takeD (i := 4) (v := ?_) (some 175) rfl rfl (by kernel_rfl) (by kernel_rfl) (by kernel_rfl) (by kernel_rfl) (by decide) (fun _ _ _ h => h) (by assumption) (Or.inl ⟨by rfl, ?_⟩) ?_
          rotate_left 1
          · intro w' hSw
            have cF := hc w' hSw
            have cK := hck w' hSw
            have cV := hcv w' hSw
            go_simp
            first | done | with_reducible rfl
          simp only [Act.put, List.setIfInBounds_toArray, List.set_cons_zero, List.set_cons_succ]
          refine wpAnyK_takeD (i := 5) (v := ?_) (some 176) rfl rfl (by kernel_rfl) (by kernel_rfl) (by kernel_rfl) (by kernel_rfl) (by decide) (fun _ _ _ h => h) (by assumption) (Or.inl ⟨by rfl, ?_⟩) ?_
          rotate_left 1
          · intro w' hSw
            have cF := hc w' hSw
            have cK := hck w' hSw
            have cV := hcv w' hSw
            go_simp
            first | done | with_reducible rfl
          simp only [Act.put, List.setIfInBounds_toArray, List.set_cons_zero, List.set_cons_succ]
          refine wpAnyK_takeD (i := 6) (v := ?_) (some 177) rfl rfl (by kernel_rfl) (by kernel_rfl) (by kernel_rfl) (by kernel_rfl) (by decide) (fun _ _ _ h => h) (by assumption) (Or.inl ⟨by rfl, ?_⟩) ?_
          rotate_left 1
          · intro w' hSw
            have cF := hc w' hSw
            have cK := hck w' hSw
            have cV := hcv w' hSw
            go_simp
            first | done | with_reducible rfl
          simp only [Act.put, List.setIfInBounds_toArray, List.set_cons_zero, List.set_cons_succ]
          refine wpAnyK_takeD (i := 7) (v := ?_) (some 178) rfl rfl (by kernel_rfl) (by kernel_rfl) (by kernel_rfl) (by kernel_rfl) (by decide) (fun _ _ _ h => h) (by assumption) (Or.inl ⟨by rfl, ?_⟩) ?_
          rotate_left 1
          · intro w' hSw
            have cF := hc w' hSw
            have cK := hck w' hSw
            have cV := hcv w' hSw
            go_simp
            first | done | with_reducible rfl
          simp only [Act.put, List.setIfInBounds_toArray, List.set_cons_zero, List.set_cons_succ]
          refine wpAnyK_takeD (i := 9) (v := ?_) (some 180) rfl rfl (by kernel_rfl) (by kernel_rfl) (by kernel_rfl) (by kernel_rfl) (by decide) (fun _ _ _ h => h) (by assumption) (Or.inl ⟨by rfl, ?_⟩) ?_
          rotate_left 1
          · intro w' hSw
            have cF := hc w' hSw
            have cK := hck w' hSw
            have cV := hcv w' hSw
            go_simp
            first | done | with_reducible rfl
          simp only [Act.put, List.setIfInBounds_toArray, List.set_cons_zero, List.set_cons_succ]
          refine wpAnyK_takeD (i := 10) (v := ?_) (some 181) rfl rfl (by kernel_rfl) (by kernel_rfl) (by kernel_rfl) (by kernel_rfl) (by decide) (fun _ _ _ h => h) (by assumption) (Or.inl ⟨by rfl, ?_⟩) ?_
          rotate_left 1
          · intro w' hSw
            have cF := hc w' hSw
            have cK := hck w' hSw
            have cV := hcv w' hSw
            go_simp
            first | done | with_reducible rfl
          simp only [Act.put, List.setIfInBounds_toArray, List.set_cons_zero, List.set_cons_succ]
          refine wpAnyK_takeD (i := 11) (v := ?_) (some 182) rfl rfl (by kernel_rfl) (by kernel_rfl) (by kernel_rfl) (by kernel_rfl) (by decide) (fun _ _ _ h => h) (by assumption) (Or.inl ⟨by rfl, ?_⟩) ?_
          rotate_left 1
          · intro w' hSw
            have cF := hc w' hSw
            have cK := hck w' hSw
            have cV := hcv w' hSw
            go_simp
            first | done | with_reducible rfl
          simp only [Act.put, List.setIfInBounds_toArray, List.set_cons_zero, List.set_cons_succ]
          refine wpAnyK_takeD (i := 12) (v := ?_) (some 183) rfl rfl (by kernel_rfl) (by kernel_rfl) (by kernel_rfl) (by kernel_rfl) (by decide) (fun _ _ _ h => h) (by assumption) (Or.inl ⟨by rfl, ?_⟩) ?_
          rotate_left 1
          · intro w' hSw
            have cF := hc w' hSw
            have cK := hck w' hSw
            have cV := hcv w' hSw
            go_simp
            first | done | with_reducible rfl
          simp only [Act.put, List.setIfInBounds_toArray, List.set_cons_zero, List.set_cons_succ]
          refine wpAnyK_takeD (i := 13) (v := ?_) (some 184) rfl rfl (by kernel_rfl) (by kernel_rfl) (by kernel_rfl) (by kernel_rfl) (by decide) (fun _ _ _ h => h) (by assumption) (Or.inl ⟨by rfl, ?_⟩) ?_
          rotate_left 1
          · intro w' hSw
            have cF := hc w' hSw
            have cK := hck w' hSw
            have cV := hcv w' hSw
            go_simp
            first | done | with_reducible rfl
          simp only [Act.put, List.setIfInBounds_toArray, List.set_cons_zero, List.set_cons_succ]
          refine wpAnyK_takeD (i := 16) (v := ?_) (some 187) rfl rfl (by kernel_rfl) (by kernel_rfl) (by kernel_rfl) (by kernel_rfl) (by decide) (fun _ _ _ h => h) (by assumption) (Or.inl ⟨by rfl, ?_⟩) ?_
          rotate_left 1
          · intro w' hSw
            have cF := hc w' hSw
            have cK := hck w' hSw
            have cV := hcv w' hSw
            go_simp
            first | done | with_reducible rfl
          simp only [Act.put, List.setIfInBounds_toArray, List.set_cons_zero, List.set_cons_succ]
          refine wpAnyK_takeD (i := 17) (v := ?_) (some 188) rfl rfl (by kernel_rfl) (by kernel_rfl) (by kernel_rfl) (by kernel_rfl) (by decide) (fun _ _ _ h => h) (by assumption) (Or.inl ⟨by rfl, ?_⟩) ?_
          rotate_left 1
          · intro w' hSw
            have cF := hc w' hSw
            have cK := hck w' hSw
            have cV := hcv w' hSw
            go_simp
            first | done | with_reducible rfl
          simp only [Act.put, List.setIfInBounds_toArray, List.set_cons_zero, List.set_cons_succ]
          refine wpAnyK_takeD (i := 18) (v := ?_) (some 189) rfl rfl (by kernel_rfl) (by kernel_rfl) (by kernel_rfl) (by kernel_rfl) (by decide) (fun _ _ _ h => h) (by assumption) (Or.inl ⟨by rfl, ?_⟩) ?_
          rotate_left 1
          · intro w' hSw
            have cF := hc w' hSw
            have cK := hck w' hSw
            have cV := hcv w' hSw
            go_simp
            first | done | with_reducible rfl
          simp only [Act.put, List.setIfInBounds_toArray, List.set_cons_zero, List.set_cons_succ]
          refine wpAnyK_takeD (i := 19) (v := ?_) (some 190) rfl rfl (by kernel_rfl) (by kernel_rfl) (by kernel_rfl) (by kernel_rfl) (by decide) (fun _ _ _ h => h) (by assumption) (Or.inl ⟨by rfl, ?_⟩) ?_
          rotate_left 1
          · intro w' hSw
            have cF := hc w' hSw
            have cK := hck w' hSw
            have cV := hcv w' hSw
            go_simp
            first | done | with_reducible rfl
          simp only [Act.put, List.setIfInBounds_toArray, List.set_cons_zero, List.set_cons_succ]
          refine wpAnyK_takeD (i := 20) (v := ?_) (some 191) rfl rfl (by kernel_rfl) (by kernel_rfl) (by kernel_rfl) (by kernel_rfl) (by decide) (fun _ _ _ h => h) (by assumption) (Or.inl ⟨by rfl, ?_⟩) ?_
          rotate_left 1
          · intro w' hSw
            have cF := hc w' hSw
            have cK := hck w' hSw
            have cV := hcv w' hSw
            go_simp
            first | done | with_reducible rfl
          simp only [Act.put, List.setIfInBounds_toArray, List.set_cons_zero, List.set_cons_succ]
          refine wpAnyK_takeD (i := 21) (v := ?_) (some 192) rfl rfl (by kernel_rfl) (by kernel_rfl) (by kernel_rfl) (by kernel_rfl) (by decide) (fun _ _ _ h => h) (by assumption) (Or.inl ⟨by rfl, ?_⟩) ?_
          rotate_left 1
          · intro w' hSw
            have cF := hc w' hSw
            have cK := hck w' hSw
            have cV := hcv w' hSw
            go_simp
            first | done | with_reducible rfl
          simp only [Act.put, List.setIfInBounds_toArray, List.set_cons_zero, List.set_cons_succ]
          refine wpAnyK_ready (rs := [1, 14]) (by kernel_rfl) (by simp) ?_
          refine AllReadyK.cons rfl (fun K' hK => ?_) ?_
          · go_simp
            have bw6 := hbd.trans ((belowNew w5 (.cells #[] 94)).mono hbd.size)
            have hOw6 : (w5.alloc (.cells #[] 94)).ownsRow w4.heap.size 94 valK.n (.slice (some ⟨w5.heap.size, 0, none⟩) 0 0) 0 [] := World.ownsRow_made w5 #[] 0 hbd.size (by unfold maxLen; omega) (by simp)
            have hsw6 : w5.heap.size < (w5.alloc (.cells #[] 94)).heap.size := by rw [alloc_size]; omega
            obtain ⟨w6, hww6⟩ : ∃ q, w5.alloc (.cells #[] 94) = q := ⟨_, rfl⟩
            rw [hww6] at bw6 hOw6 hsw6 ⊢
            refine hK.out _ _ (fun _ => bw6) ?_
            clear hK K' hww6
            refine wpAnyK_ready (rs := [8, 14]) (by kernel_rfl) (by simp) ?_
            refine AllReadyK.consD (some 179) rfl rfl (fun K' hK => ?_) ?_
            · refine step_ownR (K := valK) w6 (by rfl) _ _ 88 (by rfl) w4.heap.size 94 i0 _ 32 Tryz.underlying88 hi0 hz0 hz1 hz2 hz3 _ _ _ _ _ (by rfl) hOw6 _ _ _ hTl (Nat.zero_add _) (by rfl) (hrT _ bw6) (fun _ => rfl) m1 m2 bw6.size ?_
              intro aw7 cw7 w7 hOw7 hkw7
              have bw7 := bw6.trans (Kept.below hkw7 bw6.size (fun k hk => (hOw6.lt k hk).1))
              refine hK.out _ _ (fun _ => bw7) ?_
              clear hK K' hkw7
              simp only [Act.put, List.setIfInBounds_toArray, List.set_cons_zero, List.set_cons_succ]
              refine wpAnyK_ready (rs := [14]) (by kernel_rfl) (by simp) ?_
              refine AllReadyK.cons rfl (fun K' hK => ?_) ?_
              · go_simp
                have bw8 := bw7.trans ((belowNew w7 (.cells #[.string x.d.key, .string x.d.val] 94)).mono bw7.size)
                have hRw8 := valOne w7 x.d.key x.d.val
                have hsw8 : w7.heap.size < (w7.alloc (.cells #[.string x.d.key, .string x.d.val] 94)).heap.size := by rw [alloc_size]; omega
                have hOw8 := own_belowT hOw7 (belowNew w7 (.cells #[.string x.d.key, .string x.d.val] 94))
                obtain ⟨w8, hww8⟩ : ∃ q, w7.alloc (.cells #[.string x.d.key, .string x.d.val] 94) = q := ⟨_, rfl⟩
                rw [hww8] at bw8 hRw8 hsw8 hOw8 ⊢
                refine hK.out _ _ (fun _ => bw8) ?_
                clear hK K' hww8
                refine wpAnyK_ready (rs := [15]) (by kernel_rfl) (by simp) ?_
                refine AllReadyK.consD (some 186) rfl rfl (fun K' hK => ?_) ?_
                · refine step_ownR (K := valK) w8 (by rfl) _ _ 88 (by rfl) w4.heap.size 94 i0 _ 32 Tryz.underlying88 hi0 hz0 hz1 hz2 hz3 _ _ _ _ _ (by rfl) hOw8 _ _ _ rfl rfl (by rfl) hRw8 (fun h => by cases h) m3 m4 bw8.size ?_
                  intro aw9 cw9 w9 hOw9 hkw9
                  have bw9 := bw8.trans (Kept.below hkw9 bw8.size (fun k hk => (hOw8.lt k hk).1))
                  refine hK.out _ _ (fun _ => bw9) ?_
                  clear hK K' hkw9
                  simp only [Act.put, List.setIfInBounds_toArray, List.set_cons_zero, List.set_cons_succ]
                  refine wpAnyK_ready (rs := [22]) (by kernel_rfl) (by simp) ?_
                  refine AllReadyK.consD (some 193) rfl rfl (fun K' hK => ?_) ?_
                  · refine step_ownR (K := valK) w9 (by rfl) _ _ 88 (by rfl) w4.heap.size 94 i0 _ 32 Tryz.underlying88 hi0 hz0 hz1 hz2 hz3 _ _ _ _ _ (by rfl) hOw9 _ _ _ hDl rfl (by rfl) (hrD _ bw9) (fun _ => rfl) m5 m6 bw9.size ?_
                    intro aw10 cw10 w10 hOw10 hkw10
                    have bw10 := bw9.trans (Kept.below hkw10 bw9.size (fun k hk => (hOw9.lt k hk).1))
                    refine hK.out _ _ (fun _ => bw10) ?_
                    clear hK K' hkw10
                    simp only [Act.put, List.setIfInBounds_toArray, List.set_cons_zero, List.set_cons_succ]
                    refine wpAnyK_ready (rs := [23]) (by kernel_rfl) (by simp) ?_
                    refine AllReadyK.cons rfl (fun K' hK => ?_) AllReadyK.nil
                    go_simp
                    refine hK.out _ _ (fun _ => bw10) ?_
                    clear hK K'
                    refine wpAnyK_ready (rs := [24]) (by kernel_rfl) (by simp) ?_
                    refine AllReadyK.cons rfl (fun K' hK => ?_) AllReadyK.nil
                    go_simp
                    refine hK.out _ _ (fun _ => bw10) ?_
                    clear hK K'
                    refine wpAnyK_ready (rs := [25]) (by kernel_rfl) (by simp) ?_
                    refine AllReadyK.cons rfl (fun K' hK => ?_) AllReadyK.nil
                    have cF := hc w10 bw10
                    have fF := (hbox.below bw10 hbox.lt).frozen 1
                    go_simp
                    have hq := KQ.joined (K := valK) (T := 94) (lo := lo) (fun _ _ h => h.elim) (fun _ => trivial) hOw10 HL.out HN.out
                    obtain ⟨hn1, hn2⟩ := hI.st.newV bw10 hq
                    have fin := hset.out _ _ _ (hI.newV hn1 (fun k e => Or.inr (hq.lt k e).1) hn2) (HL.out.trans (hnew.out hno.out))
                    refine hK.out _ _ (fun h => absurd rfl h) ?_
                    clear hK K'
                    refine wpAnyK_done (by kernel_rfl) ?_ _
                    go_wp2
                    go_ret
                    exact ⟨rfl, fin⟩
                  exact AllReadyK.nil
                exact AllReadyK.nil
              exact AllReadyK.nil
            refine AllReadyK.cons rfl (fun K' hK => ?_) ?_
            · go_simp
              have bw11 := bw6.trans ((belowNew w6 (.cells #[.string x.d.key, .string x.d.val] 94)).mono bw6.size)
              have hRw11 := valOne w6 x.d.key x.d.val
              have hsw11 : w6.heap.size < (w6.alloc (.cells #[.string x.d.key, .string x.d.val] 94)).heap.size := by rw [alloc_size]; omega
              have hOw11 := own_belowT hOw6 (belowNew w6 (.cells #[.string x.d.key, .string x.d.val] 94))
              obtain ⟨w11, hww11⟩ : ∃ q, w6.alloc (.cells #[.string x.d.key, .string x.d.val] 94) = q := ⟨_, rfl⟩
              rw [hww11] at bw11 hRw11 hsw11 hOw11 ⊢
              refine hK.out _ _ (fun _ => bw11) ?_
              clear hK K' hww11
              refine wpAnyK_ready (rs := [8]) (by kernel_rfl) (by simp) ?_
              refine AllReadyK.consD (some 179) rfl rfl (fun K' hK => ?_) ?_
              · refine step_ownR (K := valK) w11 (by rfl) _ _ 88 (by rfl) w4.heap.size 94 i0 _ 32 Tryz.underlying88 hi0 hz0 hz1 hz2 hz3 _ _ _ _ _ (by rfl) hOw11 _ _ _ hTl (Nat.zero_add _) (by rfl) (hrT _ bw11) (fun _ => rfl) m1 m2 bw11.size ?_
                intro aw12 cw12 w12 hOw12 hkw12
                have bw12 := bw11.trans (Kept.below hkw12 bw11.size (fun k hk => (hOw11.lt k hk).1))
                have hRw12 := hRw11.kept hkw12 (fun k hk e => by
                  rcases hk with ⟨_, off', e'⟩ | ⟨_, _, f'⟩
                  · simp at e'
                    simp [Value.ownBlock] at e
                    omega
                  · exact f'.elim)
                refine hK.out _ _ (fun _ => bw12) ?_
                clear hK K' hkw12
                simp only [Act.put, List.setIfInBounds_toArray, List.set_cons_zero, List.set_cons_succ]
                refine wpAnyK_ready (rs := [15]) (by kernel_rfl) (by simp) ?_
                refine AllReadyK.consD (some 186) rfl rfl (fun K' hK => ?_) ?_
                · refine step_ownR (K := valK) w12 (by rfl) _ _ 88 (by rfl) w4.heap.size 94 i0 _ 32 Tryz.underlying88 hi0 hz0 hz1 hz2 hz3 _ _ _ _ _ (by rfl) hOw12 _ _ _ rfl rfl (by rfl) hRw12 (fun h => by cases h) m3 m4 bw12.size ?_
                  intro aw13 cw13 w13 hOw13 hkw13
                  have bw13 := bw12.trans (Kept.below hkw13 bw12.size (fun k hk => (hOw12.lt k hk).1))
                  refine hK.out _ _ (fun _ => bw13) ?_
                  clear hK K' hkw13
                  simp only [Act.put, List.setIfInBounds_toArray, List.set_cons_zero, List.set_cons_succ]
                  refine wpAnyK_ready (rs := [22]) (by kernel_rfl) (by simp) ?_
                  refine AllReadyK.consD (some 193) rfl rfl (fun K' hK => ?_) ?_
                  · refine step_ownR (K := valK) w13 (by rfl) _ _ 88 (by rfl) w4.heap.size 94 i0 _ 32 Tryz.underlying88 hi0 hz0 hz1 hz2 hz3 _ _ _ _ _ (by rfl) hOw13 _ _ _ hDl rfl (by rfl) (hrD _ bw13) (fun _ => rfl) m5 m6 bw13.size ?_
                    intro aw14 cw14 w14 hOw14 hkw14
                    have bw14 := bw13.trans (Kept.below hkw14 bw13.size (fun k hk => (hOw13.lt k hk).1))
                    refine hK.out _ _ (fun _ => bw14) ?_
                    clear hK K' hkw14
                    simp only [Act.put, List.setIfInBounds_toArray, List.set_cons_zero, List.set_cons_succ]
                    refine wpAnyK_ready (rs := [23]) (by kernel_rfl) (by simp) ?_
                    refine AllReadyK.cons rfl (fun K' hK => ?_) AllReadyK.nil
                    go_simp
                    refine hK.out _ _ (fun _ => bw14) ?_
                    clear hK K'
                    refine wpAnyK_ready (rs := [24]) (by kernel_rfl) (by simp) ?_
                    refine AllReadyK.cons rfl (fun K' hK => ?_) AllReadyK.nil
                    go_simp
                    refine hK.out _ _ (fun _ => bw14) ?_
                    clear hK K'
                    refine wpAnyK_ready (rs := [25]) (by kernel_rfl) (by simp) ?_
                    refine AllReadyK.cons rfl (fun K' hK => ?_) AllReadyK.nil
                    have cF := hc w14 bw14
                    have fF := (hbox.below bw14 hbox.lt).frozen 1
                    go_simp
                    have hq := KQ.joined (K := valK) (T := 94) (lo := lo) (fun _ _ h => h.elim) (fun _ => trivial) hOw14 HL.out HN.out
                    obtain ⟨hn1, hn2⟩ := hI.st.newV bw14 hq
                    have fin := hset.out _ _ _ (hI.newV hn1 (fun k e => Or.inr (hq.lt k e).1) hn2) (HL.out.trans (hnew.out hno.out))
                    refine hK.out _ _ (fun h => absurd rfl h) ?_
                    clear hK K'
                    refine wpAnyK_done (by kernel_rfl) ?_ _
                    go_wp2
                    go_ret
                    exact ⟨rfl, fin⟩
                  exact AllReadyK.nil
                exact AllReadyK.nil
              exact AllReadyK.nil
            exact AllReadyK.nil
          refine AllReadyK.cons rfl (fun K' hK => ?_) ?_
          · go_simp
            have bw15 := hbd.trans ((belowNew w5 (.cells #[.string x.d.key, .string x.d.val] 94)).mono hbd.size)
            have hRw15 := valOne w5 x.d.key x.d.val
            have hsw15 : w5.heap.size < (w5.alloc (.cells #[.string x.d.key, .string x.d.val] 94)).heap.size := by rw [alloc_size]; omega
            obtain ⟨w15, hww15⟩ : ∃ q, w5.alloc (.cells #[.string x.d.key, .string x.d.val] 94) = q := ⟨_, rfl⟩
            rw [hww15] at bw15 hRw15 hsw15 ⊢
            refine hK.out _ _ (fun _ => bw15) ?_
            clear hK K' hww15
            refine wpAnyK_ready (rs := [1]) (by kernel_rfl) (by simp) ?_
            refine AllReadyK.cons rfl (fun K' hK => ?_) ?_
            · go_simp
              have bw16 := bw15.trans ((belowNew w15 (.cells #[] 94)).mono bw15.size)
              have hOw16 : (w15.alloc (.cells #[] 94)).ownsRow w4.heap.size 94 valK.n (.slice (some ⟨w15.heap.size, 0, none⟩) 0 0) 0 [] := World.ownsRow_made w15 #[] 0 bw15.size (by unfold maxLen; omega) (by simp)
              have hsw16 : w15.heap.size < (w15.alloc (.cells #[] 94)).heap.size := by rw [alloc_size]; omega
              have hRw16 := hRw15.below (belowNew w15 (.cells #[] 94))
              obtain ⟨w16, hww16⟩ : ∃ q, w15.alloc (.cells #[] 94) = q := ⟨_, rfl⟩
              rw [hww16] at bw16 hOw16 hsw16 hRw16 ⊢
              refine hK.out _ _ (fun _ => bw16) ?_
              clear hK K' hww16
              refine wpAnyK_ready (rs := [8]) (by kernel_rfl) (by simp) ?_
              refine AllReadyK.consD (some 179) rfl rfl (fun K' hK => ?_) ?_
              · refine step_ownR (K := valK) w16 (by rfl) _ _ 88 (by rfl) w4.heap.size 94 i0 _ 32 Tryz.underlying88 hi0 hz0 hz1 hz2 hz3 _ _ _ _ _ (by rfl) hOw16 _ _ _ hTl (Nat.zero_add _) (by rfl) (hrT _ bw16) (fun _ => rfl) m1 m2 bw16.size ?_
                intro aw17 cw17 w17 hOw17 hkw17
                have bw17 := bw16.trans (Kept.below hkw17 bw16.size (fun k hk => (hOw16.lt k hk).1))
                have hRw17 := hRw16.kept hkw17 (fun k hk e => by
                  rcases hk with ⟨_, off', e'⟩ | ⟨_, _, f'⟩
                  · simp at e'
                    simp [Value.ownBlock] at e
                    omega
                  · exact f'.elim)
                refine hK.out _ _ (fun _ => bw17) ?_
                clear hK K' hkw17
                simp only [Act.put, List.setIfInBounds_toArray, List.set_cons_zero, List.set_cons_succ]
                refine wpAnyK_ready (rs := [15]) (by kernel_rfl) (by simp) ?_
                refine AllReadyK.consD (some 186) rfl rfl (fun K' hK => ?_) ?_
                · refine step_ownR (K := valK) w17 (by rfl) _ _ 88 (by rfl) w4.heap.size 94 i0 _ 32 Tryz.underlying88 hi0 hz0 hz1 hz2 hz3 _ _ _ _ _ (by rfl) hOw17 _ _ _ rfl rfl (by rfl) hRw17 (fun h => by cases h) m3 m4 bw17.size ?_
                  intro aw18 cw18 w18 hOw18 hkw18
                  have bw18 := bw17.trans (Kept.below hkw18 bw17.size (fun k hk => (hOw17.lt k hk).1))
                  refine hK.out _ _ (fun _ => bw18) ?_
                  clear hK K' hkw18
                  simp only [Act.put, List.setIfInBounds_toArray, List.set_cons_zero, List.set_cons_succ]
                  refine wpAnyK_ready (rs := [22]) (by kernel_rfl) (by simp) ?_
                  refine AllReadyK.consD (some 193) rfl rfl (fun K' hK => ?_) ?_
                  · refine step_ownR (K := valK) w18 (by rfl) _ _ 88 (by rfl) w4.heap.size 94 i0 _ 32 Tryz.underlying88 hi0 hz0 hz1 hz2 hz3 _ _ _ _ _ (by rfl) hOw18 _ _ _ hDl rfl (by rfl) (hrD _ bw18) (fun _ => rfl) m5 m6 bw18.size ?_
                    intro aw19 cw19 w19 hOw19 hkw19
                    have bw19 := bw18.trans (Kept.below hkw19 bw18.size (fun k hk => (hOw18.lt k hk).1))
                    refine hK.out _ _ (fun _ => bw19) ?_
                    clear hK K' hkw19
                    simp only [Act.put, List.setIfInBounds_toArray, List.set_cons_zero, List.set_cons_succ]
                    refine wpAnyK_ready (rs := [23]) (by kernel_rfl) (by simp) ?_
                    refine AllReadyK.cons rfl (fun K' hK => ?_) AllReadyK.nil
                    go_simp
                    refine hK.out _ _ (fun _ => bw19) ?_
                    clear hK K'
                    refine wpAnyK_ready (rs := [24]) (by kernel_rfl) (by simp) ?_
                    refine AllReadyK.cons rfl (fun K' hK => ?_) AllReadyK.nil
                    go_simp
                    refine hK.out _ _ (fun _ => bw19) ?_
                    clear hK K'
                    refine wpAnyK_ready (rs := [25]) (by kernel_rfl) (by simp) ?_
                    refine AllReadyK.cons rfl (fun K' hK => ?_) AllReadyK.nil
                    have cF := hc w19 bw19
                    have fF := (hbox.below bw19 hbox.lt).frozen 1
                    go_simp
                    have hq := KQ.joined (K := valK) (T := 94) (lo := lo) (fun _ _ h => h.elim) (fun _ => trivial) hOw19 HL.out HN.out
                    obtain ⟨hn1, hn2⟩ := hI.st.newV bw19 hq
                    have fin := hset.out _ _ _ (hI.newV hn1 (fun k e => Or.inr (hq.lt k e).1) hn2) (HL.out.trans (hnew.out hno.out))
                    refine hK.out _ _ (fun h => absurd rfl h) ?_
                    clear hK K'
                    refine wpAnyK_done (by kernel_rfl) ?_ _
                    go_wp2
                    go_ret
                    exact ⟨rfl, fin⟩
                  exact AllReadyK.nil
                exact AllReadyK.nil
              exact AllReadyK.nil
            exact AllReadyK.nil
          exact AllReadyK.nil
        | some ad =>
          rcases (by by_cases hcp : vc = k; exact Or.inl hcp; exact Or.inr hcp : vc = k ∨ ¬ vc = k) with hcp | hcp
          · have hci := eq_true hcp
            have hdn : V.drop k = [] := List.drop_of_length_le (by have := hil2.out; omega)
            have hrD : ∀ U, Below w4.heap.size w4 U → RowAt valK U (some ad) (V.drop k) := fun U _ => by rw [hdn]; exact nil_row _ _
            have hnD : Hid (some ad = none → vc - k = 0) := fun h => by cases h
            clear hdn hcp
            go_wp2_with fail
            obtain ⟨i0, z0, hi0, hz0, hz1, hz2, hz3⟩ := valInfo
            have hc := fun w' (hb : Below w4.heap.size w4 w') => (hbx.below hb hbx.lt).cell (i := 1) rfl
            have hck := fun w' (hb : Below w4.heap.size w4 w') => (hI.bxA.below hb hI.bxA.lt).cell (i := 5) rfl
            have hcv := fun w' (hb : Below w4.heap.size w4 w') => (hI.bxA.below hb hI.bxA.lt).cell (i := 6) rfl
            have hbox := hbx
            have j1 : (0 : Int) ≤ (k : Int) := by omega
            have j2 : (k : Int) ≤ (vc : Int) := by omega
            have j3 : (k : Int) ≤ (V.length : Int) := by omega
            have hTl : (V.take k).length = k := by rw [List.length_take]; omega
            have hDl : (V.drop k).length = V.length - k := List.length_drop
            have hN3 : Hid (k + 1 + (V.length - k) = V.length + 1) := by show k + 1 + (V.length - k) = V.length + 1; omega
            have hrT := fun U (hb : Below w4.heap.size w4 U) => (hRow.below hb).take k
            have hnT : Hid _ := hvnil0.out
            have m1 : k ≤ maxLen := by unfold maxLen; omega
            have m2 : k * 32 ≤ 140737488355328 := by omega
            have m3 : k + 1 ≤ maxLen := by unfold maxLen; omega
            have m4 : (k + 1) * 32 ≤ 140737488355328 := by omega
            have m5 : V.length + 1 ≤ maxLen := by unfold maxLen; omega
            have m6 : (V.length + 1) * 32 ≤ 140737488355328 := by omega
            obtain ⟨lo, hlo⟩ : ∃ lo, lo = V.take k ++ (x.d.key, x.d.val) :: V.drop k := ⟨_, rfl⟩
            have HL : Hid (lo = V.take k ++ (x.d.key, x.d.val) :: V.drop k) := hlo
            have HN : Hid (V.length + 1 = lo.length) := by
              show V.length + 1 = lo.length
              rw [hlo, List.length_append, List.length_cons, hTl, hDl]
              omega
            clear hlo
            have hbd : Below w4.heap.size w4 w4.drew := below_drewN (Below.refl _ w4) 1
            go_wp2_with fail
            refine wp_region_K (fun w' => Below w4.heap.size w4 w') 25 (by kernel_rfl) ?_
            generalize w4.drew = w5 at hbd ⊢
            refine wpAnyK_takeD (i := 0) (v := ?_) (some 171) rfl rfl (by kernel_rfl) (by kernel_rfl) (by kernel_rfl) (by kernel_rfl) (by decide) (fun _ _ _ h => h) (by assumption) (Or.inl ⟨by rfl, ?_⟩) ?_
            rotate_left 1
            · intro w' hSw
              have cF := hc w' hSw
              have cK := hck w' hSw
              have cV := hcv w' hSw
              go_simp
              first | done | with_reducible rfl
            simp only [Act.put, List.setIfInBounds_toArray, List.set_cons_zero, List.set_cons_succ]
            refine wpAnyK_takeD (i := 2) (v := ?_) (some 173) rfl rfl (by kernel_rfl) (by kernel_rfl) (by kernel_rfl) (by kernel_rfl) (by decide) (fun _ _ _ h => h) (by assumption) (Or.inl ⟨by rfl, ?_⟩) ?_
            rotate_left 1
            · intro w' hSw
              have cF := hc w' hSw
              have cK := hck w' hSw
              have cV := hcv w' hSw
              go_simp
              first | done | with_reducible rfl
            simp only [Act.put, List.setIfInBounds_toArray, List.set_cons_zero, List.set_cons_succ]
            refine wpAnyK_takeD (i := 3) (v := ?_) (some 174) rfl rfl (by kernel_rfl) (by kernel_rfl) (by kernel_rfl) (by kernel_rfl) (by decide) (fun _ _ _ h => h) (by assumption) (Or.inl ⟨by rfl, ?_⟩) ?_
            rotate_left 1
            · intro w' hSw
              have cF := hc w' hSw
              have cK := hck w' hSw
              have cV := hcv w' hSw
              go_simp
              first | done | with_reducible rfl
            simp only [Act.put, List.setIfInBounds_toArray, List.set_cons_zero, List.set_cons_succ]
            refine wpAnyK_takeD (i := 4) (v := ?_) (some 175) rfl rfl (by kernel_rfl) (by kernel_rfl) (by kernel_rfl) (by kernel_rfl) (by decide) (fun _ _ _ h => h) (by assumption) (Or.inl ⟨by rfl, ?_⟩) ?_
            rotate_left 1
            · intro w' hSw
              have cF := hc w' hSw
              have cK := hck w' hSw
              have cV := hcv w' hSw
              go_simp
              first | done | with_reducible rfl
            simp only [Act.put, List.setIfInBounds_toArray, List.set_cons_zero, List.set_cons_succ]
            refine wpAnyK_takeD (i := 5) (v := ?_) (some 176) rfl rfl (by kernel_rfl) (by kernel_rfl) (by kernel_rfl) (by kernel_rfl) (by decide) (fun _ _ _ h => h) (by assumption) (Or.inl ⟨by rfl, ?_⟩) ?_
            rotate_left 1
            · intro w' hSw
              have cF := hc w' hSw
              have cK := hck w' hSw
              have cV := hcv w' hSw
              go_simp
              first | done | with_reducible rfl
            simp only [Act.put, List.setIfInBounds_toArray, List.set_cons_zero, List.set_cons_succ]
            refine wpAnyK_takeD (i := 6) (v := ?_) (some 177) rfl rfl (by kernel_rfl) (by kernel_rfl) (by kernel_rfl) (by kernel_rfl) (by decide) (fun _ _ _ h => h) (by assumption) (Or.inl ⟨by rfl, ?_⟩) ?_
            rotate_left 1
            · intro w' hSw
              have cF := hc w' hSw
              have cK := hck w' hSw
              have cV := hcv w' hSw
              go_simp
              first | done | with_reducible rfl
            simp only [Act.put, List.setIfInBounds_toArray, List.set_cons_zero, List.set_cons_succ]
            refine wpAnyK_takeD (i := 7) (v := ?_) (some 178) rfl rfl (by kernel_rfl) (by kernel_rfl) (by kernel_rfl) (by kernel_rfl) (by decide) (fun _ _ _ h => h) (by assumption) (Or.inl ⟨by rfl, ?_⟩) ?_
            rotate_left 1
            · intro w' hSw
              have cF := hc w' hSw
              have cK := hck w' hSw
              have cV := hcv w' hSw
              go_simp
              first | done | with_reducible rfl
            simp only [Act.put, List.setIfInBounds_toArray, List.set_cons_zero, List.set_cons_succ]
            refine wpAnyK_takeD (i := 9) (v := ?_) (some 180) rfl rfl (by kernel_rfl) (by kernel_rfl) (by kernel_rfl) (by kernel_rfl) (by decide) (fun _ _ _ h => h) (by assumption) (Or.inl ⟨by rfl, ?_⟩) ?_
            rotate_left 1
            · intro w' hSw
              have cF := hc w' hSw
              have cK := hck w' hSw
              have cV := hcv w' hSw
              go_simp
              first | done | with_reducible rfl
            simp only [Act.put, List.setIfInBounds_toArray, List.set_cons_zero, List.set_cons_succ]
            refine wpAnyK_takeD (i := 10) (v := ?_) (some 181) rfl rfl (by kernel_rfl) (by kernel_rfl) (by kernel_rfl) (by kernel_rfl) (by decide) (fun _ _ _ h => h) (by assumption) (Or.inl ⟨by rfl, ?_⟩) ?_
            rotate_left 1
            · intro w' hSw
              have cF := hc w' hSw
              have cK := hck w' hSw
              have cV := hcv w' hSw
              go_simp
              first | done | with_reducible rfl
            simp only [Act.put, List.setIfInBounds_toArray, List.set_cons_zero, List.set_cons_succ]
            refine wpAnyK_takeD (i := 11) (v := ?_) (some 182) rfl rfl (by kernel_rfl) (by kernel_rfl) (by kernel_rfl) (by kernel_rfl) (by decide) (fun _ _ _ h => h) (by assumption) (Or.inl ⟨by rfl, ?_⟩) ?_
            rotate_left 1
            · intro w' hSw
              have cF := hc w' hSw
              have cK := hck w' hSw
              have cV := hcv w' hSw
              go_simp
              first | done | with_reducible rfl
            simp only [Act.put, List.setIfInBounds_toArray, List.set_cons_zero, List.set_cons_succ]
            refine wpAnyK_takeD (i := 12) (v := ?_) (some 183) rfl rfl (by kernel_rfl) (by kernel_rfl) (by kernel_rfl) (by kernel_rfl) (by decide) (fun _ _ _ h => h) (by assumption) (Or.inl ⟨by rfl, ?_⟩) ?_
            rotate_left 1
            · intro w' hSw
              have cF := hc w' hSw
              have cK := hck w' hSw
              have cV := hcv w' hSw
              go_simp
              first | done | with_reducible rfl
            simp only [Act.put, List.setIfInBounds_toArray, List.set_cons_zero, List.set_cons_succ]
            refine wpAnyK_takeD (i := 13) (v := ?_) (some 184) rfl rfl (by kernel_rfl) (by kernel_rfl) (by kernel_rfl) (by kernel_rfl) (by decide) (fun _ _ _ h => h) (by assumption) (Or.inl ⟨by rfl, ?_⟩) ?_
            rotate_left 1
            · intro w' hSw
              have cF := hc w' hSw
              have cK := hck w' hSw
              have cV := hcv w' hSw
              go_simp
              first | done | with_reducible rfl
            simp only [Act.put, List.setIfInBounds_toArray, List.set_cons_zero, List.set_cons_succ]
            refine wpAnyK_takeD (i := 16) (v := ?_) (some 187) rfl rfl (by kernel_rfl) (by kernel_rfl) (by kernel_rfl) (by kernel_rfl) (by decide) (fun _ _ _ h => h) (by assumption) (Or.inl ⟨by rfl, ?_⟩) ?_
            rotate_left 1
            · intro w' hSw
              have cF := hc w' hSw
              have cK := hck w' hSw
              have cV := hcv w' hSw
              go_simp
              first | done | with_reducible rfl
            simp only [Act.put, List.setIfInBounds_toArray, List.set_cons_zero, List.set_cons_succ]
            refine wpAnyK_takeD (i := 17) (v := ?_) (some 188) rfl rfl (by kernel_rfl) (by kernel_rfl) (by kernel_rfl) (by kernel_rfl) (by decide) (fun _ _ _ h => h) (by assumption) (Or.inl ⟨by rfl, ?_⟩) ?_
            rotate_left 1
            · intro w' hSw
              have cF := hc w' hSw
              have cK := hck w' hSw
              have cV := hcv w' hSw
              go_simp
              first | done | with_reducible rfl
            simp only [Act.put, List.setIfInBounds_toArray, List.set_cons_zero, List.set_cons_succ]
            refine wpAnyK_takeD (i := 18) (v := ?_) (some 189) rfl rfl (by kernel_rfl) (by kernel_rfl) (by kernel_rfl) (by kernel_rfl) (by decide) (fun _ _ _ h => h) (by assumption) (Or.inl ⟨by rfl, ?_⟩) ?_
            rotate_left 1
            · intro w' hSw
              have cF := hc w' hSw
              have cK := hck w' hSw
              have cV := hcv w' hSw
              go_simp
              first | done | with_reducible rfl
            simp only [Act.put, List.setIfInBounds_toArray, List.set_cons_zero, List.set_cons_succ]
            refine wpAnyK_takeD (i := 19) (v := ?_) (some 190) rfl rfl (by kernel_rfl) (by kernel_rfl) (by kernel_rfl) (by kernel_rfl) (by decide) (fun _ _ _ h => h) (by assumption) (Or.inl ⟨by rfl, ?_⟩) ?_
            rotate_left 1
            · intro w' hSw
              have cF := hc w' hSw
              have cK := hck w' hSw
              have cV := hcv w' hSw
              go_simp
              first | done | with_reducible rfl
            simp only [Act.put, List.setIfInBounds_toArray, List.set_cons_zero, List.set_cons_succ]
            refine wpAnyK_takeD (i := 20) (v := ?_) (some 191) rfl rfl (by kernel_rfl) (by kernel_rfl) (by kernel_rfl) (by kernel_rfl) (by decide) (fun _ _ _ h => h) (by assumption) (Or.inl ⟨by rfl, ?_⟩) ?_
            rotate_left 1
            · intro w' hSw
              have cF := hc w' hSw
              have cK := hck w' hSw
              have cV := hcv w' hSw
              go_simp
              first | done | with_reducible rfl
            simp only [Act.put, List.setIfInBounds_toArray, List.set_cons_zero, List.set_cons_succ]
            refine wpAnyK_takeD (i := 21) (v := ?_) (some 192) rfl rfl (by kernel_rfl) (by kernel_rfl) (by kernel_rfl) (by kernel_rfl) (by decide) (fun _ _ _ h => h) (by assumption) (Or.inl ⟨by rfl, ?_⟩) ?_
            rotate_left 1
            · intro w' hSw
              have cF := hc w' hSw
              have cK := hck w' hSw
              have cV := hcv w' hSw
              go_simp
              first | done | with_reducible rfl
            simp only [Act.put, List.setIfInBounds_toArray, List.set_cons_zero, List.set_cons_succ]
            refine wpAnyK_ready (rs := [1, 14]) (by kernel_rfl) (by simp) ?_
            refine AllReadyK.cons rfl (fun K' hK => ?_) ?_
            · go_simp
              have bw6 := hbd.trans ((belowNew w5 (.cells #[] 94)).mono hbd.size)
              have hOw6 : (w5.alloc (.cells #[] 94)).ownsRow w4.heap.size 94 valK.n (.slice (some ⟨w5.heap.size, 0, none⟩) 0 0) 0 [] := World.ownsRow_made w5 #[] 0 hbd.size (by unfold maxLen; omega) (by simp)
              have hsw6 : w5.heap.size < (w5.alloc (.cells #[] 94)).heap.size := by rw [alloc_size]; omega
              obtain ⟨w6, hww6⟩ : ∃ q, w5.alloc (.cells #[] 94) = q := ⟨_, rfl⟩
              rw [hww6] at bw6 hOw6 hsw6 ⊢
              refine hK.out _ _ (fun _ => bw6) ?_
              clear hK K' hww6
              refine wpAnyK_ready (rs := [8, 14]) (by kernel_rfl) (by simp) ?_
              refine AllReadyK.consD (some 179) rfl rfl (fun K' hK => ?_) ?_
              · refine step_ownR (K := valK) w6 (by rfl) _ _ 88 (by rfl) w4.heap.size 94 i0 _ 32 Tryz.underlying88 hi0 hz0 hz1 hz2 hz3 _ _ _ _ _ (by rfl) hOw6 _ _ _ hTl (Nat.zero_add _) (by rfl) (hrT _ bw6) (fun e => hnT.out (by first | exact e | trivial)) m1 m2 bw6.size ?_
                intro aw7 cw7 w7 hOw7 hkw7
                have bw7 := bw6.trans (Kept.below hkw7 bw6.size (fun k hk => (hOw6.lt k hk).1))
                refine hK.out _ _ (fun _ => bw7) ?_
                clear hK K' hkw7
                simp only [Act.put, List.setIfInBounds_toArray, List.set_cons_zero, List.set_cons_succ]
                refine wpAnyK_ready (rs := [14]) (by kernel_rfl) (by simp) ?_
                refine AllReadyK.cons rfl (fun K' hK => ?_) ?_
                · go_simp
                  have bw8 := bw7.trans ((belowNew w7 (.cells #[.string x.d.key, .string x.d.val] 94)).mono bw7.size)
                  have hRw8 := valOne w7 x.d.key x.d.val
                  have hsw8 : w7.heap.size < (w7.alloc (.cells #[.string x.d.key, .string x.d.val] 94)).heap.size := by rw [alloc_size]; omega
                  have hOw8 := own_belowT hOw7 (belowNew w7 (.cells #[.string x.d.key, .string x.d.val] 94))
                  obtain ⟨w8, hww8⟩ : ∃ q, w7.alloc (.cells #[.string x.d.key, .string x.d.val] 94) = q := ⟨_, rfl⟩
                  rw [hww8] at bw8 hRw8 hsw8 hOw8 ⊢
                  refine hK.out _ _ (fun _ => bw8) ?_
                  clear hK K' hww8
                  refine wpAnyK_ready (rs := [15]) (by kernel_rfl) (by simp) ?_
                  refine AllReadyK.consD (some 186) rfl rfl (fun K' hK => ?_) ?_
                  · refine step_ownR (K := valK) w8 (by rfl) _ _ 88 (by rfl) w4.heap.size 94 i0 _ 32 Tryz.underlying88 hi0 hz0 hz1 hz2 hz3 _ _ _ _ _ (by rfl) hOw8 _ _ _ rfl rfl (by rfl) hRw8 (fun h => by cases h) m3 m4 bw8.size ?_
                    intro aw9 cw9 w9 hOw9 hkw9
                    have bw9 := bw8.trans (Kept.below hkw9 bw8.size (fun k hk => (hOw8.lt k hk).1))
                    refine hK.out _ _ (fun _ => bw9) ?_
                    clear hK K' hkw9
                    simp only [Act.put, List.setIfInBounds_toArray, List.set_cons_zero, List.set_cons_succ]
                    refine wpAnyK_ready (rs := [22]) (by kernel_rfl) (by simp) ?_
                    refine AllReadyK.consD (some 193) rfl rfl (fun K' hK => ?_) ?_
                    · refine step_ownR (K := valK) w9 (by rfl) _ _ 88 (by rfl) w4.heap.size 94 i0 _ 32 Tryz.underlying88 hi0 hz0 hz1 hz2 hz3 _ _ _ _ _ (by rfl) hOw9 _ _ _ hDl hN3.out (by rfl) (hrD _ bw9) (fun e => hnD.out (by first | exact e | trivial)) m5 m6 bw9.size ?_
                      intro aw10 cw10 w10 hOw10 hkw10
                      have bw10 := bw9.trans (Kept.below hkw10 bw9.size (fun k hk => (hOw9.lt k hk).1))
                      refine hK.out _ _ (fun _ => bw10) ?_
                      clear hK K' hkw10
                      simp only [Act.put, List.setIfInBounds_toArray, List.set_cons_zero, List.set_cons_succ]
                      refine wpAnyK_ready (rs := [23]) (by kernel_rfl) (by simp) ?_
                      refine AllReadyK.cons rfl (fun K' hK => ?_) AllReadyK.nil
                      go_simp
                      refine hK.out _ _ (fun _ => bw10) ?_
                      clear hK K'
                      refine wpAnyK_ready (rs := [24]) (by kernel_rfl) (by simp) ?_
                      refine AllReadyK.cons rfl (fun K' hK => ?_) AllReadyK.nil
                      go_simp
                      refine hK.out _ _ (fun _ => bw10) ?_
                      clear hK K'
                      refine wpAnyK_ready (rs := [25]) (by kernel_rfl) (by simp) ?_
                      refine AllReadyK.cons rfl (fun K' hK => ?_) AllReadyK.nil
                      have cF := hc w10 bw10
                      have fF := (hbox.below bw10 hbox.lt).frozen 1
                      go_simp
                      have hq := KQ.joined (K := valK) (T := 94) (lo := lo) (fun _ _ h => h.elim) (fun _ => trivial) hOw10 HL.out HN.out
                      obtain ⟨hn1, hn2⟩ := hI.st.newV bw10 hq
                      have fin := hset.out _ _ _ (hI.newV hn1 (fun k e => Or.inr (hq.lt k e).1) hn2) (HL.out.trans (hnew.out hno.out))
                      refine hK.out _ _ (fun h => absurd rfl h) ?_
                      clear hK K'
                      refine wpAnyK_done (by kernel_rfl) ?_ _
                      go_wp2
                      go_ret
                      exact ⟨rfl, fin⟩
                    exact AllReadyK.nil
                  exact AllReadyK.nil
                exact AllReadyK.nil
              refine AllReadyK.cons rfl (fun K' hK => ?_) ?_
              · go_simp
                have bw11 := bw6.trans ((belowNew w6 (.cells #[.string x.d.key, .string x.d.val] 94)).mono bw6.size)
                have hRw11 := valOne w6 x.d.key x.d.val
                have hsw11 : w6.heap.size < (w6.alloc (.cells #[.string x.d.key, .string x.d.val] 94)).heap.size := by rw [alloc_size]; omega
                have hOw11 := own_belowT hOw6 (belowNew w6 (.cells #[.string x.d.key, .string x.d.val] 94))
                obtain ⟨w11, hww11⟩ : ∃ q, w6.alloc (.cells #[.string x.d.key, .string x.d.val] 94) = q := ⟨_, rfl⟩
                rw [hww11] at bw11 hRw11 hsw11 hOw11 ⊢
                refine hK.out _ _ (fun _ => bw11) ?_
                clear hK K' hww11
                refine wpAnyK_ready (rs := [8]) (by kernel_rfl) (by simp) ?_
                refine AllReadyK.consD (some 179) rfl rfl (fun K' hK => ?_) ?_
                · refine step_ownR (K := valK) w11 (by rfl) _ _ 88 (by rfl) w4.heap.size 94 i0 _ 32 Tryz.underlying88 hi0 hz0 hz1 hz2 hz3 _ _ _ _ _ (by rfl) hOw11 _ _ _ hTl (Nat.zero_add _) (by rfl) (hrT _ bw11) (fun e => hnT.out (by first | exact e | trivial)) m1 m2 bw11.size ?_
                  intro aw12 cw12 w12 hOw12 hkw12
                  have bw12 := bw11.trans (Kept.below hkw12 bw11.size (fun k hk => (hOw11.lt k hk).1))
                  have hRw12 := hRw11.kept hkw12 (fun k hk e => by
                    rcases hk with ⟨_, off', e'⟩ | ⟨_, _, f'⟩
                    · simp at e'
                      simp [Value.ownBlock] at e
                      omega
                    · exact f'.elim)
                  refine hK.out _ _ (fun _ => bw12) ?_
                  clear hK K' hkw12
                  simp only [Act.put, List.setIfInBounds_toArray, List.set_cons_zero, List.set_cons_succ]
                  refine wpAnyK_ready (rs := [15]) (by kernel_rfl) (by simp) ?_
                  refine AllReadyK.consD (some 186) rfl rfl (fun K' hK => ?_) ?_
                  · refine step_ownR (K := valK) w12 (by rfl) _ _ 88 (by rfl) w4.heap.size 94 i0 _ 32 Tryz.underlying88 hi0 hz0 hz1 hz2 hz3 _ _ _ _ _ (by rfl) hOw12 _ _ _ rfl rfl (by rfl) hRw12 (fun h => by cases h) m3 m4 bw12.size ?_
                    intro aw13 cw13 w13 hOw13 hkw13
                    have bw13 := bw12.trans (Kept.below hkw13 bw12.size (fun k hk => (hOw12.lt k hk).1))
                    refine hK.out _ _ (fun _ => bw13) ?_
                    clear hK K' hkw13
                    simp only [Act.put, List.setIfInBounds_toArray, List.set_cons_zero, List.set_cons_succ]
                    refine wpAnyK_ready (rs := [22]) (by kernel_rfl) (by simp) ?_
                    refine AllReadyK.consD (some 193) rfl rfl (fun K' hK => ?_) ?_
                    · refine step_ownR (K := valK) w13 (by rfl) _ _ 88 (by rfl) w4.heap.size 94 i0 _ 32 Tryz.underlying88 hi0 hz0 hz1 hz2 hz3 _ _ _ _ _ (by rfl) hOw13 _ _ _ hDl hN3.out (by rfl) (hrD _ bw13) (fun e => hnD.out (by first | exact e | trivial)) m5 m6 bw13.size ?_
                      intro aw14 cw14 w14 hOw14 hkw14
                      have bw14 := bw13.trans (Kept.below hkw14 bw13.size (fun k hk => (hOw13.lt k hk).1))
                      refine hK.out _ _ (fun _ => bw14) ?_
                      clear hK K' hkw14
                      simp only [Act.put, List.setIfInBounds_toArray, List.set_cons_zero, List.set_cons_succ]
                      refine wpAnyK_ready (rs := [23]) (by kernel_rfl) (by simp) ?_
                      refine AllReadyK.cons rfl (fun K' hK => ?_) AllReadyK.nil
                      go_simp
                      refine hK.out _ _ (fun _ => bw14) ?_
                      clear hK K'
                      refine wpAnyK_ready (rs := [24]) (by kernel_rfl) (by simp) ?_
                      refine AllReadyK.cons rfl (fun K' hK => ?_) AllReadyK.nil
                      go_simp
                      refine hK.out _ _ (fun _ => bw14) ?_
                      clear hK K'
                      refine wpAnyK_ready (rs := [25]) (by kernel_rfl) (by simp) ?_
                      refine AllReadyK.cons rfl (fun K' hK => ?_) AllReadyK.nil
                      have cF := hc w14 bw14
                      have fF := (hbox.below bw14 hbox.lt).frozen 1
                      go_simp
                      have hq := KQ.joined (K := valK) (T := 94) (lo := lo) (fun _ _ h => h.elim) (fun _ => trivial) hOw14 HL.out HN.out
                      obtain ⟨hn1, hn2⟩ := hI.st.newV bw14 hq
                      have fin := hset.out _ _ _ (hI.newV hn1 (fun k e => Or.inr (hq.lt k e).1) hn2) (HL.out.trans (hnew.out hno.out))
                      refine hK.out _ _ (fun h => absurd rfl h) ?_
                      clear hK K'
                      refine wpAnyK_done (by kernel_rfl) ?_ _
                      go_wp2
                      go_ret
                      exact ⟨rfl, fin⟩
                    exact AllReadyK.nil
                  exact AllReadyK.nil
                exact AllReadyK.nil
              exact AllReadyK.nil
            refine AllReadyK.cons rfl (fun K' hK => ?_) ?_
            · go_simp
              have bw15 := hbd.trans ((belowNew w5 (.cells #[.string x.d.key, .string x.d.val] 94)).mono hbd.size)
              have hRw15 := valOne w5 x.d.key x.d.val
              have hsw15 : w5.heap.size < (w5.alloc (.cells #[.string x.d.key, .string x.d.val] 94)).heap.size := by rw [alloc_size]; omega
              obtain ⟨w15, hww15⟩ : ∃ q, w5.alloc (.cells #[.string x.d.key, .string x.d.val] 94) = q := ⟨_, rfl⟩
              rw [hww15] at bw15 hRw15 hsw15 ⊢
              refine hK.out _ _ (fun _ => bw15) ?_
              clear hK K' hww15
              refine wpAnyK_ready (rs := [1]) (by kernel_rfl) (by simp) ?_
              refine AllReadyK.cons rfl (fun K' hK => ?_) ?_
              · go_simp
                have bw16 := bw15.trans ((belowNew w15 (.cells #[] 94)).mono bw15.size)
                have hOw16 : (w15.alloc (.cells #[] 94)).ownsRow w4.heap.size 94 valK.n (.slice (some ⟨w15.heap.size, 0, none⟩) 0 0) 0 [] := World.ownsRow_made w15 #[] 0 bw15.size (by unfold maxLen; omega) (by simp)
                have hsw16 : w15.heap.size < (w15.alloc (.cells #[] 94)).heap.size := by rw [alloc_size]; omega
                have hRw16 := hRw15.below (belowNew w15 (.cells #[] 94))
                obtain ⟨w16, hww16⟩ : ∃ q, w15.alloc (.cells #[] 94) = q := ⟨_, rfl⟩
                rw [hww16] at bw16 hOw16 hsw16 hRw16 ⊢
                refine hK.out _ _ (fun _ => bw16) ?_
                clear hK K' hww16
                refine wpAnyK_ready (rs := [8]) (by kernel_rfl) (by simp) ?_
                refine AllReadyK.consD (some 179) rfl rfl (fun K' hK => ?_) ?_
                · refine step_ownR (K := valK) w16 (by rfl) _ _ 88 (by rfl) w4.heap.size 94 i0 _ 32 Tryz.underlying88 hi0 hz0 hz1 hz2 hz3 _ _ _ _ _ (by rfl) hOw16 _ _ _ hTl (Nat.zero_add _) (by rfl) (hrT _ bw16) (fun e => hnT.out (by first | exact e | trivial)) m1 m2 bw16.size ?_
                  intro aw17 cw17 w17 hOw17 hkw17
                  have bw17 := bw16.trans (Kept.below hkw17 bw16.size (fun k hk => (hOw16.lt k hk).1))
                  have hRw17 := hRw16.kept hkw17 (fun k hk e => by
                    rcases hk with ⟨_, off', e'⟩ | ⟨_, _, f'⟩
                    · simp at e'
                      simp [Value.ownBlock] at e
                      omega
                    · exact f'.elim)
                  refine hK.out _ _ (fun _ => bw17) ?_
                  clear hK K' hkw17
                  simp only [Act.put, List.setIfInBounds_toArray, List.set_cons_zero, List.set_cons_succ]
                  refine wpAnyK_ready (rs := [15]) (by kernel_rfl) (by simp) ?_
                  refine AllReadyK.consD (some 186) rfl rfl (fun K' hK => ?_) ?_
                  · refine step_ownR (K := valK) w17 (by rfl) _ _ 88 (by rfl) w4.heap.size 94 i0 _ 32 Tryz.underlying88 hi0 hz0 hz1 hz2 hz3 _ _ _ _ _ (by rfl) hOw17 _ _ _ rfl rfl (by rfl) hRw17 (fun h => by cases h) m3 m4 bw17.size ?_
                    intro aw18 cw18 w18 hOw18 hkw18
                    have bw18 := bw17.trans (Kept.below hkw18 bw17.size (fun k hk => (hOw17.lt k hk).1))
                    refine hK.out _ _ (fun _ => bw18) ?_
                    clear hK K' hkw18
                    simp only [Act.put, List.setIfInBounds_toArray, List.set_cons_zero, List.set_cons_succ]
                    refine wpAnyK_ready (rs := [22]) (by kernel_rfl) (by simp) ?_
                    refine AllReadyK.consD (some 193) rfl rfl (fun K' hK => ?_) ?_
                    · refine step_ownR (K := valK) w18 (by rfl) _ _ 88 (by rfl) w4.heap.size 94 i0 _ 32 Tryz.underlying88 hi0 hz0 hz1 hz2 hz3 _ _ _ _ _ (by rfl) hOw18 _ _ _ hDl hN3.out (by rfl) (hrD _ bw18) (fun e => hnD.out (by first | exact e | trivial)) m5 m6 bw18.size ?_
                      intro aw19 cw19 w19 hOw19 hkw19
                      have bw19 := bw18.trans (Kept.below hkw19 bw18.size (fun k hk => (hOw18.lt k hk).1))
                      refine hK.out _ _ (fun _ => bw19) ?_
                      clear hK K' hkw19
                      simp only [Act.put, List.setIfInBounds_toArray, List.set_cons_zero, List.set_cons_succ]
                      refine wpAnyK_ready (rs := [23]) (by kernel_rfl) (by simp) ?_
                      refine AllReadyK.cons rfl (fun K' hK => ?_) AllReadyK.nil
                      go_simp
                      refine hK.out _ _ (fun _ => bw19) ?_
                      clear hK K'
                      refine wpAnyK_ready (rs := [24]) (by kernel_rfl) (by simp) ?_
                      refine AllReadyK.cons rfl (fun K' hK => ?_) AllReadyK.nil
                      go_simp
                      refine hK.out _ _ (fun _ => bw19) ?_
                      clear hK K'
                      refine wpAnyK_ready (rs := [25]) (by kernel_rfl) (by simp) ?_
                      refine AllReadyK.cons rfl (fun K' hK => ?_) AllReadyK.nil
                      have cF := hc w19 bw19
                      have fF := (hbox.below bw19 hbox.lt).frozen 1
                      go_simp
                      have hq := KQ.joined (K := valK) (T := 94) (lo := lo) (fun _ _ h => h.elim) (fun _ => trivial) hOw19 HL.out HN.out
                      obtain ⟨hn1, hn2⟩ := hI.st.newV bw19 hq
                      have fin := hset.out _ _ _ (hI.newV hn1 (fun k e => Or.inr (hq.lt k e).1) hn2) (HL.out.trans (hnew.out hno.out))
                      refine hK.out _ _ (fun h => absurd rfl h) ?_
                      clear hK K'
                      refine wpAnyK_done (by kernel_rfl) ?_ _
                      go_wp2
                      go_ret
                      exact ⟨rfl, fin⟩
                    exact AllReadyK.nil
                  exact AllReadyK.nil
                exact AllReadyK.nil
              exact AllReadyK.nil
            exact AllReadyK.nil
          · have hci := eq_false hcp
            obtain ⟨b, voff, an⟩ := ad
            obtain rfl : an = none := hpn (by have := hil2.out; omega) _ rfl
            have hrD : ∀ U, Below w4.heap.size w4 U → RowAt valK U (some ⟨b, voff + k * 2, none⟩) (V.drop k) := fun U hb => (hRow.below hb).dropG k
            have hnD : Hid (some (⟨b, voff + k * 2, none⟩ : Addr) = none → vc - k = 0) := fun h => by cases h
            clear hcp
            go_wp2_with fail
            obtain ⟨i0, z0, hi0, hz0, hz1, hz2, hz3⟩ := valInfo
            have hc := fun w' (hb : Below w4.heap.size w4 w') => (hbx.below hb hbx.lt).cell (i := 1) rfl
            have hck := fun w' (hb : Below w4.heap.size w4 w') => (hI.bxA.below hb hI.bxA.lt).cell (i := 5) rfl
            have hcv := fun w' (hb : Below w4.heap.size w4 w') => (hI.bxA.below hb hI.bxA.lt).cell (i := 6) rfl
            have hbox := hbx
            have j1 : (0 : Int) ≤ (k : Int) := by omega
            have j2 : (k : Int) ≤ (vc : Int) := by omega
            have j3 : (k : Int) ≤ (V.length : Int) := by omega
            have hTl : (V.take k).length = k := by rw [List.length_take]; omega
            have hDl : (V.drop k).length = V.length - k := List.length_drop
            have hN3 : Hid (k + 1 + (V.length - k) = V.length + 1) := by show k + 1 + (V.length - k) = V.length + 1; omega
            have hrT := fun U (hb : Below w4.heap.size w4 U) => (hRow.below hb).take k
            have hnT : Hid _ := hvnil0.out
            have m1 : k ≤ maxLen := by unfold maxLen; omega
            have m2 : k * 32 ≤ 140737488355328 := by omega
            have m3 : k + 1 ≤ maxLen := by unfold maxLen; omega
            have m4 : (k + 1) * 32 ≤ 140737488355328 := by omega
            have m5 : V.length + 1 ≤ maxLen := by unfold maxLen; omega
            have m6 : (V.length + 1) * 32 ≤ 140737488355328 := by omega
            obtain ⟨lo, hlo⟩ : ∃ lo, lo = V.take k ++ (x.d.key, x.d.val) :: V.drop k := ⟨_, rfl⟩
            have HL : Hid (lo = V.take k ++ (x.d.key, x.d.val) :: V.drop k) := hlo
            have HN : Hid (V.length + 1 = lo.length) := by
              show V.length + 1 = lo.length
              rw [hlo, List.length_append, List.length_cons, hTl, hDl]
              omega
            clear hlo
            have hbd : Below w4.heap.size w4 w4.drew := below_drewN (Below.refl _ w4) 1
            go_wp2_with fail
            refine wp_region_K (fun w' => Below w4.heap.size w4 w') 25 (by kernel_rfl) ?_
            generalize w4.drew = w5 at hbd ⊢
            refine wpAnyK_takeD (i := 0) (v := ?_) (some 171) rfl rfl (by kernel_rfl) (by kernel_rfl) (by kernel_rfl) (by kernel_rfl) (by decide) (fun _ _ _ h => h) (by assumption) (Or.inl ⟨by rfl, ?_⟩) ?_
            rotate_left 1
            · intro w' hSw
              have cF := hc w' hSw
              have cK := hck w' hSw
              have cV := hcv w' hSw
              go_simp
              first | done | with_reducible rfl
            simp only [Act.put, List.setIfInBounds_toArray, List.set_cons_zero, List.set_cons_succ]
            refine wpAnyK_takeD (i := 2) (v := ?_) (some 173) rfl rfl (by kernel_rfl) (by kernel_rfl) (by kernel_rfl) (by kernel_rfl) (by decide) (fun _ _ _ h => h) (by assumption) (Or.inl ⟨by rfl, ?_⟩) ?_
            rotate_left 1
            · intro w' hSw
              have cF := hc w' hSw
              have cK := hck w' hSw
              have cV := hcv w' hSw
              go_simp
              first | done | with_reducible rfl
            simp only [Act.put, List.setIfInBounds_toArray, List.set_cons_zero, List.set_cons_succ]
            refine wpAnyK_takeD (i := 3) (v := ?_) (some 174) rfl rfl (by kernel_rfl) (by kernel_rfl) (by kernel_rfl) (by kernel_rfl) (by decide) (fun _ _ _ h => h) (by assumption) (Or.inl ⟨by rfl, ?_⟩) ?_
            rotate_left 1
            · intro w' hSw
              have cF := hc w' hSw
              have cK := hck w' hSw
              have cV := hcv w' hSw
              go_simp
              first | done | with_reducible rfl
            simp only [Act.put, List.setIfInBounds_toArray, List.set_cons_zero, List.set_cons_succ]
            refine wpAnyK_takeD (i := 4) (v := ?_) (some 175) rfl rfl (by kernel_rfl) (by kernel_rfl) (by kernel_rfl) (by kernel_rfl) (by decide) (fun _ _ _ h => h) (by assumption) (Or.inl ⟨by rfl, ?_⟩) ?_
            rotate_left 1
            · intro w' hSw
              have cF := hc w' hSw
              have cK := hck w' hSw
              have cV := hcv w' hSw
              go_simp
              first | done | with_reducible rfl
            simp only [Act.put, List.setIfInBounds_toArray, List.set_cons_zero, List.set_cons_succ]
            refine wpAnyK_takeD (i := 5) (v := ?_) (some 176) rfl rfl (by kernel_rfl) (by kernel_rfl) (by kernel_rfl) (by kernel_rfl) (by decide) (fun _ _ _ h => h) (by assumption) (Or.inl ⟨by rfl, ?_⟩) ?_
            rotate_left 1
            · intro w' hSw
              have cF := hc w' hSw
              have cK := hck w' hSw
              have cV := hcv w' hSw
              go_simp
              first | done | with_reducible rfl
            simp only [Act.put, List.setIfInBounds_toArray, List.set_cons_zero, List.set_cons_succ]
            refine wpAnyK_takeD (i := 6) (v := ?_) (some 177) rfl rfl (by kernel_rfl) (by kernel_rfl) (by kernel_rfl) (by kernel_rfl) (by decide) (fun _ _ _ h => h) (by assumption) (Or.inl ⟨by rfl, ?_⟩) ?_
            rotate_left 1
            · intro w' hSw
              have cF := hc w' hSw
              have cK := hck w' hSw
              have cV := hcv w' hSw
              go_simp
              first | done | with_reducible rfl
            simp only [Act.put, List.setIfInBounds_toArray, List.set_cons_zero, List.set_cons_succ]
            refine wpAnyK_takeD (i := 7) (v := ?_) (some 178) rfl rfl (by kernel_rfl) (by kernel_rfl) (by kernel_rfl) (by kernel_rfl) (by decide) (fun _ _ _ h => h) (by assumption) (Or.inl ⟨by rfl, ?_⟩) ?_
            rotate_left 1
            · intro w' hSw
              have cF := hc w' hSw
              have cK := hck w' hSw
              have cV := hcv w' hSw
              go_simp
              first | done | with_reducible rfl
            simp only [Act.put, List.setIfInBounds_toArray, List.set_cons_zero, List.set_cons_succ]
            refine wpAnyK_takeD (i := 9) (v := ?_) (some 180) rfl rfl (by kernel_rfl) (by kernel_rfl) (by kernel_rfl) (by kernel_rfl) (by decide) (fun _ _ _ h => h) (by assumption) (Or.inl ⟨by rfl, ?_⟩) ?_
            rotate_left 1
            · intro w' hSw
              have cF := hc w' hSw
              have cK := hck w' hSw
              have cV := hcv w' hSw
              go_simp
              first | done | with_reducible rfl
            simp only [Act.put, List.setIfInBounds_toArray, List.set_cons_zero, List.set_cons_succ]
            refine wpAnyK_takeD (i := 10) (v := ?_) (some 181) rfl rfl (by kernel_rfl) (by kernel_rfl) (by kernel_rfl) (by kernel_rfl) (by decide) (fun _ _ _ h => h) (by assumption) (Or.inl ⟨by rfl, ?_⟩) ?_
            rotate_left 1
            · intro w' hSw
              have cF := hc w' hSw
              have cK := hck w' hSw
              have cV := hcv w' hSw
              go_simp
              first | done | with_reducible rfl
            simp only [Act.put, List.setIfInBounds_toArray, List.set_cons_zero, List.set_cons_succ]
            refine wpAnyK_takeD (i := 11) (v := ?_) (some 182) rfl rfl (by kernel_rfl) (by kernel_rfl) (by kernel_rfl) (by kernel_rfl) (by decide) (fun _ _ _ h => h) (by assumption) (Or.inl ⟨by rfl, ?_⟩) ?_
            rotate_left 1
            · intro w' hSw
              have cF := hc w' hSw
              have cK := hck w' hSw
              have cV := hcv w' hSw
              go_simp
              first | done | with_reducible rfl
            simp only [Act.put, List.setIfInBounds_toArray, List.set_cons_zero, List.set_cons_succ]
            refine wpAnyK_takeD (i := 12) (v := ?_) (some 183) rfl rfl (by kernel_rfl) (by kernel_rfl) (by kernel_rfl) (by kernel_rfl) (by decide) (fun _ _ _ h => h) (by assumption) (Or.inl ⟨by rfl, ?_⟩) ?_
            rotate_left 1
            · intro w' hSw
              have cF := hc w' hSw
              have cK := hck w' hSw
              have cV := hcv w' hSw
              go_simp
              first | done | with_reducible rfl
            simp only [Act.put, List.setIfInBounds_toArray, List.set_cons_zero, List.set_cons_succ]
            refine wpAnyK_takeD (i := 13) (v := ?_) (some 184) rfl rfl (by kernel_rfl) (by kernel_rfl) (by kernel_rfl) (by kernel_rfl) (by decide) (fun _ _ _ h => h) (by assumption) (Or.inl ⟨by rfl, ?_⟩) ?_
            rotate_left 1
            · intro w' hSw
              have cF := hc w' hSw
              have cK := hck w' hSw
              have cV := hcv w' hSw
              go_simp
              first | done | with_reducible rfl
            simp only [Act.put, List.setIfInBounds_toArray, List.set_cons_zero, List.set_cons_succ]
            refine wpAnyK_takeD (i := 16) (v := ?_) (some 187) rfl rfl (by kernel_rfl) (by kernel_rfl) (by kernel_rfl) (by kernel_rfl) (by decide) (fun _ _ _ h => h) (by assumption) (Or.inl ⟨by rfl, ?_⟩) ?_
            rotate_left 1
            · intro w' hSw
              have cF := hc w' hSw
              have cK := hck w' hSw
              have cV := hcv w' hSw
              go_simp
              first | done | with_reducible rfl
            simp only [Act.put, List.setIfInBounds_toArray, List.set_cons_zero, List.set_cons_succ]
            refine wpAnyK_takeD (i := 17) (v := ?_) (some 188) rfl rfl (by kernel_rfl) (by kernel_rfl) (by kernel_rfl) (by kernel_rfl) (by decide) (fun _ _ _ h => h) (by assumption) (Or.inl ⟨by rfl, ?_⟩) ?_
            rotate_left 1
            · intro w' hSw
              have cF := hc w' hSw
              have cK := hck w' hSw
              have cV := hcv w' hSw
              go_simp
              first | done | with_reducible rfl
            simp only [Act.put, List.setIfInBounds_toArray, List.set_cons_zero, List.set_cons_succ]
            refine wpAnyK_takeD (i := 18) (v := ?_) (some 189) rfl rfl (by kernel_rfl) (by kernel_rfl) (by kernel_rfl) (by kernel_rfl) (by decide) (fun _ _ _ h => h) (by assumption) (Or.inl ⟨by rfl, ?_⟩) ?_
            rotate_left 1
            · intro w' hSw
              have cF := hc w' hSw
              have cK := hck w' hSw
              have cV := hcv w' hSw
              go_simp
              first | done | with_reducible rfl
            simp only [Act.put, List.setIfInBounds_toArray, List.set_cons_zero, List.set_cons_succ]
            refine wpAnyK_takeD (i := 19) (v := ?_) (some 190) rfl rfl (by kernel_rfl) (by kernel_rfl) (by kernel_rfl) (by kernel_rfl) (by decide) (fun _ _ _ h => h) (by assumption) (Or.inl ⟨by rfl, ?_⟩) ?_
            rotate_left 1
            · intro w' hSw
              have cF := hc w' hSw
              have cK := hck w' hSw
              have cV := hcv w' hSw
              go_simp
              first | done | with_reducible rfl
            simp only [Act.put, List.setIfInBounds_toArray, List.set_cons_zero, List.set_cons_succ]
            refine wpAnyK_takeD (i := 20) (v := ?_) (some 191) rfl rfl (by kernel_rfl) (by kernel_rfl) (by kernel_rfl) (by kernel_rfl) (by decide) (fun _ _ _ h => h) (by assumption) (Or.inl ⟨by rfl, ?_⟩) ?_
            rotate_left 1
            · intro w' hSw
              have cF := hc w' hSw
              have cK := hck w' hSw
              have cV := hcv w' hSw
              go_simp
              first | done | with_reducible rfl
            simp only [Act.put, List.setIfInBounds_toArray, List.set_cons_zero, List.set_cons_succ]
            refine wpAnyK_takeD (i := 21) (v := ?_) (some 192) rfl rfl (by kernel_rfl) (by kernel_rfl) (by kernel_rfl) (by kernel_rfl) (by decide) (fun _ _ _ h => h) (by assumption) (Or.inl ⟨by rfl, ?_⟩) ?_
            rotate_left 1
            · intro w' hSw
              have cF := hc w' hSw
              have cK := hck w' hSw
              have cV := hcv w' hSw
              go_simp
              first | done | with_reducible rfl
            simp only [Act.put, List.setIfInBounds_toArray, List.set_cons_zero, List.set_cons_succ]
            refine wpAnyK_ready (rs := [1, 14]) (by kernel_rfl) (by simp) ?_
            refine AllReadyK.cons rfl (fun K' hK => ?_) ?_
            · go_simp
              have bw6 := hbd.trans ((belowNew w5 (.cells #[] 94)).mono hbd.size)
              have hOw6 : (w5.alloc (.cells #[] 94)).ownsRow w4.heap.size 94 valK.n (.slice (some ⟨w5.heap.size, 0, none⟩) 0 0) 0 [] := World.ownsRow_made w5 #[] 0 hbd.size (by unfold maxLen; omega) (by simp)
              have hsw6 : w5.heap.size < (w5.alloc (.cells #[] 94)).heap.size := by rw [alloc_size]; omega
              obtain ⟨w6, hww6⟩ : ∃ q, w5.alloc (.cells #[] 94) = q := ⟨_, rfl⟩
              rw [hww6] at bw6 hOw6 hsw6 ⊢
              refine hK.out _ _ (fun _ => bw6) ?_
              clear hK K' hww6
              refine wpAnyK_ready (rs := [8, 14]) (by kernel_rfl) (by simp) ?_
              refine AllReadyK.consD (some 179) rfl rfl (fun K' hK => ?_) ?_
              · refine step_ownR (K := valK) w6 (by rfl) _ _ 88 (by rfl) w4.heap.size 94 i0 _ 32 Tryz.underlying88 hi0 hz0 hz1 hz2 hz3 _ _ _ _ _ (by rfl) hOw6 _ _ _ hTl (Nat.zero_add _) (by rfl) (hrT _ bw6) (fun e => hnT.out (by first | exact e | trivial)) m1 m2 bw6.size ?_
                intro aw7 cw7 w7 hOw7 hkw7
                have bw7 := bw6.trans (Kept.below hkw7 bw6.size (fun k hk => (hOw6.lt k hk).1))
                refine hK.out _ _ (fun _ => bw7) ?_
                clear hK K' hkw7
                simp only [Act.put, List.setIfInBounds_toArray, List.set_cons_zero, List.set_cons_succ]
                refine wpAnyK_ready (rs := [14]) (by kernel_rfl) (by simp) ?_
                refine AllReadyK.cons rfl (fun K' hK => ?_) ?_
                · go_simp
                  have bw8 := bw7.trans ((belowNew w7 (.cells #[.string x.d.key, .string x.d.val] 94)).mono bw7.size)
                  have hRw8 := valOne w7 x.d.key x.d.val
                  have hsw8 : w7.heap.size < (w7.alloc (.cells #[.string x.d.key, .string x.d.val] 94)).heap.size := by rw [alloc_size]; omega
                  have hOw8 := own_belowT hOw7 (belowNew w7 (.cells #[.string x.d.key, .string x.d.val] 94))
                  obtain ⟨w8, hww8⟩ : ∃ q, w7.alloc (.cells #[.string x.d.key, .string x.d.val] 94) = q := ⟨_, rfl⟩
                  rw [hww8] at bw8 hRw8 hsw8 hOw8 ⊢
                  refine hK.out _ _ (fun _ => bw8) ?_
                  clear hK K' hww8
                  refine wpAnyK_ready (rs := [15]) (by kernel_rfl) (by simp) ?_
                  refine AllReadyK.consD (some 186) rfl rfl (fun K' hK => ?_) ?_
                  · refine step_ownR (K := valK) w8 (by rfl) _ _ 88 (by rfl) w4.heap.size 94 i0 _ 32 Tryz.underlying88 hi0 hz0 hz1 hz2 hz3 _ _ _ _ _ (by rfl) hOw8 _ _ _ rfl rfl (by rfl) hRw8 (fun h => by cases h) m3 m4 bw8.size ?_
                    intro aw9 cw9 w9 hOw9 hkw9
                    have bw9 := bw8.trans (Kept.below hkw9 bw8.size (fun k hk => (hOw8.lt k hk).1))
                    refine hK.out _ _ (fun _ => bw9) ?_
                    clear hK K' hkw9
                    simp only [Act.put, List.setIfInBounds_toArray, List.set_cons_zero, List.set_cons_succ]
                    refine wpAnyK_ready (rs := [22]) (by kernel_rfl) (by simp) ?_
                    refine AllReadyK.consD (some 193) rfl rfl (fun K' hK => ?_) ?_
                    · refine step_ownR (K := valK) w9 (by rfl) _ _ 88 (by rfl) w4.heap.size 94 i0 _ 32 Tryz.underlying88 hi0 hz0 hz1 hz2 hz3 _ _ _ _ _ (by rfl) hOw9 _ _ _ hDl hN3.out (by rfl) (hrD _ bw9) (fun e => hnD.out (by first | exact e | trivial)) m5 m6 bw9.size ?_
                      intro aw10 cw10 w10 hOw10 hkw10
                      have bw10 := bw9.trans (Kept.below hkw10 bw9.size (fun k hk => (hOw9.lt k hk).1))
                      refine hK.out _ _ (fun _ => bw10) ?_
                      clear hK K' hkw10
                      simp only [Act.put, List.setIfInBounds_toArray, List.set_cons_zero, List.set_cons_succ]
                      refine wpAnyK_ready (rs := [23]) (by kernel_rfl) (by simp) ?_
                      refine AllReadyK.cons rfl (fun K' hK => ?_) AllReadyK.nil
                      go_simp
                      refine hK.out _ _ (fun _ => bw10) ?_
                      clear hK K'
                      refine wpAnyK_ready (rs := [24]) (by kernel_rfl) (by simp) ?_
                      refine AllReadyK.cons rfl (fun K' hK => ?_) AllReadyK.nil
                      go_simp
                      refine hK.out _ _ (fun _ => bw10) ?_
                      clear hK K'
                      refine wpAnyK_ready (rs := [25]) (by kernel_rfl) (by simp) ?_
                      refine AllReadyK.cons rfl (fun K' hK => ?_) AllReadyK.nil
                      have cF := hc w10 bw10
                      have fF := (hbox.below bw10 hbox.lt).frozen 1
                      go_simp
                      have hq := KQ.joined (K := valK) (T := 94) (lo := lo) (fun _ _ h => h.elim) (fun _ => trivial) hOw10 HL.out HN.out
                      obtain ⟨hn1, hn2⟩ := hI.st.newV bw10 hq
                      have fin := hset.out _ _ _ (hI.newV hn1 (fun k e => Or.inr (hq.lt k e).1) hn2) (HL.out.trans (hnew.out hno.out))
                      refine hK.out _ _ (fun h => absurd rfl h) ?_
                      clear hK K'
                      refine wpAnyK_done (by kernel_rfl) ?_ _
                      go_wp2
                      go_ret
                      exact ⟨rfl, fin⟩
                    exact AllReadyK.nil
                  exact AllReadyK.nil
                exact AllReadyK.nil
              refine AllReadyK.cons rfl (fun K' hK => ?_) ?_
              · go_simp
                have bw11 := bw6.trans ((belowNew w6 (.cells #[.string x.d.key, .string x.d.val] 94)).mono bw6.size)
                have hRw11 := valOne w6 x.d.key x.d.val
                have hsw11 : w6.heap.size < (w6.alloc (.cells #[.string x.d.key, .string x.d.val] 94)).heap.size := by rw [alloc_size]; omega
                have hOw11 := own_belowT hOw6 (belowNew w6 (.cells #[.string x.d.key, .string x.d.val] 94))
                obtain ⟨w11, hww11⟩ : ∃ q, w6.alloc (.cells #[.string x.d.key, .string x.d.val] 94) = q := ⟨_, rfl⟩
                rw [hww11] at bw11 hRw11 hsw11 hOw11 ⊢
                refine hK.out _ _ (fun _ => bw11) ?_
                clear hK K' hww11
                refine wpAnyK_ready (rs := [8]) (by kernel_rfl) (by simp) ?_
                refine AllReadyK.consD (some 179) rfl rfl (fun K' hK => ?_) ?_
                · refine step_ownR (K := valK) w11 (by rfl) _ _ 88 (by rfl) w4.heap.size 94 i0 _ 32 Tryz.underlying88 hi0 hz0 hz1 hz2 hz3 _ _ _ _ _ (by rfl) hOw11 _ _ _ hTl (Nat.zero_add _) (by rfl) (hrT _ bw11) (fun e => hnT.out (by first | exact e | trivial)) m1 m2 bw11.size ?_
                  intro aw12 cw12 w12 hOw12 hkw12
                  have bw12 := bw11.trans (Kept.below hkw12 bw11.size (fun k hk => (hOw11.lt k hk).1))
                  have hRw12 := hRw11.kept hkw12 (fun k hk e => by
                    rcases hk with ⟨_, off', e'⟩ | ⟨_, _, f'⟩
                    · simp at e'
                      simp [Value.ownBlock] at e
                      omega
                    · exact f'.elim)
                  refine hK.out _ _ (fun _ => bw12) ?_
                  clear hK K' hkw12
                  simp only [Act.put, List.setIfInBounds_toArray, List.set_cons_zero, List.set_cons_succ]
                  refine wpAnyK_ready (rs := [15]) (by kernel_rfl) (by simp) ?_
                  refine AllReadyK.consD (some 186) rfl rfl (fun K' hK => ?_) ?_
                  · refine step_ownR (K := valK) w12 (by rfl) _ _ 88 (by rfl) w4.heap.size 94 i0 _ 32 Tryz.underlying88 hi0 hz0 hz1 hz2 hz3 _ _ _ _ _ (by rfl) hOw12 _ _ _ rfl rfl (by rfl) hRw12 (fun h => by cases h) m3 m4 bw12.size ?_
                    intro aw13 cw13 w13 hOw13 hkw13
                    have bw13 := bw12.trans (Kept.below hkw13 bw12.size (fun k hk => (hOw12.lt k hk).1))
                    refine hK.out _ _ (fun _ => bw13) ?_
                    clear hK K' hkw13
                    simp only [Act.put, List.setIfInBounds_toArray, List.set_cons_zero, List.set_cons_succ]
                    refine wpAnyK_ready (rs := [22]) (by kernel_rfl) (by simp) ?_
                    refine AllReadyK.consD (some 193) rfl rfl (fun K' hK => ?_) ?_
                    · refine step_ownR (K := valK) w13 (by rfl) _ _ 88 (by rfl) w4.heap.size 94 i0 _ 32 Tryz.underlying88 hi0 hz0 hz1 hz2 hz3 _ _ _ _ _ (by rfl) hOw13 _ _ _ hDl hN3.out (by rfl) (hrD _ bw13) (fun e => hnD.out (by first | exact e | trivial)) m5 m6 bw13.size ?_
                      intro aw14 cw14 w14 hOw14 hkw14
                      have bw14 := bw13.trans (Kept.below hkw14 bw13.size (fun k hk => (hOw13.lt k hk).1))
                      refine hK.out _ _ (fun _ => bw14) ?_
                      clear hK K' hkw14
                      simp only [Act.put, List.setIfInBounds_toArray, List.set_cons_zero, List.set_cons_succ]
                      refine wpAnyK_ready (rs := [23]) (by kernel_rfl) (by simp) ?_
                      refine AllReadyK.cons rfl (fun K' hK => ?_) AllReadyK.nil
                      go_simp
                      refine hK.out _ _ (fun _ => bw14) ?_
                      clear hK K'
                      refine wpAnyK_ready (rs := [24]) (by kernel_rfl) (by simp) ?_
                      refine AllReadyK.cons rfl (fun K' hK => ?_) AllReadyK.nil
                      go_simp
                      refine hK.out _ _ (fun _ => bw14) ?_
                      clear hK K'
                      refine wpAnyK_ready (rs := [25]) (by kernel_rfl) (by simp) ?_
                      refine AllReadyK.cons rfl (fun K' hK => ?_) AllReadyK.nil
                      have cF := hc w14 bw14
                      have fF := (hbox.below bw14 hbox.lt).frozen 1
                      go_simp
                      have hq := KQ.joined (K := valK) (T := 94) (lo := lo) (fun _ _ h => h.elim) (fun _ => trivial) hOw14 HL.out HN.out
                      obtain ⟨hn1, hn2⟩ := hI.st.newV bw14 hq
                      have fin := hset.out _ _ _ (hI.newV hn1 (fun k e => Or.inr (hq.lt k e).1) hn2) (HL.out.trans (hnew.out hno.out))
                      refine hK.out _ _ (fun h => absurd rfl h) ?_
                      clear hK K'
                      refine wpAnyK_done (by kernel_rfl) ?_ _
                      go_wp2
                      go_ret
                      exact ⟨rfl, fin⟩
                    exact AllReadyK.nil
                  exact AllReadyK.nil
                exact AllReadyK.nil
              exact AllReadyK.nil
            refine AllReadyK.cons rfl (fun K' hK => ?_) ?_
            · go_simp
              have bw15 := hbd.trans ((belowNew w5 (.cells #[.string x.d.key, .string x.d.val] 94)).mono hbd.size)
              have hRw15 := valOne w5 x.d.key x.d.val
              have hsw15 : w5.heap.size < (w5.alloc (.cells #[.string x.d.key, .string x.d.val] 94)).heap.size := by rw [alloc_size]; omega
              obtain ⟨w15, hww15⟩ : ∃ q, w5.alloc (.cells #[.string x.d.key, .string x.d.val] 94) = q := ⟨_, rfl⟩
              rw [hww15] at bw15 hRw15 hsw15 ⊢
              refine hK.out _ _ (fun _ => bw15) ?_
              clear hK K' hww15
              refine wpAnyK_ready (rs := [1]) (by kernel_rfl) (by simp) ?_
              refine AllReadyK.cons rfl (fun K' hK => ?_) ?_
              · go_simp
                have bw16 := bw15.trans ((belowNew w15 (.cells #[] 94)).mono bw15.size)
                have hOw16 : (w15.alloc (.cells #[] 94)).ownsRow w4.heap.size 94 valK.n (.slice (some ⟨w15.heap.size, 0, none⟩) 0 0) 0 [] := World.ownsRow_made w15 #[] 0 bw15.size (by unfold maxLen; omega) (by simp)
                have hsw16 : w15.heap.size < (w15.alloc (.cells #[] 94)).heap.size := by rw [alloc_size]; omega
                have hRw16 := hRw15.below (belowNew w15 (.cells #[] 94))
                obtain ⟨w16, hww16⟩ : ∃ q, w15.alloc (.cells #[] 94) = q := ⟨_, rfl⟩
                rw [hww16] at bw16 hOw16 hsw16 hRw16 ⊢
                refine hK.out _ _ (fun _ => bw16) ?_
                clear hK K' hww16
                refine wpAnyK_ready (rs := [8]) (by kernel_rfl) (by simp) ?_
                refine AllReadyK.consD (some 179) rfl rfl (fun K' hK => ?_) ?_
                · refine step_ownR (K := valK) w16 (by rfl) _ _ 88 (by rfl) w4.heap.size 94 i0 _ 32 Tryz.underlying88 hi0 hz0 hz1 hz2 hz3 _ _ _ _ _ (by rfl) hOw16 _ _ _ hTl (Nat.zero_add _) (by rfl) (hrT _ bw16) (fun e => hnT.out (by first | exact e | trivial)) m1 m2 bw16.size ?_
                  intro aw17 cw17 w17 hOw17 hkw17
                  have bw17 := bw16.trans (Kept.below hkw17 bw16.size (fun k hk => (hOw16.lt k hk).1))
                  have hRw17 := hRw16.kept hkw17 (fun k hk e => by
                    rcases hk with ⟨_, off', e'⟩ | ⟨_, _, f'⟩
                    · simp at e'
                      simp [Value.ownBlock] at e
                      omega
                    · exact f'.elim)
                  refine hK.out _ _ (fun _ => bw17) ?_
                  clear hK K' hkw17
                  simp only [Act.put, List.setIfInBounds_toArray, List.set_cons_zero, List.set_cons_succ]
                  refine wpAnyK_ready (rs := [15]) (by kernel_rfl) (by simp) ?_
                  refine AllReadyK.consD (some 186) rfl rfl (fun K' hK => ?_) ?_
                  · refine step_ownR (K := valK) w17 (by rfl) _ _ 88 (by rfl) w4.heap.size 94 i0 _ 32 Tryz.underlying88 hi0 hz0 hz1 hz2 hz3 _ _ _ _ _ (by rfl) hOw17 _ _ _ rfl rfl (by rfl) hRw17 (fun h => by cases h) m3 m4 bw17.size ?_
                    intro aw18 cw18 w18 hOw18 hkw18
                    have bw18 := bw17.trans (Kept.below hkw18 bw17.size (fun k hk => (hOw17.lt k hk).1))
                    refine hK.out _ _ (fun _ => bw18) ?_
                    clear hK K' hkw18
                    simp only [Act.put, List.setIfInBounds_toArray, List.set_cons_zero, List.set_cons_succ]
                    refine wpAnyK_ready (rs := [22]) (by kernel_rfl) (by simp) ?_
                    refine AllReadyK.consD (some 193) rfl rfl (fun K' hK => ?_) ?_
                    · refine step_ownR (K := valK) w18 (by rfl) _ _ 88 (by rfl) w4.heap.size 94 i0 _ 32 Tryz.underlying88 hi0 hz0 hz1 hz2 hz3 _ _ _ _ _ (by rfl) hOw18 _ _ _ hDl hN3.out (by rfl) (hrD _ bw18) (fun e => hnD.out (by first | exact e | trivial)) m5 m6 bw18.size ?_
                      intro aw19 cw19 w19 hOw19 hkw19
                      have bw19 := bw18.trans (Kept.below hkw19 bw18.size (fun k hk => (hOw18.lt k hk).1))
                      refine hK.out _ _ (fun _ => bw19) ?_
                      clear hK K' hkw19
                      simp only [Act.put, List.setIfInBounds_toArray, List.set_cons_zero, List.set_cons_succ]
                      refine wpAnyK_ready (rs := [23]) (by kernel_rfl) (by simp) ?_
                      refine AllReadyK.cons rfl (fun K' hK => ?_) AllReadyK.nil
                      go_simp
                      refine hK.out _ _ (fun _ => bw19) ?_
                      clear hK K'
                      refine wpAnyK_ready (rs := [24]) (by kernel_rfl) (by simp) ?_
                      refine AllReadyK.cons rfl (fun K' hK => ?_) AllReadyK.nil
                      go_simp
                      refine hK.out _ _ (fun _ => bw19) ?_
                      clear hK K'
                      refine wpAnyK_ready (rs := [25]) (by kernel_rfl) (by simp) ?_
                      refine AllReadyK.cons rfl (fun K' hK => ?_) AllReadyK.nil
                      have cF := hc w19 bw19
                      have fF := (hbox.below bw19 hbox.lt).frozen 1
                      go_simp
                      have hq := KQ.joined (K := valK) (T := 94) (lo := lo) (fun _ _ h => h.elim) (fun _ => trivial) hOw19 HL.out HN.out
                      obtain ⟨hn1, hn2⟩ := hI.st.newV bw19 hq
                      have fin := hset.out _ _ _ (hI.newV hn1 (fun k e => Or.inr (hq.lt k e).1) hn2) (HL.out.trans (hnew.out hno.out))
                      refine hK.out _ _ (fun h => absurd rfl h) ?_
                      clear hK K'
                      refine wpAnyK_done (by kernel_rfl) ?_ _
                      go_wp2
                      go_ret
                      exact ⟨rfl, fin⟩
                    exact AllReadyK.nil
                  exact AllReadyK.nil
                exact AllReadyK.nil
              exact AllReadyK.nil
            exact AllReadyK.nil

theorem rsApply_yes (x : TxM) (hA : x.At w) (hs : TxSizes x.d) (hn : x.d.ws.length ≤ 500) (h : RS w rb S s N) (hN : N ≤ 100000) (hz : applyE s x.d = 0) :
    Calls Tryz.prog 23 #[.pointer (some ⟨rb, 0, none⟩), x.v] w fun e w' => e = .returned (.int .i64 0) ∧ ∃ S', RS w' rb S' (applyF s x.d) (N + 2) ∧ FreshS w S S' ∧ Kept S w w' := by
  by_cases hk : x.d.kind = 1
  · exact rsApply_pay x hA hs hn h hN hz hk
  · exact rsApply_put x hA hs hn h hN hz hk
end
end Go.Proofs.YtajpfkenhchafaaGreatDoor
