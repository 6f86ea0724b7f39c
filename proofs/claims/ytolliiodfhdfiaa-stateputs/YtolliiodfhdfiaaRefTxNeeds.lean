/- What tuskref04.Needs, Has, Fits and Encode do; nothing old in memory is turned. -/
import Derived.Test.YtolliiodfhdfiaaRefTxRight
import Derived.Test.YtolliiodfhdfiaaTxOwn
import Derived.Test.YtolliiodfhdfiaaRefList
import Derived.Lib.QuietBelow
namespace Go.Proofs.Ytolliiodfhdfiaa
open Go.RowKit Go.Sort
set_option linter.unusedVariables false

theorem beq_of_less {x y : List UInt8} (h : Op.bytesLess x y = true) : (x == y) = false := beq_eq_false_iff_ne.2 (less_ne h)

theorem eq_of_neither {x y : List UInt8} (h1 : Op.bytesLess x y = false) (h2 : Op.bytesLess y x = false) : x = y := by
  rw [less_eq, decide_eq_false_iff_not] at h1 h2
  exact List.le_antisymm (List.not_lt.1 h2) (List.not_lt.1 h1)

set_option maxRecDepth 100000 in
set_option maxHeartbeats 1000000 in
theorem refNeeds_any (d : TxD) (ra : Option Addr) (rc : Nat) (wa : Option Addr) (wc : Nat) (w : World) (hA : TxAt w d ra wa) (hs : TxSizes d) :
    Calls Try.prog 16 #[txV d ra rc wa wc] w fun e w' => GotStrs w (needsL d) e w' := by
  have hX : Arr _ _ _ (txC d ra rc wa wc) := TxBox.new w d ra rc wa wc
  have hB := belowNew w (.cells (txC d ra rc wa wc).toArray 25)
  have cc := refCheck_any d ra rc wa wc _ (hA.below hB) hs
  by_cases hz : checkL d = 0
  · obtain ⟨z1, z2, z3, z4, z5, z6⟩ := check_zero hz
    obtain ⟨y1, y2, y3, y4⟩ := fields_sizes z2
    have N : needsL d = (if d.kind = 2 then [aP ++ d.frm, kP ++ d.key]
     else if Op.bytesLess (aP ++ d.frm).toList (aP ++ d.to).toList = true then [aP ++ d.frm, aP ++ d.to]
     else if Op.bytesLess (aP ++ d.to).toList (aP ++ d.frm).toList = true then [aP ++ d.to, aP ++ d.frm]
     else [aP ++ d.frm]) := by unfold needsL; rw [if_pos hz]
    rw [hz] at cc
    clear z2 z3 z4 z5 z6 hz hA hs
    obtain ⟨kind, frm, to, amt, non, key, val, rs, ws⟩ := d
    replace z1 : kind = 1 ∨ kind = 2 := z1
    replace y1 : frm.size ≤ 32 := y1
    replace y2 : to.size ≤ 32 := y2
    replace y3 : key.size ≤ 32 := y3
    have hk := a_below_k frm key
    unfold aP kP at N hk
    unfold txV at cc ⊢
    rcases z1 with rfl | rfl
    · replace N : needsL ⟨1, frm, to, amt, non, key, val, rs, ws⟩ = (if Op.bytesLess (⟨#[97, 58]⟩ ++ frm : ByteArray).toList (⟨#[97, 58]⟩ ++ to : ByteArray).toList = true then [⟨#[97, 58]⟩ ++ frm, ⟨#[97, 58]⟩ ++ to]
        else if Op.bytesLess (⟨#[97, 58]⟩ ++ to : ByteArray).toList (⟨#[97, 58]⟩ ++ frm : ByteArray).toList = true then [⟨#[97, 58]⟩ ++ to, ⟨#[97, 58]⟩ ++ frm]
        else [⟨#[97, 58]⟩ ++ frm]) := N
      clear hk
      generalize needsL ⟨1, frm, to, amt, non, key, val, rs, ws⟩ = nl at *
      go_enter Try.func16, Try.ntmps16
      go_wp2_with fail
      refine cc.mono ?_
      rintro e w1 ⟨rfl, hb1⟩
      have hX1 := hX.below hb1 hX.lt
      have hB1 := hB.trans (hb1.mono hB.size)
      have c1 := hX1.cell (i := 1) rfl
      have c2 := hX1.cell (i := 2) rfl
      clear hb1 cc hX hB
      have HN : Hid (nl = _) := N
      clear N
      go_wp2_with fail
      go_quiet (fail)
      have hX2 := hX1.drewN nq
      have hB2 := below_drewN hB1 nq
      clear hX1 hB1 c1 c2
      generalize w1.drewN nq = w2 at hX2 hB2 ⊢
      have c0 := hX2.cell (i := 0) rfl
      have c5 := hX2.cell (i := 5) rfl
      have hsz := hB2.size
      clear hX2
      generalize (⟨#[97, 58]⟩ ++ frm : ByteArray) = A at HN ⊢
      generalize (⟨#[97, 58]⟩ ++ to : ByteArray) = B at HN ⊢
      cases h1 : Op.bytesLess A.toList B.toList with
      | true =>
        have hne := beq_of_less h1
        replace HN : Hid (nl = [A, B]) := by show _ = _; rw [HN.out, if_pos h1]
        go_wp2
        go_ret
        rw [HN.out]
        exact GotStrs.of rfl rfl (two_strs _ _ _ _) (hB2.alloc hsz _)
      | false =>
        cases h2 : Op.bytesLess B.toList A.toList with
        | true =>
          have hne : (A.toList == B.toList) = false := beq_eq_false_iff_ne.2 (less_ne h2).symm
          replace HN : Hid (nl = [B, A]) := by show _ = _; rw [HN.out, if_neg (by rw [h1]; simp), if_pos h2]
          go_wp2
          go_ret
          rw [HN.out]
          exact GotStrs.of rfl rfl (two_strs _ _ _ _) (hB2.alloc hsz _)
        | false =>
          have heq : A.toList = B.toList := eq_of_neither h1 h2
          have hne : (A.toList == B.toList) = true := beq_iff_eq.2 heq
          clear heq
          replace HN : Hid (nl = [A]) := by show _ = _; rw [HN.out, if_neg (by rw [h1]; simp), if_neg (by rw [h2]; simp)]
          go_wp2
          go_ret
          rw [HN.out]
          exact GotStrs.of rfl rfl (one_strs _ _ _) (hB2.alloc hsz _)
    · replace N : needsL ⟨2, frm, to, amt, non, key, val, rs, ws⟩ = [⟨#[97, 58]⟩ ++ frm, ⟨#[107, 58]⟩ ++ key] := N
      generalize needsL ⟨2, frm, to, amt, non, key, val, rs, ws⟩ = nl at *
      go_enter Try.func16, Try.ntmps16
      go_wp2_with fail
      refine cc.mono ?_
      rintro e w1 ⟨rfl, hb1⟩
      have hX1 := hX.below hb1 hX.lt
      have hB1 := hB.trans (hb1.mono hB.size)
      have c1 := hX1.cell (i := 1) rfl
      have c2 := hX1.cell (i := 2) rfl
      clear hb1 cc hX hB
      have HN : Hid (nl = _) := N
      clear N
      go_wp2_with fail
      go_quiet (fail)
      have hX2 := hX1.drewN nq
      have hB2 := below_drewN hB1 nq
      clear hX1 hB1 c1 c2
      generalize w1.drewN nq = w2 at hX2 hB2 ⊢
      have c0 := hX2.cell (i := 0) rfl
      have c5 := hX2.cell (i := 5) rfl
      have hsz := hB2.size
      clear hX2
      have hne := beq_of_less hk
      go_wp2
      go_ret
      rw [HN.out]
      exact GotStrs.of rfl rfl (two_strs _ _ _ _) (hB2.alloc hsz _)
  · have HN : Hid (needsL d = []) := by show _ = _; unfold needsL; rw [if_neg hz]
    have hz' : ((checkL d : Int) != 0) = true := by rw [bne_iff_ne]; omega
    generalize checkL d = n at cc hz'
    generalize needsL d = nl at *
    clear hz hA hX hs
    unfold txV at cc ⊢
    go_enter Try.func16, Try.ntmps16
    go_wp2_with fail
    refine cc.mono ?_
    rintro e w1 ⟨rfl, hb1⟩
    have hB1 := hB.trans (hb1.mono hB.size)
    clear hb1 cc
    go_wp2
    go_ret
    rw [HN.out]
    exact GotStrs.of rfl rfl (nil_strs _ _) hB1

theorem joins (l m : List UInt8) : (⟨l.toArray⟩ ++ ⟨m.toArray⟩ : ByteArray) = ⟨(l ++ m).toArray⟩ := ByteArray.mk_append_mk l m
end Go.Proofs.Ytolliiodfhdfiaa
