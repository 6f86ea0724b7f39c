/- What tuskref04.Needs, Has, Fits and Encode do; nothing old in memory is turned. -/
import Derived.Test.YtlpnoimoeadheaaRefTxRight
import Derived.Test.YtlpnoimoeadheaaTxOwn
import Derived.Test.YtlpnoimoeadheaaRefList
import Derived.Lib.QuietBelow
namespace Go.Proofs.Ytlpnoimoeadheaa
open Go.RowKit Go.Sort
set_option linter.unusedVariables false

set_option maxRecDepth 100000 in
set_option maxHeartbeats 400000 in
theorem refHas_any (ao : Option Addr) (cap : Nat) (ss : List ByteArray) (v : ByteArray) (w : World) (hc : StrsAt w ao ss) (hn : ss.length ≤ 9223372036854775807) :
    Calls Try.prog 36 #[.slice ao ss.length cap, .string v] w fun e w' => e = .returned (.bool (hasL ss v)) ∧ w' = w := by
  go_enter Try.func36, Try.ntmps36
  go_wp2
  go_loop [5] (fun u => ∃ k : Nat, k ≤ ss.length ∧ u = .int .i64 k ∧ Hid (hasL ss v = hasL (ss.drop k) v)) (fun u => ss.length - (intOf u).toNat)
  case atStart => exact ⟨0, by omega, rfl, by show _ = _; simp⟩
  case round =>
    obtain ⟨k, hk, rfl, hK⟩ := hrel
    by_cases hlt : k < ss.length
    · obtain ⟨b, off, rfl, hbl, hcell⟩ := hc k hlt
      have hd : ss.drop k = ss[k] :: ss.drop (k + 1) := List.drop_eq_getElem_cons hlt
      have hK2 := hK.out
      rw [hd] at hK2
      obtain ⟨x, hx⟩ : ∃ x, x = ss[k] := ⟨_, rfl⟩
      rw [← hx] at hK2 hcell
      clear hK hd hx
      by_cases he : x.toList = v.toList
      · have H : Hid (hasL ss v = true) := by show _ = _; rw [hK2]; simp [hasL, he]
        clear hK2
        go_wp2
        go_ret
        exact ⟨by rw [H.out]; rfl, rfl⟩
      · have H : Hid (hasL ss v = hasL (ss.drop (k + 1)) v) := by show _ = _; rw [hK2]; simp [hasL, Ne.symm he]
        have heb : (x.toList == v.toList) = false := beq_eq_false_iff_ne.2 he
        clear hK2
        go_wp2
        go_round
        case rel => exact ⟨k + 1, by omega, by go_num, H⟩
        case measure => simp [intOf]; omega
    · have H : Hid (hasL ss v = false) := by show _ = _; rw [hK.out, List.drop_of_length_le (by omega)]; rfl
      clear hK
      go_wp2
      go_ret
      exact ⟨by rw [H.out]; rfl, rfl⟩

theorem beq_of_less {x y : List UInt8} (h : Op.bytesLess x y = true) : (x == y) = false := beq_eq_false_iff_ne.2 (less_ne h)

theorem eq_of_neither {x y : List UInt8} (h1 : Op.bytesLess x y = false) (h2 : Op.bytesLess y x = false) : x = y := by
  rw [less_eq, decide_eq_false_iff_not] at h1 h2
  exact List.le_antisymm (List.not_lt.1 h2) (List.not_lt.1 h1)

set_option maxRecDepth 100000 in
set_option maxHeartbeats 1000000 in
theorem refNeeds_any (d : TxD) (ra : Option Addr) (rc : Nat) (wa : Option Addr) (wc : Nat) (w : World) (hA : TxAt w d ra wa) (hs : TxSizes d) :
    Calls Try.prog 16 #[txV d ra rc wa wc] w fun e w' => GotStrs w (needsL d) e w' := by
  have hX : Arr _ _ _ (txC d ra rc wa wc) := TxBox.new w d ra rc wa wc
  have hB := belowNew w (.cells (txC d ra rc wa wc).toArray 25)
  have cc := refCheck_any d ra rc wa wc _ (hA.below hB) hs
  by_cases hz : checkL d = 0
  · obtain ⟨z1, z2, z3, z4, z5, z6⟩ := check_zero hz
    obtain ⟨y1, y2, y3, y4⟩ := fields_sizes z2
    have N : needsL d = (if d.kind = 2 then [aP ++ d.frm, kP ++ d.key]
     else if Op.bytesLess (aP ++ d.frm).toList (aP ++ d.to).toList = true then [aP ++ d.frm, aP ++ d.to]
     else if Op.bytesLess (aP ++ d.to).toList (aP ++ d.frm).toList = true then [aP ++ d.to, aP ++ d.frm]
     else [aP ++ d.frm]) := by unfold needsL; rw [if_pos hz]
    rw [hz] at cc
    clear z2 z3 z4 z5 z6 hz hA hs
    obtain ⟨kind, frm, to, amt, non, key, val, rs, ws⟩ := d
    replace z1 : kind = 1 ∨ kind = 2 := z1
    replace y1 : frm.size ≤ 32 := y1
    replace y2 : to.size ≤ 32 := y2
    replace y3 : key.size ≤ 32 := y3
    have hk := a_below_k frm key
    unfold aP kP at N hk
    unfold txV at cc ⊢
    rcases z1 with rfl | rfl
    · replace N : needsL ⟨1, frm, to, amt, non, key, val, rs, ws⟩ = (if Op.bytesLess (⟨#[97, 58]⟩ ++ frm : ByteArray).toList (⟨#[97, 58]⟩ ++ to : ByteArray).toList = true then [⟨#[97, 58]⟩ ++ frm, ⟨#[97, 58]⟩ ++ to]
        else if Op.bytesLess (⟨#[97, 58]⟩ ++ to : ByteArray).toList (⟨#[97, 58]⟩ ++ frm : ByteArray).toList = true then [⟨#[97, 58]⟩ ++ to, ⟨#[97, 58]⟩ ++ frm]
        else [⟨#[97, 58]⟩ ++ frm]) := N
      clear hk
      generalize needsL ⟨1, frm, to, amt, non, key, val, rs, ws⟩ = nl at *
      go_enter Try.func16, Try.ntmps16
      go_wp2_with fail
      refine cc.mono ?_
      rintro e w1 ⟨rfl, hb1⟩
      have hX1 := hX.below hb1 hX.lt
      have hB1 := hB.trans (hb1.mono hB.size)
      have c1 := hX1.cell (i := 1) rfl
      have c2 := hX1.cell (i := 2) rfl
      clear hb1 cc hX hB
      have HN : Hid (nl = _) := N
      clear N
      go_wp2_with fail
      go_quiet (fail)
      have hX2 := hX1.drewN nq
      have hB2 := below_drewN hB1 nq
      clear hX1 hB1 c1 c2
      generalize w1.drewN nq = w2 at hX2 hB2 ⊢
      have c0 := hX2.cell (i := 0) rfl
      have c5 := hX2.cell (i := 5) rfl
      have hsz := hB2.size
      clear hX2
      generalize (⟨#[97, 58]⟩ ++ frm : ByteArray) = A at HN ⊢
      generalize (⟨#[97, 58]⟩ ++ to : ByteArray) = B at HN ⊢
      cases h1 : Op.bytesLess A.toList B.toList with
      | true =>
        have hne := beq_of_less h1
        replace HN : Hid (nl = [A, B]) := by show _ = _; rw [HN.out, if_pos h1]
        go_wp2
        go_ret
        rw [HN.out]
        exact GotStrs.of rfl rfl (two_strs _ _ _ _) (hB2.alloc hsz _)
      | false =>
        cases h2 : Op.bytesLess B.toList A.toList with
        | true =>
          have hne : (A.toList == B.toList) = false := beq_eq_false_iff_ne.2 (less_ne h2).symm
          replace HN : Hid (nl = [B, A]) := by show _ = _; rw [HN.out, if_neg (by rw [h1]; simp), if_pos h2]
          go_wp2
          go_ret
          rw [HN.out]
          exact GotStrs.of rfl rfl (two_strs _ _ _ _) (hB2.alloc hsz _)
        | false =>
          have heq : A.toList = B.toList := eq_of_neither h1 h2
          have hne : (A.toList == B.toList) = true := beq_iff_eq.2 heq
          clear heq
          replace HN : Hid (nl = [A]) := by show _ = _; rw [HN.out, if_neg (by rw [h1]; simp), if_neg (by rw [h2]; simp)]
          go_wp2
          go_ret
          rw [HN.out]
          exact GotStrs.of rfl rfl (one_strs _ _ _) (hB2.alloc hsz _)
    · replace N : needsL ⟨2, frm, to, amt, non, key, val, rs, ws⟩ = [⟨#[97, 58]⟩ ++ frm, ⟨#[107, 58]⟩ ++ key] := N
      generalize needsL ⟨2, frm, to, amt, non, key, val, rs, ws⟩ = nl at *
      go_enter Try.func16, Try.ntmps16
      go_wp2_with fail
      refine cc.mono ?_
      rintro e w1 ⟨rfl, hb1⟩
      have hX1 := hX.below hb1 hX.lt
      have hB1 := hB.trans (hb1.mono hB.size)
      have c1 := hX1.cell (i := 1) rfl
      have c2 := hX1.cell (i := 2) rfl
      clear hb1 cc hX hB
      have HN : Hid (nl = _) := N
      clear N
      go_wp2_with fail
      go_quiet (fail)
      have hX2 := hX1.drewN nq
      have hB2 := below_drewN hB1 nq
      clear hX1 hB1 c1 c2
      generalize w1.drewN nq = w2 at hX2 hB2 ⊢
      have c0 := hX2.cell (i := 0) rfl
      have c5 := hX2.cell (i := 5) rfl
      have hsz := hB2.size
      clear hX2
      have hne := beq_of_less hk
      go_wp2
      go_ret
      rw [HN.out]
      exact GotStrs.of rfl rfl (two_strs _ _ _ _) (hB2.alloc hsz _)
  · have HN : Hid (needsL d = []) := by show _ = _; unfold needsL; rw [if_neg hz]
    have hz' : ((checkL d : Int) != 0) = true := by rw [bne_iff_ne]; omega
    generalize checkL d = n at cc hz'
    generalize needsL d = nl at *
    clear hz hA hX hs
    unfold txV at cc ⊢
    go_enter Try.func16, Try.ntmps16
    go_wp2_with fail
    refine cc.mono ?_
    rintro e w1 ⟨rfl, hb1⟩
    have hB1 := hB.trans (hb1.mono hB.size)
    clear hb1 cc
    go_wp2
    go_ret
    rw [HN.out]
    exact GotStrs.of rfl rfl (nil_strs _ _) hB1

set_option maxRecDepth 100000 in
set_option maxHeartbeats 1000000 in
theorem refFits_any (d : TxD) (ra : Option Addr) (rc : Nat) (wa : Option Addr) (wc : Nat) (w : World) (hA : TxAt w d ra wa) (hs : TxSizes d) (hn : d.ws.length ≤ 9223372036854775807) :
    Calls Try.prog 18 #[txV d ra rc wa wc] w fun e w' => e = .returned (.bool (fitsL d)) ∧ Below w.heap.size w w' := by
  have hX : Arr _ _ _ (txC d ra rc wa wc) := TxBox.new w d ra rc wa wc
  have hB := belowNew w (.cells (txC d ra rc wa wc).toArray 25)
  have cc := refNeeds_any d ra rc wa wc _ (hA.below hB) hs
  have hW : StrsAt w wa d.ws := hA.wr
  have HF : Hid (fitsL d = (!(needsL d).isEmpty && (needsL d).all (hasL d.ws))) := (rfl : _ = _)
  have hl2 : (needsL d).length ≤ 2 := by
    unfold needsL
    split
    · split
      · simp
      · split
        · simp
        · split <;> simp
    · simp
  generalize needsL d = nl at cc HF hl2
  generalize fitsL d = F at HF ⊢
  clear hA hs
  obtain ⟨kind, frm, to, amt, non, key, val, rs, ws⟩ := d
  replace hW : StrsAt w wa ws := hW
  replace hn : ws.length ≤ 9223372036854775807 := hn
  replace HF : Hid (F = (!nl.isEmpty && nl.all (hasL ws))) := HF
  unfold txV at cc ⊢
  go_enter Try.func18, Try.ntmps18
  go_wp2_with fail
  refine cc.mono ?_
  rintro e w1 ⟨ao, rfl, hS, hb1⟩
  have hX1 := hX.below hb1 hX.lt
  have hB1 := hB.trans (hb1.mono hB.size)
  replace hW := hW.below hB1
  clear hb1 cc hX hB
  go_wp2
  go_loopw [4] (fun u wr => ∃ k : Nat, k ≤ nl.length ∧ u = .int .i64 k ∧ Hid ((nl.take k).all (hasL ws) = true) ∧ Below w1.heap.size w1 wr) (fun u _ => nl.length - (intOf u).toNat)
  case atStart => exact ⟨0, by omega, rfl, (by show _ = _; simp), Below.refl _ _⟩
  case round =>
    obtain ⟨k, hk, rfl, hK, hbr⟩ := hrel
    by_cases hlt : k < nl.length
    · obtain ⟨b, off, rfl, hbl, hcell⟩ := (hS.below hbr) k hlt
      have c8 := (hX1.below hbr hX1.lt).cell (i := 8) rfl
      have hWr := hW.below hbr
      have ct := fun dq => refHas_any wa wc ws nl[k] (wr.drewN dq) (hWr.drewN dq) hn
      have hall := hK.out
      have e1 : (nl.take (k + 1)).all (hasL ws) = ((nl.take k).all (hasL ws) && hasL ws nl[k]) := by
        rw [List.take_succ_eq_append_getElem hlt, List.all_append]; simp
      cases hh : hasL ws nl[k] with
      | true =>
        have H : Hid ((nl.take (k + 1)).all (hasL ws) = true) := by show _ = _; rw [e1, hall, hh]; rfl
        simp only [hh] at ct
        clear e1 hall hK hh
        go_wp2_with fail
        go_quiet (exact Calls.quiet_of_same (ct _))
        have hb2 := below_drewN hbr nq
        clear ct hbr hcell c8 hWr
        go_wp2
        go_roundw
        case rel => exact ⟨k + 1, by omega, by go_num, H, hb2⟩
        case measure => simp [intOf]; omega
      | false =>
        have H : Hid (F = false) := by
          show _ = _
          rw [HF.out]
          have e2 : nl.all (hasL ws) = false := by
            rw [← List.take_append_drop (k + 1) nl, List.all_append, e1, hh]
            simp
          rw [e2]
          simp
        simp only [hh] at ct
        clear e1 hall hK hh
        go_wp2_with fail
        go_quiet (exact Calls.quiet_of_same (ct _))
        have hb2 := below_drewN hbr nq
        clear ct hbr hcell c8 hWr
        go_wp2
        go_ret
        exact ⟨by rw [H.out]; rfl, hB1.trans (hb2.mono hB1.size)⟩
    · have H : Hid (F = decide (0 < nl.length)) := by
        show _ = _
        rw [HF.out]
        have h1 := hK.out
        rw [List.take_of_length_le (by omega)] at h1
        rw [h1]
        cases nl <;> simp
      clear hK
      go_wp2
      go_ret
      exact ⟨by rw [H.out]; rfl, hB1.trans (hbr.mono hB1.size)⟩

set_option maxRecDepth 100000 in
set_option maxHeartbeats 1000000 in
theorem refEncode_no (d : TxD) (ra : Option Addr) (rc : Nat) (wa : Option Addr) (wc : Nat) (w : World) (hA : TxAt w d ra wa) (hs : TxSizes d) (hz : checkL d ≠ 0) :
    Calls Try.prog 11 #[txV d ra rc wa wc] w fun e w' => e = .returned (.tuple #[.string ⟨#[]⟩, .int .i64 (checkL d : Int)]) ∧ Below w.heap.size w w' := by
  have hB := belowNew w (.cells (txC d ra rc wa wc).toArray 25)
  have cc := refCheck_any d ra rc wa wc _ (hA.below hB) hs
  have hz' : ((checkL d : Int) != 0) = true := by rw [bne_iff_ne]; omega
  generalize checkL d = n at cc hz' ⊢
  clear hz hA
  unfold txV at cc ⊢
  go_enter Try.func11, Try.ntmps11
  go_wp2_with fail
  refine cc.mono ?_
  rintro e w1 ⟨rfl, hb1⟩
  have hB1 := hB.trans (hb1.mono hB.size)
  clear hb1 cc
  go_wp2
  go_ret2
  exact ⟨rfl, hB1⟩

theorem joins (l m : List UInt8) : (⟨l.toArray⟩ ++ ⟨m.toArray⟩ : ByteArray) = ⟨(l ++ m).toArray⟩ := ByteArray.mk_append_mk l m

set_option maxRecDepth 100000 in
set_option maxHeartbeats 4000000 in
theorem refEncode_yes (d : TxD) (ra : Option Addr) (rc : Nat) (wa : Option Addr) (wc : Nat) (w : World) (hA : TxAt w d ra wa) (hs : TxSizes d) (hz : checkL d = 0) :
    Calls Try.prog 11 #[txV d ra rc wa wc] w fun e w' => e = .returned (.tuple #[.string ⟨(encL d).toArray⟩, .int .i64 0]) ∧ Below w.heap.size w w' := by
  have hX : Arr _ _ _ (txC d ra rc wa wc) := TxBox.new w d ra rc wa wc
  have hB := belowNew w (.cells (txC d ra rc wa wc).toArray 25)
  have cc := refCheck_any d ra rc wa wc _ (hA.below hB) hs
  rw [hz] at cc
  obtain ⟨z1, z2, z3, z4, z5, z6⟩ := check_zero hz
  obtain ⟨y1, y2, y3, y4⟩ := fields_sizes z2
  have y5 := lst_le z5
  have y6 := lst_le z6
  have y7 := (keys_sizes z5).1
  have y8 := (keys_sizes z6).1
  have x0 := goInt_length d.kind
  have x1 := txt_le d.frm.data.toList
  have x2 := txt_le d.to.data.toList
  have x3 := goInt_length d.amt
  have x4 := goInt_length d.non
  have x5 := txt_le d.key.data.toList
  have x6 := txt_le d.val.data.toList
  have e1 : d.frm.data.toList.length = d.frm.size := by simp
  have e2 : d.to.data.toList.length = d.to.size := by simp
  have e5 : d.key.data.toList.length = d.key.size := by simp
  have e6 : d.val.data.toList.length = d.val.size := by simp
  have C0 := fun w1 => refInt_any d.kind w1
  have C1 := fun w1 => refText_any d.frm w1 (by omega)
  have C2 := fun w1 => refText_any d.to w1 (by omega)
  have C3 := fun w1 => refInt_any (d.amt : Int) w1
  have C4 := fun w1 => refInt_any (d.non : Int) w1
  have C5 := fun w1 => refText_any d.key w1 (by omega)
  have C6 := fun w1 => refText_any d.val w1 (by omega)
  have C7 := fun w1 (h : StrsAt w1 ra d.rs) => refList_any ra rc d.rs w1 h (by omega) (by omega)
  have C8 := fun w1 (h : StrsAt w1 wa d.ws) => refList_any wa wc d.ws w1 h (by omega) (by omega)
  have E : Hid (encL d = goInt d.kind ++ txt d.frm.data.toList ++ txt d.to.data.toList ++ goInt d.amt ++ goInt d.non ++ txt d.key.data.toList ++ txt d.val.data.toList ++ lst (bl d.rs) ++ lst (bl d.ws)) := (rfl : _ = _)
  obtain ⟨out, hout⟩ : ∃ out, out = (⟨(encL d).toArray⟩ : ByteArray) := ⟨_, rfl⟩
  rw [← hout]
  have Hout : Hid (out = (⟨(encL d).toArray⟩ : ByteArray)) := hout
  clear hout
  replace z3 : (d.amt : Int) ≤ 4611686018427387903 := by omega
  replace z4 : (d.non : Int) ≤ 4611686018427387903 := by omega
  generalize goInt d.kind = l0 at *
  generalize txt d.frm.data.toList = l1 at *
  generalize txt d.to.data.toList = l2 at *
  generalize goInt (d.amt : Int) = l3 at *
  generalize goInt (d.non : Int) = l4 at *
  generalize txt d.key.data.toList = l5 at *
  generalize txt d.val.data.toList = l6 at *
  generalize lst (bl d.rs) = l7 at *
  generalize lst (bl d.ws) = l8 at *
  have hlen : Hid (l0.length ≤ 9 ∧ l1.length ≤ 41 ∧ l2.length ≤ 41 ∧ l3.length ≤ 9 ∧ l4.length ≤ 9 ∧ l5.length ≤ 41 ∧ l6.length ≤ 73 ∧ l7.length ≤ 353 ∧ l8.length ≤ 353) := ⟨by omega, by omega, by omega, by omega, by omega, by omega, by omega, by omega, by omega⟩
  have hAw : ∀ w1, Below w.heap.size w w1 → TxAt w1 d ra wa := fun w1 h => hA.below h
  clear x0 x1 x2 x3 x4 x5 x6 y1 y2 y3 y4 y5 y6 y7 y8 e1 e2 e5 e6 z1 z2 z5 z6 hz hA hs
  obtain ⟨s0, h0⟩ : ∃ q, q = (⟨l0.toArray⟩ : ByteArray) := ⟨_, rfl⟩
  obtain ⟨s1, h1⟩ : ∃ q, q = (⟨l1.toArray⟩ : ByteArray) := ⟨_, rfl⟩
  obtain ⟨s2, h2⟩ : ∃ q, q = (⟨l2.toArray⟩ : ByteArray) := ⟨_, rfl⟩
  obtain ⟨s3, h3⟩ : ∃ q, q = (⟨l3.toArray⟩ : ByteArray) := ⟨_, rfl⟩
  obtain ⟨s4, h4⟩ : ∃ q, q = (⟨l4.toArray⟩ : ByteArray) := ⟨_, rfl⟩
  obtain ⟨s5, h5⟩ : ∃ q, q = (⟨l5.toArray⟩ : ByteArray) := ⟨_, rfl⟩
  obtain ⟨s6, h6⟩ : ∃ q, q = (⟨l6.toArray⟩ : ByteArray) := ⟨_, rfl⟩
  obtain ⟨s7, h7⟩ : ∃ q, q = (⟨l7.toArray⟩ : ByteArray) := ⟨_, rfl⟩
  obtain ⟨s8, h8⟩ : ∃ q, q = (⟨l8.toArray⟩ : ByteArray) := ⟨_, rfl⟩
  have HE : Hid (s0 ++ s1 ++ s2 ++ s3 ++ s4 ++ s5 ++ s6 ++ s7 ++ s8 = out) := by
    show _ = _
    rw [h0, h1, h2, h3, h4, h5, h6, h7, h8, joins, joins, joins, joins, joins, joins, joins, joins, Hout.out, E.out]
  have k0 : s0.size ≤ 9 := by rw [h0, size_mk]; exact hlen.out.1
  have k1 : s1.size ≤ 41 := by rw [h1, size_mk]; exact hlen.out.2.1
  have k2 : s2.size ≤ 41 := by rw [h2, size_mk]; exact hlen.out.2.2.1
  have k3 : s3.size ≤ 9 := by rw [h3, size_mk]; exact hlen.out.2.2.2.1
  have k4 : s4.size ≤ 9 := by rw [h4, size_mk]; exact hlen.out.2.2.2.2.1
  have k5 : s5.size ≤ 41 := by rw [h5, size_mk]; exact hlen.out.2.2.2.2.2.1
  have k6 : s6.size ≤ 73 := by rw [h6, size_mk]; exact hlen.out.2.2.2.2.2.2.1
  have k7 : s7.size ≤ 353 := by rw [h7, size_mk]; exact hlen.out.2.2.2.2.2.2.2.1
  have k8 : s8.size ≤ 353 := by rw [h8, size_mk]; exact hlen.out.2.2.2.2.2.2.2.2
  rw [← h0] at C0
  rw [← h1] at C1
  rw [← h2] at C2
  rw [← h3] at C3
  rw [← h4] at C4
  rw [← h5] at C5
  rw [← h6] at C6
  rw [← h7] at C7
  rw [← h8] at C8
  obtain ⟨t1, q1⟩ : ∃ q, s0 ++ s1 = q := ⟨_, rfl⟩
  have m1 : ¬ (9223372036854775807 < s0.size + s1.size) := by omega
  have g1 : t1.size ≤ 50 := by rw [← q1, ByteArray.size_append]; omega
  obtain ⟨t2, q2⟩ : ∃ q, t1 ++ s2 = q := ⟨_, rfl⟩
  have m2 : ¬ (9223372036854775807 < t1.size + s2.size) := by omega
  have g2 : t2.size ≤ 91 := by rw [← q2, ByteArray.size_append]; omega
  obtain ⟨t3, q3⟩ : ∃ q, t2 ++ s3 = q := ⟨_, rfl⟩
  have m3 : ¬ (9223372036854775807 < t2.size + s3.size) := by omega
  have g3 : t3.size ≤ 100 := by rw [← q3, ByteArray.size_append]; omega
  obtain ⟨t4, q4⟩ : ∃ q, t3 ++ s4 = q := ⟨_, rfl⟩
  have m4 : ¬ (9223372036854775807 < t3.size + s4.size) := by omega
  have g4 : t4.size ≤ 109 := by rw [← q4, ByteArray.size_append]; omega
  obtain ⟨t5, q5⟩ : ∃ q, t4 ++ s5 = q := ⟨_, rfl⟩
  have m5 : ¬ (9223372036854775807 < t4.size + s5.size) := by omega
  have g5 : t5.size ≤ 150 := by rw [← q5, ByteArray.size_append]; omega
  obtain ⟨t6, q6⟩ : ∃ q, t5 ++ s6 = q := ⟨_, rfl⟩
  have m6 : ¬ (9223372036854775807 < t5.size + s6.size) := by omega
  have g6 : t6.size ≤ 223 := by rw [← q6, ByteArray.size_append]; omega
  obtain ⟨t7, q7⟩ : ∃ q, t6 ++ s7 = q := ⟨_, rfl⟩
  have m7 : ¬ (9223372036854775807 < t6.size + s7.size) := by omega
  have g7 : t7.size ≤ 576 := by rw [← q7, ByteArray.size_append]; omega
  obtain ⟨t8, q8⟩ : ∃ q, t7 ++ s8 = q := ⟨_, rfl⟩
  have m8 : ¬ (9223372036854775807 < t7.size + s8.size) := by omega
  have g8 : t8.size ≤ 929 := by rw [← q8, ByteArray.size_append]; omega
  have HE2 := HE.out
  rw [q1, q2, q3, q4, q5, q6, q7, q8] at HE2
  subst HE2
  clear HE
  clear h0 h1 h2 h3 h4 h5 h6 h7 h8 hlen E Hout k0 k1 k2 k3 k4 k5 k6 k7 k8 g1 g2 g3 g4 g5 g6 g7 g8
  unfold txV at cc ⊢
  go_enter Try.func11, Try.ntmps11
  go_wp2_with fail
  refine cc.mono ?_
  rintro e w1 ⟨rfl, hb1⟩
  have hX1 := hX.below hb1 hX.lt
  have hB1 := hB.trans (hb1.mono hB.size)
  clear hb1 cc hX hB
  obtain ⟨x0, x1, x2, x3, x4, x5, x6, x7, x8⟩ := hX1.cells9
  have X0 : ∀ q os, (grow (redrawn w1 q) os).cell? ⟨w.heap.size, 0, none⟩ = some (.int .i64 d.kind) := fun q os => cell_regrown x0 q os
  have X1 : ∀ q os, (grow (redrawn w1 q) os).cell? ⟨w.heap.size, 1, none⟩ = some (.string d.frm) := fun q os => cell_regrown x1 q os
  have X2 : ∀ q os, (grow (redrawn w1 q) os).cell? ⟨w.heap.size, 2, none⟩ = some (.string d.to) := fun q os => cell_regrown x2 q os
  have X3 : ∀ q os, (grow (redrawn w1 q) os).cell? ⟨w.heap.size, 3, none⟩ = some (.int .u64 (d.amt : Int)) := fun q os => cell_regrown x3 q os
  have X4 : ∀ q os, (grow (redrawn w1 q) os).cell? ⟨w.heap.size, 4, none⟩ = some (.int .u64 (d.non : Int)) := fun q os => cell_regrown x4 q os
  have X5 : ∀ q os, (grow (redrawn w1 q) os).cell? ⟨w.heap.size, 5, none⟩ = some (.string d.key) := fun q os => cell_regrown x5 q os
  have X6 : ∀ q os, (grow (redrawn w1 q) os).cell? ⟨w.heap.size, 6, none⟩ = some (.string d.val) := fun q os => cell_regrown x6 q os
  have X7 : ∀ q os, (grow (redrawn w1 q) os).cell? ⟨w.heap.size, 7, none⟩ = some (.slice ra d.rs.length rc) := fun q os => cell_regrown x7 q os
  have X8 : ∀ q os, (grow (redrawn w1 q) os).cell? ⟨w.heap.size, 8, none⟩ = some (.slice wa d.ws.length wc) := fun q os => cell_regrown x8 q os
  have D0 : ∀ q os, Calls Try.prog 29 #[.int .i64 d.kind] (grow (redrawn w1 q) os) fun e w'' => e = .returned (.string s0) ∧ ∃ p : Regrown, w'' = grow (redrawn w1 p.d) p.os := fun q os => Calls.regrown_of (C0 _)
  have D1 : ∀ q os, Calls Try.prog 30 #[.string d.frm] (grow (redrawn w1 q) os) fun e w'' => e = .returned (.string s1) ∧ ∃ p : Regrown, w'' = grow (redrawn w1 p.d) p.os := fun q os => Calls.regrown_of (C1 _)
  have D2 : ∀ q os, Calls Try.prog 30 #[.string d.to] (grow (redrawn w1 q) os) fun e w'' => e = .returned (.string s2) ∧ ∃ p : Regrown, w'' = grow (redrawn w1 p.d) p.os := fun q os => Calls.regrown_of (C2 _)
  have D3 : ∀ q os, Calls Try.prog 29 #[.int .i64 (d.amt : Int)] (grow (redrawn w1 q) os) fun e w'' => e = .returned (.string s3) ∧ ∃ p : Regrown, w'' = grow (redrawn w1 p.d) p.os := fun q os => Calls.regrown_of (C3 _)
  have D4 : ∀ q os, Calls Try.prog 29 #[.int .i64 (d.non : Int)] (grow (redrawn w1 q) os) fun e w'' => e = .returned (.string s4) ∧ ∃ p : Regrown, w'' = grow (redrawn w1 p.d) p.os := fun q os => Calls.regrown_of (C4 _)
  have D5 : ∀ q os, Calls Try.prog 30 #[.string d.key] (grow (redrawn w1 q) os) fun e w'' => e = .returned (.string s5) ∧ ∃ p : Regrown, w'' = grow (redrawn w1 p.d) p.os := fun q os => Calls.regrown_of (C5 _)
  have D6 : ∀ q os, Calls Try.prog 30 #[.string d.val] (grow (redrawn w1 q) os) fun e w'' => e = .returned (.string s6) ∧ ∃ p : Regrown, w'' = grow (redrawn w1 p.d) p.os := fun q os => Calls.regrown_of (C6 _)
  have D7 : ∀ q os, Calls Try.prog 31 #[.slice ra d.rs.length rc] (grow (redrawn w1 q) os) fun e w'' => e = .returned (.string s7) ∧ ∃ p : Regrown, w'' = grow (redrawn w1 p.d) p.os := fun q os => Calls.regrown_of (C7 _ (hAw _ (hB1.trans ((below_regrown w1 q os).mono hB1.size))).rd)
  have D8 : ∀ q os, Calls Try.prog 31 #[.slice wa d.ws.length wc] (grow (redrawn w1 q) os) fun e w'' => e = .returned (.string s8) ∧ ∃ p : Regrown, w'' = grow (redrawn w1 p.d) p.os := fun q os => Calls.regrown_of (C8 _ (hAw _ (hB1.trans ((below_regrown w1 q os).mono hB1.size))).wr)
  clear C0 C1 C2 C3 C4 C5 C6 C7 C8 x0 x1 x2 x3 x4 x5 x6 x7 x8 hX1
  go_wp2_with fail
  refine wp_region_quiet_below (by kernel_rfl) (by kernel_rfl) ?_
  iterate 2 (go_big_quiet_step (fail))
  go_big_quiet_step (exact D0 _ _)
  iterate 2 (go_big_quiet_step (fail))
  go_big_quiet_step (exact D1 _ _)
  go_big_quiet_step (fail)
  iterate 2 (go_big_quiet_step (fail))
  go_big_quiet_step (exact D2 _ _)
  go_big_quiet_step (fail)
  iterate 3 (go_big_quiet_step (fail))
  go_big_quiet_step (exact D3 _ _)
  go_big_quiet_step (fail)
  iterate 3 (go_big_quiet_step (fail))
  go_big_quiet_step (exact D4 _ _)
  go_big_quiet_step (fail)
  iterate 2 (go_big_quiet_step (fail))
  go_big_quiet_step (exact D5 _ _)
  go_big_quiet_step (fail)
  iterate 2 (go_big_quiet_step (fail))
  go_big_quiet_step (exact D6 _ _)
  go_big_quiet_step (fail)
  iterate 2 (go_big_quiet_step (fail))
  go_big_quiet_step (exact D7 _ _)
  go_big_quiet_step (fail)
  iterate 2 (go_big_quiet_step (fail))
  go_big_quiet_step (exact D8 _ _)
  go_big_quiet_step (fail)
  iterate 2 (go_big_quiet_step (fail))
  refine wpQuiet_nil ?_
  rintro w2 ⟨p, rfl⟩
  have hB2 := hB1.trans ((below_regrown w1 p.d p.os).mono hB1.size)
  generalize grow (redrawn w1 p.d) p.os = w2 at hB2 ⊢
  clear D0 D1 D2 D3 D4 D5 D6 D7 D8 X0 X1 X2 X3 X4 X5 X6 X7 X8
  go_wp2
  go_ret2
  exact ⟨rfl, hB2⟩

theorem refEncode_any (d : TxD) (ra : Option Addr) (rc : Nat) (wa : Option Addr) (wc : Nat) (w : World) (hA : TxAt w d ra wa) (hs : TxSizes d) :
    Calls Try.prog 11 #[txV d ra rc wa wc] w fun e w' => e = .returned (.tuple #[.string (encB d), .int .i64 (checkL d : Int)]) ∧ Below w.heap.size w w' := by
  unfold encB
  by_cases hz : checkL d = 0
  · rw [if_pos hz, hz]
    exact refEncode_yes d ra rc wa wc w hA hs hz
  · rw [if_neg hz]
    exact refEncode_no d ra rc wa wc w hA hs hz
end Go.Proofs.Ytlpnoimoeadheaa
