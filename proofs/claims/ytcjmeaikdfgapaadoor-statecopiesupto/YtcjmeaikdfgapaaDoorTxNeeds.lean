/- What Needs, slices.Contains and Fits do; nothing old in memory is turned. -/
import Derived.Test.YtcjmeaikdfgapaaDoorTxEncode
import Derived.Test.YtcjmeaikdfgapaaDoorStrRows
namespace Go.Proofs.YtcjmeaikdfgapaaDoor
open Go.RowKit
set_option linter.unusedVariables false

set_option maxRecDepth 100000 in
set_option maxHeartbeats 400000 in
theorem index_any (ao : Option Addr) (cap : Nat) (ss : List ByteArray) (v : ByteArray) (w : World) (hc : StrsAt w ao ss) (hn : ss.length ≤ 9223372036854775807) :
    Calls Tryd.prog 89 #[.slice ao ss.length cap, .string v] w fun e w' => (∃ i : Int, e = .returned (.int .i64 i) ∧ decide (0 ≤ i) = hasL ss v) ∧ w' = w := by
  go_enter Tryd.func89, Tryd.ntmps89
  go_wp2
  go_loop [8] (fun u => ∃ k : Nat, k ≤ ss.length ∧ u = .int .i64 k ∧ Hid (hasL ss v = hasL (ss.drop k) v)) (fun u => ss.length - (intOf u).toNat)
  case atStart => exact ⟨0, by omega, rfl, by show _ = _; simp⟩
  case round =>
    obtain ⟨k, hk, rfl, hK⟩ := hrel
    by_cases hlt : k < ss.length
    · obtain ⟨b, off, rfl, hbl, hcell⟩ := hc k hlt
      have hd : ss.drop k = ss[k] :: ss.drop (k + 1) := List.drop_eq_getElem_cons hlt
      have hK2 := hK.out
      rw [hd] at hK2
      obtain ⟨x, hx⟩ : ∃ x, x = ss[k] := ⟨_, rfl⟩
      rw [← hx] at hK2 hcell
      clear hK hd hx
      by_cases he : v.toList = x.toList
      · have H : Hid (hasL ss v = true) := by show _ = _; rw [hK2]; simp [hasL, he]
        clear hK2
        go_wp2
        go_ret
        exact ⟨⟨k, rfl, by rw [H.out]; simp⟩, rfl⟩
      · have H : Hid (hasL ss v = hasL (ss.drop (k + 1)) v) := by show _ = _; rw [hK2]; simp [hasL, he]
        have heb : (v.toList == x.toList) = false := beq_eq_false_iff_ne.2 he
        clear hK2
        go_wp2
        go_round
        case rel => exact ⟨k + 1, by omega, by go_num, H⟩
        case measure => simp [intOf]; omega
    · have H : Hid (hasL ss v = false) := by show _ = _; rw [hK.out, List.drop_of_length_le (by omega)]; rfl
      clear hK
      go_wp2
      go_ret
      exact ⟨⟨-1, rfl, by rw [H.out]; rfl⟩, rfl⟩

set_option maxRecDepth 100000 in
set_option maxHeartbeats 400000 in
theorem contains_any (ao : Option Addr) (cap : Nat) (ss : List ByteArray) (v : ByteArray) (w : World) (hc : StrsAt w ao ss) (hn : ss.length ≤ 9223372036854775807) :
    Calls Tryd.prog 71 #[.slice ao ss.length cap, .string v] w fun e w' => e = .returned (.bool (hasL ss v)) ∧ w' = w := by
  go_enter Tryd.func71, Tryd.ntmps71
  go_wp2_with fail
  refine (index_any ao cap ss v _ hc hn).mono ?_
  rintro e w' ⟨⟨i, rfl, hi⟩, rfl⟩
  go_wp2
  go_ret
  exact ⟨by rw [← hi]; rfl, rfl⟩

theorem one_strs (w : World) (a : ByteArray) (T : TypeId) : StrsAt (w.alloc (.cells #[.string a] T)) (some ⟨w.heap.size, 0, none⟩) [a] := by
  intro j hj
  have h := Arr.new w T [.string a]
  obtain rfl : j = 0 := by simp at hj; omega
  exact ⟨w.heap.size, 0, rfl, h.lt, h.cell rfl⟩

theorem two_strs (w : World) (a b : ByteArray) (T : TypeId) : StrsAt (w.alloc (.cells #[.string a, .string b] T)) (some ⟨w.heap.size, 0, none⟩) [a, b] := by
  intro j hj
  have h := Arr.new w T [.string a, .string b]
  match j, hj with
  | 0, _ => exact ⟨w.heap.size, 0, rfl, h.lt, h.cell rfl⟩
  | 1, _ => exact ⟨w.heap.size, 0, rfl, h.lt, h.cell rfl⟩



/-- A row of strings is handed back. -/
def GotStrs (W : World) (l : List ByteArray) (e : Ending) (w : World) : Prop :=
  ∃ ao, e = .returned (.slice ao l.length l.length) ∧ StrsAt w ao l ∧ Below W.heap.size W w

theorem GotStrs.of {W w : World} {l : List ByteArray} {n : Nat} {v : Value} {ao : Option Addr} (hv : v = .slice ao n n) (hn : n = l.length) (h : StrsAt w ao l) (hb : Below W.heap.size W w) : GotStrs W l (.returned v) w := by
  subst hv hn
  exact ⟨ao, rfl, h, hb⟩

set_option maxRecDepth 100000 in
set_option maxHeartbeats 1000000 in
theorem needs_any (d : TxD) (ra : Option Addr) (rc : Nat) (wa : Option Addr) (wc : Nat) (w : World) (hA : TxAt w d ra wa) :
    Calls Tryd.prog 70 #[txV d ra rc wa wc] w fun e w' => GotStrs w (needsL d) e w' := by
  have hX := TxBox.new w d ra rc wa wc
  have hB := belowNew w (.cells (txC d ra rc wa wc).toArray 33)
  have cc := check_any d ra rc wa wc _ (hA.below hB)
  by_cases hz : checkL d = 0
  · obtain ⟨z1, z2, z3, z4, z5, z6⟩ := check_zero hz
    obtain ⟨y1, y2, y3, y4⟩ := fields_sizes z2
    have N : needsL d = (if d.kind = 2 then [aP ++ d.frm, kP ++ d.key]
     else if Op.bytesLess (aP ++ d.frm).toList (aP ++ d.to).toList = true then [aP ++ d.frm, aP ++ d.to]
     else if Op.bytesLess (aP ++ d.to).toList (aP ++ d.frm).toList = true then [aP ++ d.to, aP ++ d.frm]
     else [aP ++ d.frm]) := by unfold needsL; rw [if_pos hz]
    rw [hz] at cc
    clear z2 z3 z4 z5 z6 hz hA
    obtain ⟨kind, frm, to, amt, non, key, val, rs, ws⟩ := d
    replace z1 : kind = 1 ∨ kind = 2 := z1
    replace y1 : frm.size ≤ 32 := y1
    replace y2 : to.size ≤ 32 := y2
    replace y3 : key.size ≤ 32 := y3
    replace N : needsL ⟨kind, frm, to, amt, non, key, val, rs, ws⟩ = (if kind = 2 then [aP ++ frm, kP ++ key]
     else if Op.bytesLess (aP ++ frm).toList (aP ++ to).toList = true then [aP ++ frm, aP ++ to]
     else if Op.bytesLess (aP ++ to).toList (aP ++ frm).toList = true then [aP ++ to, aP ++ frm]
     else [aP ++ frm]) := N
    unfold aP kP at N
    unfold txV at cc ⊢
    rcases z1 with rfl | rfl
    · rw [if_neg (by decide)] at N
      cases h1 : Op.bytesLess (⟨#[97, 58]⟩ ++ frm : ByteArray).toList (⟨#[97, 58]⟩ ++ to : ByteArray).toList with
      | true =>
        rw [if_pos h1] at N
        have HN : Hid (needsL ⟨1, frm, to, amt, non, key, val, rs, ws⟩ = _) := N
        clear N
        generalize needsL ⟨1, frm, to, amt, non, key, val, rs, ws⟩ = nl at *
        go_enter Tryd.func70, Tryd.ntmps70
        go_wp2_with fail
        refine cc.mono ?_
        rintro e w1 ⟨rfl, hb1⟩
        have hX1 := hX.below hb1 hX.lt
        have hB1 := hB.trans (hb1.mono hB.size)
        have c0 := hX1.cell (i := 0) rfl
        have c1 := hX1.cell (i := 1) rfl
        have c2 := hX1.cell (i := 2) rfl
        have c5 := hX1.cell (i := 5) rfl
        clear hb1 cc hX hB hX1
        have hsz := hB1.size
        go_wp2
        go_ret
        rw [HN.out]
        exact GotStrs.of rfl rfl (two_strs _ _ _ _) (hB1.alloc hsz _)
      | false =>
        rw [if_neg (by rw [h1]; simp)] at N
        cases h2 : Op.bytesLess (⟨#[97, 58]⟩ ++ to : ByteArray).toList (⟨#[97, 58]⟩ ++ frm : ByteArray).toList with
        | true =>
          rw [if_pos h2] at N
          have HN : Hid (needsL ⟨1, frm, to, amt, non, key, val, rs, ws⟩ = _) := N
          clear N
          generalize needsL ⟨1, frm, to, amt, non, key, val, rs, ws⟩ = nl at *
          go_enter Tryd.func70, Tryd.ntmps70
          go_wp2_with fail
          refine cc.mono ?_
          rintro e w1 ⟨rfl, hb1⟩
          have hX1 := hX.below hb1 hX.lt
          have hB1 := hB.trans (hb1.mono hB.size)
          have c0 := hX1.cell (i := 0) rfl
          have c1 := hX1.cell (i := 1) rfl
          have c2 := hX1.cell (i := 2) rfl
          have c5 := hX1.cell (i := 5) rfl
          clear hb1 cc hX hB hX1
          have hsz := hB1.size
          go_wp2
          go_ret
          rw [HN.out]
          exact GotStrs.of rfl rfl (two_strs _ _ _ _) (hB1.alloc hsz _)
        | false =>
          rw [if_neg (by rw [h2]; simp)] at N
          have HN : Hid (needsL ⟨1, frm, to, amt, non, key, val, rs, ws⟩ = _) := N
          clear N
          generalize needsL ⟨1, frm, to, amt, non, key, val, rs, ws⟩ = nl at *
          go_enter Tryd.func70, Tryd.ntmps70
          go_wp2_with fail
          refine cc.mono ?_
          rintro e w1 ⟨rfl, hb1⟩
          have hX1 := hX.below hb1 hX.lt
          have hB1 := hB.trans (hb1.mono hB.size)
          have c0 := hX1.cell (i := 0) rfl
          have c1 := hX1.cell (i := 1) rfl
          have c2 := hX1.cell (i := 2) rfl
          have c5 := hX1.cell (i := 5) rfl
          clear hb1 cc hX hB hX1
          have hsz := hB1.size
          go_wp2
          go_ret
          rw [HN.out]
          exact GotStrs.of rfl rfl (one_strs _ _ _) (hB1.alloc hsz _)
    · rw [if_pos rfl] at N
      have HN : Hid (needsL ⟨2, frm, to, amt, non, key, val, rs, ws⟩ = _) := N
      clear N
      generalize needsL ⟨2, frm, to, amt, non, key, val, rs, ws⟩ = nl at *
      go_enter Tryd.func70, Tryd.ntmps70
      go_wp2_with fail
      refine cc.mono ?_
      rintro e w1 ⟨rfl, hb1⟩
      have hX1 := hX.below hb1 hX.lt
      have hB1 := hB.trans (hb1.mono hB.size)
      have c0 := hX1.cell (i := 0) rfl
      have c1 := hX1.cell (i := 1) rfl
      have c2 := hX1.cell (i := 2) rfl
      have c5 := hX1.cell (i := 5) rfl
      clear hb1 cc hX hB hX1
      have hsz := hB1.size
      go_wp2
      go_ret
      rw [HN.out]
      exact GotStrs.of rfl rfl (two_strs _ _ _ _) (hB1.alloc hsz _)
  · have HN : Hid (needsL d = []) := by show _ = _; unfold needsL; rw [if_neg hz]
    have hz' : ((checkL d : Int) != 0) = true := by rw [bne_iff_ne]; omega
    generalize checkL d = n at cc hz'
    generalize needsL d = nl at *
    clear hz hA hX
    unfold txV at cc ⊢
    go_enter Tryd.func70, Tryd.ntmps70
    go_wp2_with fail
    refine cc.mono ?_
    rintro e w1 ⟨rfl, hb1⟩
    have hB1 := hB.trans (hb1.mono hB.size)
    clear hb1 cc
    go_wp2
    go_ret
    rw [HN.out]
    exact GotStrs.of rfl rfl (nil_strs _ _) hB1

set_option maxRecDepth 100000 in
set_option maxHeartbeats 1000000 in
theorem fits_any (d : TxD) (ra : Option Addr) (rc : Nat) (wa : Option Addr) (wc : Nat) (w : World) (hA : TxAt w d ra wa) (hn : d.ws.length ≤ 9223372036854775807) :
    Calls Tryd.prog 53 #[txV d ra rc wa wc] w fun e w' => e = .returned (.bool (fitsL d)) ∧ Below w.heap.size w w' := by
  have hX := TxBox.new w d ra rc wa wc
  have hB := belowNew w (.cells (txC d ra rc wa wc).toArray 33)
  have cc := needs_any d ra rc wa wc _ (hA.below hB)
  have hW : StrsAt w wa d.ws := hA.wr
  have HF : Hid (fitsL d = (!(needsL d).isEmpty && (needsL d).all (hasL d.ws))) := (rfl : _ = _)
  have hl2 : (needsL d).length ≤ 2 := by
    unfold needsL
    split
    · split
      · simp
      · split
        · simp
        · split <;> simp
    · simp
  generalize needsL d = nl at cc HF hl2
  generalize fitsL d = F at HF ⊢
  clear hA
  obtain ⟨kind, frm, to, amt, non, key, val, rs, ws⟩ := d
  replace hW : StrsAt w wa ws := hW
  replace hn : ws.length ≤ 9223372036854775807 := hn
  replace HF : Hid (F = (!nl.isEmpty && nl.all (hasL ws))) := HF
  unfold txV at cc ⊢
  go_enter Tryd.func53, Tryd.ntmps53
  go_wp2_with fail
  refine cc.mono ?_
  rintro e w1 ⟨ao, rfl, hS, hb1⟩
  have hX1 := hX.below hb1 hX.lt
  have hB1 := hB.trans (hb1.mono hB.size)
  replace hW := hW.below hB1
  have c8 := hX1.cell (i := 8) rfl
  clear hb1 cc hX hB hX1
  go_wp2
  go_loop [10] (fun u => ∃ k : Nat, k ≤ nl.length ∧ u = .int .i64 k ∧ Hid ((nl.take k).all (hasL ws) = true)) (fun u => nl.length - (intOf u).toNat)
  case atStart => exact ⟨0, by omega, rfl, by show _ = _; simp⟩
  case round =>
    obtain ⟨k, hk, rfl, hK⟩ := hrel
    by_cases hlt : k < nl.length
    · obtain ⟨b, off, rfl, hbl, hcell⟩ := hS k hlt
      have ct := contains_any wa wc ws nl[k] w1 hW hn
      have hall := hK.out
      have e1 : (nl.take (k + 1)).all (hasL ws) = ((nl.take k).all (hasL ws) && hasL ws nl[k]) := by
        rw [List.take_succ_eq_append_getElem hlt, List.all_append]; simp
      cases hh : hasL ws nl[k] with
      | true =>
        have H : Hid ((nl.take (k + 1)).all (hasL ws) = true) := by show _ = _; rw [e1, hall, hh]; rfl
        rw [hh] at ct
        clear e1 hall hK hh
        go_wp2_with fail
        refine ct.mono ?_
        rintro e w2 ⟨rfl, rfl⟩
        clear ct
        go_wp2
        go_round
        case rel => exact ⟨k + 1, by omega, by go_num, H⟩
        case measure => simp [intOf]; omega
      | false =>
        have H : Hid (F = false) := by
          show _ = _
          rw [HF.out]
          have e2 : nl.all (hasL ws) = false := by
            rw [← List.take_append_drop (k + 1) nl, List.all_append, e1, hh]
            simp
          rw [e2]
          simp
        rw [hh] at ct
        clear e1 hall hK hh
        go_wp2_with fail
        refine ct.mono ?_
        rintro e w2 ⟨rfl, rfl⟩
        clear ct
        go_wp2
        go_ret
        exact ⟨by rw [H.out]; rfl, hB1⟩
    · have H : Hid (F = decide (0 < nl.length)) := by
        show _ = _
        rw [HF.out]
        have h1 := hK.out
        rw [List.take_of_length_le (by omega)] at h1
        rw [h1]
        cases nl <;> simp
      clear hK
      go_wp2
      go_ret
      exact ⟨by rw [H.out]; rfl, hB1⟩
end Go.Proofs.YtcjmeaikdfgapaaDoor
