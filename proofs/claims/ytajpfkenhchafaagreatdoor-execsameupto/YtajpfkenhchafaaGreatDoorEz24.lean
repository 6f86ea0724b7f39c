/- Texts as one: RefTxNeeds, RefStaNo, RefStaPay. -/
import Derived.Test.YtajpfkenhchafaaGreatDoorEz23
import Derived.Test.YtajpfkenhchafaaGreatDoorEz07
import Derived.Lib.QuietBelow
import Derived.Test.YtajpfkenhchafaaGreatDoorEz22
import Derived.Test.YtajpfkenhchafaaGreatDoorEz08
import Derived.BigRegion
import Derived.Deep.DeepCutAuto
/- What tuskref04.Needs, Has, Fits and Encode do; nothing old in memory is turned. -/
namespace Go.Proofs.YtajpfkenhchafaaGreatDoor
open Go.RowKit Go.Sort
set_option linter.unusedVariables false

set_option maxRecDepth 100000 in
set_option maxHeartbeats 400000 in
theorem refHas_any (ao : Option Addr) (cap : Nat) (ss : List ByteArray) (v : ByteArray) (w : World) (hc : StrsAt w ao ss) (hn : ss.length ≤ 9223372036854775807) :
    Calls Tryz.prog 71 #[.slice ao ss.length cap, .string v] w fun e w' => e = .returned (.bool (hasL ss v)) ∧ w' = w := by
  go_enter Tryz.func71, Tryz.ntmps71
  go_wp2
  go_loop [5] (fun u => ∃ k : Nat, k ≤ ss.length ∧ u = .int .i64 k ∧ Hid (hasL ss v = hasL (ss.drop k) v)) (fun u => ss.length - (intOf u).toNat)
  case atStart => exact ⟨0, by omega, rfl, by show _ = _; simp⟩
  case round =>
    obtain ⟨k, hk, rfl, hK⟩ := hrel
    by_cases hlt : k < ss.length
    · obtain ⟨b, off, rfl, hbl, hcell⟩ := hc k hlt
      have hd : ss.drop k = ss[k] :: ss.drop (k + 1) := List.drop_eq_getElem_cons hlt
      have hK2 := hK.out
      rw [hd] at hK2
      obtain ⟨x, hx⟩ : ∃ x, x = ss[k] := ⟨_, rfl⟩
      rw [← hx] at hK2 hcell
      clear hK hd hx
      by_cases he : x.toList = v.toList
      · have H : Hid (hasL ss v = true) := by show _ = _; rw [hK2]; simp [hasL, he]
        clear hK2
        go_wp2
        go_ret
        exact ⟨by rw [H.out]; rfl, rfl⟩
      · have H : Hid (hasL ss v = hasL (ss.drop (k + 1)) v) := by show _ = _; rw [hK2]; simp [hasL, Ne.symm he]
        have heb : (x.toList == v.toList) = false := beq_eq_false_iff_ne.2 he
        clear hK2
        go_wp2
        go_round
        case rel => exact ⟨k + 1, by omega, by go_num, H⟩
        case measure => simp [intOf]; omega
    · have H : Hid (hasL ss v = false) := by show _ = _; rw [hK.out, List.drop_of_length_le (by omega)]; rfl
      clear hK
      go_wp2
      go_ret
      exact ⟨by rw [H.out]; rfl, rfl⟩

theorem beq_of_less {x y : List UInt8} (h : Op.bytesLess x y = true) : (x == y) = false := beq_eq_false_iff_ne.2 (less_ne h)

theorem eq_of_neither {x y : List UInt8} (h1 : Op.bytesLess x y = false) (h2 : Op.bytesLess y x = false) : x = y := by
  rw [less_eq, decide_eq_false_iff_not] at h1 h2
  exact List.le_antisymm (List.not_lt.1 h2) (List.not_lt.1 h1)

set_option maxRecDepth 100000 in
set_option maxHeartbeats 1000000 in
theorem refNeeds_any (d : TxD) (ra : Option Addr) (rc : Nat) (wa : Option Addr) (wc : Nat) (w : World) (hA : TxAt w d ra wa) (hs : TxSizes d) :
    Calls Tryz.prog 70 #[txV d ra rc wa wc] w fun e w' => GotStrs w (needsL d) e w' := by
  have hX : Arr _ _ _ (txC d ra rc wa wc) := TxBox.new w d ra rc wa wc
  have hB := belowNew w (.cells (txC d ra rc wa wc).toArray 55)
  have cc := refCheck_any d ra rc wa wc _ (hA.below hB) hs
  by_cases hz : checkL d = 0
  · obtain ⟨z1, z2, z3, z4, z5, z6⟩ := check_zero hz
    obtain ⟨y1, y2, y3, y4⟩ := fields_sizes z2
    have N : needsL d = (if d.kind = 2 then [aP ++ d.frm, kP ++ d.key]
     else if Op.bytesLess (aP ++ d.frm).toList (aP ++ d.to).toList = true then [aP ++ d.frm, aP ++ d.to]
     else if Op.bytesLess (aP ++ d.to).toList (aP ++ d.frm).toList = true then [aP ++ d.to, aP ++ d.frm]
     else [aP ++ d.frm]) := by unfold needsL; rw [if_pos hz]
    rw [hz] at cc
    clear z2 z3 z4 z5 z6 hz hA hs
    obtain ⟨kind, frm, rcp, amt, non, key, val, rs, ws⟩ := d
    replace z1 : kind = 1 ∨ kind = 2 := z1
    replace y1 : frm.size ≤ 32 := y1
    replace y2 : rcp.size ≤ 32 := y2
    replace y3 : key.size ≤ 32 := y3
    have hk := a_below_k frm key
    unfold aP kP at N hk
    unfold txV at cc ⊢
    rcases z1 with rfl | rfl
    · replace N : needsL ⟨1, frm, rcp, amt, non, key, val, rs, ws⟩ = (if Op.bytesLess (⟨#[97, 58]⟩ ++ frm : ByteArray).toList (⟨#[97, 58]⟩ ++ rcp : ByteArray).toList = true then [⟨#[97, 58]⟩ ++ frm, ⟨#[97, 58]⟩ ++ rcp]
        else if Op.bytesLess (⟨#[97, 58]⟩ ++ rcp : ByteArray).toList (⟨#[97, 58]⟩ ++ frm : ByteArray).toList = true then [⟨#[97, 58]⟩ ++ rcp, ⟨#[97, 58]⟩ ++ frm]
        else [⟨#[97, 58]⟩ ++ frm]) := N
      clear hk
      generalize needsL ⟨1, frm, rcp, amt, non, key, val, rs, ws⟩ = nl at *
      go_enter Tryz.func70, Tryz.ntmps70
      go_wp2_with fail
      refine cc.mono ?_
      rintro e w1 ⟨rfl, hb1⟩
      have hX1 := hX.below hb1 hX.lt
      have hB1 := hB.trans (hb1.mono hB.size)
      have c1 := hX1.cell (i := 1) rfl
      have c2 := hX1.cell (i := 2) rfl
      clear hb1 cc hX hB
      have HN : Hid (nl = _) := N
      clear N
      go_wp2_with fail
      go_quiet (fail)
      have hX2 := hX1.drewN nq
      have hB2 := below_drewN hB1 nq
      clear hX1 hB1 c1 c2
      generalize w1.drewN nq = w2 at hX2 hB2 ⊢
      have c0 := hX2.cell (i := 0) rfl
      have c5 := hX2.cell (i := 5) rfl
      have hsz := hB2.size
      clear hX2
      generalize (⟨#[97, 58]⟩ ++ frm : ByteArray) = A at HN ⊢
      generalize (⟨#[97, 58]⟩ ++ rcp : ByteArray) = B at HN ⊢
      cases h1 : Op.bytesLess A.toList B.toList with
      | true =>
        have hne := beq_of_less h1
        replace HN : Hid (nl = [A, B]) := by show _ = _; rw [HN.out, if_pos h1]
        go_wp2
        go_ret
        rw [HN.out]
        exact GotStrs.of rfl rfl (two_strs _ _ _ _) (hB2.alloc hsz _)
      | false =>
        cases h2 : Op.bytesLess B.toList A.toList with
        | true =>
          have hne : (A.toList == B.toList) = false := beq_eq_false_iff_ne.2 (less_ne h2).symm
          replace HN : Hid (nl = [B, A]) := by show _ = _; rw [HN.out, if_neg (by rw [h1]; simp), if_pos h2]
          go_wp2
          go_ret
          rw [HN.out]
          exact GotStrs.of rfl rfl (two_strs _ _ _ _) (hB2.alloc hsz _)
        | false =>
          have heq : A.toList = B.toList := eq_of_neither h1 h2
          have hne : (A.toList == B.toList) = true := beq_iff_eq.2 heq
          clear heq
          replace HN : Hid (nl = [A]) := by show _ = _; rw [HN.out, if_neg (by rw [h1]; simp), if_neg (by rw [h2]; simp)]
          go_wp2
          go_ret
          rw [HN.out]
          exact GotStrs.of rfl rfl (one_strs _ _ _) (hB2.alloc hsz _)
    · replace N : needsL ⟨2, frm, rcp, amt, non, key, val, rs, ws⟩ = [⟨#[97, 58]⟩ ++ frm, ⟨#[107, 58]⟩ ++ key] := N
      generalize needsL ⟨2, frm, rcp, amt, non, key, val, rs, ws⟩ = nl at *
      go_enter Tryz.func70, Tryz.ntmps70
      go_wp2_with fail
      refine cc.mono ?_
      rintro e w1 ⟨rfl, hb1⟩
      have hX1 := hX.below hb1 hX.lt
      have hB1 := hB.trans (hb1.mono hB.size)
      have c1 := hX1.cell (i := 1) rfl
      have c2 := hX1.cell (i := 2) rfl
      clear hb1 cc hX hB
      have HN : Hid (nl = _) := N
      clear N
      go_wp2_with fail
      go_quiet (fail)
      have hX2 := hX1.drewN nq
      have hB2 := below_drewN hB1 nq
      clear hX1 hB1 c1 c2
      generalize w1.drewN nq = w2 at hX2 hB2 ⊢
      have c0 := hX2.cell (i := 0) rfl
      have c5 := hX2.cell (i := 5) rfl
      have hsz := hB2.size
      clear hX2
      have hne := beq_of_less hk
      go_wp2
      go_ret
      rw [HN.out]
      exact GotStrs.of rfl rfl (two_strs _ _ _ _) (hB2.alloc hsz _)
  · have HN : Hid (needsL d = []) := by show _ = _; unfold needsL; rw [if_neg hz]
    have hz' : ((checkL d : Int) != 0) = true := by rw [bne_iff_ne]; omega
    generalize checkL d = n at cc hz'
    generalize needsL d = nl at *
    clear hz hA hX hs
    unfold txV at cc ⊢
    go_enter Tryz.func70, Tryz.ntmps70
    go_wp2_with fail
    refine cc.mono ?_
    rintro e w1 ⟨rfl, hb1⟩
    have hB1 := hB.trans (hb1.mono hB.size)
    clear hb1 cc
    go_wp2
    go_ret
    rw [HN.out]
    exact GotStrs.of rfl rfl (nil_strs _ _) hB1

set_option maxRecDepth 100000 in
set_option maxHeartbeats 1000000 in
theorem refFits_any (d : TxD) (ra : Option Addr) (rc : Nat) (wa : Option Addr) (wc : Nat) (w : World) (hA : TxAt w d ra wa) (hs : TxSizes d) (hn : d.ws.length ≤ 9223372036854775807) :
    Calls Tryz.prog 49 #[txV d ra rc wa wc] w fun e w' => e = .returned (.bool (fitsL d)) ∧ Below w.heap.size w w' := by
  have hX : Arr _ _ _ (txC d ra rc wa wc) := TxBox.new w d ra rc wa wc
  have hB := belowNew w (.cells (txC d ra rc wa wc).toArray 55)
  have cc := refNeeds_any d ra rc wa wc _ (hA.below hB) hs
  have hW : StrsAt w wa d.ws := hA.wr
  have HF : Hid (fitsL d = (!(needsL d).isEmpty && (needsL d).all (hasL d.ws))) := (rfl : _ = _)
  have hl2 : (needsL d).length ≤ 2 := by
    unfold needsL
    split
    · split
      · simp
      · split
        · simp
        · split <;> simp
    · simp
  generalize needsL d = nl at cc HF hl2
  generalize fitsL d = F at HF ⊢
  clear hA hs
  obtain ⟨kind, frm, rcp, amt, non, key, val, rs, ws⟩ := d
  replace hW : StrsAt w wa ws := hW
  replace hn : ws.length ≤ 9223372036854775807 := hn
  replace HF : Hid (F = (!nl.isEmpty && nl.all (hasL ws))) := HF
  unfold txV at cc ⊢
  go_enter Tryz.func49, Tryz.ntmps49
  go_wp2_with fail
  refine cc.mono ?_
  rintro e w1 ⟨ao, rfl, hS, hb1⟩
  have hX1 := hX.below hb1 hX.lt
  have hB1 := hB.trans (hb1.mono hB.size)
  replace hW := hW.below hB1
  clear hb1 cc hX hB
  go_wp2
  go_loopw [4] (fun u wr => ∃ k : Nat, k ≤ nl.length ∧ u = .int .i64 k ∧ Hid ((nl.take k).all (hasL ws) = true) ∧ Below w1.heap.size w1 wr) (fun u _ => nl.length - (intOf u).toNat)
  case atStart => exact ⟨0, by omega, rfl, (by show _ = _; simp), Below.refl _ _⟩
  case round =>
    obtain ⟨k, hk, rfl, hK, hbr⟩ := hrel
    by_cases hlt : k < nl.length
    · obtain ⟨b, off, rfl, hbl, hcell⟩ := (hS.below hbr) k hlt
      have c8 := (hX1.below hbr hX1.lt).cell (i := 8) rfl
      have hWr := hW.below hbr
      have ct := fun dq => refHas_any wa wc ws nl[k] (wr.drewN dq) (hWr.drewN dq) hn
      have hall := hK.out
      have e1 : (nl.take (k + 1)).all (hasL ws) = ((nl.take k).all (hasL ws) && hasL ws nl[k]) := by
        rw [List.take_succ_eq_append_getElem hlt, List.all_append]; simp
      cases hh : hasL ws nl[k] with
      | true =>
        have H : Hid ((nl.take (k + 1)).all (hasL ws) = true) := by show _ = _; rw [e1, hall, hh]; rfl
        simp only [hh] at ct
        clear e1 hall hK hh
        go_wp2_with fail
        go_quiet (exact Calls.quiet_of_same (ct _))
        have hb2 := below_drewN hbr nq
        clear ct hbr hcell c8 hWr
        go_wp2
        go_roundw
        case rel => exact ⟨k + 1, by omega, by go_num, H, hb2⟩
        case measure => simp [intOf]; omega
      | false =>
        have H : Hid (F = false) := by
          show _ = _
          rw [HF.out]
          have e2 : nl.all (hasL ws) = false := by
            rw [← List.take_append_drop (k + 1) nl, List.all_append, e1, hh]
            simp
          rw [e2]
          simp
        simp only [hh] at ct
        clear e1 hall hK hh
        go_wp2_with fail
        go_quiet (exact Calls.quiet_of_same (ct _))
        have hb2 := below_drewN hbr nq
        clear ct hbr hcell c8 hWr
        go_wp2
        go_ret
        exact ⟨by rw [H.out]; rfl, hB1.trans (hb2.mono hB1.size)⟩
    · have H : Hid (F = decide (0 < nl.length)) := by
        show _ = _
        rw [HF.out]
        have h1 := hK.out
        rw [List.take_of_length_le (by omega)] at h1
        rw [h1]
        cases nl <;> simp
      clear hK
      go_wp2
      go_ret
      exact ⟨by rw [H.out]; rfl, hB1.trans (hbr.mono hB1.size)⟩
end Go.Proofs.YtajpfkenhchafaaGreatDoor

/- What the reference's Apply does, where it refuses; what holds while it does a transaction. -/
namespace Go.Proofs.YtajpfkenhchafaaGreatDoor
open Go Go.RowKit
set_option linter.unusedVariables false

theorem kAt_uniq {β : Type} {L : List (ByteArray × β)} (hr : KRise L) {i : Nat} {n : ByteArray} {x : β} (h : L[i]? = some (n, x)) : kAt L n = i := by
  have hi := (List.getElem?_eq_some_iff.1 h).1
  have hg := (kGet_at hr).2 ((kGet_iff hr).2 (List.mem_of_getElem? h))
  have hk := (List.getElem?_eq_some_iff.1 hg).1
  have hp := List.pairwise_iff_getElem.1 hr
  have e1 := (List.getElem?_eq_some_iff.1 h).2
  have e2 := (List.getElem?_eq_some_iff.1 hg).2
  rcases Nat.lt_trichotomy (kAt L n) i with q | q | q
  · have := hp _ _ hk hi q
    rw [e1, e2] at this
    exact absurd this (List.lt_irrefl _)
  · exact q
  · have := hp _ _ hi hk q
    rw [e1, e2] at this
    exact absurd this (List.lt_irrefl _)

theorem set_put {β : Type} {L : List (ByteArray × β)} (hr : KRise L) {i : Nat} {n : ByteArray} {x : β} (h : L[i]? = some (n, x)) (v : β) : L.set i (n, v) = kPut n v L := by
  have e := kAt_uniq hr h
  rw [kPut_set n v x (by rw [e]; exact h), e]

/-- What a rising list of accounts says. -/
structure RA (A : List (ByteArray × (Nat × Nat))) (f : ByteArray → Nat × Nat) (N : Nat) : Prop where
  rise : KRise A
  acc : ∀ n, (kGet A n).getD (0, 0) = f n
  len : A.length ≤ N

theorem RA.at {A : List (ByteArray × (Nat × Nat))} {f : ByteArray → Nat × Nat} {N : Nat} (h : RA A f N) (n : ByteArray) : RA (atL A n) f (N + 1) ∧ (atL A n)[kAt A n]? = some (n, f n) := by
  refine ⟨⟨h.rise.put _ _, fun m => ?_, ?_⟩, ?_⟩
  · unfold atL
    rw [kGet_put]
    split
    · rename_i e; rw [e]; exact h.acc n
    · exact h.acc m
  · have := kPut_len (A := A) n ((kGet A n).getD (0, 0))
    have := h.len
    unfold atL
    omega
  · have := kPut_at h.rise n ((kGet A n).getD (0, 0))
    rw [← h.acc n]
    exact this

theorem RA.set {A : List (ByteArray × (Nat × Nat))} {f : ByteArray → Nat × Nat} {N i : Nat} {n : ByteArray} {u : Nat × Nat} (h : RA A f N) (hx : A[i]? = some (n, u)) (v : Nat × Nat) : RA (A.set i (n, v)) (pnF f n v) N ∧ (A.set i (n, v))[i]? = some (n, v) := by
  refine ⟨⟨by rw [set_put h.rise hx]; exact h.rise.put _ _, fun m => ?_, by rw [List.length_set]; exact h.len⟩, by rw [List.getElem?_set_self (List.getElem?_eq_some_iff.1 hx).1]⟩
  rw [set_put h.rise hx, kGet_put]
  unfold pnF
  split
  · rfl
  · exact h.acc m

/-- While a transaction is done: the state, and the box that holds the transaction. -/
structure RI (W w : World) (rb bx : Nat) (S : Nat → Prop) (qa qv : Value) (A : List (ByteArray × (Nat × Nat))) (V : List (ByteArray × ByteArray)) (x : TxM) : Prop where
  st : RSt w rb qa qv A V
  bxA : Arr w bx 55 x.c
  own : ∀ k, RFt rb qa qv k → S k ∨ W.heap.size ≤ k
  off : ∀ k, RFt rb qa qv k → k ≠ bx
  kp : Kept (fun k => S k ∨ W.heap.size ≤ k) W w
  lS : ∀ k, S k → k < W.heap.size ∧ rb ≤ k
  lrb : rb < W.heap.size

section
variable {W w w' : World} {rb bx : Nat} {S : Nat → Prop} {qa qv qa' qv' : Value} {A A' : List (ByteArray × (Nat × Nat))} {V V' : List (ByteArray × ByteArray)} {x : TxM} {s : StF} {N : Nat}

theorem RI.below (h : RI W w rb bx S qa qv A V x) (hb : Below w.heap.size w w') : RI W w' rb bx S qa qv A V x := ⟨h.st.below hb, h.bxA.below hb h.bxA.lt, h.own, h.off, h.kp.trans (Kept.of_below hb), h.lS, h.lrb⟩

theorem RI.newA (h : RI W w rb bx S qa qv A V x) (h1 : RSt w' rb qa' qv A' V) (hf : FreshQ22 w qa qa') (hk : Kept (fun k => k = rb) w w') : RI W w' rb bx S qa' qv A' V x := by
  have hbx := h.bxA.lt
  have hsz := h.kp.size
  refine ⟨h1, h.bxA.kept hk (fun e => h.off rb (Or.inl rfl) e.symm), fun k e => ?_, fun k e => ?_, h.kp.trans (hk.mono (fun k _ e => h.own k (Or.inl e))), h.lS, h.lrb⟩
  · rcases e with e | e | e
    · exact h.own k (Or.inl e)
    · rcases hf k e with q | q
      · exact h.own k (Or.inr (Or.inl q))
      · exact Or.inr (by omega)
    · exact h.own k (Or.inr (Or.inr e))
  · rcases e with e | e | e
    · exact h.off k (Or.inl e)
    · rcases hf k e with q | q
      · exact h.off k (Or.inr (Or.inl q))
      · omega
    · exact h.off k (Or.inr (Or.inr e))

theorem RI.newV (h : RI W w rb bx S qa qv A V x) (h1 : RSt w' rb qa qv' A V') (hf : FreshQ22 w qv qv') (hk : Kept (fun k => k = rb) w w') : RI W w' rb bx S qa qv' A V' x := by
  have hbx := h.bxA.lt
  have hsz := h.kp.size
  refine ⟨h1, h.bxA.kept hk (fun e => h.off rb (Or.inl rfl) e.symm), fun k e => ?_, fun k e => ?_, h.kp.trans (hk.mono (fun k _ e => h.own k (Or.inl e))), h.lS, h.lrb⟩
  · rcases e with e | e | e
    · exact h.own k (Or.inl e)
    · exact h.own k (Or.inr (Or.inl e))
    · rcases hf k e with q | q
      · exact h.own k (Or.inr (Or.inr q))
      · exact Or.inr (by omega)
  · rcases e with e | e | e
    · exact h.off k (Or.inl e)
    · exact h.off k (Or.inr (Or.inl e))
    · rcases hf k e with q | q
      · exact h.off k (Or.inr (Or.inr q))
      · omega

theorem RI.set (h : RI W w rb bx S qa qv A V x) {p : Addr} {v : Value} (hp : RFt rb qa qv p.block) (h1 : RSt (w.setCell p v) rb qa qv A' V') : RI W (w.setCell p v) rb bx S qa qv A' V' x :=
  ⟨h1, h.bxA.kept (Kept.setCell w p v) (fun e => h.off _ hp (show bx = p.block from e).symm), h.own, h.off, h.kp.trans ((Kept.setCell w p v).mono (fun k _ e => h.own k (by rw [show k = p.block from e]; exact hp))), h.lS, h.lrb⟩

theorem RSt.ltF (h : RSt w rb qa qv A V) {k : Nat} (hk : RFt rb qa qv k) : k < w.heap.size := by
  rcases hk with e | e | e
  · rw [e]; exact h.box.lt
  · exact (h.ra.lt k e).2
  · exact (h.rv.lt k e).2

/-- It is a state again. -/
theorem RI.fin (h : RI W w rb bx S qa qv A V x) (hM : RM A V s N) : ∃ S', RS w rb S' s N ∧ FreshS W S S' ∧ Kept S W w := by
  have hsz := h.kp.size
  refine ⟨fun k => S k ∨ (W.heap.size ≤ k ∧ k < w.heap.size), ⟨⟨qa, qv, A, V, h.st, hM, fun k e => ?_⟩, fun k e => ?_, fun k e => ?_⟩, fun k e => ?_, h.kp.mono (fun k hk e => ?_)⟩
  · exact (h.own k e).imp id (fun q => ⟨q, h.st.ltF e⟩)
  · rcases e with e | e
    · have := (h.lS k e).1; omega
    · exact e.2
  · rcases e with e | e
    · exact (h.lS k e).2
    · have := h.lrb; omega
  · exact e.imp id And.left
  · rcases e with e | e
    · exact e
    · omega

theorem RI.new (h : RS w rb S s N) (h1 : RSt w rb qa qv A V) (h3 : ∀ k, RFt rb qa qv k → S k) (x : TxM) : RI w (w.alloc (.cells (txC x.d x.ra x.rc x.wa x.wc).toArray 55)) rb w.heap.size S qa qv A V x := by
  have hb := belowNew w (.cells (txC x.d x.ra x.rc x.wa x.wc).toArray 55)
  exact ⟨h1.below hb, Arr.new w 55 _, fun k e => Or.inl (h3 k e), fun k e => by have := h1.ltF e; omega, Kept.of_below hb, fun k e => ⟨h.lt k e, h.ge k e⟩, h1.box.lt⟩

set_option maxRecDepth 100000 in
set_option maxHeartbeats 4000000 in
theorem rsApply_no (x : TxM) (hA : x.At w) (hs : TxSizes x.d) (hn : x.d.ws.length ≤ 500) (h : RS w rb S s N) (hN : N ≤ 100000) (hz : applyE s x.d ≠ 0) :
    Calls Tryz.prog 23 #[.pointer (some ⟨rb, 0, none⟩), x.v] w fun e w' => e = .returned (.int .i64 (applyE s x.d : Nat)) ∧ Below w.heap.size w w' := by
  obtain ⟨qa, qv, A, V, h1, hM, h3⟩ := h.ex
  have hB := belowNew w (.cells (txC x.d x.ra x.rc x.wa x.wc).toArray 55)
  have hX : Arr _ _ _ (txC x.d x.ra x.rc x.wa x.wc) := TxBox.new w x.d x.ra x.rc x.wa x.wc
  have cf := refFits_any x.d x.ra x.rc x.wa x.wc _ (hA.at_.below hB) hs (by omega)
  have hS1 := h1.below hB
  have ho1 := hM.ok.amt x.d.frm
  have ho2 := hM.ok.amt x.d.to
  have ha1 := hM.acc x.d.frm
  have ha2 := hM.acc x.d.to
  have hlA : A.length ≤ 1000000 := by have := hM.la; omega
  have hq : fitsL x.d = true → (x.d.kind = 1 ∨ x.d.kind = 2) ∧ x.d.amt ≤ 4611686018427387903 := fun q => by
    obtain ⟨_, _, _, q4, _, q6⟩ := fits_names q
    by_cases q7 : x.d.kind = 1
    · exact ⟨Or.inl q7, q4⟩
    · exact ⟨Or.inr (q6 q7).1, q4⟩
  obtain ⟨E, hE⟩ : ∃ E, Hid (applyE s x.d = E) := ⟨_, rfl⟩
  rw [hE.out] at hz ⊢
  clear h h1 hM h3 hA
  unfold TxM.v txV at *
  go_enter Tryz.func23, Tryz.ntmps23
  go_wp2_with fail
  refine cf.mono ?_
  rintro e w2 ⟨rfl, hb2⟩
  have hX2 := hX.below hb2 hX.lt
  have hS2 := hS1.below hb2
  have hB2 := hB.trans (hb2.mono hB.size)
  clear hX hS1 hB hb2 cf
  by_cases hft : fitsL x.d = true
  · obtain ⟨q1, q2⟩ := hq hft
    rw [hft]
    have t1 := hX2.cell (i := 1) rfl
    have cA := rsAccount_at x.d.frm hS2 hlA
    rw [ha1] at cA
    obtain ⟨x1, hx1⟩ : ∃ q, Hid ((s.acc x.d.frm).1 = q) := ⟨_, rfl⟩
    obtain ⟨x2, hx2⟩ : ∃ q, Hid ((s.acc x.d.frm).2 = q) := ⟨_, rfl⟩
    rw [hx1.out] at cA ho1
    rw [hx2.out] at cA
    go_wp2_with fail
    refine cA.mono ?_
    rintro e w3 ⟨rfl, hb3⟩
    have hX3 := hX2.below hb3 hX2.lt
    have hS3 := hS2.below hb3
    have hB3 := hB2.trans (hb3.mono hB2.size)
    clear cA hX2 hS2 hB2 hb3 t1
    have t2 := hX3.cell (i := 2) rfl
    have cA := rsAccount_at x.d.to hS3 hlA
    rw [ha2] at cA
    obtain ⟨y1, hy1⟩ : ∃ q, Hid ((s.acc x.d.to).1 = q) := ⟨_, rfl⟩
    obtain ⟨y2, hy2⟩ : ∃ q, Hid ((s.acc x.d.to).2 = q) := ⟨_, rfl⟩
    rw [hy1.out] at cA ho2
    rw [hy2.out] at cA
    go_wp2_with fail
    refine cA.mono ?_
    rintro e w4 ⟨rfl, hb4⟩
    have hX4 := hX3.below hb4 hX3.lt
    have hB4 := hB3.trans (hb4.mono hB3.size)
    clear cA hX3 hS3 hB3 hb4 t2
    have t0 := hX4.cell (i := 0) rfl
    have t1 := hX4.cell (i := 1) rfl
    have t2 := hX4.cell (i := 2) rfl
    have t3 := hX4.cell (i := 3) rfl
    have t4 := hX4.cell (i := 4) rfl
    by_cases h2 : x.d.non = x2
    · have g2 : ((x.d.non : Int) != (x2 : Int)) = false := by rw [h2]; exact bne_self_eq_false _
      have hk1 : x.d.kind = 1 := by
        rcases q1 with q | q
        · exact q
        · exact absurd (applyE_is0 (s := s) hft (by rw [hx2.out]; exact h2) (fun e => by rw [q] at e; cases e) (fun e => by rw [q] at e; cases e)) (by rw [hE.out]; exact hz)
      have g3 : (x.d.kind == 1) = true := by rw [hk1]; rfl
      by_cases h4 : x1 < x.d.amt
      · have g4 : (x1 : Int) < (x.d.amt : Int) := by omega
        have hE2 := applyE_is3 (s := s) hft (by rw [hx2.out]; exact h2) hk1 (by rw [hx1.out]; exact h4)
        rw [hE.out] at hE2
        clear h2 hk1 q1
        go_wp2
        go_ret
        exact ⟨by rw [hE2]; rfl, hB4⟩
      · have g4 : ¬ (x1 : Int) < (x.d.amt : Int) := by omega
        by_cases h5 : x.d.to = x.d.frm
        · exact absurd (applyE_is0 (s := s) hft (by rw [hx2.out]; exact h2) (fun _ => by rw [hx1.out]; exact h4) (fun _ e => (e h5).elim)) (by rw [hE.out]; exact hz)
        · have g5 : (x.d.to.toList == x.d.frm.toList) = false := by rw [pick_text, decide_eq_false h5]
          have h6 : 4611686018427387903 < y1 + x.d.amt := Nat.lt_of_not_le (fun e => absurd (applyE_is0 (s := s) hft (by rw [hx2.out]; exact h2) (fun _ => by rw [hx1.out]; exact h4) (fun _ _ => by rw [hy1.out]; omega)) (by rw [hE.out]; exact hz))
          have hw : IntKind.u64.wrap ((y1 : Int) + (x.d.amt : Int)) = ((y1 + x.d.amt : Nat) : Int) := by rw [wrap64u _ (by omega) (by omega)]; rfl
          have g6 : (4611686018427387903 : Int) < ((y1 + x.d.amt : Nat) : Int) := by omega
          have hE2 := applyE_is4 (s := s) hft (by rw [hx2.out]; exact h2) hk1 (by rw [hx1.out]; exact h4) h5 (by rw [hy1.out]; exact h6)
          rw [hE.out] at hE2
          clear h2 hk1 q1 h5
          go_wp2
          go_ret
          exact ⟨by rw [hE2]; rfl, hB4⟩
    · have g2 : ((x.d.non : Int) != (x2 : Int)) = true := by rw [bne_iff_ne]; omega
      have hE2 := applyE_is2 (s := s) hft (by rw [hx2.out]; exact h2)
      rw [hE.out] at hE2
      clear h2
      go_wp2
      go_ret
      exact ⟨by rw [hE2]; rfl, hB4⟩
  · have hE2 := applyE_is1 (s := s) (Bool.eq_false_iff.2 hft)
    rw [hE.out] at hE2
    rw [Bool.eq_false_iff.2 hft]
    clear hft
    go_wp2
    go_ret
    exact ⟨by rw [hE2]; rfl, hB2⟩
end
end Go.Proofs.YtajpfkenhchafaaGreatDoor

/- What the reference's Apply does. (Laid by gen_refstaapply.py.) -/
namespace Go.Proofs.YtajpfkenhchafaaGreatDoor
open Go Go.RowKit
set_option linter.unusedVariables false

section
variable {W w w' : World} {rb bx : Nat} {S : Nat → Prop} {qa qv qa' qv' : Value} {A A' : List (ByteArray × (Nat × Nat))} {V V' : List (ByteArray × ByteArray)} {x : TxM} {s : StF} {N : Nat}

set_option maxRecDepth 100000 in
set_option maxHeartbeats 8000000 in
theorem rsApply_pay (x : TxM) (hA : x.At w) (hs : TxSizes x.d) (hn : x.d.ws.length ≤ 500) (h : RS w rb S s N) (hN : N ≤ 100000) (hz : applyE s x.d = 0) (hkind : Hid (x.d.kind = 1)) :
    Calls Tryz.prog 23 #[.pointer (some ⟨rb, 0, none⟩), x.v] w fun e w' => e = .returned (.int .i64 0) ∧ ∃ S', RS w' rb S' (applyF s x.d) (N + 2) ∧ FreshS w S S' ∧ Kept S w w' := by
  obtain ⟨z1, z2, z3, z4⟩ := applyE_zero hz
  obtain ⟨-, -, -, q4, -, q6⟩ := fits_names z1
  obtain ⟨qa, qv, A, V, h1, hM, h3⟩ := h.ex
  have hB := belowNew w (.cells (txC x.d x.ra x.rc x.wa x.wc).toArray 55)
  have hI := RI.new h h1 h3 x
  have cf := refFits_any x.d x.ra x.rc x.wa x.wc _ (hA.at_.below hB) hs (by omega)
  rw [z1] at cf
  have ho1 := hM.ok.amt x.d.frm
  have ho2 := hM.ok.amt x.d.to
  have hm1 := hM.ok.num x.d.frm
  have ha1 := hM.acc x.d.frm
  have ha2 := hM.acc x.d.to
  have hRA : RA A s.acc N := ⟨hM.ra, hM.acc, hM.la⟩
  have hok := hM.ok.apply x.d
  have hlA : A.length ≤ 1000000 := by have := hM.la; omega
  have hfin : Hid (∀ w' qa' qv' A' V' f, RI w w' rb w.heap.size S qa' qv' A' V' x → RA A' f (N + 2) → f = accD s.acc x.d → KRise V' → (∀ n, kGet V' n = (if x.d.kind = 1 then s.val else pnF s.val x.d.key (some x.d.val)) n) → V'.length ≤ N + 2 → ∃ S', RS w' rb S' (applyF s x.d) (N + 2) ∧ FreshS w S S' ∧ Kept S w w') := by
    intro w' qa' qv' A' V' f r1 r2 r3 r4 r5 r6
    refine r1.fin ⟨r2.rise, r4, fun n => ?_, fun n => ?_, r2.len, r6, (hok.mono (by omega))⟩
    · rw [r2.acc n, r3]
      unfold applyF
      rw [if_pos hz]
    · rw [r5 n]
      unfold applyF
      rw [if_pos hz]
  have hV : Hid (KRise V ∧ (∀ n, kGet V n = s.val n) ∧ V.length ≤ N) := ⟨hM.rv, hM.val, hM.lv⟩
  replace q6 : Hid _ := q6
  replace z3 : Hid _ := z3
  replace z4 : Hid _ := z4
  have z2' : Hid (x.d.non = (s.acc x.d.frm).2) := z2
  clear z2
  clear h h1 hM h3 hA hok hB hz z1
  obtain ⟨bx, hbx⟩ : ∃ q, Hid (w.heap.size = q) := ⟨_, rfl⟩
  rw [hbx.out] at hI hfin
  unfold TxM.v txV at *
  go_enter Tryz.func23, Tryz.ntmps23
  go_wp2_with fail
  rw [hbx.out]
  clear hbx
  refine cf.mono ?_
  rintro e w2 ⟨rfl, hb2⟩
  replace hI := hI.below hb2
  clear hb2 cf
  have t1 := hI.bxA.cell (i := 1) rfl
  have cA := rsAccount_at x.d.frm hI.st hlA
  rw [ha1] at cA
  obtain ⟨x1, hx1⟩ : ∃ q, Hid ((s.acc x.d.frm).1 = q) := ⟨_, rfl⟩
  obtain ⟨x2, hx2⟩ : ∃ q, Hid ((s.acc x.d.frm).2 = q) := ⟨_, rfl⟩
  rw [hx1.out] at cA ho1
  have z2 : Hid (x.d.non = x2) := by show _ = _; rw [z2'.out, hx2.out]
  rw [hx2.out] at cA hm1
  clear z2'
  go_wp2_with fail
  refine cA.mono ?_
  rintro e w3 ⟨rfl, hb3⟩
  replace hI := hI.below hb3
  clear cA hb3 t1
  have t2 := hI.bxA.cell (i := 2) rfl
  have cA := rsAccount_at x.d.to hI.st hlA
  rw [ha2] at cA
  obtain ⟨y1, hy1⟩ : ∃ q, Hid ((s.acc x.d.to).1 = q) := ⟨_, rfl⟩
  obtain ⟨y2, hy2⟩ : ∃ q, Hid ((s.acc x.d.to).2 = q) := ⟨_, rfl⟩
  rw [hy1.out] at cA ho2
  rw [hy2.out] at cA
  go_wp2_with fail
  refine cA.mono ?_
  rintro e w4 ⟨rfl, hb4⟩
  replace hI := hI.below hb4
  clear cA hb4 t2 ha1 ha2
  have t4 := hI.bxA.cell (i := 4) rfl
  have g2 : ((x.d.non : Int) != (x2 : Int)) = false := by rw [z2.out]; exact bne_self_eq_false _
  clear z2
  go_upto_region 7 with fail
  clear t4 g2
  have hle : x.d.amt ≤ x1 := by
    by_cases hk : x.d.kind = 1
    · have := z3.out hk
      rw [hx1.out] at this
      exact this
    · rw [(q6.out hk).2]; exact Nat.zero_le _
  have t0 := hI.bxA.cell (i := 0) rfl
  have t1 := hI.bxA.cell (i := 1) rfl
  have t2 := hI.bxA.cell (i := 2) rfl
  have t3 := hI.bxA.cell (i := 3) rfl
  go_cut [34] (fun s34 wx => s34 = .bool false ∧ wx = w4)
  case first =>
    by_cases hk : x.d.kind = 1
    · have g3 : (x.d.kind == 1) = true := by rw [hk]; rfl
      have g4 : ¬ (x1 : Int) < (x.d.amt : Int) := by omega
      clear hk
      go_wp2_with fail
      go_meet
      exact ⟨rfl, rfl⟩
    · have g3 : (x.d.kind == 1) = false := beq_eq_false_iff_ne.2 hk
      clear hk
      go_wp2_with fail
      go_meet
      exact ⟨rfl, rfl⟩
  case rest =>
  obtain ⟨rfl, rfl⟩ := hcut
  generalize wc = w4 at *
  go_upto_region 9 with fail
  go_cut [44] (fun s44 wx => s44 = .bool false ∧ wx = w4)
  case first =>
    by_cases hk : x.d.kind = 1
    · have g3 : (x.d.kind == 1) = true := by rw [hk]; rfl
      by_cases h5 : x.d.to = x.d.frm
      · have g5 : (x.d.to.toList == x.d.frm.toList) = true := by rw [h5]; exact beq_self_eq_true _
        clear hk h5
        go_wp2_with fail
        go_meet
        exact ⟨rfl, rfl⟩
      · have g5 : (x.d.to.toList == x.d.frm.toList) = false := by rw [pick_text, decide_eq_false h5]
        have h6 := z4.out hk h5
        rw [hy1.out] at h6
        have hw : IntKind.u64.wrap ((y1 : Int) + (x.d.amt : Int)) = (y1 : Int) + (x.d.amt : Int) := wrap64u _ (by omega) (by omega)
        have g6 : ¬ (4611686018427387903 : Int) < (y1 : Int) + (x.d.amt : Int) := by omega
        clear hk h5
        go_wp2_with fail
        go_meet
        exact ⟨rfl, rfl⟩
    · have g3 : (x.d.kind == 1) = false := beq_eq_false_iff_ne.2 hk
      clear hk
      go_wp2_with fail
      go_meet
      exact ⟨rfl, rfl⟩
  case rest =>
  obtain ⟨rfl, rfl⟩ := hcut
  generalize wc = w4 at *
  have cT := rsAt_at x.d.frm hI.st hRA.rise (by have := hRA.len; omega)
  obtain ⟨hRA5, hx5⟩ := hRA.at x.d.frm
  obtain ⟨i, hi⟩ : ∃ i, Hid (kAt A x.d.frm = i) := ⟨_, rfl⟩
  obtain ⟨A1, hA1⟩ : ∃ A1, Hid (atL A x.d.frm = A1) := ⟨_, rfl⟩
  rw [hi.out] at cT hx5
  rw [hA1.out] at cT hRA5 hx5
  have hpr : s.acc x.d.frm = (x1, x2) := by rw [← hx1.out, ← hx2.out]
  rw [hpr] at hx5
  replace hpr : Hid _ := hpr
  clear hi hA1 hRA hlA
  go_upto_region 11 with fail
  go_wp2_with fail
  refine cT.mono ?_
  rintro e w5 ⟨rfl, qa5, h5, hf5, hk5⟩
  have hI5 := hI.newA h5 hf5 hk5
  clear cT h5 hf5 hk5 hI t0 t1 t2 t3
  obtain ⟨g, off, cap, rfl, hgl, hgF, c1, c2, hfz, hs1, hs2⟩ := hI5.st.setA hx5
  have c0 := hI5.st.box.cell (i := 0) rfl
  have hil := (List.getElem?_eq_some_iff.1 hx5).1
  have g1 : (i : Int) < (A1.length : Int) := by omega
  have g0 : (0 : Int) ≤ (i : Int) := by omega
  have hwr : IntKind.u64.wrap ((x2 : Int) + 1) = ((x2 + 1 : Nat) : Int) := by rw [wrap64u _ (by omega) (by omega)]; rfl
  have hfz2 := hfz (off + i * 3 + 2)
  have hI6 := hI5.set (p := ⟨g, off + i * 3 + 2, none⟩) (v := .int .u64 ((x2 + 1 : Nat) : Int)) hgF (hs2 (x2 + 1))
  obtain ⟨hRA6, hx6⟩ := hRA5.set hx5 (x1, x2 + 1)
  clear hs1 hs2 hfz hI5 hRA5 hx5
  rw [show ((x2 + 1 : Nat) : Int) = (x2 : Int) + 1 from rfl] at hI6
  go_upto_region 13 with fail
  clear c0 c1 c2 hfz2 hwr hgF hgl
  generalize w5.setCell ⟨g, off + i * 3 + 2, none⟩ (.int .u64 ((x2 : Int) + 1)) = w6 at *
  have hil6 := (List.getElem?_eq_some_iff.1 hx6).1
  rw [List.length_set] at hil6
  have hl1 : A1.length = (A1.set i (x.d.frm, (x1, x2 + 1))).length := by rw [List.length_set]
  rw [hl1] at hI6 g1 ⊢
  generalize A1.set i (x.d.frm, (x1, x2 + 1)) = A2 at *
  clear hl1 hil6 hil
  have t0 := hI6.bxA.cell (i := 0) rfl
  by_cases hk : x.d.kind = 1
  · have g3 : (x.d.kind == 1) = true := by rw [hk]; rfl
    have t3 := hI6.bxA.cell (i := 3) rfl
    obtain ⟨g', off', cap', hee, hgl, hgF, c1, c2, hfz, hs1, hs2⟩ := hI6.st.setA hx6
    simp only [Value.slice.injEq, Option.some.injEq, Addr.mk.injEq, and_true, true_and] at hee
    obtain ⟨⟨rfl, rfl⟩, rfl⟩ := hee
    have c0 := hI6.st.box.cell (i := 0) rfl
    have hsub : IntKind.u64.wrap ((x1 : Int) - (x.d.amt : Int)) = ((x1 - x.d.amt : Nat) : Int) := by rw [wrap64u _ (by omega) (by omega)]; omega
    have hfz1 := hfz (off + i * 3 + 1)
    have hI7 := hI6.set (p := ⟨g, off + i * 3 + 1, none⟩) (v := .int .u64 ((x1 - x.d.amt : Nat) : Int)) hgF (hs1 (x1 - x.d.amt))
    obtain ⟨hRA7, hx7⟩ := hRA6.set hx6 (x1 - x.d.amt, x2 + 1)
    replace hx7 : Hid _ := hx7
    replace hRA7 : Hid _ := hRA7
    have hk' : Hid (x.d.kind = 1) := hk
    clear hs1 hs2 hfz hk c2 hx6 hRA6 hI6 hgF
    go_wp2_with fail
    go_region
    rename_i K hK
    refine hK _ _ ?_
    clear hK c0 c1 t0 t3 hfz1 hsub g1 hgl
    replace hI7 := hI7.below (Below.drew (Below.refl _ _))
    generalize (w6.setCell ⟨g, off + i * 3 + 1, none⟩ (.int .u64 ((x1 - x.d.amt : Nat) : Int))).drew = w7 at *
    have hl2 : A2.length = (A2.set i (x.d.frm, (x1 - x.d.amt, x2 + 1))).length := by rw [List.length_set]
    rw [hl2] at hI7
    generalize A2.set i (x.d.frm, (x1 - x.d.amt, x2 + 1)) = A3 at *
    clear hl2
    obtain ⟨F3, hF3⟩ : ∃ q, Hid (pnF (pnF s.acc x.d.frm (x1, x2 + 1)) x.d.frm (x1 - x.d.amt, x2 + 1) = q) := ⟨_, rfl⟩
    rw [hF3.out] at hRA7
    have hF : F3 = pnF s.acc x.d.frm (x1 - x.d.amt, x2 + 1) := by
      rw [← hF3.out]
      refine funext (fun n => ?_)
      unfold pnF
      split <;> rfl
    have hb1 : (F3 x.d.to).1 ≤ 4611686018427387903 := by
      rw [hF]
      unfold pnF
      split
      · show x1 - x.d.amt ≤ _; omega
      · rw [hy1.out]; exact ho2
    have hacc : Hid (accD s.acc x.d = pnF F3 x.d.to ((F3 x.d.to).1 + x.d.amt, (F3 x.d.to).2)) := by
      show _ = _
      rw [hF]
      unfold accD
      rw [if_pos hk'.out, hpr.out]
    replace hF : Hid _ := hF
    have cT := rsAt_at x.d.to hI7.st hRA7.out.rise (by have := hRA7.out.len; omega)
    obtain ⟨hRA8, hx8⟩ := hRA7.out.at x.d.to
    obtain ⟨v1, hv1⟩ : ∃ q, Hid ((F3 x.d.to).1 = q) := ⟨_, rfl⟩
    obtain ⟨v2, hv2⟩ : ∃ q, Hid ((F3 x.d.to).2 = q) := ⟨_, rfl⟩
    have hpv : F3 x.d.to = (v1, v2) := by rw [← hv1.out, ← hv2.out]
    rw [hv1.out] at hb1
    rw [hv1.out, hv2.out] at hacc
    rw [hpv] at hx8
    obtain ⟨k, hki⟩ : ∃ i, Hid (kAt A3 x.d.to = i) := ⟨_, rfl⟩
    obtain ⟨A4, hA4⟩ : ∃ A1, Hid (atL A3 x.d.to = A1) := ⟨_, rfl⟩
    rw [hki.out] at cT hx8
    rw [hA4.out] at cT hRA8 hx8
    clear hki hA4 hRA7 hpv hx7 hF3 hF hv1 hv2
    have t2 := hI7.bxA.cell (i := 2) rfl
    go_wp2_with fail
    refine cT.mono ?_
    rintro e w8 ⟨rfl, qa8, h8, hf8, hk8⟩
    have hI8 := hI7.newA h8 hf8 hk8
    clear cT h8 hf8 hk8 hI7 t2
    have t3 := hI8.bxA.cell (i := 3) rfl
    obtain ⟨g', off', cap', rfl, hgl, hgF, c1, c2, hfz, hs1, hs2⟩ := hI8.st.setA hx8
    have c0 := hI8.st.box.cell (i := 0) rfl
    have hkl := (List.getElem?_eq_some_iff.1 hx8).1
    have g1 : (k : Int) < (A4.length : Int) := by omega
    have hadd : IntKind.u64.wrap ((v1 : Int) + (x.d.amt : Int)) = ((v1 + x.d.amt : Nat) : Int) := by rw [wrap64u _ (by omega) (by omega)]; rfl
    have hfz1 := hfz (off' + k * 3 + 1)
    have hI9 := hI8.set (p := ⟨g', off' + k * 3 + 1, none⟩) (v := .int .u64 ((v1 + x.d.amt : Nat) : Int)) hgF (hs1 (v1 + x.d.amt))
    obtain ⟨hRA9, hx9⟩ := hRA8.set hx8 (v1 + x.d.amt, v2)
    obtain ⟨hV1, hV2, hV3⟩ := hV.out
    have hend := hfin.out _ _ _ _ _ _ (hI9.below (Below.drew (Below.refl _ _))) (by exact hRA9) hacc.out.symm hV1 (fun n => by rw [if_pos hk'.out]; exact hV2 n) (by omega)
    clear hs1 hs2 hfz c2 hx8 hx9 hRA8 hRA9 hI8 hI9 hgF hfin hV hV1 hV2 hV3 hacc hk' hkl
    rw [Int.natCast_add] at hend hadd
    go_wp2_with fail
    go_region
    rename_i K hK
    refine hK _ _ ?_
    clear hK c0 c1 t3 hfz1 hadd g1 hgl
    go_wp2
    go_ret
    exact ⟨rfl, hend⟩
  · exact absurd hkind.out hk
end
end Go.Proofs.YtajpfkenhchafaaGreatDoor
