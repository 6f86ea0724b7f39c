/- What tuskref04.Check does; nothing old in memory is turned. -/
import Derived.Test.YtolliiodfhdfiaaRefTxCheck
import Derived.Test.YtolliiodfhdfiaaTxFrame
namespace Go.Proofs.Ytolliiodfhdfiaa
open Go.RowKit
set_option linter.unusedVariables false

theorem check_three {d : TxD} (hk : d.kind = 1 ∨ d.kind = 2) (h : fieldsR d = false) : checkL d = 3 := by
  unfold checkL
  rw [if_neg (by omega), if_pos h]

theorem check_two {d : TxD} (hk : d.kind = 1 ∨ d.kind = 2) (h : fieldsR d = true) (hr : 4611686018427387903 < d.amt ∨ 4611686018427387903 < d.non) : checkL d = 2 := by
  unfold checkL
  rw [if_neg (by omega), if_neg (by rw [h]; simp), if_pos hr]

theorem check_rs {d : TxD} (hk : d.kind = 1 ∨ d.kind = 2) (h : fieldsR d = true) (h1 : d.amt ≤ 4611686018427387903) (h2 : d.non ≤ 4611686018427387903) (hz : keysL d.rs ≠ 0) : checkL d = keysL d.rs := by
  unfold checkL
  rw [if_neg (by omega), if_neg (by rw [h]; simp), if_neg (by omega), if_pos hz]

theorem check_ws {d : TxD} (hk : d.kind = 1 ∨ d.kind = 2) (h : fieldsR d = true) (h1 : d.amt ≤ 4611686018427387903) (h2 : d.non ≤ 4611686018427387903) (hz : keysL d.rs = 0) : checkL d = keysL d.ws := by
  unfold checkL
  rw [if_neg (by omega), if_neg (by rw [h]; simp), if_neg (by omega), if_neg (by rw [hz]; simp)]

set_option maxRecDepth 100000 in
set_option maxHeartbeats 4000000 in
theorem refCheck_any (d : TxD) (ra : Option Addr) (rc : Nat) (wa : Option Addr) (wc : Nat) (w : World) (hA : TxAt w d ra wa) (hs : TxSizes d) :
    Calls Try.prog 32 #[txV d ra rc wa wc] w fun e w' => e = .returned (.int .i64 (checkL d : Int)) ∧ Below w.heap.size w w' := by
  have hX : Arr _ _ _ (txC d ra rc wa wc) := TxBox.new w d ra rc wa wc
  have hB := belowNew w (.cells (txC d ra rc wa wc).toArray 25)
  have hA0 := hA.below hB
  have cF := fun w1 => refName_any d.frm w1 hs.frm
  have cT := fun w1 => refName_any d.to w1 hs.to
  have cK := fun w1 => refName_any d.key w1 hs.key
  have ck1 := fun w1 (h : StrsAt w1 ra d.rs) => refKeys_any ra rc d.rs w1 h hs.rs
  have ck2 := fun w1 (h : StrsAt w1 wa d.ws) => refKeys_any wa wc d.ws w1 h hs.ws
  have hR0 := hA0.rd
  have hW0 := hA0.wr
  have t3 := check_three (d := d)
  have t2 := check_two (d := d)
  have tr := check_rs (d := d)
  have tw := check_ws (d := d)
  have t5 : d.kind ≠ 1 ∧ d.kind ≠ 2 → checkL d = 5 := fun h => by unfold checkL; rw [if_pos h]
  have F : fieldsR d = (isNm d.frm && (if d.kind = 1 then isNm d.to && (d.key.toList == []) && (d.val.toList == []) else isNm d.key && decide (d.val.size ≤ 64) && (d.to.toList == []) && decide (d.amt = 0))) := rfl
  simp only [bemp] at F
  clear hA hA0 hs
  obtain ⟨kind, frm, to, amt, non, key, val, rs, ws⟩ := d
  dsimp only at cF cT cK ck1 ck2 hR0 hW0 t3 t2 tr tw t5 F
  unfold txV
  generalize hchk : checkL ⟨kind, frm, to, amt, non, key, val, rs, ws⟩ = chk at *
  clear hchk
  generalize hfld : fieldsR ⟨kind, frm, to, amt, non, key, val, rs, ws⟩ = fld at *
  clear hfld
  by_cases hk : kind ≠ 1 ∧ kind ≠ 2
  · have H : Hid (chk = 5) := t5 hk
    have hk1 : (kind != 1) = true := by simpa using hk.1
    have hk2 : (kind != 2) = true := by simpa using hk.2
    clear t3 t2 tr tw t5 F hk cF cT cK ck1 ck2 hR0 hW0 hX
    go_enter Try.func32, Try.ntmps32
    go_wp2
    go_ret
    exact ⟨by rw [H.out]; rfl, hB⟩
  clear t5
  cases n1 : isNm frm with
  | false =>
    have hkk : kind = 1 ∨ kind = 2 := by omega
    clear hk
    simp only [n1] at cF
    replace F : fld = false := by rw [F, n1]; rfl
    rcases hkk with rfl | rfl
    · have hkk : (1 : Int) = 1 ∨ (1 : Int) = 2 := Or.inl rfl
      have H : Hid (chk = 3) := t3 hkk F
      clear t3 t2 tr tw F hkk hX
      clear ck1 ck2 hR0 hW0
      go_enter Try.func32, Try.ntmps32
      go_wp2_with fail
      refine (cF _).mono ?_
      rintro e w0 ⟨rfl, hw1⟩
      subst hw1
      go_wp2
      go_ret
      exact ⟨by rw [H.out]; rfl, hB⟩
    · have hkk : (2 : Int) = 1 ∨ (2 : Int) = 2 := Or.inr rfl
      have H : Hid (chk = 3) := t3 hkk F
      clear t3 t2 tr tw F hkk hX
      clear ck1 ck2 hR0 hW0
      go_enter Try.func32, Try.ntmps32
      go_wp2_with fail
      refine (cF _).mono ?_
      rintro e w0 ⟨rfl, hw1⟩
      subst hw1
      go_wp2
      go_ret
      exact ⟨by rw [H.out]; rfl, hB⟩
  | true =>
    simp only [n1] at cF
    rw [n1, Bool.true_and] at F
    by_cases hk1 : kind = 1
    · subst hk1
      have hkk : (1 : Int) = 1 ∨ (1 : Int) = 2 := Or.inl rfl
      rw [if_pos rfl] at F
      clear hk cK
      cases n2 : isNm to with
      | false =>
        simp only [n2] at cT
        replace F : fld = false := by rw [F, n2]; rfl
        have H : Hid (chk = 3) := t3 hkk F
        clear t3 t2 tr tw F hkk hX
        clear ck1 ck2 hR0 hW0
        go_enter Try.func32, Try.ntmps32
        go_wp2_with fail
        refine (cF _).mono ?_
        rintro e w0 ⟨rfl, hw1⟩
        subst hw1
        go_wp2_with fail
        refine (cT _).mono ?_
        rintro e w1 ⟨rfl, hw1⟩
        subst hw1
        go_wp2
        go_ret
        exact ⟨by rw [H.out]; rfl, hB⟩
      | true =>
        simp only [n2] at cT
        rw [n2, Bool.true_and] at F
        by_cases hkey : key.toList = []
        · have e1 : key.toList.isEmpty = true := by rw [hkey]; rfl
          rw [e1, Bool.true_and] at F
          by_cases hval : val.toList = []
          · have e2 : val.toList.isEmpty = true := by rw [hval]; rfl
            rw [e2] at F
            by_cases ha : 4611686018427387903 < amt
            · have H : Hid (chk = 2) := t2 hkk F (Or.inl ha)
              have ha' : (4611686018427387903 : Int) < amt := by omega
              clear t3 t2 tr tw F hkk hX
              clear ck1 ck2 hR0 hW0 ha
              go_enter Try.func32, Try.ntmps32
              go_wp2_with fail
              refine (cF _).mono ?_
              rintro e w0 ⟨rfl, hw1⟩
              subst hw1
              go_wp2_with fail
              refine (cT _).mono ?_
              rintro e w1 ⟨rfl, hw1⟩
              subst hw1
              go_wp2
              go_ret
              exact ⟨by rw [H.out]; rfl, hB⟩
            have ha' : (amt : Int) ≤ 4611686018427387903 := by omega
            by_cases hn : 4611686018427387903 < non
            · have H : Hid (chk = 2) := t2 hkk F (Or.inr hn)
              have hn' : (4611686018427387903 : Int) < non := by omega
              clear t3 t2 tr tw F hkk hX
              clear ck1 ck2 hR0 hW0 hn ha
              go_enter Try.func32, Try.ntmps32
              go_wp2_with fail
              refine (cF _).mono ?_
              rintro e w0 ⟨rfl, hw1⟩
              subst hw1
              go_wp2_with fail
              refine (cT _).mono ?_
              rintro e w1 ⟨rfl, hw1⟩
              subst hw1
              go_wp2
              go_ret
              exact ⟨by rw [H.out]; rfl, hB⟩
            have hn' : (non : Int) ≤ 4611686018427387903 := by omega
            by_cases hz : keysL rs = 0
            · have H : Hid (chk = keysL ws) := tw hkk F (by omega) (by omega) hz
              simp only [hz] at ck1
              generalize keysL ws = n2 at ck2 H
              clear t3 t2 tr tw F hkk hz hn ha
              go_enter Try.func32, Try.ntmps32
              go_wp2_with fail
              refine (cF _).mono ?_
              rintro e w0 ⟨rfl, hw1⟩
              subst hw1
              go_wp2_with fail
              refine (cT _).mono ?_
              rintro e w1 ⟨rfl, hw1⟩
              subst hw1
              go_wp2_with fail
              refine (ck1 _ hR0).mono ?_
              rintro e w5 ⟨rfl, hb5⟩
              have hB5 := hB.trans (hb5.mono hB.size)
              have x8 := (hX.below hb5 hX.lt).cell (i := 8) rfl
              have hW5 := hW0.below hb5
              clear hb5 hX hW0 hR0 ck1
              go_wp2_with fail
              refine (ck2 _ hW5).mono ?_
              rintro e w6 ⟨rfl, hb6⟩
              have hB6 := hB5.trans (hb6.mono hB5.size)
              clear hb6 hB5 hW5 ck2
              go_wp2
              go_ret
              exact ⟨by rw [H.out]; rfl, hB6⟩
            · have H : Hid (chk = keysL rs) := tr hkk F (by omega) (by omega) hz
              have hz' : ((keysL rs : Int) == 0) = false := beq_eq_false_iff_ne.2 (by omega)
              generalize keysL rs = n2 at ck1 H hz'
              clear t3 t2 tr tw F hkk hz hn ha ck2
              go_enter Try.func32, Try.ntmps32
              go_wp2_with fail
              refine (cF _).mono ?_
              rintro e w0 ⟨rfl, hw1⟩
              subst hw1
              go_wp2_with fail
              refine (cT _).mono ?_
              rintro e w1 ⟨rfl, hw1⟩
              subst hw1
              go_wp2_with fail
              refine (ck1 _ hR0).mono ?_
              rintro e w5 ⟨rfl, hb5⟩
              have hB5 := hB.trans (hb5.mono hB.size)
              clear hb5 hX hW0 hR0 ck1
              go_wp2
              go_ret
              exact ⟨by rw [H.out]; rfl, hB5⟩
          · have e2 : val.toList.isEmpty = false := by simpa using hval
            rw [e2] at F
            have H : Hid (chk = 3) := t3 hkk F
            clear t3 t2 tr tw F hkk hX
            clear ck1 ck2 hR0 hW0
            go_enter Try.func32, Try.ntmps32
            go_wp2_with fail
            refine (cF _).mono ?_
            rintro e w0 ⟨rfl, hw1⟩
            subst hw1
            go_wp2_with fail
            refine (cT _).mono ?_
            rintro e w1 ⟨rfl, hw1⟩
            subst hw1
            go_wp2
            go_ret
            exact ⟨by rw [H.out]; rfl, hB⟩
        · have e1 : key.toList.isEmpty = false := by simpa using hkey
          replace F : fld = false := by rw [F, e1]; rfl
          have H : Hid (chk = 3) := t3 hkk F
          clear t3 t2 tr tw F hkk hX
          clear ck1 ck2 hR0 hW0
          go_enter Try.func32, Try.ntmps32
          go_wp2_with fail
          refine (cF _).mono ?_
          rintro e w0 ⟨rfl, hw1⟩
          subst hw1
          go_wp2_with fail
          refine (cT _).mono ?_
          rintro e w1 ⟨rfl, hw1⟩
          subst hw1
          go_wp2
          go_ret
          exact ⟨by rw [H.out]; rfl, hB⟩
    · have hk2 : kind = 2 := by omega
      subst hk2
      have hkk : (2 : Int) = 1 ∨ (2 : Int) = 2 := Or.inr rfl
      rw [if_neg (by decide)] at F
      clear hk hk1 cT
      cases n2 : isNm key with
      | false =>
        simp only [n2] at cK
        replace F : fld = false := by rw [F, n2]; rfl
        have H : Hid (chk = 3) := t3 hkk F
        clear t3 t2 tr tw F hkk hX
        clear ck1 ck2 hR0 hW0
        go_enter Try.func32, Try.ntmps32
        go_wp2_with fail
        refine (cF _).mono ?_
        rintro e w0 ⟨rfl, hw1⟩
        subst hw1
        go_wp2_with fail
        refine (cK _).mono ?_
        rintro e w1 ⟨rfl, hw1⟩
        subst hw1
        go_wp2
        go_ret
        exact ⟨by rw [H.out]; rfl, hB⟩
      | true =>
        simp only [n2] at cK
        rw [n2, Bool.true_and] at F
        by_cases hv : val.size ≤ 64
        · have hv' : (val.size : Int) ≤ 64 := by omega
          have dv : decide ((64 : Int) < val.size) = false := decide_eq_false (by omega)
          rw [decide_eq_true hv, Bool.true_and] at F
          by_cases ht : to.toList = []
          · have e1 : to.toList.isEmpty = true := by rw [ht]; rfl
            rw [e1, Bool.true_and] at F
            by_cases ham : amt = 0
            · subst ham
              replace F : fld = true := by rw [F]; rfl
              have ha : ¬ (4611686018427387903 < 0) := by omega
              by_cases hn : 4611686018427387903 < non
              · have H : Hid (chk = 2) := t2 hkk F (Or.inr hn)
                have hn' : (4611686018427387903 : Int) < non := by omega
                clear t3 t2 tr tw F hkk hX
                clear ck1 ck2 hR0 hW0 hn ha
                go_enter Try.func32, Try.ntmps32
                go_wp2_with fail
                refine (cF _).mono ?_
                rintro e w0 ⟨rfl, hw1⟩
                subst hw1
                go_wp2_with fail
                refine (cK _).mono ?_
                rintro e w1 ⟨rfl, hw1⟩
                subst hw1
                go_wp2
                go_ret
                exact ⟨by rw [H.out]; rfl, hB⟩
              have hn' : (non : Int) ≤ 4611686018427387903 := by omega
              by_cases hz : keysL rs = 0
              · have H : Hid (chk = keysL ws) := tw hkk F (by omega) (by omega) hz
                simp only [hz] at ck1
                generalize keysL ws = n2 at ck2 H
                clear t3 t2 tr tw F hkk hz hn ha
                go_enter Try.func32, Try.ntmps32
                go_wp2_with fail
                refine (cF _).mono ?_
                rintro e w0 ⟨rfl, hw1⟩
                subst hw1
                go_wp2_with fail
                refine (cK _).mono ?_
                rintro e w1 ⟨rfl, hw1⟩
                subst hw1
                go_wp2_with fail
                refine (ck1 _ hR0).mono ?_
                rintro e w5 ⟨rfl, hb5⟩
                have hB5 := hB.trans (hb5.mono hB.size)
                have x8 := (hX.below hb5 hX.lt).cell (i := 8) rfl
                have hW5 := hW0.below hb5
                clear hb5 hX hW0 hR0 ck1
                go_wp2_with fail
                refine (ck2 _ hW5).mono ?_
                rintro e w6 ⟨rfl, hb6⟩
                have hB6 := hB5.trans (hb6.mono hB5.size)
                clear hb6 hB5 hW5 ck2
                go_wp2
                go_ret
                exact ⟨by rw [H.out]; rfl, hB6⟩
              · have H : Hid (chk = keysL rs) := tr hkk F (by omega) (by omega) hz
                have hz' : ((keysL rs : Int) == 0) = false := beq_eq_false_iff_ne.2 (by omega)
                generalize keysL rs = n2 at ck1 H hz'
                clear t3 t2 tr tw F hkk hz hn ha ck2
                go_enter Try.func32, Try.ntmps32
                go_wp2_with fail
                refine (cF _).mono ?_
                rintro e w0 ⟨rfl, hw1⟩
                subst hw1
                go_wp2_with fail
                refine (cK _).mono ?_
                rintro e w1 ⟨rfl, hw1⟩
                subst hw1
                go_wp2_with fail
                refine (ck1 _ hR0).mono ?_
                rintro e w5 ⟨rfl, hb5⟩
                have hB5 := hB.trans (hb5.mono hB.size)
                clear hb5 hX hW0 hR0 ck1
                go_wp2
                go_ret
                exact ⟨by rw [H.out]; rfl, hB5⟩
            · have ha' : ((amt : Int) != 0) = true := by rw [bne_iff_ne]; omega
              rw [decide_eq_false ham] at F
              have H : Hid (chk = 3) := t3 hkk F
              clear t3 t2 tr tw F hkk hX
              clear ck1 ck2 hR0 hW0
              go_enter Try.func32, Try.ntmps32
              go_wp2_with fail
              refine (cF _).mono ?_
              rintro e w0 ⟨rfl, hw1⟩
              subst hw1
              go_wp2_with fail
              refine (cK _).mono ?_
              rintro e w1 ⟨rfl, hw1⟩
              subst hw1
              go_wp2
              go_ret
              exact ⟨by rw [H.out]; rfl, hB⟩
          · have e1 : to.toList.isEmpty = false := by simpa using ht
            replace F : fld = false := by rw [F, e1]; rfl
            have H : Hid (chk = 3) := t3 hkk F
            clear t3 t2 tr tw F hkk hX
            clear ck1 ck2 hR0 hW0
            go_enter Try.func32, Try.ntmps32
            go_wp2_with fail
            refine (cF _).mono ?_
            rintro e w0 ⟨rfl, hw1⟩
            subst hw1
            go_wp2_with fail
            refine (cK _).mono ?_
            rintro e w1 ⟨rfl, hw1⟩
            subst hw1
            go_wp2
            go_ret
            exact ⟨by rw [H.out]; rfl, hB⟩
        · have hv' : (64 : Int) < val.size := by omega
          replace F : fld = false := by rw [F, decide_eq_false hv]; rfl
          have H : Hid (chk = 3) := t3 hkk F
          clear t3 t2 tr tw F hkk hX
          clear ck1 ck2 hR0 hW0
          go_enter Try.func32, Try.ntmps32
          go_wp2_with fail
          refine (cF _).mono ?_
          rintro e w0 ⟨rfl, hw1⟩
          subst hw1
          go_wp2_with fail
          refine (cK _).mono ?_
          rintro e w1 ⟨rfl, hw1⟩
          subst hw1
          go_wp2
          go_ret
          exact ⟨by rw [H.out]; rfl, hB⟩
end Go.Proofs.Ytolliiodfhdfiaa
