/- What Check does; nothing old in memory is turned. -/
import Derived.Test.YtcjmeaikdfgapaaDoorTxCheck
import Derived.Test.YtcjmeaikdfgapaaDoorTxArr
namespace Go.Proofs.YtcjmeaikdfgapaaDoor
open Go.RowKit
set_option linter.unusedVariables false

/-- A transaction's nine cells. -/
def txC (d : TxD) (ra : Option Addr) (rc : Nat) (wa : Option Addr) (wc : Nat) : List Value :=
  [.int .i64 d.kind, .string d.frm, .string d.to, .int .u64 (d.amt : Int), .int .u64 (d.non : Int), .string d.key, .string d.val, .slice ra d.rs.length rc, .slice wa d.ws.length wc]

/-- A transaction lies in a block. -/
def TxBox (w : World) (b : Nat) (d : TxD) (ra : Option Addr) (rc : Nat) (wa : Option Addr) (wc : Nat) : Prop := Arr w b 33 (txC d ra rc wa wc)

theorem TxBox.new (w : World) (d : TxD) (ra : Option Addr) (rc : Nat) (wa : Option Addr) (wc : Nat) : TxBox (w.alloc (.cells (txC d ra rc wa wc).toArray 33)) w.heap.size d ra rc wa wc := Arr.new w 33 _

set_option maxRecDepth 100000 in
set_option maxHeartbeats 1000000 in
theorem check_any (d : TxD) (ra : Option Addr) (rc : Nat) (wa : Option Addr) (wc : Nat) (w : World) (hA : TxAt w d ra wa) :
    Calls Tryd.prog 45 #[txV d ra rc wa wc] w fun e w' => e = .returned (.int .i64 (checkL d : Int)) ∧ Below w.heap.size w w' := by
  have hX := TxBox.new w d ra rc wa wc
  have hB := belowNew w (.cells (txC d ra rc wa wc).toArray 33)
  have hA0 := hA.below hB
  have cf := fieldsRight_any d ra rc wa wc (w.alloc (.cells (txC d ra rc wa wc).toArray 33))
  obtain ⟨kind, frm, to, amt, non, key, val, rs, ws⟩ := d
  have HC : Hid (checkL ⟨kind, frm, to, amt, non, key, val, rs, ws⟩ = _) := (rfl : checkL _ = if kind ≠ 1 ∧ kind ≠ 2 then 5 else if fieldsR ⟨kind, frm, to, amt, non, key, val, rs, ws⟩ = false then 3 else if 4611686018427387903 < amt ∨ 4611686018427387903 < non then 2 else if keysL rs ≠ 0 then keysL rs else keysL ws)
  unfold txV at cf ⊢
  by_cases hk : kind ≠ 1 ∧ kind ≠ 2
  · have hk1 : (kind != 1) = true := by simpa using hk.1
    have hk2 : (kind != 2) = true := by simpa using hk.2
    have H : Hid (checkL ⟨kind, frm, to, amt, non, key, val, rs, ws⟩ = 5) := by show _ = _; rw [HC.out, if_pos hk]
    clear HC hA hA0 cf hX
    go_enter Tryd.func45, Tryd.ntmps45
    go_wp2
    go_ret
    exact ⟨by rw [H.out]; rfl, hB⟩
  have hkk : kind = 1 ∨ kind = 2 := by omega
  replace HC : Hid (checkL ⟨kind, frm, to, amt, non, key, val, rs, ws⟩ = _) := (HC.out.trans (if_neg hk) : _ = _)
  have key1 : ∀ kind', kind' = kind → (kind' = 1 ∨ kind' = 2) := by rintro _ rfl; exact hkk
  clear hk
  cases hf : fieldsR ⟨kind, frm, to, amt, non, key, val, rs, ws⟩ with
  | false =>
    have H : Hid (checkL ⟨kind, frm, to, amt, non, key, val, rs, ws⟩ = 3) := by show _ = _; rw [HC.out, if_pos hf]
    rw [hf] at cf
    clear HC hA hA0 hX hf
    rcases hkk with rfl | rfl
    all_goals
      go_enter Tryd.func45, Tryd.ntmps45
      go_wp2_with fail
      refine cf.mono ?_
      rintro e w1 ⟨rfl, hb1⟩
      have hB1 := hB.trans (hb1.mono hB.size)
      clear hb1 cf
      go_wp2
      go_ret
      exact ⟨by rw [H.out]; rfl, hB1⟩
  | true =>
    replace HC : Hid (checkL ⟨kind, frm, to, amt, non, key, val, rs, ws⟩ = _) := (HC.out.trans (if_neg (by rw [hf]; simp)) : _ = _)
    rw [hf] at cf
    clear hf
    by_cases hr : 4611686018427387903 < amt ∨ 4611686018427387903 < non
    · have H : Hid (checkL ⟨kind, frm, to, amt, non, key, val, rs, ws⟩ = 2) := by show _ = _; rw [HC.out, if_pos hr]
      have hr' : ((4611686018427387903 : Int) < amt) ∨ ((amt : Int) ≤ 4611686018427387903 ∧ (4611686018427387903 : Int) < non) := by omega
      clear HC hr
      rcases hkk with rfl | rfl
      all_goals
        rcases hr' with h1 | ⟨h1, h2⟩
        all_goals
          go_enter Tryd.func45, Tryd.ntmps45
          go_wp2_with fail
          refine cf.mono ?_
          rintro e w1 ⟨rfl, hb1⟩
          have hX1 := hX.below hb1 hX.lt
          have hB1 := hB.trans (hb1.mono hB.size)
          have c3 := hX1.cell (i := 3) rfl
          have c4 := hX1.cell (i := 4) rfl
          clear hb1 cf hX1
          go_wp2
          go_ret
          exact ⟨by rw [H.out]; rfl, hB1⟩
    · replace HC : Hid (checkL ⟨kind, frm, to, amt, non, key, val, rs, ws⟩ = _) := (HC.out.trans (if_neg hr) : _ = _)
      have h1 : (amt : Int) ≤ 4611686018427387903 := by omega
      have h2 : (non : Int) ≤ 4611686018427387903 := by omega
      clear hr
      have ck1 : ∀ w1, StrsAt w1 ra rs → Calls Tryd.prog 57 #[.slice ra rs.length rc] w1 fun e w' => e = .returned (.int .i64 (keysL rs : Int)) ∧ w' = w1 := fun w1 h => checkKeys_any ra rc rs w1 h
      have ck2 : ∀ w1, StrsAt w1 wa ws → Calls Tryd.prog 57 #[.slice wa ws.length wc] w1 fun e w' => e = .returned (.int .i64 (keysL ws : Int)) ∧ w' = w1 := fun w1 h => checkKeys_any wa wc ws w1 h
      by_cases hz : keysL rs = 0
      · have H : Hid (checkL ⟨kind, frm, to, amt, non, key, val, rs, ws⟩ = keysL ws) := by show _ = _; rw [HC.out, if_neg (by rw [hz]; simp)]
        rw [hz] at ck1
        clear HC hz
        generalize keysL ws = n2 at ck2 H
        rcases hkk with rfl | rfl
        all_goals
          go_enter Tryd.func45, Tryd.ntmps45
          go_wp2_with fail
          refine cf.mono ?_
          rintro e w1 ⟨rfl, hb1⟩
          have hX1 := hX.below hb1 hX.lt
          have hB1 := hB.trans (hb1.mono hB.size)
          have hA1 := hA0.below hb1
          have hA2 : StrsAt w1 wa ws := hA1.wr
          replace hA1 : StrsAt w1 ra rs := hA1.rd
          have c3 := hX1.cell (i := 3) rfl
          have c4 := hX1.cell (i := 4) rfl
          have c7 := hX1.cell (i := 7) rfl
          have c8 := hX1.cell (i := 8) rfl
          clear hb1 cf hX1 hX hA0 hA
          go_wp2_with fail
          refine (ck1 _ hA1).mono ?_
          rintro e w2 ⟨rfl, rfl⟩
          go_wp2_with fail
          refine (ck2 _ hA2).mono ?_
          rintro e w3 ⟨rfl, rfl⟩
          go_wp2
          go_ret
          exact ⟨by rw [H.out]; rfl, hB1⟩
      · have H : Hid (checkL ⟨kind, frm, to, amt, non, key, val, rs, ws⟩ = keysL rs) := by show _ = _; rw [HC.out, if_pos hz]
        have hz' : ((keysL rs : Int) != 0) = true := by rw [bne_iff_ne]; omega
        clear HC hz
        generalize keysL rs = n2 at ck1 H hz'
        rcases hkk with rfl | rfl
        all_goals
          go_enter Tryd.func45, Tryd.ntmps45
          go_wp2_with fail
          refine cf.mono ?_
          rintro e w1 ⟨rfl, hb1⟩
          have hX1 := hX.below hb1 hX.lt
          have hB1 := hB.trans (hb1.mono hB.size)
          have hA1 := hA0.below hb1
          replace hA1 : StrsAt w1 ra rs := hA1.rd
          have c3 := hX1.cell (i := 3) rfl
          have c4 := hX1.cell (i := 4) rfl
          have c7 := hX1.cell (i := 7) rfl
          clear hb1 cf hX1 hX hA0 hA
          go_wp2_with fail
          refine (ck1 _ hA1).mono ?_
          rintro e w2 ⟨rfl, rfl⟩
          go_wp2
          go_ret
          exact ⟨by rw [H.out]; rfl, hB1⟩
end Go.Proofs.YtcjmeaikdfgapaaDoor
