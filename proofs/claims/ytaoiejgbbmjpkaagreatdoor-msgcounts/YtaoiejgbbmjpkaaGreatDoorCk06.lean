/- Texts as one: TxRight, Bld, TxEncode, TxNeeds, TxOwn, TxRows. -/
import Derived.Test.YtaoiejgbbmjpkaaGreatDoorCk05
import Derived.Test.YtaoiejgbbmjpkaaGreatDoorCk02
import Derived.Test.YtaoiejgbbmjpkaaGreatDoorCk03
import Derived.Deep.Slices
/- What Check does; nothing old in memory is turned. -/
namespace Go.Proofs.YtaoiejgbbmjpkaaGreatDoor
open Go.RowKit
set_option linter.unusedVariables false

/-- A transaction's nine cells. -/
def txC (d : TxD) (ra : Option Addr) (rc : Nat) (wa : Option Addr) (wc : Nat) : List Value :=
  [.int .i64 d.kind, .string d.frm, .string d.to, .int .u64 (d.amt : Int), .int .u64 (d.non : Int), .string d.key, .string d.val, .slice ra d.rs.length rc, .slice wa d.ws.length wc]

/-- A transaction lies in a block. -/
def TxBox (w : World) (b : Nat) (d : TxD) (ra : Option Addr) (rc : Nat) (wa : Option Addr) (wc : Nat) : Prop := Arr w b 86 (txC d ra rc wa wc)

theorem TxBox.new (w : World) (d : TxD) (ra : Option Addr) (rc : Nat) (wa : Option Addr) (wc : Nat) : TxBox (w.alloc (.cells (txC d ra rc wa wc).toArray 86)) w.heap.size d ra rc wa wc := Arr.new w 86 _

set_option maxRecDepth 100000 in
set_option maxHeartbeats 1000000 in
theorem check_any (d : TxD) (ra : Option Addr) (rc : Nat) (wa : Option Addr) (wc : Nat) (w : World) (hA : TxAt w d ra wa) :
    Calls Tryz.prog 103 #[txV d ra rc wa wc] w fun e w' => e = .returned (.int .i64 (checkL d : Int)) ∧ Below w.heap.size w w' := by
  have hX := TxBox.new w d ra rc wa wc
  have hB := belowNew w (.cells (txC d ra rc wa wc).toArray 86)
  have hA0 := hA.below hB
  have cf := fieldsRight_any d ra rc wa wc (w.alloc (.cells (txC d ra rc wa wc).toArray 86))
  obtain ⟨kind, frm, to, amt, non, key, val, rs, ws⟩ := d
  have HC : Hid (checkL ⟨kind, frm, to, amt, non, key, val, rs, ws⟩ = _) := (rfl : checkL _ = if kind ≠ 1 ∧ kind ≠ 2 then 5 else if fieldsR ⟨kind, frm, to, amt, non, key, val, rs, ws⟩ = false then 3 else if 4611686018427387903 < amt ∨ 4611686018427387903 < non then 2 else if keysL rs ≠ 0 then keysL rs else keysL ws)
  unfold txV at cf ⊢
  by_cases hk : kind ≠ 1 ∧ kind ≠ 2
  · have hk1 : (kind != 1) = true := by simpa using hk.1
    have hk2 : (kind != 2) = true := by simpa using hk.2
    have H : Hid (checkL ⟨kind, frm, to, amt, non, key, val, rs, ws⟩ = 5) := by show _ = _; rw [HC.out, if_pos hk]
    clear HC hA hA0 cf hX
    go_enter Tryz.func103, Tryz.ntmps103
    go_wp2
    go_ret
    exact ⟨by rw [H.out]; rfl, hB⟩
  have hkk : kind = 1 ∨ kind = 2 := by omega
  replace HC : Hid (checkL ⟨kind, frm, to, amt, non, key, val, rs, ws⟩ = _) := (HC.out.trans (if_neg hk) : _ = _)
  have key1 : ∀ kind', kind' = kind → (kind' = 1 ∨ kind' = 2) := by rintro _ rfl; exact hkk
  clear hk
  cases hf : fieldsR ⟨kind, frm, to, amt, non, key, val, rs, ws⟩ with
  | false =>
    have H : Hid (checkL ⟨kind, frm, to, amt, non, key, val, rs, ws⟩ = 3) := by show _ = _; rw [HC.out, if_pos hf]
    rw [hf] at cf
    clear HC hA hA0 hX hf
    rcases hkk with rfl | rfl
    all_goals
      go_enter Tryz.func103, Tryz.ntmps103
      go_wp2_with fail
      refine cf.mono ?_
      rintro e w1 ⟨rfl, hb1⟩
      have hB1 := hB.trans (hb1.mono hB.size)
      clear hb1 cf
      go_wp2
      go_ret
      exact ⟨by rw [H.out]; rfl, hB1⟩
  | true =>
    replace HC : Hid (checkL ⟨kind, frm, to, amt, non, key, val, rs, ws⟩ = _) := (HC.out.trans (if_neg (by rw [hf]; simp)) : _ = _)
    rw [hf] at cf
    clear hf
    by_cases hr : 4611686018427387903 < amt ∨ 4611686018427387903 < non
    · have H : Hid (checkL ⟨kind, frm, to, amt, non, key, val, rs, ws⟩ = 2) := by show _ = _; rw [HC.out, if_pos hr]
      have hr' : ((4611686018427387903 : Int) < amt) ∨ ((amt : Int) ≤ 4611686018427387903 ∧ (4611686018427387903 : Int) < non) := by omega
      clear HC hr
      rcases hkk with rfl | rfl
      all_goals
        rcases hr' with h1 | ⟨h1, h2⟩
        all_goals
          go_enter Tryz.func103, Tryz.ntmps103
          go_wp2_with fail
          refine cf.mono ?_
          rintro e w1 ⟨rfl, hb1⟩
          have hX1 := hX.below hb1 hX.lt
          have hB1 := hB.trans (hb1.mono hB.size)
          have c3 := hX1.cell (i := 3) rfl
          have c4 := hX1.cell (i := 4) rfl
          clear hb1 cf hX1
          go_wp2
          go_ret
          exact ⟨by rw [H.out]; rfl, hB1⟩
    · replace HC : Hid (checkL ⟨kind, frm, to, amt, non, key, val, rs, ws⟩ = _) := (HC.out.trans (if_neg hr) : _ = _)
      have h1 : (amt : Int) ≤ 4611686018427387903 := by omega
      have h2 : (non : Int) ≤ 4611686018427387903 := by omega
      clear hr
      have ck1 : ∀ w1, StrsAt w1 ra rs → Calls Tryz.prog 137 #[.slice ra rs.length rc] w1 fun e w' => e = .returned (.int .i64 (keysL rs : Int)) ∧ w' = w1 := fun w1 h => checkKeys_any ra rc rs w1 h
      have ck2 : ∀ w1, StrsAt w1 wa ws → Calls Tryz.prog 137 #[.slice wa ws.length wc] w1 fun e w' => e = .returned (.int .i64 (keysL ws : Int)) ∧ w' = w1 := fun w1 h => checkKeys_any wa wc ws w1 h
      by_cases hz : keysL rs = 0
      · have H : Hid (checkL ⟨kind, frm, to, amt, non, key, val, rs, ws⟩ = keysL ws) := by show _ = _; rw [HC.out, if_neg (by rw [hz]; simp)]
        rw [hz] at ck1
        clear HC hz
        generalize keysL ws = n2 at ck2 H
        rcases hkk with rfl | rfl
        all_goals
          go_enter Tryz.func103, Tryz.ntmps103
          go_wp2_with fail
          refine cf.mono ?_
          rintro e w1 ⟨rfl, hb1⟩
          have hX1 := hX.below hb1 hX.lt
          have hB1 := hB.trans (hb1.mono hB.size)
          have hA1 := hA0.below hb1
          have hA2 : StrsAt w1 wa ws := hA1.wr
          replace hA1 : StrsAt w1 ra rs := hA1.rd
          have c3 := hX1.cell (i := 3) rfl
          have c4 := hX1.cell (i := 4) rfl
          have c7 := hX1.cell (i := 7) rfl
          have c8 := hX1.cell (i := 8) rfl
          clear hb1 cf hX1 hX hA0 hA
          go_wp2_with fail
          refine (ck1 _ hA1).mono ?_
          rintro e w2 ⟨rfl, rfl⟩
          go_wp2_with fail
          refine (ck2 _ hA2).mono ?_
          rintro e w3 ⟨rfl, rfl⟩
          go_wp2
          go_ret
          exact ⟨by rw [H.out]; rfl, hB1⟩
      · have H : Hid (checkL ⟨kind, frm, to, amt, non, key, val, rs, ws⟩ = keysL rs) := by show _ = _; rw [HC.out, if_pos hz]
        have hz' : ((keysL rs : Int) != 0) = true := by rw [bne_iff_ne]; omega
        clear HC hz
        generalize keysL rs = n2 at ck1 H hz'
        rcases hkk with rfl | rfl
        all_goals
          go_enter Tryz.func103, Tryz.ntmps103
          go_wp2_with fail
          refine cf.mono ?_
          rintro e w1 ⟨rfl, hb1⟩
          have hX1 := hX.below hb1 hX.lt
          have hB1 := hB.trans (hb1.mono hB.size)
          have hA1 := hA0.below hb1
          replace hA1 : StrsAt w1 ra rs := hA1.rd
          have c3 := hX1.cell (i := 3) rfl
          have c4 := hX1.cell (i := 4) rfl
          have c7 := hX1.cell (i := 7) rfl
          clear hb1 cf hX1 hX hA0 hA
          go_wp2_with fail
          refine (ck1 _ hA1).mono ?_
          rintro e w2 ⟨rfl, rfl⟩
          go_wp2
          go_ret
          exact ⟨by rw [H.out]; rfl, hB1⟩
end Go.Proofs.YtaoiejgbbmjpkaaGreatDoor

/- A strings.Builder of the call's own at work. -/
namespace Go.Proofs.YtaoiejgbbmjpkaaGreatDoor
open Go.RowKit
set_option linter.unusedVariables false

/-- Block bb is a Builder of the call's own that holds l, block xb ahead of it still a row of the cells cs. -/
structure BldSt (W : World) (xb bb : Nat) (T : TypeId) (cs : List Value) (w : World) (l : List UInt8) : Prop where
  box : Arr w xb T cs
  ord : xb < bb
  bld : Lib.IsBuilder 99 5 bb bb (Lib.byteCells l) w
  bel : Below W.heap.size W w
  low : W.heap.size ≤ bb
  has : bb ≤ w.heap.size

theorem BldSt.new {W w : World} {xb : Nat} {T : TypeId} {cs : List Value} (hx : Arr w xb T cs) (hb : Below W.heap.size W w) :
    BldSt W xb w.heap.size T cs (w.alloc (.cells #[.pointer none, .slice none 0 0] 99)) [] :=
  ⟨hx.alloc _, hx.lt, Lib.fresh_isBuilder 99 5 w, hb.alloc hb.size _, hb.size, by rw [alloc_size]; omega⟩

theorem BldSt.call {W w w1 : World} {xb bb : Nat} {T : TypeId} {cs : List Value} {l : List UInt8} (h : BldSt W xb bb T cs w l) (hb : Below w.heap.size w w1) : BldSt W xb bb T cs w1 l :=
  ⟨h.box.below hb h.box.lt, h.ord, builder_keep h.bld hb, h.bel.trans (hb.mono h.bel.size), h.low, Nat.le_trans h.has hb.size⟩

theorem BldSt.write {W w : World} {xb bb : Nat} {T : TypeId} {cs : List Value} {l : List UInt8} (h : BldSt W xb bb T cs w l) (m : List UInt8) (hm : l.length + m.length ≤ 140737488355328) :
    Calls Tryz.prog 59 #[.pointer (some ⟨bb, 0, none⟩), .string ⟨m.toArray⟩] w fun e w' => e = .returned (.tuple #[.int .i64 m.length, .nilIface]) ∧ BldSt W xb bb T cs w' (l ++ m) := by
  refine (write_any bb bb _ ⟨m.toArray⟩ w h.bld (by rw [Lib.byteCells_length, size_mk]; exact hm) h.has).mono ?_
  rintro e w' ⟨rfl, h2, hb⟩
  refine ⟨by rw [size_mk], h.box.below hb h.ord, h.ord, Or.inr ?_, h.bel.trans (hb.mono h.low), h.low, Nat.le_trans h.has hb.size⟩
  rw [Lib.byteCells_append]
  rw [Lib.strCells_eq] at h2
  exact h2

theorem BldSt.read {W w : World} {xb bb : Nat} {T : TypeId} {cs : List Value} {l : List UInt8} (h : BldSt W xb bb T cs w l) (h0 : l ≠ []) :
    Calls Tryz.prog 61 #[.pointer (some ⟨bb, 0, none⟩)] w fun e w' => e = .returned (.string ⟨l.toArray⟩) ∧ Below W.heap.size W w' := by
  refine (string_any bb bb l w h.bld h0).mono ?_
  rintro e w' ⟨rfl, hb⟩
  exact ⟨rfl, h.bel.trans (hb.mono h.low)⟩

end Go.Proofs.YtaoiejgbbmjpkaaGreatDoor

/- What Encode does; nothing old in memory is turned. -/
namespace Go.Proofs.YtaoiejgbbmjpkaaGreatDoor
open Go.RowKit
set_option linter.unusedVariables false

theorem isNm_size {s : ByteArray} (h : isNm s = true) : s.size ≤ 32 := by
  unfold isNm at h
  simp only [Bool.and_eq_true, decide_eq_true_eq] at h
  exact h.1.2

theorem isKy_size {s : ByteArray} (h : isKy s = true) : s.size ≤ 34 := by
  unfold isKy at h
  rw [Bool.and_eq_true] at h
  have := isNm_size h.2
  rw [ByteArray.size_extract] at this
  omega

theorem empty_size {s : ByteArray} (h : (s.toList == []) = true) : s.size = 0 := by
  rw [beq_iff_eq, ByteArray.toList_eq] at h
  have : s.data.toList.length = s.size := by simp
  rw [h] at this
  exact this.symm

theorem check_zero {d : TxD} (h : checkL d = 0) : (d.kind = 1 ∨ d.kind = 2) ∧ fieldsR d = true ∧ d.amt ≤ 4611686018427387903 ∧ d.non ≤ 4611686018427387903 ∧ keysL d.rs = 0 ∧ keysL d.ws = 0 := by
  unfold checkL at h
  by_cases h1 : d.kind ≠ 1 ∧ d.kind ≠ 2
  · rw [if_pos h1] at h; omega
  rw [if_neg h1] at h
  by_cases h2 : fieldsR d = false
  · rw [if_pos h2] at h; omega
  rw [if_neg h2] at h
  by_cases h3 : 4611686018427387903 < d.amt ∨ 4611686018427387903 < d.non
  · rw [if_pos h3] at h; omega
  rw [if_neg h3] at h
  by_cases h4 : keysL d.rs ≠ 0
  · rw [if_pos h4] at h; omega
  rw [if_neg h4] at h
  exact ⟨by omega, by simpa using h2, by omega, by omega, by omega, h⟩

theorem fields_sizes {d : TxD} (h : fieldsR d = true) : d.frm.size ≤ 32 ∧ d.to.size ≤ 32 ∧ d.key.size ≤ 32 ∧ d.val.size ≤ 64 := by
  unfold fieldsR at h
  rw [Bool.and_eq_true] at h
  have h1 := isNm_size h.1
  have h2 := h.2
  by_cases hk : d.kind = 1
  · rw [if_pos hk] at h2
    simp only [Bool.and_eq_true] at h2
    have a := isNm_size h2.1.1
    have b := empty_size h2.1.2
    have c := empty_size h2.2
    omega
  · rw [if_neg hk] at h2
    simp only [Bool.and_eq_true, decide_eq_true_eq] at h2
    have a := isNm_size h2.1.1.1
    have b := empty_size h2.1.2
    have c := h2.1.1.2
    omega

theorem keysGo_all : ∀ (l : List ByteArray) (a : ByteArray), keysGo a l = 0 → ∀ k ∈ l, isKy k = true
  | [], _, _ => by simp
  | k :: r, a, h => by
    rw [keysGo] at h
    by_cases h1 : isKy k = false
    · rw [if_pos h1] at h; omega
    rw [if_neg h1] at h
    by_cases h2 : (Op.bytesLess k.toList a.toList || k.toList == a.toList) = true
    · rw [if_pos h2] at h; omega
    rw [if_neg h2] at h
    intro x hx
    rw [List.mem_cons] at hx
    rcases hx with rfl | hx
    · simpa using h1
    · exact keysGo_all r k h x hx

theorem keys_sizes {l : List ByteArray} (h : keysL l = 0) : l.length ≤ 8 ∧ ∀ k ∈ l, isKy k = true := by
  have h8 := keysL_le l h
  unfold keysL at h
  rw [if_neg (by omega)] at h
  exact ⟨h8, keysGo_all l _ h⟩

theorem txt_le (l : List UInt8) : (txt l).length ≤ 9 + l.length := by
  have := goInt_length l.length
  rw [txt, List.length_append]
  omega

theorem flat_le : ∀ (l : List ByteArray), (∀ k ∈ l, k.size ≤ 34) → ((bl l).flatMap txt).length ≤ 43 * l.length
  | [], _ => by simp [bl]
  | k :: r, h => by
    have h1 := flat_le r (fun x hx => h x (by simp [hx]))
    have h2 := txt_le k.data.toList
    have h3 := h k (by simp)
    have h4 : k.data.toList.length = k.size := by simp
    simp only [bl, List.map_cons, List.flatMap_cons, List.length_append, List.length_cons]
    simp only [bl] at h1
    omega

theorem lst_le {l : List ByteArray} (h : keysL l = 0) : (lst (bl l)).length ≤ 353 := by
  obtain ⟨h8, hk⟩ := keys_sizes h
  have h1 := flat_le l (fun k hk' => isKy_size (hk k hk'))
  have h2 := goInt_length (bl l).length
  rw [lst, List.length_append]
  omega

set_option maxRecDepth 100000 in
set_option maxHeartbeats 1000000 in
theorem encode_no (d : TxD) (ra : Option Addr) (rc : Nat) (wa : Option Addr) (wc : Nat) (w : World) (hA : TxAt w d ra wa) (hz : checkL d ≠ 0) :
    Calls Tryz.prog 125 #[txV d ra rc wa wc] w fun e w' => e = .returned (.tuple #[.string ⟨#[]⟩, .int .i64 (checkL d : Int)]) ∧ Below w.heap.size w w' := by
  have hB := belowNew w (.cells (txC d ra rc wa wc).toArray 86)
  have cc := check_any d ra rc wa wc _ (hA.below hB)
  have hz' : ((checkL d : Int) != 0) = true := by rw [bne_iff_ne]; omega
  generalize checkL d = n at cc hz' ⊢
  clear hz hA
  unfold txV at cc ⊢
  go_enter Tryz.func125, Tryz.ntmps125
  go_wp2_with fail
  refine cc.mono ?_
  rintro e w1 ⟨rfl, hb1⟩
  have hB1 := hB.trans (hb1.mono hB.size)
  clear hb1 cc
  go_wp2
  go_ret2
  exact ⟨rfl, hB1⟩

set_option maxRecDepth 100000 in
set_option maxHeartbeats 2000000 in
theorem encode_yes (d : TxD) (ra : Option Addr) (rc : Nat) (wa : Option Addr) (wc : Nat) (w : World) (hA : TxAt w d ra wa) (hz : checkL d = 0) :
    Calls Tryz.prog 125 #[txV d ra rc wa wc] w fun e w' => e = .returned (.tuple #[.string ⟨(encL d).toArray⟩, .int .i64 0]) ∧ Below w.heap.size w w' := by
  have hX := TxBox.new w d ra rc wa wc
  have hB := belowNew w (.cells (txC d ra rc wa wc).toArray 86)
  have cc := check_any d ra rc wa wc _ (hA.below hB)
  rw [hz] at cc
  obtain ⟨z1, z2, z3, z4, z5, z6⟩ := check_zero hz
  obtain ⟨y1, y2, y3, y4⟩ := fields_sizes z2
  have y5 := lst_le z5
  have y6 := lst_le z6
  have y7 := (keys_sizes z5).1
  have y8 := (keys_sizes z6).1
  have x0 := goInt_length d.kind
  have x1 := txt_le d.frm.data.toList
  have x2 := txt_le d.to.data.toList
  have x3 := goInt_length d.amt
  have x4 := goInt_length d.non
  have x5 := txt_le d.key.data.toList
  have x6 := txt_le d.val.data.toList
  have e1 : d.frm.data.toList.length = d.frm.size := by simp
  have e2 : d.to.data.toList.length = d.to.size := by simp
  have e5 : d.key.data.toList.length = d.key.size := by simp
  have e6 : d.val.data.toList.length = d.val.size := by simp
  have hne : goInt d.kind ≠ [] := by
    rcases z1 with h | h
    · rw [h]; exact goInt_ne 1 (by omega)
    · rw [h]; exact goInt_ne 2 (by omega)
  have E : Hid (encL d = goInt d.kind ++ txt d.frm.data.toList ++ txt d.to.data.toList ++ goInt d.amt ++ goInt d.non ++ txt d.key.data.toList ++ txt d.val.data.toList ++ lst (bl d.rs) ++ lst (bl d.ws)) := (rfl : _ = _)
  have C0 := fun w1 => int_any d.kind w1
  have C1 := fun w1 => text_any d.frm w1 (by omega)
  have C2 := fun w1 => text_any d.to w1 (by omega)
  have C3 := fun w1 => int_any (d.amt : Int) w1
  have C4 := fun w1 => int_any (d.non : Int) w1
  have C5 := fun w1 => text_any d.key w1 (by omega)
  have C6 := fun w1 => text_any d.val w1 (by omega)
  have C7 := fun w1 (hb : Below w.heap.size w w1) => list_any ra rc d.rs w1 (hA.rd.below hb) (by omega) (by omega)
  have C8 := fun w1 (hb : Below w.heap.size w w1) => list_any wa wc d.ws w1 (hA.wr.below hb) (by omega) (by omega)
  obtain ⟨out, hout⟩ : ∃ out, out = (⟨(encL d).toArray⟩ : ByteArray) := ⟨_, rfl⟩
  rw [← hout]
  have Hout : Hid (out = (⟨(encL d).toArray⟩ : ByteArray)) := hout
  clear hout
  replace z3 : (d.amt : Int) ≤ 4611686018427387903 := by omega
  replace z4 : (d.non : Int) ≤ 4611686018427387903 := by omega
  replace hX : Arr _ _ _ (txC d ra rc wa wc) := hX
  generalize goInt d.kind = l0 at *
  generalize txt d.frm.data.toList = l1 at *
  generalize txt d.to.data.toList = l2 at *
  generalize goInt (d.amt : Int) = l3 at *
  generalize goInt (d.non : Int) = l4 at *
  generalize txt d.key.data.toList = l5 at *
  generalize txt d.val.data.toList = l6 at *
  generalize lst (bl d.rs) = l7 at *
  generalize lst (bl d.ws) = l8 at *
  have hlen : Hid (l0.length ≤ 9 ∧ l1.length ≤ 41 ∧ l2.length ≤ 41 ∧ l3.length ≤ 9 ∧ l4.length ≤ 9 ∧ l5.length ≤ 41 ∧ l6.length ≤ 73 ∧ l7.length ≤ 353 ∧ l8.length ≤ 353) := ⟨by omega, by omega, by omega, by omega, by omega, by omega, by omega, by omega, by omega⟩
  clear x0 x1 x2 x3 x4 x5 x6 y1 y2 y3 y4 y5 y6 y7 y8 e1 e2 e5 e6 z1 z2 z5 z6 hz hA
  unfold txV at cc ⊢
  go_enter Tryz.func125, Tryz.ntmps125
  go_wp2_with fail
  refine cc.mono ?_
  rintro e w1 ⟨rfl, hb1⟩
  have hX1 := hX.below hb1 hX.lt
  have hB1 := hB.trans (hb1.mono hB.size)
  clear hb1 cc hX hB
  have st := BldSt.new hX1 hB1
  clear hX1 hB1
  have c0 := st.box.cell (i := 0) rfl
  go_wp2_with fail
  refine (C0 _).mono ?_
  rintro e w2 ⟨rfl, hb⟩
  replace st := st.call hb
  clear hb c0 C0
  go_wp2_with fail
  refine (st.write l0 (by have := hlen.out; simp; omega)).mono ?_
  rintro e w3 ⟨rfl, st'⟩
  replace st := st'
  clear st'
  have c0 := st.box.cell (i := 1) rfl
  go_wp2_with fail
  refine (C1 _).mono ?_
  rintro e w4 ⟨rfl, hb⟩
  replace st := st.call hb
  clear hb c0 C1
  go_wp2_with fail
  refine (st.write l1 (by have := hlen.out; simp; omega)).mono ?_
  rintro e w5 ⟨rfl, st'⟩
  replace st := st'
  clear st'
  have c0 := st.box.cell (i := 2) rfl
  go_wp2_with fail
  refine (C2 _).mono ?_
  rintro e w6 ⟨rfl, hb⟩
  replace st := st.call hb
  clear hb c0 C2
  go_wp2_with fail
  refine (st.write l2 (by have := hlen.out; simp; omega)).mono ?_
  rintro e w7 ⟨rfl, st'⟩
  replace st := st'
  clear st'
  have c0 := st.box.cell (i := 3) rfl
  go_wp2_with fail
  refine (C3 _).mono ?_
  rintro e w8 ⟨rfl, hb⟩
  replace st := st.call hb
  clear hb c0 C3
  go_wp2_with fail
  refine (st.write l3 (by have := hlen.out; simp; omega)).mono ?_
  rintro e w9 ⟨rfl, st'⟩
  replace st := st'
  clear st'
  have c0 := st.box.cell (i := 4) rfl
  go_wp2_with fail
  refine (C4 _).mono ?_
  rintro e w10 ⟨rfl, hb⟩
  replace st := st.call hb
  clear hb c0 C4
  go_wp2_with fail
  refine (st.write l4 (by have := hlen.out; simp; omega)).mono ?_
  rintro e w11 ⟨rfl, st'⟩
  replace st := st'
  clear st'
  have c0 := st.box.cell (i := 5) rfl
  go_wp2_with fail
  refine (C5 _).mono ?_
  rintro e w12 ⟨rfl, hb⟩
  replace st := st.call hb
  clear hb c0 C5
  go_wp2_with fail
  refine (st.write l5 (by have := hlen.out; simp; omega)).mono ?_
  rintro e w13 ⟨rfl, st'⟩
  replace st := st'
  clear st'
  have c0 := st.box.cell (i := 6) rfl
  go_wp2_with fail
  refine (C6 _).mono ?_
  rintro e w14 ⟨rfl, hb⟩
  replace st := st.call hb
  clear hb c0 C6
  go_wp2_with fail
  refine (st.write l6 (by have := hlen.out; simp; omega)).mono ?_
  rintro e w15 ⟨rfl, st'⟩
  replace st := st'
  clear st'
  have c0 := st.box.cell (i := 7) rfl
  go_wp2_with fail
  refine (C7 _ st.bel).mono ?_
  rintro e w16 ⟨rfl, hb⟩
  replace st := st.call hb
  clear hb c0 C7
  go_wp2_with fail
  refine (st.write l7 (by have := hlen.out; simp; omega)).mono ?_
  rintro e w17 ⟨rfl, st'⟩
  replace st := st'
  clear st'
  have c0 := st.box.cell (i := 8) rfl
  go_wp2_with fail
  refine (C8 _ st.bel).mono ?_
  rintro e w18 ⟨rfl, hb⟩
  replace st := st.call hb
  clear hb c0 C8
  go_wp2_with fail
  refine (st.write l8 (by have := hlen.out; simp; omega)).mono ?_
  rintro e w19 ⟨rfl, st'⟩
  replace st := st'
  clear st'
  go_wp2_with fail
  have rd := st.read (by simpa using fun h => absurd h hne)
  have E2 : ([] ++ l0 ++ l1 ++ l2 ++ l3 ++ l4 ++ l5 ++ l6 ++ l7 ++ l8 : List UInt8) = encL d := by rw [E.out]; rfl
  rw [E2, ← Hout.out] at rd
  refine rd.mono ?_
  rintro e w20 ⟨rfl, hb⟩
  clear st rd E E2
  go_wp2
  go_ret2
  exact ⟨rfl, hb⟩

theorem encode_any (d : TxD) (ra : Option Addr) (rc : Nat) (wa : Option Addr) (wc : Nat) (w : World) (hA : TxAt w d ra wa) :
    Calls Tryz.prog 125 #[txV d ra rc wa wc] w fun e w' => e = .returned (.tuple #[.string (encB d), .int .i64 (checkL d : Int)]) ∧ Below w.heap.size w w' := by
  unfold encB
  by_cases hz : checkL d = 0
  · rw [if_pos hz, hz]
    exact encode_yes d ra rc wa wc w hA hz
  · rw [if_neg hz]
    exact encode_no d ra rc wa wc w hA hz
end Go.Proofs.YtaoiejgbbmjpkaaGreatDoor

/- What Needs, slices.Contains and Fits do; nothing old in memory is turned. -/
namespace Go.Proofs.YtaoiejgbbmjpkaaGreatDoor
open Go.RowKit
set_option linter.unusedVariables false

theorem one_strs (w : World) (a : ByteArray) (T : TypeId) : StrsAt (w.alloc (.cells #[.string a] T)) (some ⟨w.heap.size, 0, none⟩) [a] := by
  intro j hj
  have h := Arr.new w T [.string a]
  obtain rfl : j = 0 := by simp at hj; omega
  exact ⟨w.heap.size, 0, rfl, h.lt, h.cell rfl⟩

theorem two_strs (w : World) (a b : ByteArray) (T : TypeId) : StrsAt (w.alloc (.cells #[.string a, .string b] T)) (some ⟨w.heap.size, 0, none⟩) [a, b] := by
  intro j hj
  have h := Arr.new w T [.string a, .string b]
  match j, hj with
  | 0, _ => exact ⟨w.heap.size, 0, rfl, h.lt, h.cell rfl⟩
  | 1, _ => exact ⟨w.heap.size, 0, rfl, h.lt, h.cell rfl⟩



/-- A row of strings is handed back. -/
def GotStrs (W : World) (l : List ByteArray) (e : Ending) (w : World) : Prop :=
  ∃ ao, e = .returned (.slice ao l.length l.length) ∧ StrsAt w ao l ∧ Below W.heap.size W w

theorem GotStrs.of {W w : World} {l : List ByteArray} {n : Nat} {v : Value} {ao : Option Addr} (hv : v = .slice ao n n) (hn : n = l.length) (h : StrsAt w ao l) (hb : Below W.heap.size W w) : GotStrs W l (.returned v) w := by
  subst hv hn
  exact ⟨ao, rfl, h, hb⟩
end Go.Proofs.YtaoiejgbbmjpkaaGreatDoor

/- What tusklaw04.Own, pay and works do; nothing old in memory is turned. -/
namespace Go.Proofs.YtaoiejgbbmjpkaaGreatDoor
open Go.RowKit
set_option linter.unusedVariables false

theorem infoTx : (Tryz.prog.info? 86).map (·.size) = some 9 := by kernel_rfl

def zeroC : List Value := [.int .i64 0, .string ⟨#[]⟩, .string ⟨#[]⟩, .int .u64 0, .int .u64 0, .string ⟨#[]⟩, .string ⟨#[]⟩, .slice none 0 0, .slice none 0 0]

theorem results_tx {fn : Func} {p : Tmp} (h : fn.results = #[.cell p 86]) (tmps : Array Value) (w : World) (g : Nat) (t : TypeId) (d : TxD) (ra : Option Addr) (rc : Nat) (wa : Option Addr) (wc : Nat)
    (hp : tmps.getD p undef = .pointer (some ⟨g, 0, none⟩)) (hg : Arr w g t (txC d ra rc wa wc)) :
    (results fn tmps).run Tryz.prog w = .ok (txV d ra rc wa wc) w :=
  results_cell_row h tmps w g t (txC d ra rc wa wc).toArray (0, 0) _ hp hg Tryz.underlying86 rfl infoTx

theorem Arr.cells9 {w : World} {g : Nat} {t : TypeId} {a0 a1 a2 a3 a4 a5 a6 a7 a8 : Value} (h : Arr w g t [a0, a1, a2, a3, a4, a5, a6, a7, a8]) :
    w.cell? ⟨g, 0, none⟩ = some a0 ∧ w.cell? ⟨g, 1, none⟩ = some a1 ∧ w.cell? ⟨g, 2, none⟩ = some a2 ∧ w.cell? ⟨g, 3, none⟩ = some a3 ∧ w.cell? ⟨g, 4, none⟩ = some a4 ∧ w.cell? ⟨g, 5, none⟩ = some a5 ∧ w.cell? ⟨g, 6, none⟩ = some a6 ∧ w.cell? ⟨g, 7, none⟩ = some a7 ∧ w.cell? ⟨g, 8, none⟩ = some a8 :=
  ⟨h.cell rfl, h.cell rfl, h.cell rfl, h.cell rfl, h.cell rfl, h.cell rfl, h.cell rfl, h.cell rfl, h.cell rfl⟩

/-- Nine cells are written anew. -/
def set9 (w : World) (g : Nat) (v0 v1 v2 v3 v4 v5 v6 v7 v8 : Value) : World :=
  ((((((((w.setCell ⟨g, 0, none⟩ v0).setCell ⟨g, 1, none⟩ v1).setCell ⟨g, 2, none⟩ v2).setCell ⟨g, 3, none⟩ v3).setCell ⟨g, 4, none⟩ v4).setCell ⟨g, 5, none⟩ v5).setCell ⟨g, 6, none⟩ v6).setCell ⟨g, 7, none⟩ v7).setCell ⟨g, 8, none⟩ v8

theorem Arr.set9 {w : World} {g : Nat} {t : TypeId} {a0 a1 a2 a3 a4 a5 a6 a7 a8 : Value} (h : Arr w g t [a0, a1, a2, a3, a4, a5, a6, a7, a8]) (v0 v1 v2 v3 v4 v5 v6 v7 v8 : Value) :
    Arr (Proofs.YtaoiejgbbmjpkaaGreatDoor.set9 w g v0 v1 v2 v3 v4 v5 v6 v7 v8) g t [v0, v1, v2, v3, v4, v5, v6, v7, v8] :=
  ((((((((h.set 0 v0).set 1 v1).set 2 v2).set 3 v3).set 4 v4).set 5 v5).set 6 v6).set 7 v7).set 8 v8

theorem below_set9 {B : Nat} {w w' : World} (h : Below B w w') {g : Nat} (hg : B ≤ g) (v0 v1 v2 v3 v4 v5 v6 v7 v8 : Value) : Below B w (set9 w' g v0 v1 v2 v3 v4 v5 v6 v7 v8) :=
  ((((((((h.setCell (p := ⟨g, 0, none⟩) hg v0).setCell (p := ⟨g, 1, none⟩) hg v1).setCell (p := ⟨g, 2, none⟩) hg v2).setCell (p := ⟨g, 3, none⟩) hg v3).setCell (p := ⟨g, 4, none⟩) hg v4).setCell (p := ⟨g, 5, none⟩) hg v5).setCell (p := ⟨g, 6, none⟩) hg v6).setCell (p := ⟨g, 7, none⟩) hg v7).setCell (p := ⟨g, 8, none⟩) hg v8

theorem OwnStrs.set9 {base : Nat} {w : World} {ao : Option Addr} {ss : List ByteArray} (h : OwnStrs base w ao ss) {g : Nat} (hg : g < base) (v0 v1 v2 v3 v4 v5 v6 v7 v8 : Value) : OwnStrs base (Proofs.YtaoiejgbbmjpkaaGreatDoor.set9 w g v0 v1 v2 v3 v4 v5 v6 v7 v8) ao ss :=
  ((((((((h.put (p := ⟨g, 0, none⟩) hg v0).put (p := ⟨g, 1, none⟩) hg v1).put (p := ⟨g, 2, none⟩) hg v2).put (p := ⟨g, 3, none⟩) hg v3).put (p := ⟨g, 4, none⟩) hg v4).put (p := ⟨g, 5, none⟩) hg v5).put (p := ⟨g, 6, none⟩) hg v6).put (p := ⟨g, 7, none⟩) hg v7).put (p := ⟨g, 8, none⟩) hg v8

/-- A transaction is handed back. -/
def GotTx (W : World) (d : TxD) (e : Ending) (w : World) : Prop :=
  ∃ ra rc wa wc, e = .returned (txV d ra rc wa wc) ∧ TxAt w d ra wa ∧ (ra = none → rc = 0) ∧ (wa = none → wc = 0) ∧ Below W.heap.size W w

def payD : TxD := ⟨1, ⟨#[97, 98]⟩, ⟨#[99]⟩, 5, 1, ⟨#[]⟩, ⟨#[]⟩, [], [⟨#[97, 58, 97, 98]⟩, ⟨#[97, 58, 99]⟩]⟩

set_option maxRecDepth 100000 in
set_option maxHeartbeats 1000000 in
theorem own_any (d : TxD) (ra : Option Addr) (rc : Nat) (wa : Option Addr) (wc : Nat) (w : World) (hA : TxAt w d ra wa) (hr : ra = none → rc = 0) (hw : wa = none → wc = 0) (lr : d.rs.length * 16 ≤ 140737488351232) (lw : d.ws.length * 16 ≤ 140737488351232) :
    Calls Tryz.prog 42 #[txV d ra rc wa wc] w fun e w' => GotTx w d e w' := by
  obtain ⟨hX, hZ, hB⟩ := two_new w 86 86 (txC d ra rc wa wc) zeroC
  have hown0 := own_made ((w.alloc (.cells (txC d ra rc wa wc).toArray 86)).alloc (.cells zeroC.toArray 86)) (w.heap.size + 1 + 1) (by rw [alloc_size, alloc_size])
  have hB0 := hB.alloc hB.size (.cells #[] 9)
  have hXa := hX.alloc (.cells #[] 9)
  have hZa := hZ.alloc (.cells #[] 9)
  have hR0 := hA.rd.below hB0
  have hW := hA.wr
  have hs0 : w.heap.size + 1 + 1 ≤ (((w.alloc (.cells (txC d ra rc wa wc).toArray 86)).alloc (.cells zeroC.toArray 86)).alloc (.cells #[] 9)).heap.size := by rw [alloc_size, alloc_size, alloc_size]; omega
  clear hX hZ hB hA
  obtain ⟨kind, frm, to, amt, non, key, val, rs, ws⟩ := d
  replace lr : rs.length * 16 ≤ 140737488351232 := lr
  replace lw : ws.length * 16 ≤ 140737488351232 := lw
  unfold txV
  go_enter Tryz.func42, Tryz.ntmps42
  go_wp2_with (at_builtin; refine wpList_append_strs rfl _ _ rfl (w.heap.size + 1 + 1) _ rfl hown0 ra rc rs rfl hR0 hr (by omega) hs0 ?_)
  intro a1 c1 w1 hS1 hn1 hb1
  have hX1 := hXa.below hb1 (by omega)
  have hZ1 := hZa.below hb1 (by omega)
  have hB1 := hB0.trans (hb1.mono (by omega))
  have hsz1 : w.heap.size + 1 + 1 ≤ w1.heap.size := Nat.le_trans hs0 hb1.size
  clear hb1 hXa hZa hB0 hown0 hs0 hR0
  have hX2 := hX1.set 7 (.slice a1 rs.length c1)
  have hZ2 := hZ1.other (p := ⟨w.heap.size, 7, none⟩) (by show w.heap.size + 1 ≠ w.heap.size; omega) (.slice a1 rs.length c1)
  have hB2 := hB1.setCell (p := ⟨w.heap.size, 7, none⟩) (Nat.le_refl _) (.slice a1 rs.length c1)
  have z7 := hX1.frozen 7
  have k7 := hX1.cell (i := 7) rfl
  have k8 := hX1.cell (i := 8) rfl
  have hs2 : (w1.setCell ⟨w.heap.size, 7, none⟩ (.slice a1 rs.length c1)).heap.size = w1.heap.size := setCell_size _ _ _
  have hown1 := own_made (w1.setCell ⟨w.heap.size, 7, none⟩ (.slice a1 rs.length c1)) w1.heap.size hs2
  have hS2 := hS1.put (p := ⟨w.heap.size, 7, none⟩) (by show w.heap.size < _; omega) (.slice a1 rs.length c1)
  have hB3 := hB2.alloc (by rw [hs2]; omega) (.cells #[] 9)
  have hX3 := hX2.alloc (.cells #[] 9)
  have hZ3 := hZ2.alloc (.cells #[] 9)
  have hW3 := hW.below hB3
  have hS3 := hS2.below (belowNew _ (.cells #[] 9))
  have k8 := hX3.cell (i := 8) rfl
  have hs3 : w1.heap.size ≤ ((w1.setCell ⟨w.heap.size, 7, none⟩ (.slice a1 rs.length c1)).alloc (.cells #[] 9)).heap.size := by rw [alloc_size, hs2]; omega
  go_wp2_with (at_builtin; refine wpList_append_strs rfl _ _ rfl w1.heap.size _ rfl hown1 wa wc ws rfl hW3 hw (by omega) hs3 ?_)
  intro a2 c2 w2 hT2 hn2 hb2
  have hX4 := hX3.below hb2 (by omega)
  have hZ4 := hZ3.below hb2 (by omega)
  have hB4 := hB3.trans (hb2.mono (by omega))
  have hS4 : OwnStrs (w.heap.size + 1 + 1) w2 a1 rs := by
    intro j hj
    obtain ⟨b, off, h1, h2, h3, h4⟩ := hS1 j hj
    obtain ⟨b', off', h1', h2', h3', h4'⟩ := hS3 j hj
    rw [h1] at h1'
    simp at h1'
    obtain ⟨rfl, rfl⟩ := h1'
    exact ⟨b, off, h1, h2, Nat.lt_of_lt_of_le h3' hb2.size, by rw [hb2.cell (p := ⟨b, off + j, none⟩) h3]; exact h4'⟩
  have hsz2 : w.heap.size + 1 + 1 ≤ w2.heap.size := Nat.le_trans (Nat.le_trans hsz1 hs3) hb2.size
  clear hb2 hX3 hZ3 hB3 hW3 hS3 k8 hs3 hS2 hown1 hs2 k7 z7 hX2 hZ2 hB2 hX1 hZ1 hB1 hS1 hW
  have z8 := hX4.frozen 8
  have k8 := hX4.cell (i := 8) rfl
  have hX5 := hX4.set 8 (.slice a2 ws.length c2)
  have hZ5 := hZ4.other (p := ⟨w.heap.size, 8, none⟩) (by show w.heap.size + 1 ≠ w.heap.size; omega) (.slice a2 ws.length c2)
  have hB5 := hB4.setCell (p := ⟨w.heap.size, 8, none⟩) (Nat.le_refl _) (.slice a2 ws.length c2)
  have hS5 := hS4.put (p := ⟨w.heap.size, 8, none⟩) (by show w.heap.size < _; omega) (.slice a2 ws.length c2)
  have hT5 := hT2.put (p := ⟨w.heap.size, 8, none⟩) (by show w.heap.size < _; omega) (.slice a2 ws.length c2)
  replace hX5 : Arr (w2.setCell ⟨w.heap.size, 8, none⟩ (.slice a2 ws.length c2)) w.heap.size 86 (txC ⟨kind, frm, to, amt, non, key, val, rs, ws⟩ a1 c1 a2 c2) := hX5
  clear hX4 hZ4 hB4 hS4 hT2
  obtain ⟨w3, hw3⟩ : ∃ w3, Hid (w3 = w2.setCell ⟨w.heap.size, 8, none⟩ (.slice a2 ws.length c2)) := ⟨_, rfl⟩
  rw [← hw3.out] at hX5 hZ5 hB5 hS5 hT5
  have hw3' : w2.setCell ⟨w.heap.size, 8, none⟩ (.slice a2 ws.length c2) = w3 := hw3.out.symm
  have x0 := hX5.cell (i := 0) rfl
  have x1 := hX5.cell (i := 1) rfl
  have x2 := hX5.cell (i := 2) rfl
  have x3 := hX5.cell (i := 3) rfl
  have x4 := hX5.cell (i := 4) rfl
  have x5 := hX5.cell (i := 5) rfl
  have x6 := hX5.cell (i := 6) rfl
  have x7 := hX5.cell (i := 7) rfl
  have x8 := hX5.cell (i := 8) rfl
  have f0 := hZ5.frozen 0
  have f1 := hZ5.frozen 1
  have f2 := hZ5.frozen 2
  have f3 := hZ5.frozen 3
  have f4 := hZ5.frozen 4
  have f5 := hZ5.frozen 5
  have f6 := hZ5.frozen 6
  have f7 := hZ5.frozen 7
  have f8 := hZ5.frozen 8
  have y0 := hZ5.cell (i := 0) rfl
  have y1 := hZ5.cell (i := 1) rfl
  have y2 := hZ5.cell (i := 2) rfl
  have y3 := hZ5.cell (i := 3) rfl
  have y4 := hZ5.cell (i := 4) rfl
  have y5 := hZ5.cell (i := 5) rfl
  have y6 := hZ5.cell (i := 6) rfl
  have y7 := hZ5.cell (i := 7) rfl
  have y8 := hZ5.cell (i := 8) rfl

  go_wp2
  have hF := hZ5.set9 (.int .i64 kind) (.string frm) (.string to) (.int .u64 (amt : Int)) (.int .u64 (non : Int)) (.string key) (.string val) (.slice a1 rs.length c1) (.slice a2 ws.length c2)
  have hBF := below_set9 hB5 (g := w.heap.size + 1) (by omega) (.int .i64 kind) (.string frm) (.string to) (.int .u64 (amt : Int)) (.int .u64 (non : Int)) (.string key) (.string val) (.slice a1 rs.length c1) (.slice a2 ws.length c2)
  have hSF := hS5.set9 (g := w.heap.size + 1) (by omega) (.int .i64 kind) (.string frm) (.string to) (.int .u64 (amt : Int)) (.int .u64 (non : Int)) (.string key) (.string val) (.slice a1 rs.length c1) (.slice a2 ws.length c2)
  have hTF := hT5.set9 (g := w.heap.size + 1) (by omega) (.int .i64 kind) (.string frm) (.string to) (.int .u64 (amt : Int)) (.int .u64 (non : Int)) (.string key) (.string val) (.slice a1 rs.length c1) (.slice a2 ws.length c2)
  unfold set9 at hF hBF hSF hTF
  refine bodyPost_ret (v := txV ⟨kind, frm, to, amt, non, key, val, rs, ws⟩ a1 c1 a2 c2) ?r1 ?r2 ?r3
  case r1 => exact results_tx rfl _ _ (w.heap.size + 1) 86 ⟨kind, frm, to, amt, non, key, val, rs, ws⟩ _ _ _ _ rfl hF
  case r2 => rfl
  refine ⟨a1, c1, a2, c2, rfl, ⟨?_, ?_⟩, hn1, hn2, ?_⟩
  · with_reducible exact hSF.at
  · with_reducible exact hTF.at
  · with_reducible exact hBF
end Go.Proofs.YtaoiejgbbmjpkaaGreatDoor

/- Rows of transactions in memory; how one that came in is opened. -/
namespace Go.Proofs.YtaoiejgbbmjpkaaGreatDoor
open Go.ChangeShapes Go.WideShapes Go.ChangeAt Go.RowKit Go.Joins Go.Deep
set_option linter.unusedVariables false

/-- A transaction as it lies in memory: its data, and where its lists lie. -/
structure TxM where
  d : TxD
  ra : Option Addr
  rc : Nat
  wa : Option Addr
  wc : Nat

def TxM.c (x : TxM) : List Value := txC x.d x.ra x.rc x.wa x.wc
def TxM.v (x : TxM) : Value := txV x.d x.ra x.rc x.wa x.wc

theorem TxM.c_length (x : TxM) : x.c.length = 9 := rfl

/-- Its lists lie in memory, and nil is nil. -/
structure TxM.At (x : TxM) (w : World) : Prop where
  at_ : TxAt w x.d x.ra x.wa
  nr : x.ra = none → x.rc = 0
  nw : x.wa = none → x.wc = 0

theorem TxM.At.below {x : TxM} {w w' : World} (h : x.At w) (hb : Below w.heap.size w w') : x.At w' := ⟨h.at_.below hb, h.nr, h.nw⟩

def flatX (l : List TxM) : List Value := l.flatMap TxM.c

theorem flatX_length (l : List TxM) : (flatX l).length = l.length * 9 := by
  induction l with
  | nil => rfl
  | cons x r ih => simp only [flatX, List.flatMap_cons, List.length_append, TxM.c_length, List.length_cons] at ih ⊢; omega

theorem flatX_append (l m : List TxM) : flatX (l ++ m) = flatX l ++ flatX m := by simp [flatX]

theorem flatX_get : ∀ (l : List TxM) (i : Nat) (x : TxM), l[i]? = some x → ∀ j, j < 9 → (flatX l)[i * 9 + j]? = x.c[j]?
  | [], _, _, h, _, _ => by simp at h
  | y :: r, 0, x, h, j, hj => by
    simp at h
    subst h
    have e : flatX (y :: r) = y.c ++ flatX r := by simp [flatX]
    rw [e, List.getElem?_append_left (by rw [TxM.c_length]; omega), Nat.zero_mul, Nat.zero_add]
  | y :: r, i + 1, x, h, j, hj => by
    have h' : r[i]? = some x := by simpa using h
    have ih := flatX_get r i x h' j hj
    have e : flatX (y :: r) = y.c ++ flatX r := by simp [flatX]
    rw [e, List.getElem?_append_right (by rw [TxM.c_length]; omega), TxM.c_length]
    have : (i + 1) * 9 + j - 9 = i * 9 + j := by omega
    rw [this]
    exact ih

theorem flatX_one (l : List TxM) : ∀ u ∈ flatX l, u.oneCell' = true := by
  intro u hu
  obtain ⟨x, _, hx⟩ := List.mem_flatMap.1 hu
  simp only [TxM.c, txC, List.mem_cons, List.not_mem_nil, or_false] at hx
  rcases hx with rfl | rfl | rfl | rfl | rfl | rfl | rfl | rfl | rfl <;> rfl

/-- A row of transactions lies at an address. -/
def TxsAt (w : World) (ao : Option Addr) (l : List TxM) : Prop :=
  ∀ i x, l[i]? = some x → (∃ b off, ao = some ⟨b, off, none⟩ ∧ b < w.heap.size ∧ ∀ j v, x.c[j]? = some v → w.cell? ⟨b, off + i * 9 + j, none⟩ = some v) ∧ x.At w

theorem TxsAt.below {w w' : World} {ao : Option Addr} {l : List TxM} (h : TxsAt w ao l) (hb : Below w.heap.size w w') : TxsAt w' ao l := by
  intro i x hx
  obtain ⟨⟨b, off, h1, h2, h3⟩, h4⟩ := h i x hx
  exact ⟨⟨b, off, h1, Nat.lt_of_lt_of_le h2 hb.size, fun j v hv => by rw [hb.cell (p := ⟨b, off + i * 9 + j, none⟩) h2]; exact h3 j v hv⟩, h4.below hb⟩

/-- The nine cells of one of them. -/
theorem TxsAt.cells {w : World} {ao : Option Addr} {l : List TxM} (h : TxsAt w ao l) {i : Nat} {x : TxM} (hx : l[i]? = some x) :
    ∃ b off, ao = some ⟨b, off, none⟩ ∧ b < w.heap.size ∧ w.cell? ⟨b, off + i * 9, none⟩ = some (.int .i64 x.d.kind) ∧ w.cell? ⟨b, off + i * 9 + 1, none⟩ = some (.string x.d.frm) ∧ w.cell? ⟨b, off + i * 9 + 2, none⟩ = some (.string x.d.to) ∧ w.cell? ⟨b, off + i * 9 + 3, none⟩ = some (.int .u64 (x.d.amt : Int)) ∧ w.cell? ⟨b, off + i * 9 + 4, none⟩ = some (.int .u64 (x.d.non : Int)) ∧
      w.cell? ⟨b, off + i * 9 + 5, none⟩ = some (.string x.d.key) ∧ w.cell? ⟨b, off + i * 9 + 6, none⟩ = some (.string x.d.val) ∧ w.cell? ⟨b, off + i * 9 + 7, none⟩ = some (.slice x.ra x.d.rs.length x.rc) ∧ w.cell? ⟨b, off + i * 9 + 8, none⟩ = some (.slice x.wa x.d.ws.length x.wc) := by
  obtain ⟨⟨b, off, h1, h2, h3⟩, _⟩ := h i x hx
  exact ⟨b, off, h1, h2, h3 0 _ rfl, h3 1 _ rfl, h3 2 _ rfl, h3 3 _ rfl, h3 4 _ rfl, h3 5 _ rfl, h3 6 _ rfl, h3 7 _ rfl, h3 8 _ rfl⟩

theorem nil_txs (w : World) (ao : Option Addr) : TxsAt w ao [] := fun i x hx => by simp at hx

set_option maxRecDepth 100000 in
/-- A transaction's nine cells, opened. -/
theorem open_tx_cells {H : Type} {enc : TypeId × Value → H} {W : World} {fuel : Nat} {cs : List Value} {y : DataW H × List MemPlace}
    (hf : DataW.trod enc Tryz.prog W 0 (fun _ => true) true fuel 86 cs = some y) :
    ∃ x : TxM, cs = x.c ∧ x.At W ∧ TxSizes x.d ∧ TxDatum y.1 x.d := by
  obtain ⟨xs, n, _, hx, hcl, hl, hg⟩ := DataW.trod_struct Tryz.underlying86 hf
  obtain ⟨c0, c1, c2, c3, c4, c5, c6, c7, c8, rfl⟩ := list9 (hcl.trans cellsTx)
  obtain ⟨y0, y1, y2, y3, y4, y5, y6, y7, y8, rfl⟩ := list9 hl
  have g0 := hg 0 _ rfl
  have g1 := hg 1 _ rfl
  have g2 := hg 2 _ rfl
  have g3 := hg 3 _ rfl
  have g4 := hg 4 _ rfl
  have g5 := hg 5 _ rfl
  have g6 := hg 6 _ rfl
  have g7 := hg 7 _ rfl
  have g8 := hg 8 _ rfl
  have kI : Tryz.prog.cellsOf 3 = 1 := by kernel_rfl
  have kU : Tryz.prog.cellsOf 84 = 1 := by kernel_rfl
  have kS : Tryz.prog.cellsOf 28 = 1 := by kernel_rfl
  simp [cellsString, kI, kU, kS] at g0 g1 g2 g3 g4 g5 g6 g7 g8
  obtain ⟨a0, e0, _, _⟩ := DataW.trod_int Tryz.underlying3 g0
  obtain ⟨a1, e1, _, s1⟩ := DataW.trod_string Tryz.underlying9 g1
  obtain ⟨a2, e2, _, s2⟩ := DataW.trod_string Tryz.underlying9 g2
  obtain ⟨a3, e3, _, u3⟩ := DataW.trod_int Tryz.underlying84 g3
  obtain ⟨a4, e4, _, u4⟩ := DataW.trod_int Tryz.underlying84 g4
  obtain ⟨a5, e5, _, s5⟩ := DataW.trod_string Tryz.underlying9 g5
  obtain ⟨a6, e6, _, s6⟩ := DataW.trod_string Tryz.underlying9 g6
  obtain ⟨ra, rl, rc, e7⟩ := slice_form Tryz.underlying28 g7
  obtain ⟨wa, wl, wc, e8⟩ := slice_form Tryz.underlying28 g8
  simp at e0 e1 e2 e3 e4 e5 e6 e7 e8
  subst e0 e1 e2 e3 e4 e5 e6 e7 e8
  have t7 : DataW.Trod enc Tryz.prog W 0 (fun _ => true) true 28 (.slice ra rl rc) y7.1 y7.2 := ⟨n, by simpa [Value.cells] using g7⟩
  have t8 : DataW.Trod enc Tryz.prog W 0 (fun _ => true) true 28 (.slice wa wl wc) y8.1 y8.2 := ⟨n, by simpa [Value.cells] using g8⟩
  obtain ⟨rs, rfl, r1, r2, r3⟩ := strs_open t7
  obtain ⟨ws, rfl, w1, w2, w3⟩ := strs_open t8
  obtain ⟨m3, rfl⟩ := Int.eq_ofNat_of_zero_le (wf_u64 u3).1
  obtain ⟨m4, rfl⟩ := Int.eq_ofNat_of_zero_le (wf_u64 u4).1
  refine ⟨⟨⟨a0, a1, a2, m3, m4, a5, a6, rs, ws⟩, ra, rc, wa, wc⟩, rfl, ⟨⟨r1, w1⟩, strs_cap t7, strs_cap t8⟩, ⟨s1, s2, s5, s6, r2, w2⟩, y0.1, y1.1, y2.1, y3.1, y4.1, y5.1, y6.1, y7.1, y8.1, ?_, r3, w3⟩
  have := congrArg Prod.fst hx
  simpa using this

theorem StrsAt.kept {S : Nat → Prop} {w w' : World} {ao : Option Addr} {ss : List ByteArray} (h : StrsAt w ao ss) (hk : Kept S w w') (hn : ∀ b off, ao = some ⟨b, off, none⟩ → 0 < ss.length → ¬ S b) : StrsAt w' ao ss := by
  intro j hj
  obtain ⟨b, off, h1, h2, h3⟩ := h j hj
  exact ⟨b, off, h1, Nat.lt_of_lt_of_le h2 hk.size, by rw [hk.cell (p := ⟨b, off + j, none⟩) h2 (hn b off h1 (by omega))]; exact h3⟩

/-- Its lists lie outside the blocks of S. -/
structure TxM.Off (x : TxM) (S : Nat → Prop) : Prop where
  r : ∀ b off, x.ra = some ⟨b, off, none⟩ → 0 < x.d.rs.length → ¬ S b
  w : ∀ b off, x.wa = some ⟨b, off, none⟩ → 0 < x.d.ws.length → ¬ S b

theorem TxM.At.kept {x : TxM} {S : Nat → Prop} {w w' : World} (h : x.At w) (hk : Kept S w w') (ho : x.Off S) : x.At w' :=
  ⟨⟨h.at_.rd.kept hk ho.r, h.at_.wr.kept hk ho.w⟩, h.nr, h.nw⟩

/-- What is new is apart from what was there. -/
theorem TxM.At.off_new {x : TxM} {w : World} (h : x.At w) {g : Nat} (hg : w.heap.size ≤ g) : x.Off (fun k => k = g) := by
  refine ⟨fun b off e hl => ?_, fun b off e hl => ?_⟩
  · obtain ⟨b', off', e', h2, _⟩ := h.at_.rd 0 hl
    rw [e] at e'
    simp at e'
    omega
  · obtain ⟨b', off', e', h2, _⟩ := h.at_.wr 0 hl
    rw [e] at e'
    simp at e'
    omega

theorem TxM.Off.or {x : TxM} {S T : Nat → Prop} (h1 : x.Off S) (h2 : x.Off T) : x.Off (fun k => S k ∨ T k) :=
  ⟨fun b off e hl hs => hs.elim (h1.r b off e hl) (h2.r b off e hl), fun b off e hl hs => hs.elim (h1.w b off e hl) (h2.w b off e hl)⟩

theorem TxM.Off.mono {x : TxM} {S T : Nat → Prop} (h : x.Off T) (hs : ∀ k, S k → T k) : x.Off S :=
  ⟨fun b off e hl hk => h.r b off e hl (hs b hk), fun b off e hl hk => h.w b off e hl (hs b hk)⟩

/-- A row of the call's own that holds transactions. -/
theorem QRow.txs {w : World} {base : Nat} {ao : Option Addr} {n cap : Nat} {l : List TxM} (h : QRow w base 86 9 (.slice ao n cap) n (flatX l)) (hn : n = l.length) (hA : ∀ x ∈ l, x.At w) : TxsAt w ao l := by
  intro i x hx
  have hi := (List.getElem?_eq_some_iff.1 hx).1
  refine ⟨?_, hA x (List.mem_of_getElem? hx)⟩
  obtain ⟨g, off, cap', hv, hb, hlt, hc⟩ := h.cells (by omega)
  simp only [Value.slice.injEq, true_and] at hv
  refine ⟨g, off, hv.1, hlt, fun j v hj => ?_⟩
  have hj9 : j < 9 := by
    have := (List.getElem?_eq_some_iff.1 hj).1
    rw [TxM.c_length] at this
    exact this
  have := hc (i * 9 + j) v (by rw [flatX_get l i x hx j hj9]; exact hj)
  rw [← Nat.add_assoc] at this
  exact this
end Go.Proofs.YtaoiejgbbmjpkaaGreatDoor
