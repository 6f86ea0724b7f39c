/- Texts as one: TxArr, TxRight, Bld, TxEncode, StaDig, StaPayMath, Frame, TxFrame, ExePay, Queue, QueueStep, RefSame. -/
import Derived.Test.YtajpfkenhchafaaDoorEd03
import Derived.Below
import Derived.Laws.Rows
import Derived.Laws.Tables
import Derived.WalkSmall
import Derived.Test.YtajpfkenhchafaaDoorEd02
import Derived.ProofKit
import Derived.OpenShut
import Derived.ShutString
import Derived.ChangeOld
import Derived.SizedLaws
import Derived.SliceStrings
import Derived.Lib.SmallJoins
import Derived.ArgAppend
import Derived.Deep.AppendLies
import Derived.Deep.RegionLaw
import Derived.Deep.QuietTactic
import Derived.BigQuiet
/- A block that holds a known row of cells, none of them frozen; what becomes of it by a store, by new blocks, by a draw. -/
namespace Go.Proofs.YtajpfkenhchafaaDoor
open Go.RowKit

/-- Block g is a row of the cells cs. -/
def Arr (w : World) (g : Nat) (t : TypeId) (cs : List Value) : Prop := w.heap[g]? = some (.cells cs.toArray t (0, 0))

theorem Arr.lt {w : World} {g : Nat} {t : TypeId} {cs : List Value} (h : Arr w g t cs) : g < w.heap.size := by
  unfold Arr at h
  by_cases hl : g < w.heap.size
  · exact hl
  · simp [Nat.not_lt.1 hl] at h

theorem Arr.cell {w : World} {g : Nat} {t : TypeId} {cs : List Value} (h : Arr w g t cs) {i : Nat} {v : Value} (hv : cs[i]? = some v) : w.cell? ⟨g, i, none⟩ = some v := by
  unfold Arr at h
  simp [World.cell?, h, hv]

theorem Arr.frozen {w : World} {g : Nat} {t : TypeId} {cs : List Value} (h : Arr w g t cs) (i : Nat) : w.frozen? ⟨g, i, none⟩ = false := by
  unfold Arr at h
  simp [World.frozen?, h]

theorem Arr.drew {w : World} {g : Nat} {t : TypeId} {cs : List Value} (h : Arr w g t cs) : Arr w.drew g t cs := h
theorem Arr.drewN {w : World} {g : Nat} {t : TypeId} {cs : List Value} (h : Arr w g t cs) (n : Nat) : Arr (w.drewN n) g t cs := h

theorem Arr.alloc {w : World} {g : Nat} {t : TypeId} {cs : List Value} (h : Arr w g t cs) (o : Obj) : Arr (w.alloc o) g t cs := by
  have := h.lt
  unfold Arr at h ⊢
  rw [Below.heap_alloc w o g this, h]

theorem Arr.new (w : World) (t : TypeId) (cs : List Value) : Arr (w.alloc (.cells cs.toArray t)) w.heap.size t cs := heap_alloc_new w _

theorem Arr.other {w : World} {g : Nat} {t : TypeId} {cs : List Value} (h : Arr w g t cs) {p : Addr} (hp : g ≠ p.block) (u : Value) : Arr (w.setCell p u) g t cs := by
  unfold Arr at h ⊢
  rw [Below.heap_setCell w p u g hp, h]

theorem Arr.set {w : World} {g : Nat} {t : TypeId} {cs : List Value} (h : Arr w g t cs) (i : Nat) (u : Value) : Arr (w.setCell ⟨g, i, none⟩ u) g t (cs.set i u) := by
  unfold Arr at h ⊢
  show (w.heap.modify g _)[g]? = _
  rw [Array.getElem?_modify, if_pos rfl, h]
  simp

theorem Arr.row {w : World} {g : Nat} {t : TypeId} {cs : List Value} (h : Arr w g t cs) (c' : List Value) : Arr (w.setRow g c'.toArray) g t c' := by
  unfold Arr at h ⊢
  show (w.heap.modify g _)[g]? = _
  rw [Array.getElem?_modify, if_pos rfl, h]
  simp

theorem Arr.rowOther {w : World} {g g' : Nat} {t : TypeId} {cs : List Value} (h : Arr w g t cs) (hg : g ≠ g') (c' : Array Value) : Arr (w.setRow g' c') g t cs := by
  unfold Arr at h ⊢
  show (w.heap.modify g' _)[g]? = _
  rw [Array.getElem?_modify, if_neg (fun e => hg e.symm), h]

theorem below_setRow {B : Nat} {a w : World} (h : Below B a w) {g : Nat} (hg : B ≤ g) (c' : Array Value) : Below B a (w.setRow g c') := by
  refine h.trans ⟨rfl, rfl, rfl, by show _ ≤ (w.heap.modify g _).size; simp, fun k hk => ?_⟩
  show (w.heap.modify g _)[k]? = _
  rw [Array.getElem?_modify, if_neg (by omega)]

theorem Arr.below {w w' : World} {g B : Nat} {t : TypeId} {cs : List Value} (h : Arr w g t cs) (hb : Below B w w') (hg : g < B) : Arr w' g t cs := by
  unfold Arr at h ⊢
  rw [hb.block g hg, h]

theorem alloc_size (w : World) (o : Obj) : (w.alloc o).heap.size = w.heap.size + 1 := by
  show (w.heap.push o).size = _
  simp

theorem two_new (w : World) (t1 t2 : TypeId) (l1 l2 : List Value) :
    Arr ((w.alloc (.cells l1.toArray t1)).alloc (.cells l2.toArray t2)) w.heap.size t1 l1 ∧ Arr ((w.alloc (.cells l1.toArray t1)).alloc (.cells l2.toArray t2)) (w.heap.size + 1) t2 l2
      ∧ Below w.heap.size w ((w.alloc (.cells l1.toArray t1)).alloc (.cells l2.toArray t2)) := by
  refine ⟨(Arr.new _ _ _).alloc _, ?_, ((Below.refl _ w).alloc (Nat.le_refl _) _).alloc (by rw [alloc_size]; omega) _⟩
  have := Arr.new (w.alloc (.cells l1.toArray t1)) t2 l2
  rwa [alloc_size] at this

theorem four_new (w : World) (t1 t2 t3 t4 : TypeId) (l1 l2 l3 l4 : List Value) (W : World) (hW : W = (((w.alloc (.cells l1.toArray t1)).alloc (.cells l2.toArray t2)).alloc (.cells l3.toArray t3)).alloc (.cells l4.toArray t4)) :
    Arr W w.heap.size t1 l1 ∧ Arr W (w.heap.size + 1) t2 l2 ∧ Arr W (w.heap.size + 1 + 1) t3 l3 ∧ Arr W (w.heap.size + 1 + 1 + 1) t4 l4 ∧ Below w.heap.size w W := by
  subst hW
  obtain ⟨h1, h2, hb⟩ := two_new w t1 t2 l1 l2
  have e2 : ((w.alloc (.cells l1.toArray t1)).alloc (.cells l2.toArray t2)).heap.size = w.heap.size + 1 + 1 := by rw [alloc_size, alloc_size]
  obtain ⟨h3, h4, hb'⟩ := two_new ((w.alloc (.cells l1.toArray t1)).alloc (.cells l2.toArray t2)) t3 t4 l3 l4
  rw [e2] at h3 h4 hb'
  exact ⟨(h1.alloc _).alloc _, (h2.alloc _).alloc _, h3, h4, hb.trans (hb'.mono (by omega))⟩

theorem belowNew (w : World) (c : Obj) : Below w.heap.size w (w.alloc c) := (Below.refl w.heap.size w).alloc (Nat.le_refl _) c

theorem setCell_size (w : World) (p : Addr) (v : Value) : (w.setCell p v).heap.size = w.heap.size := by
  show (w.heap.modify p.block _).size = _
  simp
end Go.Proofs.YtajpfkenhchafaaDoor

/- What Check does; nothing old in memory is turned. -/
namespace Go.Proofs.YtajpfkenhchafaaDoor
open Go.RowKit
set_option linter.unusedVariables false

/-- A transaction's nine cells. -/
def txC (d : TxD) (ra : Option Addr) (rc : Nat) (wa : Option Addr) (wc : Nat) : List Value :=
  [.int .i64 d.kind, .string d.frm, .string d.to, .int .u64 (d.amt : Int), .int .u64 (d.non : Int), .string d.key, .string d.val, .slice ra d.rs.length rc, .slice wa d.ws.length wc]

/-- A transaction lies in a block. -/
def TxBox (w : World) (b : Nat) (d : TxD) (ra : Option Addr) (rc : Nat) (wa : Option Addr) (wc : Nat) : Prop := Arr w b 50 (txC d ra rc wa wc)

theorem TxBox.new (w : World) (d : TxD) (ra : Option Addr) (rc : Nat) (wa : Option Addr) (wc : Nat) : TxBox (w.alloc (.cells (txC d ra rc wa wc).toArray 50)) w.heap.size d ra rc wa wc := Arr.new w 50 _

set_option maxRecDepth 100000 in
set_option maxHeartbeats 1000000 in
theorem check_any (d : TxD) (ra : Option Addr) (rc : Nat) (wa : Option Addr) (wc : Nat) (w : World) (hA : TxAt w d ra wa) :
    Calls Tryd.prog 58 #[txV d ra rc wa wc] w fun e w' => e = .returned (.int .i64 (checkL d : Int)) ∧ Below w.heap.size w w' := by
  have hX := TxBox.new w d ra rc wa wc
  have hB := belowNew w (.cells (txC d ra rc wa wc).toArray 50)
  have hA0 := hA.below hB
  have cf := fieldsRight_any d ra rc wa wc (w.alloc (.cells (txC d ra rc wa wc).toArray 50))
  obtain ⟨kind, frm, to, amt, non, key, val, rs, ws⟩ := d
  have HC : Hid (checkL ⟨kind, frm, to, amt, non, key, val, rs, ws⟩ = _) := (rfl : checkL _ = if kind ≠ 1 ∧ kind ≠ 2 then 5 else if fieldsR ⟨kind, frm, to, amt, non, key, val, rs, ws⟩ = false then 3 else if 4611686018427387903 < amt ∨ 4611686018427387903 < non then 2 else if keysL rs ≠ 0 then keysL rs else keysL ws)
  unfold txV at cf ⊢
  by_cases hk : kind ≠ 1 ∧ kind ≠ 2
  · have hk1 : (kind != 1) = true := by simpa using hk.1
    have hk2 : (kind != 2) = true := by simpa using hk.2
    have H : Hid (checkL ⟨kind, frm, to, amt, non, key, val, rs, ws⟩ = 5) := by show _ = _; rw [HC.out, if_pos hk]
    clear HC hA hA0 cf hX
    go_enter Tryd.func58, Tryd.ntmps58
    go_wp2
    go_ret
    exact ⟨by rw [H.out]; rfl, hB⟩
  have hkk : kind = 1 ∨ kind = 2 := by omega
  replace HC : Hid (checkL ⟨kind, frm, to, amt, non, key, val, rs, ws⟩ = _) := (HC.out.trans (if_neg hk) : _ = _)
  have key1 : ∀ kind', kind' = kind → (kind' = 1 ∨ kind' = 2) := by rintro _ rfl; exact hkk
  clear hk
  cases hf : fieldsR ⟨kind, frm, to, amt, non, key, val, rs, ws⟩ with
  | false =>
    have H : Hid (checkL ⟨kind, frm, to, amt, non, key, val, rs, ws⟩ = 3) := by show _ = _; rw [HC.out, if_pos hf]
    rw [hf] at cf
    clear HC hA hA0 hX hf
    rcases hkk with rfl | rfl
    all_goals
      go_enter Tryd.func58, Tryd.ntmps58
      go_wp2_with fail
      refine cf.mono ?_
      rintro e w1 ⟨rfl, hb1⟩
      have hB1 := hB.trans (hb1.mono hB.size)
      clear hb1 cf
      go_wp2
      go_ret
      exact ⟨by rw [H.out]; rfl, hB1⟩
  | true =>
    replace HC : Hid (checkL ⟨kind, frm, to, amt, non, key, val, rs, ws⟩ = _) := (HC.out.trans (if_neg (by rw [hf]; simp)) : _ = _)
    rw [hf] at cf
    clear hf
    by_cases hr : 4611686018427387903 < amt ∨ 4611686018427387903 < non
    · have H : Hid (checkL ⟨kind, frm, to, amt, non, key, val, rs, ws⟩ = 2) := by show _ = _; rw [HC.out, if_pos hr]
      have hr' : ((4611686018427387903 : Int) < amt) ∨ ((amt : Int) ≤ 4611686018427387903 ∧ (4611686018427387903 : Int) < non) := by omega
      clear HC hr
      rcases hkk with rfl | rfl
      all_goals
        rcases hr' with h1 | ⟨h1, h2⟩
        all_goals
          go_enter Tryd.func58, Tryd.ntmps58
          go_wp2_with fail
          refine cf.mono ?_
          rintro e w1 ⟨rfl, hb1⟩
          have hX1 := hX.below hb1 hX.lt
          have hB1 := hB.trans (hb1.mono hB.size)
          have c3 := hX1.cell (i := 3) rfl
          have c4 := hX1.cell (i := 4) rfl
          clear hb1 cf hX1
          go_wp2
          go_ret
          exact ⟨by rw [H.out]; rfl, hB1⟩
    · replace HC : Hid (checkL ⟨kind, frm, to, amt, non, key, val, rs, ws⟩ = _) := (HC.out.trans (if_neg hr) : _ = _)
      have h1 : (amt : Int) ≤ 4611686018427387903 := by omega
      have h2 : (non : Int) ≤ 4611686018427387903 := by omega
      clear hr
      have ck1 : ∀ w1, StrsAt w1 ra rs → Calls Tryd.prog 72 #[.slice ra rs.length rc] w1 fun e w' => e = .returned (.int .i64 (keysL rs : Int)) ∧ w' = w1 := fun w1 h => checkKeys_any ra rc rs w1 h
      have ck2 : ∀ w1, StrsAt w1 wa ws → Calls Tryd.prog 72 #[.slice wa ws.length wc] w1 fun e w' => e = .returned (.int .i64 (keysL ws : Int)) ∧ w' = w1 := fun w1 h => checkKeys_any wa wc ws w1 h
      by_cases hz : keysL rs = 0
      · have H : Hid (checkL ⟨kind, frm, to, amt, non, key, val, rs, ws⟩ = keysL ws) := by show _ = _; rw [HC.out, if_neg (by rw [hz]; simp)]
        rw [hz] at ck1
        clear HC hz
        generalize keysL ws = n2 at ck2 H
        rcases hkk with rfl | rfl
        all_goals
          go_enter Tryd.func58, Tryd.ntmps58
          go_wp2_with fail
          refine cf.mono ?_
          rintro e w1 ⟨rfl, hb1⟩
          have hX1 := hX.below hb1 hX.lt
          have hB1 := hB.trans (hb1.mono hB.size)
          have hA1 := hA0.below hb1
          have hA2 : StrsAt w1 wa ws := hA1.wr
          replace hA1 : StrsAt w1 ra rs := hA1.rd
          have c3 := hX1.cell (i := 3) rfl
          have c4 := hX1.cell (i := 4) rfl
          have c7 := hX1.cell (i := 7) rfl
          have c8 := hX1.cell (i := 8) rfl
          clear hb1 cf hX1 hX hA0 hA
          go_wp2_with fail
          refine (ck1 _ hA1).mono ?_
          rintro e w2 ⟨rfl, rfl⟩
          go_wp2_with fail
          refine (ck2 _ hA2).mono ?_
          rintro e w3 ⟨rfl, rfl⟩
          go_wp2
          go_ret
          exact ⟨by rw [H.out]; rfl, hB1⟩
      · have H : Hid (checkL ⟨kind, frm, to, amt, non, key, val, rs, ws⟩ = keysL rs) := by show _ = _; rw [HC.out, if_pos hz]
        have hz' : ((keysL rs : Int) != 0) = true := by rw [bne_iff_ne]; omega
        clear HC hz
        generalize keysL rs = n2 at ck1 H hz'
        rcases hkk with rfl | rfl
        all_goals
          go_enter Tryd.func58, Tryd.ntmps58
          go_wp2_with fail
          refine cf.mono ?_
          rintro e w1 ⟨rfl, hb1⟩
          have hX1 := hX.below hb1 hX.lt
          have hB1 := hB.trans (hb1.mono hB.size)
          have hA1 := hA0.below hb1
          replace hA1 : StrsAt w1 ra rs := hA1.rd
          have c3 := hX1.cell (i := 3) rfl
          have c4 := hX1.cell (i := 4) rfl
          have c7 := hX1.cell (i := 7) rfl
          clear hb1 cf hX1 hX hA0 hA
          go_wp2_with fail
          refine (ck1 _ hA1).mono ?_
          rintro e w2 ⟨rfl, rfl⟩
          go_wp2
          go_ret
          exact ⟨by rw [H.out]; rfl, hB1⟩
end Go.Proofs.YtajpfkenhchafaaDoor

/- A strings.Builder of the call's own at work. -/
namespace Go.Proofs.YtajpfkenhchafaaDoor
open Go.RowKit
set_option linter.unusedVariables false

/-- Block bb is a Builder of the call's own that holds l, block xb ahead of it still a row of the cells cs. -/
structure BldSt (W : World) (xb bb : Nat) (T : TypeId) (cs : List Value) (w : World) (l : List UInt8) : Prop where
  box : Arr w xb T cs
  ord : xb < bb
  bld : Lib.IsBuilder 64 5 bb bb (Lib.byteCells l) w
  bel : Below W.heap.size W w
  low : W.heap.size ≤ bb
  has : bb ≤ w.heap.size

theorem BldSt.new {W w : World} {xb : Nat} {T : TypeId} {cs : List Value} (hx : Arr w xb T cs) (hb : Below W.heap.size W w) :
    BldSt W xb w.heap.size T cs (w.alloc (.cells #[.pointer none, .slice none 0 0] 64)) [] :=
  ⟨hx.alloc _, hx.lt, Lib.fresh_isBuilder 64 5 w, hb.alloc hb.size _, hb.size, by rw [alloc_size]; omega⟩

theorem BldSt.call {W w w1 : World} {xb bb : Nat} {T : TypeId} {cs : List Value} {l : List UInt8} (h : BldSt W xb bb T cs w l) (hb : Below w.heap.size w w1) : BldSt W xb bb T cs w1 l :=
  ⟨h.box.below hb h.box.lt, h.ord, builder_keep h.bld hb, h.bel.trans (hb.mono h.bel.size), h.low, Nat.le_trans h.has hb.size⟩

theorem BldSt.write {W w : World} {xb bb : Nat} {T : TypeId} {cs : List Value} {l : List UInt8} (h : BldSt W xb bb T cs w l) (m : List UInt8) (hm : l.length + m.length ≤ 140737488355328) :
    Calls Tryd.prog 32 #[.pointer (some ⟨bb, 0, none⟩), .string ⟨m.toArray⟩] w fun e w' => e = .returned (.tuple #[.int .i64 m.length, .nilIface]) ∧ BldSt W xb bb T cs w' (l ++ m) := by
  refine (write_any bb bb _ ⟨m.toArray⟩ w h.bld (by rw [Lib.byteCells_length, size_mk]; exact hm) h.has).mono ?_
  rintro e w' ⟨rfl, h2, hb⟩
  refine ⟨by rw [size_mk], h.box.below hb h.ord, h.ord, Or.inr ?_, h.bel.trans (hb.mono h.low), h.low, Nat.le_trans h.has hb.size⟩
  rw [Lib.byteCells_append]
  rw [Lib.strCells_eq] at h2
  exact h2

theorem BldSt.read {W w : World} {xb bb : Nat} {T : TypeId} {cs : List Value} {l : List UInt8} (h : BldSt W xb bb T cs w l) (h0 : l ≠ []) :
    Calls Tryd.prog 37 #[.pointer (some ⟨bb, 0, none⟩)] w fun e w' => e = .returned (.string ⟨l.toArray⟩) ∧ Below W.heap.size W w' := by
  refine (string_any bb bb l w h.bld h0).mono ?_
  rintro e w' ⟨rfl, hb⟩
  exact ⟨rfl, h.bel.trans (hb.mono h.low)⟩

end Go.Proofs.YtajpfkenhchafaaDoor

/- What Encode does; nothing old in memory is turned. -/
namespace Go.Proofs.YtajpfkenhchafaaDoor
open Go.RowKit
set_option linter.unusedVariables false

theorem isNm_size {s : ByteArray} (h : isNm s = true) : s.size ≤ 32 := by
  unfold isNm at h
  simp only [Bool.and_eq_true, decide_eq_true_eq] at h
  exact h.1.2

theorem isKy_size {s : ByteArray} (h : isKy s = true) : s.size ≤ 34 := by
  unfold isKy at h
  rw [Bool.and_eq_true] at h
  have := isNm_size h.2
  rw [ByteArray.size_extract] at this
  omega

theorem empty_size {s : ByteArray} (h : (s.toList == []) = true) : s.size = 0 := by
  rw [beq_iff_eq, ByteArray.toList_eq] at h
  have : s.data.toList.length = s.size := by simp
  rw [h] at this
  exact this.symm

theorem check_zero {d : TxD} (h : checkL d = 0) : (d.kind = 1 ∨ d.kind = 2) ∧ fieldsR d = true ∧ d.amt ≤ 4611686018427387903 ∧ d.non ≤ 4611686018427387903 ∧ keysL d.rs = 0 ∧ keysL d.ws = 0 := by
  unfold checkL at h
  by_cases h1 : d.kind ≠ 1 ∧ d.kind ≠ 2
  · rw [if_pos h1] at h; omega
  rw [if_neg h1] at h
  by_cases h2 : fieldsR d = false
  · rw [if_pos h2] at h; omega
  rw [if_neg h2] at h
  by_cases h3 : 4611686018427387903 < d.amt ∨ 4611686018427387903 < d.non
  · rw [if_pos h3] at h; omega
  rw [if_neg h3] at h
  by_cases h4 : keysL d.rs ≠ 0
  · rw [if_pos h4] at h; omega
  rw [if_neg h4] at h
  exact ⟨by omega, by simpa using h2, by omega, by omega, by omega, h⟩

theorem fields_sizes {d : TxD} (h : fieldsR d = true) : d.frm.size ≤ 32 ∧ d.to.size ≤ 32 ∧ d.key.size ≤ 32 ∧ d.val.size ≤ 64 := by
  unfold fieldsR at h
  rw [Bool.and_eq_true] at h
  have h1 := isNm_size h.1
  have h2 := h.2
  by_cases hk : d.kind = 1
  · rw [if_pos hk] at h2
    simp only [Bool.and_eq_true] at h2
    have a := isNm_size h2.1.1
    have b := empty_size h2.1.2
    have c := empty_size h2.2
    omega
  · rw [if_neg hk] at h2
    simp only [Bool.and_eq_true, decide_eq_true_eq] at h2
    have a := isNm_size h2.1.1.1
    have b := empty_size h2.1.2
    have c := h2.1.1.2
    omega

theorem keysGo_all : ∀ (l : List ByteArray) (a : ByteArray), keysGo a l = 0 → ∀ k ∈ l, isKy k = true
  | [], _, _ => by simp
  | k :: r, a, h => by
    rw [keysGo] at h
    by_cases h1 : isKy k = false
    · rw [if_pos h1] at h; omega
    rw [if_neg h1] at h
    by_cases h2 : (Op.bytesLess k.toList a.toList || k.toList == a.toList) = true
    · rw [if_pos h2] at h; omega
    rw [if_neg h2] at h
    intro x hx
    rw [List.mem_cons] at hx
    rcases hx with rfl | hx
    · simpa using h1
    · exact keysGo_all r k h x hx

theorem keys_sizes {l : List ByteArray} (h : keysL l = 0) : l.length ≤ 8 ∧ ∀ k ∈ l, isKy k = true := by
  have h8 := keysL_le l h
  unfold keysL at h
  rw [if_neg (by omega)] at h
  exact ⟨h8, keysGo_all l _ h⟩

theorem txt_le (l : List UInt8) : (txt l).length ≤ 9 + l.length := by
  have := goInt_length l.length
  rw [txt, List.length_append]
  omega

theorem flat_le : ∀ (l : List ByteArray), (∀ k ∈ l, k.size ≤ 34) → ((bl l).flatMap txt).length ≤ 43 * l.length
  | [], _ => by simp [bl]
  | k :: r, h => by
    have h1 := flat_le r (fun x hx => h x (by simp [hx]))
    have h2 := txt_le k.data.toList
    have h3 := h k (by simp)
    have h4 : k.data.toList.length = k.size := by simp
    simp only [bl, List.map_cons, List.flatMap_cons, List.length_append, List.length_cons]
    simp only [bl] at h1
    omega

theorem lst_le {l : List ByteArray} (h : keysL l = 0) : (lst (bl l)).length ≤ 353 := by
  obtain ⟨h8, hk⟩ := keys_sizes h
  have h1 := flat_le l (fun k hk' => isKy_size (hk k hk'))
  have h2 := goInt_length (bl l).length
  rw [lst, List.length_append]
  omega
end Go.Proofs.YtajpfkenhchafaaDoor

/- What a state's digest is made of: whichever names are gone through. -/
namespace Go.Proofs.YtajpfkenhchafaaDoor
open Go
set_option linter.unusedVariables false

def accT (f : ByteArray → Nat × Nat) (n : ByteArray) : List UInt8 := txt (aP ++ n).data.toList ++ goInt ((f n).1 : Nat) ++ goInt ((f n).2 : Nat)
def valT (g : ByteArray → Option ByteArray) (n : ByteArray) : List UInt8 := txt (kP ++ n).data.toList ++ txt ((g n).getD ⟨#[]⟩).data.toList

def RiseN (l : List ByteArray) : Prop := l.Pairwise (fun a b => a.toList < b.toList)

/-- The bytes that are digested. -/
def IsDig (s : StF) (t : List UInt8) : Prop :=
  ∃ L M, RiseN L ∧ RiseN M ∧ (∀ n, n ∈ L ↔ s.acc n ≠ (0, 0)) ∧ (∀ n, n ∈ M ↔ s.val n ≠ none) ∧ t = L.flatMap (accT s.acc) ++ M.flatMap (valT s.val)

theorem IsDig.uniq {s : StF} {t u : List UInt8} (h : IsDig s t) (h' : IsDig s u) : t = u := by
  obtain ⟨L, M, a1, a2, a3, a4, rfl⟩ := h
  obtain ⟨L', M', b1, b2, b3, b4, rfl⟩ := h'
  rw [rise_ext a1 b1 (fun p => (a3 p).trans (b3 p).symm), rise_ext a2 b2 (fun p => (a4 p).trans (b4 p).symm)]

/-- A state that is right: its names are names, its amounts within their bound, its numbers at most N; at most a accounts and v values. -/
structure StOk (s : StF) (N : Nat) : Prop where
  nm : ∀ n, s.acc n ≠ (0, 0) → isNm n = true
  amt : ∀ n, (s.acc n).1 ≤ 4611686018427387903
  num : ∀ n, (s.acc n).2 ≤ N
  vnm : ∀ n x, s.val n = some x → isNm n = true ∧ x.size ≤ 64

theorem StOk.mono {s : StF} {N M : Nat} (h : StOk s N) (hm : N ≤ M) : StOk s M := ⟨h.nm, h.amt, fun n => Nat.le_trans (h.num n) hm, h.vnm⟩

theorem apP_size (n : ByteArray) : (aP ++ n).size = n.size + 2 := by
  rw [ByteArray.size_append, Nat.add_comm]; rfl

theorem kpP_size (n : ByteArray) : (kP ++ n).size = n.size + 2 := by
  rw [ByteArray.size_append, Nat.add_comm]; rfl

theorem dlen (b : ByteArray) : b.data.toList.length = b.size := by simp

theorem accT_len {s : StF} {N : Nat} (h : StOk s N) {n : ByteArray} (hn : s.acc n ≠ (0, 0)) : (accT s.acc n).length ≤ 100 := by
  have h1 := isNm_size (h.nm n hn)
  have h2 := txt_le (aP ++ n).data.toList
  have h3 := goInt_length (((s.acc n).1 : Nat) : Int)
  have h4 := goInt_length (((s.acc n).2 : Nat) : Int)
  have h5 := apP_size n
  have h6 := dlen (aP ++ n)
  unfold accT
  rw [List.length_append, List.length_append]
  omega

theorem valT_len {s : StF} {N : Nat} (h : StOk s N) {n : ByteArray} (hn : s.val n ≠ none) : (valT s.val n).length ≤ 200 := by
  obtain ⟨x, hx⟩ := Option.ne_none_iff_exists'.1 hn
  obtain ⟨v1, v2⟩ := h.vnm n x hx
  have h1 := isNm_size v1
  have h2 := txt_le (kP ++ n).data.toList
  have h5 := kpP_size n
  have h6 := dlen (kP ++ n)
  have h7 := txt_le x.data.toList
  have h8 := dlen x
  unfold valT
  rw [hx, List.length_append]
  show (txt (kP ++ n).data.toList).length + (txt x.data.toList).length ≤ 200
  omega

theorem flat_len {α : Type} (f : α → List UInt8) (k : Nat) : ∀ (l : List α), (∀ x ∈ l, (f x).length ≤ k) → (l.flatMap f).length ≤ l.length * k
  | [], _ => by simp
  | x :: r, h => by
    have h1 := flat_len f k r (fun y hy => h y (List.mem_cons_of_mem _ hy))
    have h2 := h x List.mem_cons_self
    rw [List.flatMap_cons, List.length_append, List.length_cons, Nat.add_mul]
    omega

/-- It stays right. -/
theorem fits_names {d : TxD} (h : fitsL d = true) : isNm d.frm = true ∧ (d.kind = 1 → isNm d.to = true) ∧ (d.kind ≠ 1 → isNm d.key = true ∧ d.val.size ≤ 64) ∧ d.amt ≤ 4611686018427387903 ∧ d.non ≤ 4611686018427387903 ∧ (d.kind ≠ 1 → d.kind = 2 ∧ d.amt = 0) := by
  have hc : checkL d = 0 := by
    unfold fitsL needsL at h
    by_cases hc : checkL d = 0
    · exact hc
    · rw [if_neg hc] at h; cases h
  obtain ⟨z1, z2, z3, z4, _⟩ := check_zero hc
  unfold fieldsR at z2
  rw [Bool.and_eq_true] at z2
  refine ⟨z2.1, fun hk => ?_, fun hk => ?_, z3, z4, fun hk => ⟨z1.resolve_left hk, ?_⟩⟩
  · have := z2.2
    rw [if_pos hk] at this
    simp only [Bool.and_eq_true] at this
    exact this.1.1
  · have := z2.2
    rw [if_neg hk] at this
    simp only [Bool.and_eq_true, decide_eq_true_eq] at this
    exact ⟨this.1.1.1, this.1.1.2⟩
  · have := z2.2
    rw [if_neg hk] at this
    simp only [Bool.and_eq_true, decide_eq_true_eq] at this
    exact this.2

theorem applyE_zero {s : StF} {d : TxD} (h : applyE s d = 0) : fitsL d = true ∧ d.non = (s.acc d.frm).2 ∧ (d.kind = 1 → d.amt ≤ (s.acc d.frm).1) ∧ (d.kind = 1 → d.to ≠ d.frm → (s.acc d.to).1 + d.amt ≤ 4611686018427387903) := by
  unfold applyE at h
  split at h
  · cases h
  · rename_i h1
    split at h
    · cases h
    · rename_i h2
      split at h
      · cases h
      · rename_i h3
        split at h
        · cases h
        · rename_i h4
          refine ⟨by simpa using h1, Decidable.byContradiction h2, fun hk => ?_, fun hk hn => ?_⟩
          · exact Nat.le_of_not_lt (fun e => h3 ⟨hk, e⟩)
          · exact Nat.le_of_not_lt (fun e => h4 ⟨hk, hn, e⟩)

theorem applyE_is1 {s : StF} {d : TxD} (h : fitsL d = false) : applyE s d = 1 := by unfold applyE; rw [if_pos h]

theorem applyE_is2 {s : StF} {d : TxD} (h : fitsL d = true) (h2 : d.non ≠ (s.acc d.frm).2) : applyE s d = 2 := by unfold applyE; rw [if_neg (by simp [h]), if_pos h2]

theorem applyE_is3 {s : StF} {d : TxD} (h : fitsL d = true) (h2 : d.non = (s.acc d.frm).2) (h3 : d.kind = 1) (h4 : (s.acc d.frm).1 < d.amt) : applyE s d = 3 := by
  unfold applyE; rw [if_neg (by simp [h]), if_neg (by simp [h2]), if_pos ⟨h3, h4⟩]

theorem applyE_is4 {s : StF} {d : TxD} (h : fitsL d = true) (h2 : d.non = (s.acc d.frm).2) (h3 : d.kind = 1) (h4 : ¬ (s.acc d.frm).1 < d.amt) (h5 : d.to ≠ d.frm) (h6 : 4611686018427387903 < (s.acc d.to).1 + d.amt) : applyE s d = 4 := by
  unfold applyE; rw [if_neg (by simp [h]), if_neg (by simp [h2]), if_neg (fun e => h4 e.2), if_pos ⟨h3, h5, h6⟩]

theorem applyE_is0 {s : StF} {d : TxD} (h : fitsL d = true) (h2 : d.non = (s.acc d.frm).2) (h4 : d.kind = 1 → ¬ (s.acc d.frm).1 < d.amt) (h6 : d.kind = 1 → d.to ≠ d.frm → ¬ 4611686018427387903 < (s.acc d.to).1 + d.amt) : applyE s d = 0 := by
  unfold applyE; rw [if_neg (by simp [h]), if_neg (by simp [h2]), if_neg (fun e => h4 e.1 e.2), if_neg (fun e => h6 e.1 e.2.1 e.2.2)]

theorem StOk.apply {s : StF} {N : Nat} (h : StOk s N) (d : TxD) : StOk (applyF s d) (N + 1) := by
  by_cases hz : applyE s d = 0
  · obtain ⟨z1, z2, z3, z4⟩ := applyE_zero hz
    obtain ⟨f1, f2, f3, f4, f5, f6⟩ := fits_names z1
    unfold applyF
    rw [if_pos hz]
    have hk1 : ∀ n, accD s.acc d n ≠ (0, 0) → isNm n = true := by
      intro n hn
      by_cases hm : n ∈ nmsD d
      · unfold nmsD at hm
        split at hm
        · rename_i hk
          have : n = d.frm ∨ n = d.to := by simpa using hm
          rcases this with e | e
          · rw [e]; exact f1
          · rw [e]; exact f2 hk
        · rw [List.mem_singleton.1 hm]; exact f1
      · rw [accD_out s.acc hm] at hn
        exact h.nm n hn
    have hk2 : ∀ n, (accD s.acc d n).1 ≤ 4611686018427387903 ∧ (accD s.acc d n).2 ≤ N + 1 := by
      intro n
      have a1 := h.amt n
      have a2 := h.num n
      have b1 := h.amt d.frm
      have b2 := h.num d.frm
      have c2 := h.num d.to
      unfold accD
      split
      · rename_i hk
        have z3' := z3 hk
        by_cases e : n = d.to
        · rw [e, pnF_at]
          by_cases e2 : d.to = d.frm
          · rw [e2, pnF_at]
            simp only
            omega
          · have := z4 hk e2
            rw [pnF_ne _ _ e2]
            simp only
            omega
        · rw [pnF_ne _ _ e]
          by_cases e2 : n = d.frm
          · rw [e2, pnF_at]
            simp only
            omega
          · rw [pnF_ne _ _ e2]
            omega
      · by_cases e2 : n = d.frm
        · rw [e2, pnF_at]
          simp only
          omega
        · rw [pnF_ne _ _ e2]
          omega
    refine ⟨hk1, fun n => (hk2 n).1, fun n => (hk2 n).2, fun n x hx => ?_⟩
    by_cases hk : d.kind = 1
    · rw [if_pos hk] at hx
      exact h.vnm n x hx
    · rw [if_neg hk] at hx
      replace hx : pnF s.val d.key (some d.val) n = some x := hx
      by_cases e : n = d.key
      · rw [e, pnF_at] at hx
        cases hx
        rw [e]
        exact f3 hk
      · rw [pnF_ne _ _ e] at hx
        exact h.vnm n x hx
  · rw [applyF_no hz]
    exact h.mono (Nat.le_succ _)

theorem StOk.new (rich : List ByteArray) (funds : Nat) : StOk (newF rich funds) 0 := by
  refine ⟨fun n hn => ?_, fun n => ?_, fun n => ?_, fun n x hx => by cases hx⟩
  · unfold newF at hn
    simp only at hn
    by_cases h1 : isNm n = true
    · exact h1
    · rw [if_neg (by simp [h1])] at hn
      exact (hn rfl).elim
  · unfold newF
    simp only
    split
    · exact Nat.min_le_right _ _
    · exact Nat.zero_le _
  · unfold newF
    simp only
    split <;> exact Nat.zero_le _
end Go.Proofs.YtajpfkenhchafaaDoor

/- The transaction that pays, and what it does to a state whose two accounts are known. -/
namespace Go.Proofs.YtajpfkenhchafaaDoor
open Go
set_option linter.unusedVariables false

def nA : ByteArray := ⟨#[97]⟩
def nB : ByteArray := ⟨#[98]⟩
def wA : ByteArray := ⟨#[97, 58, 97]⟩
def wB : ByteArray := ⟨#[97, 58, 98]⟩

def sendD (m n : Nat) : TxD := ⟨1, nA, nB, m, n, ⟨#[]⟩, ⟨#[]⟩, [], [wA, wB]⟩

theorem nA_nm : isNm nA = true := by decide +kernel
theorem nB_nm : isNm nB = true := by decide +kernel
theorem nB_nA : nB ≠ nA := by decide +kernel
theorem keysAB : keysL [wA, wB] = 0 := by decide +kernel
theorem aP_nA : aP ++ nA = wA := by decide +kernel
theorem aP_nB : aP ++ nB = wB := by decide +kernel
theorem lessAB : Op.bytesLess wA.toList wB.toList = true := by decide +kernel
theorem hasAB : ([wA, wB].all (hasL [wA, wB])) = true := by decide +kernel

theorem send_check {m n : Nat} (hm : m ≤ 4611686018427387903) (hn : n ≤ 4611686018427387903) : checkL (sendD m n) = 0 := by
  have h1 : fieldsR (sendD m n) = true := by
    unfold fieldsR
    rw [show (sendD m n).frm = nA from rfl, nA_nm, if_pos (show (sendD m n).kind = 1 from rfl), show (sendD m n).to = nB from rfl, nB_nm, show (sendD m n).key = ⟨#[]⟩ from rfl, show (sendD m n).val = ⟨#[]⟩ from rfl]
    decide +kernel
  unfold checkL
  rw [if_neg (fun e => e.1 rfl), if_neg (by rw [h1]; decide), if_neg (by show ¬ (4611686018427387903 < m ∨ 4611686018427387903 < n); omega), show (sendD m n).rs = [] from rfl, if_neg (show ¬ keysL [] ≠ 0 from fun e => e rfl)]
  exact keysAB

theorem send_fits {m n : Nat} (hm : m ≤ 4611686018427387903) (hn : n ≤ 4611686018427387903) : fitsL (sendD m n) = true := by
  have h1 : needsL (sendD m n) = [wA, wB] := by
    unfold needsL
    rw [if_pos (send_check hm hn), if_neg (show ¬ (sendD m n).kind = 2 by show ¬ (1 : Int) = 2; decide), show (sendD m n).frm = nA from rfl, show (sendD m n).to = nB from rfl, aP_nA, aP_nB, if_pos lessAB]
  unfold fitsL
  rw [h1, show (sendD m n).ws = [wA, wB] from rfl, hasAB]
  rfl

/-- What it is answered, where a has x and the number k, and b has y. -/
theorem send_E {s : StF} {m n x k y z : Nat} (hm : m ≤ 4611686018427387903) (hn : n ≤ 4611686018427387903) (ha : s.acc nA = (x, k)) (hb : s.acc nB = (y, z)) : applyE s (sendD m n) = if n ≠ k then 2 else if x < m then 3 else if 4611686018427387903 < y + m then 4 else 0 := by
  have e1 : (s.acc (sendD m n).frm) = (x, k) := ha
  have e2 : (s.acc (sendD m n).to) = (y, z) := hb
  unfold applyE
  rw [if_neg (by rw [send_fits hm hn]; decide), e1, e2]
  show (if n ≠ k then 2 else if (1 : Int) = 1 ∧ x < m then 3 else if (1 : Int) = 1 ∧ nB ≠ nA ∧ 4611686018427387903 < y + m then 4 else 0) = _
  have := nB_nA
  simp [this]

/-- What they have behind it, if it is done. -/
theorem send_F {s : StF} {m n x k y z : Nat} (h : applyE s (sendD m n) = 0) (ha : s.acc nA = (x, k)) (hb : s.acc nB = (y, z)) : (applyF s (sendD m n)).acc nA = (x - m, k + 1) ∧ (applyF s (sendD m n)).acc nB = (y + m, z) := by
  have e : (applyF s (sendD m n)).acc = accD s.acc (sendD m n) := by unfold applyF; rw [if_pos h]
  rw [e]
  unfold accD
  rw [if_pos (show (sendD m n).kind = 1 from rfl), show (sendD m n).frm = nA from rfl, show (sendD m n).to = nB from rfl, show (sendD m n).amt = m from rfl, ha, pnF_ne _ _ nB_nA, hb, pnF_at, pnF_ne _ _ nB_nA.symm, pnF_at]
  exact ⟨rfl, rfl⟩

/-- The beginning where a alone has something. -/
theorem newA (funds : Nat) (h : funds ≤ 4611686018427387903) : (newF [nA] funds).acc nA = (funds, 0) ∧ (newF [nA] funds).acc nB = (0, 0) := by
  have h1 : (isNm nA && inN [nA] nA) = true := by decide +kernel
  have h2 : (isNm nB && inN [nA] nB) = false := by decide +kernel
  unfold newF
  simp only [h1, h2]
  refine ⟨?_, rfl⟩
  show (min funds 4611686018427387903, 0) = (funds, 0)
  rw [Nat.min_eq_left h]
end Go.Proofs.YtajpfkenhchafaaDoor

/- What the frames of the proofs share: a slice of strings that came in, opened; its length's reach. -/
namespace Go.Proofs.YtajpfkenhchafaaDoor
open Go.ChangeShapes Go.WideShapes Go.ChangeAt Go.RowKit

theorem ownKnob_none : ownKnob Tryd.prog.godebug = none := by kernel_rfl
theorem laidOut_true : laidOutB Tryd.prog = true := by kernel_rfl
theorem cellsString : Tryd.prog.cellsOf 9 = 1 := by kernel_rfl
theorem bytesString : Tryd.prog.bytesOf 9 = 16 := by kernel_rfl

/-- How a slice of strings reads. -/
def StrsDatum {H : Type} (d : DataW H) (ss : List ByteArray) : Prop := (d = .nil ∧ ss = []) ∨ ∃ rest, d = .slice (strs ss) rest

theorem strs_open {H : Type} {enc : TypeId × Value → H} {W : World} {a : Option Addr} {len cap : Nat} {d : DataW H} {p : List MemPlace}
    (h : DataW.Trod enc Tryd.prog W 0 (fun _ => true) true 22 (.slice a len cap) d p) :
    ∃ ss : List ByteArray, ss.length = len ∧ StrsAt W a ss ∧ (∀ s ∈ ss, s.size ≤ maxLen) ∧ StrsDatum d ss := by
  obtain ⟨fuel, hf⟩ := h
  rcases open_strings Tryd.underlying22 Tryd.underlying9 cellsString hf with ⟨hcs, hx⟩ | ⟨x, l, c, ss, hcs, _, hl, hm, hz, hx, hcell, hws⟩
  · simp [Value.cells] at hcs
    obtain ⟨rfl, rfl, rfl⟩ := hcs
    exact ⟨[], rfl, fun j hj => absurd hj (by simp), fun s hs => absurd hs (by simp), Or.inl ⟨(Prod.mk.inj hx).1, rfl⟩⟩
  · simp [Value.cells] at hcs
    obtain ⟨rfl, rfl, rfl⟩ := hcs
    have hz' : ss.length = cap := by simpa using hz
    refine ⟨ss.take len, by simp; omega, ?_, fun s hs => hws s (List.mem_of_mem_take hs), Or.inr ⟨_, (Prod.mk.inj hx).1⟩⟩
    intro j hj
    have hj1 : j < ss.length := by simp at hj; omega
    obtain ⟨b, off, spot⟩ := x
    have hc0 := hcell 0 (by omega)
    have hspot : spot = none := by simpa [Addr.add] using World.cell?_spot hc0
    subst hspot
    have hcj := hcell j hj1
    rw [Go.WideShapes.add_plain] at hcj
    refine ⟨b, off, rfl, World.block_lt_of_cell? W _ hcj, ?_⟩
    rw [hcj]
    simp [List.getD, List.getElem?_eq_getElem hj1]

theorem strs_cap {H : Type} {enc : TypeId × Value → H} {W : World} {a : Option Addr} {len cap : Nat} {d : DataW H} {p : List MemPlace}
    (h : DataW.Trod enc Tryd.prog W 0 (fun _ => true) true 22 (.slice a len cap) d p) : a = none → cap = 0 := by
  intro ha
  obtain ⟨fuel, hf⟩ := h
  rcases open_strings Tryd.underlying22 Tryd.underlying9 cellsString hf with ⟨hcs, _⟩ | ⟨x, l, c, ss, hcs, _⟩
  · simp [Value.cells] at hcs
    exact hcs.2.2
  · simp [Value.cells] at hcs
    rw [hcs.1] at ha
    cases ha

theorem strs_sized {H : Type} {ts : List TypeId} {ds : List (DataW H)} (h : (DataW.weightsEach Tryd.prog ts ds).all (· ≤ reachBytes) = true) {j : Nat} {d : DataW H} {ss : List ByteArray} (ht : ts[j]? = some 22) (hd : ds[j]? = some d) (hs : StrsDatum d ss) :
    ss.length * 16 ≤ 140737488351232 := by
  rcases hs with ⟨rfl, rfl⟩ | ⟨rest, rfl⟩
  · simp
  · have := sized_slice h ht hd Tryd.underlying22
    rw [bytesString] at this
    simp [strs, reachBytes] at this
    omega
end Go.Proofs.YtajpfkenhchafaaDoor

/- How a transaction that came in is opened. -/
namespace Go.Proofs.YtajpfkenhchafaaDoor
open Go.ChangeShapes Go.WideShapes Go.ChangeAt Go.RowKit Go.Joins Go.Deep
set_option linter.unusedVariables false

theorem cellsTx : Tryd.prog.cellsOf 50 = 9 := by kernel_rfl

theorem array9 {α : Type} {cs : Array α} (h : cs.size = 9) : ∃ c0 c1 c2 c3 c4 c5 c6 c7 c8, cs = #[c0, c1, c2, c3, c4, c5, c6, c7, c8] := by
  obtain ⟨l⟩ := cs
  match l, h with
  | [c0, c1, c2, c3, c4, c5, c6, c7, c8], _ => exact ⟨c0, c1, c2, c3, c4, c5, c6, c7, c8, rfl⟩

theorem list9 {α : Type} {l : List α} (h : l.length = 9) : ∃ c0 c1 c2 c3 c4 c5 c6 c7 c8, l = [c0, c1, c2, c3, c4, c5, c6, c7, c8] := by
  match l, h with
  | [c0, c1, c2, c3, c4, c5, c6, c7, c8], _ => exact ⟨c0, c1, c2, c3, c4, c5, c6, c7, c8, rfl⟩

/-- How a transaction reads. -/
def TxDatum {H : Type} (d : DataW H) (D : TxD) : Prop :=
  ∃ y0 y1 y2 y3 y4 y5 y6 y7 y8, d = .agg [y0, y1, y2, y3, y4, y5, y6, y7, y8] ∧ StrsDatum y7 D.rs ∧ StrsDatum y8 D.ws

structure TxSizes (D : TxD) : Prop where
  frm : D.frm.size ≤ maxLen
  to : D.to.size ≤ maxLen
  key : D.key.size ≤ maxLen
  val : D.val.size ≤ maxLen
  rs : ∀ s ∈ D.rs, s.size ≤ maxLen
  ws : ∀ s ∈ D.ws, s.size ≤ maxLen

theorem wf_u64 {n : Int} (h : (Lit.int .u64 n).wf = true) : 0 ≤ n ∧ n < 18446744073709551616 := by
  simp [Lit.wf, IntKind.min, IntKind.max, IntKind.bits, IntKind.signed] at h
  omega

set_option maxRecDepth 100000 in
theorem open_tx {H : Type} {enc : TypeId × Value → H} {W : World} {r : Reach} {b0 : Nat} {v : Value} {d : DataW H} {p : List MemPlace} (hv : Value.okWide Tryd.prog W r b0 50 v)
    (h : DataW.Trod enc Tryd.prog W 0 (fun _ => true) true 50 v d p) :
    ∃ (D : TxD) (ra : Option Addr) (rc : Nat) (wa : Option Addr) (wc : Nat), v = txV D ra rc wa wc ∧ TxAt W D ra wa ∧ (ra = none → rc = 0) ∧ (wa = none → wc = 0) ∧ TxSizes D ∧ TxDatum d D := by
  obtain ⟨cs, rfl, hsz⟩ := okWide_struct Tryd.underlying50 hv
  obtain ⟨c0, c1, c2, c3, c4, c5, c6, c7, c8, rfl⟩ := array9 (hsz.trans cellsTx)
  obtain ⟨fuel, hf⟩ := h
  obtain ⟨xs, n, _, hx, _, hl, hg⟩ := DataW.trod_struct Tryd.underlying50 hf
  obtain ⟨y0, y1, y2, y3, y4, y5, y6, y7, y8, rfl⟩ := list9 hl
  have g0 := hg 0 _ rfl
  have g1 := hg 1 _ rfl
  have g2 := hg 2 _ rfl
  have g3 := hg 3 _ rfl
  have g4 := hg 4 _ rfl
  have g5 := hg 5 _ rfl
  have g6 := hg 6 _ rfl
  have g7 := hg 7 _ rfl
  have g8 := hg 8 _ rfl
  have kI : Tryd.prog.cellsOf 3 = 1 := by kernel_rfl
  have kU : Tryd.prog.cellsOf 23 = 1 := by kernel_rfl
  have kS : Tryd.prog.cellsOf 22 = 1 := by kernel_rfl
  simp [Value.cells, cellsString, kI, kU, kS] at g0 g1 g2 g3 g4 g5 g6 g7 g8
  obtain ⟨a0, e0, _, _⟩ := DataW.trod_int Tryd.underlying3 g0
  obtain ⟨a1, e1, _, s1⟩ := DataW.trod_string Tryd.underlying9 g1
  obtain ⟨a2, e2, _, s2⟩ := DataW.trod_string Tryd.underlying9 g2
  obtain ⟨a3, e3, _, u3⟩ := DataW.trod_int Tryd.underlying23 g3
  obtain ⟨a4, e4, _, u4⟩ := DataW.trod_int Tryd.underlying23 g4
  obtain ⟨a5, e5, _, s5⟩ := DataW.trod_string Tryd.underlying9 g5
  obtain ⟨a6, e6, _, s6⟩ := DataW.trod_string Tryd.underlying9 g6
  obtain ⟨ra, rl, rc, e7⟩ := slice_form Tryd.underlying22 g7
  obtain ⟨wa, wl, wc, e8⟩ := slice_form Tryd.underlying22 g8
  simp at e0 e1 e2 e3 e4 e5 e6 e7 e8
  subst e0 e1 e2 e3 e4 e5 e6 e7 e8
  have t7 : DataW.Trod enc Tryd.prog W 0 (fun _ => true) true 22 (.slice ra rl rc) y7.1 y7.2 := ⟨n, by simpa [Value.cells] using g7⟩
  have t8 : DataW.Trod enc Tryd.prog W 0 (fun _ => true) true 22 (.slice wa wl wc) y8.1 y8.2 := ⟨n, by simpa [Value.cells] using g8⟩
  obtain ⟨rs, rfl, r1, r2, r3⟩ := strs_open t7
  obtain ⟨ws, rfl, w1, w2, w3⟩ := strs_open t8
  obtain ⟨m3, rfl⟩ := Int.eq_ofNat_of_zero_le (wf_u64 u3).1
  obtain ⟨m4, rfl⟩ := Int.eq_ofNat_of_zero_le (wf_u64 u4).1
  refine ⟨⟨a0, a1, a2, m3, m4, a5, a6, rs, ws⟩, ra, rc, wa, wc, rfl, ⟨r1, w1⟩, strs_cap t7, strs_cap t8, ⟨s1, s2, s5, s6, r2, w2⟩, y0.1, y1.1, y2.1, y3.1, y4.1, y5.1, y6.1, y7.1, y8.1, ?_, r3, w3⟩
  have := (Prod.mk.inj hx).1
  simpa using this

set_option maxRecDepth 100000 in
theorem tx_sized {H : Type} {ts : List TypeId} {ds : List (DataW H)} (h : (DataW.weightsEach Tryd.prog ts ds).all (· ≤ reachBytes) = true) {j : Nat} {d : DataW H} {D : TxD} (ht : ts[j]? = some 50) (hd : ds[j]? = some d) (hs : TxDatum d D) :
    D.rs.length * 16 ≤ 140737488351232 ∧ D.ws.length * 16 ≤ 140737488351232 := by
  obtain ⟨y0, y1, y2, y3, y4, y5, y6, y7, y8, rfl, h7, h8⟩ := hs
  have hall : (DataW.weightsEach Tryd.prog [3, 9, 9, 23, 23, 9, 9, 22, 22] [y0, y1, y2, y3, y4, y5, y6, y7, y8]).all (· ≤ reachBytes) = true := by
    rw [List.all_eq_true]
    intro n hn
    exact List.all_eq_true.1 h _ (DataW.weights_mem_each ht hd n (by
      rw [DataW.weights, Tryd.underlying50]
      exact hn))
  exact ⟨strs_sized hall (j := 7) rfl rfl h7, strs_sized hall (j := 8) rfl rfl h8⟩
end Go.Proofs.YtajpfkenhchafaaDoor

/- The transactions of tusklaw23's example, and what they do. -/
namespace Go.Proofs.YtajpfkenhchafaaDoor
open Go
set_option linter.unusedVariables false

def nC : ByteArray := ⟨#[99]⟩

def pay3D (f t : ByteArray) (m n : Nat) : TxD := ⟨1, f, t, m, n, ⟨#[]⟩, ⟨#[]⟩, [], [aP ++ f, aP ++ t]⟩

def exL : List TxD := [pay3D nA nB 4 0, pay3D nB nC 4 0, pay3D nA nC 1 1, pay3D nA nB 1 1]

theorem ex_R : execR (newF [nA] 10) exL = [0, 0, 0, 2] := by decide +kernel

theorem ex_S : (execS (newF [nA] 10) exL).acc nC = (5, 0) := by decide +kernel

theorem pay_sizes {f t : ByteArray} (hf : f.size ≤ 1000) (ht : t.size ≤ 1000) (m n : Nat) : TxSizes (pay3D f t m n) := by
  have h0 : aP.size = 2 := rfl
  refine ⟨?_, ?_, Nat.zero_le _, Nat.zero_le _, fun s hs => (by cases hs), fun s hs => ?_⟩
  · show f.size ≤ maxLen; unfold maxLen; omega
  · show t.size ≤ maxLen; unfold maxLen; omega
  · have : s = aP ++ f ∨ s = aP ++ t := by simpa [pay3D] using hs
    unfold maxLen
    rcases this with e | e <;> rw [e, ByteArray.size_append] <;> omega
end Go.Proofs.YtajpfkenhchafaaDoor

/- A row at whatever place of a block of the call's own, with room behind it: cut in front, appended to behind. -/
namespace Go.Proofs.YtajpfkenhchafaaDoor
open Go.RowKit
set_option linter.unusedVariables false

/-- v is a row of n elements, the cells xs, in a block of the call's own (or it has no room at all). -/
def QRow (w : World) (base : Nat) (e : TypeId) (size : Nat) (v : Value) (n : Nat) (xs : List Value) : Prop :=
  xs.length = n * size ∧
  ((∃ ao, v = .slice ao 0 0 ∧ n = 0) ∨
   ∃ g pre post cap, v = .slice (some ⟨g, pre.length, none⟩) n cap ∧ base ≤ g ∧ Arr w g e (pre ++ xs ++ post) ∧ n ≤ cap ∧ cap ≤ maxLen ∧ post.length = (cap - n) * size)

theorem QRow.nil (w : World) (base : Nat) (e : TypeId) (size : Nat) (ao : Option Addr) : QRow w base e size (.slice ao 0 0) 0 [] :=
  ⟨by simp, Or.inl ⟨ao, rfl, rfl⟩⟩

theorem QRow.of_own {w : World} {base : Nat} {e : TypeId} {size : Nat} {v : Value} {n : Nat} {xs : List Value} (h : w.ownsRow base e size v n xs) : QRow w base e size v n xs := by
  refine ⟨h.1, ?_⟩
  rcases h.2 with ⟨hv, hn⟩ | ⟨g, cap, cur, hv, hb, hg, hnc, hcm, hsz, htk⟩
  · exact Or.inl ⟨none, hv, hn⟩
  · refine Or.inr ⟨g, [], cur.toList.drop (n * size), cap, hv, hb, ?_, hnc, hcm, ?_⟩
    · unfold Arr
      rw [List.nil_append, ← htk, List.take_append_drop]
      exact hg
    · rw [List.length_drop, Array.length_toList, hsz, Nat.sub_mul]

theorem QRow.form {w : World} {base : Nat} {e : TypeId} {size : Nat} {v : Value} {n : Nat} {xs : List Value} (h : QRow w base e size v n xs) : ∃ ao cap, v = .slice ao n cap ∧ n ≤ cap ∧ cap ≤ maxLen := by
  rcases h.2 with ⟨ao, hv, hn⟩ | ⟨g, pre, post, cap, hv, _, _, h1, h2, _⟩
  · subst hn
    exact ⟨ao, 0, hv, Nat.le_refl _, Nat.zero_le _⟩
  · exact ⟨_, cap, hv, h1, h2⟩

/-- Its cells, where it has some. -/
theorem QRow.cells {w : World} {base : Nat} {e : TypeId} {size : Nat} {v : Value} {n : Nat} {xs : List Value} (h : QRow w base e size v n xs) (hn : 0 < n) :
    ∃ g off cap, v = .slice (some ⟨g, off, none⟩) n cap ∧ base ≤ g ∧ g < w.heap.size ∧ ∀ j u, xs[j]? = some u → w.cell? ⟨g, off + j, none⟩ = some u := by
  rcases h.2 with ⟨ao, hv, h0⟩ | ⟨g, pre, post, cap, hv, hb, hg, h1, h2, h3⟩
  · omega
  · refine ⟨g, pre.length, cap, hv, hb, hg.lt, fun j u hu => hg.cell ?_⟩
    have hj := (List.getElem?_eq_some_iff.1 hu).1
    rw [List.getElem?_append_left (by rw [List.length_append]; omega), List.getElem?_append_right (by omega), Nat.add_sub_cancel_left]
    exact hu

/-- What stands elsewhere may turn. -/
theorem QRow.keep {w w' : World} {base : Nat} {e : TypeId} {size : Nat} {v : Value} {n : Nat} {xs : List Value} (h : QRow w base e size v n xs) (hk : ∀ g, v.ownBlock = some g → w'.heap[g]? = w.heap[g]?) : QRow w' base e size v n xs := by
  refine ⟨h.1, ?_⟩
  rcases h.2 with h0 | ⟨g, pre, post, cap, hv, hb, hg, r⟩
  · exact Or.inl h0
  · refine Or.inr ⟨g, pre, post, cap, hv, hb, ?_, r⟩
    unfold Arr at hg ⊢
    rw [hk g (by rw [hv]; rfl)]
    exact hg

/-- s[i:]: the front is cut off. -/
theorem QRow.cut {w : World} {base : Nat} {e : TypeId} {size : Nat} {ao : Option Addr} {n cap : Nat} {xs : List Value} (h : QRow w base e size (.slice ao n cap) n xs) (i : Nat) (hi : i ≤ n) (ao' : Option Addr)
    (hao : ∀ b off, ao = some ⟨b, off, none⟩ → ¬ cap = i → ao' = some ⟨b, off + i * size, none⟩) : QRow w base e size (.slice ao' (n - i) (cap - i)) (n - i) (xs.drop (i * size)) := by
  have hl : (xs.drop (i * size)).length = (n - i) * size := by rw [List.length_drop, h.1, Nat.sub_mul]
  refine ⟨hl, ?_⟩
  rcases h.2 with ⟨ao0, hv, h0⟩ | ⟨g, pre, post, cap0, hv, hb, hg, h1, h2, h3⟩
  · simp only [Value.slice.injEq] at hv
    exact Or.inl ⟨ao', by rw [hv.2.2]; simp; omega, by omega⟩
  · simp only [Value.slice.injEq, true_and] at hv
    obtain ⟨rfl, rfl⟩ := hv
    by_cases hc : cap = i
    · exact Or.inl ⟨ao', by rw [hc]; simp; omega, by omega⟩
    · refine Or.inr ⟨g, pre ++ xs.take (i * size), post, cap - i, ?_, hb, ?_, by omega, by omega, ?_⟩
      · have hm : i * size ≤ xs.length := by rw [h.1]; exact Nat.mul_le_mul_right _ hi
        rw [hao g pre.length rfl hc, List.length_append, List.length_take, Nat.min_eq_left hm]
      · rw [List.append_assoc pre, List.take_append_drop]
        exact hg
      · rw [h3]
        congr 1
        omega

/-- Cells that are written one behind the other. -/
theorem Arr.setCells {g : Nat} {t : TypeId} : ∀ (vs : List Value) (w : World) (pre mid post : List Value), mid.length = vs.length → Arr w g t (pre ++ mid ++ post) → Arr (w.setCells g pre.length vs) g t (pre ++ vs ++ post)
  | [], w, pre, mid, post, hl, h => by
    have : mid = [] := List.eq_nil_of_length_eq_zero hl
    subst this
    exact h
  | v :: vs, w, pre, [], post, hl, h => by simp at hl
  | v :: vs, w, pre, m :: mid, post, hl, h => by
    have h1 := h.set pre.length v
    have e : (pre ++ (m :: mid) ++ post).set pre.length v = (pre ++ [v]) ++ mid ++ post := by
      rw [List.append_assoc, List.set_append_right _ _ (by omega), Nat.sub_self]
      simp
    rw [e] at h1
    have h2 := Arr.setCells vs (w.setCell ⟨g, pre.length, none⟩ v) (pre ++ [v]) mid post (by simpa using hl) h1
    have e2 : (pre ++ [v]).length = pre.length + 1 := by simp
    rw [e2] at h2
    have e3 : pre ++ [v] ++ vs ++ post = pre ++ (v :: vs) ++ post := by simp
    rw [e3] at h2
    exact h2

theorem grown_setCells (g : Nat) : ∀ (vs : List Value) (o : Nat) (w : World), w.grownBy (w.setCells g o vs) (some g)
  | [], _, w => ⟨rfl, rfl, rfl, Nat.le_refl _, fun _ _ _ => rfl⟩
  | v :: vs, o, w => by
    obtain ⟨h1, h2, h3, h4, h5⟩ := grown_setCells g vs (o + 1) (w.setCell ⟨g, o, none⟩ v)
    refine ⟨h1, h2, h3, ?_, fun k hk hne => ?_⟩
    · have : (w.setCell ⟨g, o, none⟩ v).heap.size = w.heap.size := by show (w.heap.modify g _).size = _; simp
      rw [this] at h4
      exact h4
    · have hs : (w.setCell ⟨g, o, none⟩ v).heap.size = w.heap.size := by show (w.heap.modify g _).size = _; simp
      have hk' : k ≠ g := fun e => hne (by rw [e])
      have := h5 k (by rw [hs]; exact hk) hne
      rw [Below.heap_setCell w ⟨g, o, none⟩ v k hk'] at this
      exact this

/-- append(s, x): in the room behind, or in a new row. -/
theorem wpList_append_q {P : Program} {w : World} {ops : Array Oper} {rest : List Oper} {o : Oper} {a : Act} {Q : Exit → Act → World → Prop} (hgd : o.guard = none) (s x : Operand) (t : TypeId)
    (ho : o.op = .call { callee := .builtin .append, args := #[s, x], argTypes := #[t, t] })
    (base : Nat) (e : TypeId) (i : TypeInfo) (z : Value) (size bytes : Nat) (ht : P.underlying t = some (.slice e)) (hi : P.info? e = some i) (hz : i.zero = some z)
    (hsize : i.size = size) (hby : i.bytes = bytes) (hzs : z.cells.size = size) (hsz : 0 < size)
    (v : Value) (n : Nat) (xs : List Value) (hs : a.eval s = v) (hq : QRow w base e size v n xs)
    (ad : Addr) (m c : Nat) (news : List Value) (hx : a.eval x = .slice (some ad) m c) (hm : 0 < m) (hl : news.length = m * size) (hnews : ∀ j u, news[j]? = some u → w.cell? (ad.add j) = some u) (h1 : ∀ u ∈ news, u.oneCell' = true)
    (h63 : n + m ≤ maxLen) (hbytes : (n + m) * bytes ≤ 140737488355328) (hbase : base ≤ w.heap.size)
    (h : ∀ v' w', QRow w' base e size v' (n + m) (xs ++ news) → w.grownBy w' v.ownBlock → (∀ g, v'.ownBlock = some g → v.ownBlock = some g ∨ w.heap.size ≤ g) → wpList P ops Q rest (a.put o.dst v') w') : wpList P ops Q (o :: rest) a w := by
  have hmono : ∀ {w' : World} {v' : Value}, w'.ownsRow w.heap.size e size v' (n + m) (xs ++ news) → QRow w' base e size v' (n + m) (xs ++ news) := by
    intro w' v' ho'
    refine QRow.of_own ⟨ho'.1, ho'.2.imp id fun ⟨g, cap, cur, q1, q2, q3⟩ => ⟨g, cap, cur, q1, Nat.le_trans hbase q2, q3⟩⟩
  have hfresh : ∀ {w' : World} {v' : Value}, w'.ownsRow w.heap.size e size v' (n + m) (xs ++ news) → ∀ g, v'.ownBlock = some g → v.ownBlock = some g ∨ w.heap.size ≤ g := by
    intro w' v' ho' g hg
    exact Or.inr (ho'.lt g hg).1
  have hgr : ∀ {w' : World} (r : Option Nat), w.grownBy w' none → w.grownBy w' r := fun r hg => ⟨hg.os, hg.tape, hg.output, hg.size, fun k hk _ => hg.block k hk (by simp)⟩
  rcases hq.2 with ⟨ao, rfl, rfl⟩ | ⟨g, pre, post, cap, rfl, hb, hg, hnc, hcm, hpl⟩
  · have hxs : xs = [] := List.eq_nil_of_length_eq_zero (by simpa using hq.1)
    subst hxs
    refine wpList_append_grows w hgd s x t ho e i z size bytes ht hi hz hsize hby hzs hsz ao 0 0 [] hs (fun _ => ⟨rfl, rfl⟩) (by simp) (fun b _ j u hu => by simp at hu) ad m c news hx hl hnews h1 (by omega) h63 hbytes ?_
    intro v' w' r1 r2
    exact h v' w' (hmono r1) (hgr _ r2) (hfresh r1)
  · refine wpList_append_arg w hgd s x t ho e i z size bytes ht hi hz hsize hby hzs hsz g pre.length n cap xs hs hq.1 ?_ ad m c news hx hl hnews h1 ?_ h63 hbytes ?_ ?_
    · intro j u hu
      refine hg.cell ?_
      have hj := (List.getElem?_eq_some_iff.1 hu).1
      rw [List.getElem?_append_left (by rw [List.length_append]; omega), List.getElem?_append_right (by omega), Nat.add_sub_cancel_left]
      exact hu
    · intro hroom j hj
      have hlt : pre.length + n * size + j < (pre ++ xs ++ post).length := by
        have h2 : m * size ≤ (cap - n) * size := Nat.mul_le_mul_right _ (by omega)
        rw [List.length_append, List.length_append, hq.1, hpl]
        omega
      exact ⟨by rw [hg.cell (List.getElem?_eq_getElem hlt)]; rfl, hg.frozen _⟩
    · intro hroom
      have h2 : m * size ≤ (cap - n) * size := Nat.mul_le_mul_right _ (by omega)
      have hA : Arr w g e ((pre ++ xs) ++ post.take news.length ++ post.drop news.length) := by
        rw [List.append_assoc (pre ++ xs), List.take_append_drop]
        exact hg
      have hA2 := Arr.setCells news w (pre ++ xs) (post.take news.length) (post.drop news.length) (by rw [List.length_take]; omega) hA
      have e1 : (pre ++ xs).length = pre.length + n * size := by rw [List.length_append, hq.1]
      rw [e1] at hA2
      refine h _ _ ⟨by rw [List.length_append, hq.1, hl, Nat.add_mul], Or.inr ⟨g, pre, post.drop news.length, cap, rfl, hb, ?_, hroom, hcm, ?_⟩⟩ (grown_setCells g news _ w) (fun g' hg' => Or.inl hg')
      · rw [← List.append_assoc pre]
        exact hA2
      · rw [List.length_drop, hpl, hl, ← Nat.sub_mul]
        congr 1
        omega
    · intro _ v' w' r1 r2
      exact h v' w' (hmono r1) (hgr _ r2) (hfresh r1)

/-- All blocks that were there are as they were, but those of S. -/
structure Kept (S : Nat → Prop) (w w' : World) : Prop where
  os : w'.os = w.os
  tape : w'.tape = w.tape
  output : w'.output = w.output
  size : w.heap.size ≤ w'.heap.size
  block : ∀ k, k < w.heap.size → ¬ S k → w'.heap[k]? = w.heap[k]?

theorem Kept.refl (S : Nat → Prop) (w : World) : Kept S w w := ⟨rfl, rfl, rfl, Nat.le_refl _, fun _ _ _ => rfl⟩

theorem Kept.trans {S : Nat → Prop} {a b c : World} (h : Kept S a b) (k : Kept S b c) : Kept S a c :=
  ⟨k.os.trans h.os, k.tape.trans h.tape, k.output.trans h.output, Nat.le_trans h.size k.size, fun i hi hn => (k.block i (Nat.lt_of_lt_of_le hi h.size) hn).trans (h.block i hi hn)⟩

theorem Kept.mono {S T : Nat → Prop} {w w' : World} (h : Kept S w w') (hs : ∀ k, k < w.heap.size → S k → T k) : Kept T w w' :=
  ⟨h.os, h.tape, h.output, h.size, fun k hk hn => h.block k hk (fun hS => hn (hs k hk hS))⟩

theorem Kept.of_below {S : Nat → Prop} {w w' : World} (h : Below w.heap.size w w') : Kept S w w' := ⟨h.os, h.tape, h.output, h.size, fun k hk _ => h.block k hk⟩

theorem Kept.of_grown {w w' : World} {r : Option Nat} (h : w.grownBy w' r) : Kept (fun k => r = some k) w w' := ⟨h.os, h.tape, h.output, h.size, fun k hk hn => h.block k hk (fun e => hn e.symm)⟩

theorem Kept.setCell (w : World) (p : Addr) (v : Value) : Kept (fun k => k = p.block) w (w.setCell p v) :=
  ⟨rfl, rfl, rfl, by show _ ≤ (w.heap.modify p.block _).size; simp, fun k _ hn => Below.heap_setCell w p v k hn⟩

theorem Kept.below {S : Nat → Prop} {w w' : World} (h : Kept S w w') {B : Nat} (hB : B ≤ w.heap.size) (hS : ∀ k, S k → B ≤ k) : Below B w w' :=
  ⟨h.os, h.tape, h.output, h.size, fun k hk => h.block k (by omega) (fun hs => by have := hS k hs; omega)⟩

theorem Kept.cell {S : Nat → Prop} {w w' : World} (h : Kept S w w') {p : Addr} (hp : p.block < w.heap.size) (hn : ¬ S p.block) : w'.cell? p = w.cell? p := by
  have := h.block p.block hp hn
  simp only [World.cell?, this]

theorem Arr.kept {S : Nat → Prop} {w w' : World} {g : Nat} {t : TypeId} {cs : List Value} (h : Arr w g t cs) (hk : Kept S w w') (hn : ¬ S g) : Arr w' g t cs := by
  have hl := h.lt
  unfold Arr at h ⊢
  rw [hk.block g hl hn]
  exact h

theorem QRow.kept {S : Nat → Prop} {w w' : World} {base : Nat} {e : TypeId} {size : Nat} {v : Value} {n : Nat} {xs : List Value} (h : QRow w base e size v n xs) (hk : Kept S w w') (hn : ∀ g, v.ownBlock = some g → ¬ S g) : QRow w' base e size v n xs := by
  refine ⟨h.1, h.2.imp id ?_⟩
  rintro ⟨g, pre, post, cap, hv, hb, hg, r⟩
  exact ⟨g, pre, post, cap, hv, hb, hg.kept hk (hn g (by rw [hv]; rfl)), r⟩

/-- A row of no transactions, or one in memory: its block is there. -/
theorem QRow.lt {w : World} {base : Nat} {e : TypeId} {size : Nat} {v : Value} {n : Nat} {xs : List Value} (h : QRow w base e size v n xs) : n = 0 ∨ ∃ g, v.ownBlock = some g ∧ base ≤ g ∧ g < w.heap.size := by
  rcases h.2 with ⟨ao, hv, hn⟩ | ⟨g, pre, post, cap, hv, hb, hg, r⟩
  · exact Or.inl hn
  · exact Or.inr ⟨g, by rw [hv]; rfl, hb, hg.lt⟩

theorem Kept.transNew {S T : Nat → Prop} {a b c : World} (h : Kept S a b) (k : Kept T b c) (hT : ∀ j, T j → a.heap.size ≤ j) : Kept S a c :=
  ⟨k.os.trans h.os, k.tape.trans h.tape, k.output.trans h.output, Nat.le_trans h.size k.size, fun j hj hn => (k.block j (Nat.lt_of_lt_of_le hj h.size) (fun e => by have := hT j e; omega)).trans (h.block j hj hn)⟩

theorem Kept.setNew {S : Nat → Prop} {w w' : World} (h : Kept S w w') {a : Addr} (ha : w.heap.size ≤ a.block) (v : Value) : Kept S w (w'.setCell a v) :=
  ⟨h.os, h.tape, h.output, by rw [setCell_size]; exact h.size, fun k hk hn => by rw [Below.heap_setCell w' a v k (by omega)]; exact h.block k hk hn⟩

theorem Kept.set {S : Nat → Prop} {w w' : World} (h : Kept S w w') {p : Addr} (hp : S p.block) (v : Value) : Kept S w (w'.setCell p v) :=
  h.trans ((Kept.setCell w' p v).mono (fun k _ e => by rw [e]; exact hp))
end Go.Proofs.YtajpfkenhchafaaDoor

/- append onto a row that is cut in front: at a step of a region that draws its order. -/
namespace Go.Proofs.YtajpfkenhchafaaDoor
open Go.RowKit
set_option linter.unusedVariables false

theorem run_append_q {P : Program} (w : World) (t ty e : TypeId) (i : TypeInfo) (z : Value) (size bytes : Nat) (ht : P.underlying t = some (.slice e)) (hi : P.info? e = some i) (hz : i.zero = some z)
    (hsize : i.size = size) (hby : i.bytes = bytes) (hzs : z.cells.size = size) (hsz : 0 < size) (base : Nat) (v : Value) (n : Nat) (xs : List Value) (hq : QRow w base e size v n xs)
    (ad : Addr) (m c : Nat) (news : List Value) (hm : 0 < m) (hl : news.length = m * size) (hnews : ∀ j u, news[j]? = some u → w.cell? (ad.add j) = some u) (h1 : ∀ u ∈ news, u.oneCell' = true)
    (h63 : n + m ≤ maxLen) (hbytes : (n + m) * bytes ≤ 140737488355328) (hbase : base ≤ w.heap.size) :
    ∃ v' w', (Builtin.append_ #[t, t] ty #[v, .slice (some ad) m c]).run P w = .ok v' w' ∧ QRow w' base e size v' (n + m) (xs ++ news) ∧ w.grownBy w' v.ownBlock ∧ (∀ g, v'.ownBlock = some g → v.ownBlock = some g ∨ w.heap.size ≤ g) := by
  have hmono : ∀ {w' : World} {v' : Value}, w'.ownsRow w.heap.size e size v' (n + m) (xs ++ news) → QRow w' base e size v' (n + m) (xs ++ news) := by
    intro w' v' ho'
    refine QRow.of_own ⟨ho'.1, ho'.2.imp id fun ⟨g, cap, cur, q1, q2, q3⟩ => ⟨g, cap, cur, q1, Nat.le_trans hbase q2, q3⟩⟩
  have hfresh : ∀ {w' : World} {v' : Value}, w'.ownsRow w.heap.size e size v' (n + m) (xs ++ news) → ∀ g, v'.ownBlock = some g → v.ownBlock = some g ∨ w.heap.size ≤ g := by
    intro w' v' ho' g hg
    exact Or.inr (ho'.lt g hg).1
  have hgr : ∀ {w' : World} (r : Option Nat), w.grownBy w' none → w.grownBy w' r := fun r hg => ⟨hg.os, hg.tape, hg.output, hg.size, fun k hk _ => hg.block k hk (by simp)⟩
  rcases hq.2 with ⟨ao, rfl, rfl⟩ | ⟨g, pre, post, cap, rfl, hb, hg, hnc, hcm, hpl⟩
  · have hxs : xs = [] := List.eq_nil_of_length_eq_zero (by simpa using hq.1)
    subst hxs
    cases ao with
    | some b =>
      obtain ⟨v', w', hrun, r1, r2⟩ := run_append_arg_grows (P := P) w t ty e i z size bytes ht hi hz hsize hby hzs hsz b 0 0 [] (by simp) (fun j u hu => by simp at hu) ad m c news hl hnews (by omega) h63 hbytes
      exact ⟨v', w', hrun, hmono r1, hgr _ r2, hfresh r1⟩
    | none =>
      obtain ⟨v', w', hrun, r1, r2, _⟩ := run_append_own (P := P) w w.heap.size t ty e i z size bytes ht hi hz hsize hby hzs hsz (.slice none 0 0) 0 [] (World.ownsRow_nil w _ e size) ad m c news hl hnews h1 h63 hbytes (Nat.le_refl _)
      exact ⟨v', w', hrun, hmono r1, r2, hfresh r1⟩
  · have hcell : ∀ j u, xs[j]? = some u → w.cell? ⟨g, pre.length + j, none⟩ = some u := by
      intro j u hu
      refine hg.cell ?_
      have hj := (List.getElem?_eq_some_iff.1 hu).1
      rw [List.getElem?_append_left (by rw [List.length_append]; omega), List.getElem?_append_right (by omega), Nat.add_sub_cancel_left]
      exact hu
    by_cases hroom : n + m ≤ cap
    · have h2 : m * size ≤ (cap - n) * size := Nat.mul_le_mul_right _ (by omega)
      have hsp : ∀ j, j < news.length → (w.cell? ⟨g, pre.length + n * size + j, none⟩).isSome = true ∧ w.frozen? ⟨g, pre.length + n * size + j, none⟩ = false := by
        intro j hj
        have hlt : pre.length + n * size + j < (pre ++ xs ++ post).length := by
          rw [List.length_append, List.length_append, hq.1, hpl]
          omega
        exact ⟨by rw [hg.cell (List.getElem?_eq_getElem hlt)]; rfl, hg.frozen _⟩
      subst hsize
      have hrun := run_append_room_cells (P := P) w t ty e i ht hi g pre.length n cap ad m c news hl hnews h1 hroom (fun j hj => (hsp j hj).1) (fun j hj => (hsp j hj).2)
      have hA : Arr w g e ((pre ++ xs) ++ post.take news.length ++ post.drop news.length) := by
        rw [List.append_assoc (pre ++ xs), List.take_append_drop]
        exact hg
      have hA2 := Arr.setCells news w (pre ++ xs) (post.take news.length) (post.drop news.length) (by rw [List.length_take]; omega) hA
      have e1 : (pre ++ xs).length = pre.length + n * i.size := by rw [List.length_append, hq.1]
      rw [e1] at hA2
      refine ⟨_, _, hrun, ⟨by rw [List.length_append, hq.1, hl, Nat.add_mul], Or.inr ⟨g, pre, post.drop news.length, cap, rfl, hb, ?_, hroom, hcm, ?_⟩⟩, grown_setCells g news _ w, fun g' hg' => Or.inl hg'⟩
      · rw [← List.append_assoc pre]
        exact hA2
      · rw [List.length_drop, hpl, hl, ← Nat.sub_mul]
        congr 1
        omega
    · obtain ⟨v', w', hrun, r1, r2⟩ := run_append_arg_grows (P := P) w t ty e i z size bytes ht hi hz hsize hby hzs hsz ⟨g, pre.length, none⟩ n cap xs hq.1 (fun j u hj => by rw [Addr.add_lit]; exact hcell j u hj) ad m c news hl hnews (by omega) h63 hbytes
      exact ⟨v', w', hrun, hmono r1, hgr _ r2, hfresh r1⟩

theorem step_append_q {P : Program} (w : World) {ops : Array Oper} {o : Oper} {a : Act} {K : Act → World → Prop} {Q : Exit → Act → World → Prop} {E : Prop} (hgd : o.guard = none) (s x : Operand) (t : TypeId)
    (ho : o.op = .call { callee := .builtin .append, args := #[s, x], argTypes := #[t, t] })
    (e : TypeId) (i : TypeInfo) (z : Value) (size bytes : Nat) (ht : P.underlying t = some (.slice e)) (hi : P.info? e = some i) (hz : i.zero = some z)
    (hsize : i.size = size) (hby : i.bytes = bytes) (hzs : z.cells.size = size) (hsz : 0 < size)
    (base : Nat) (v : Value) (n : Nat) (xs : List Value) (hs : a.eval s = v) (hq : QRow w base e size v n xs)
    (ad : Addr) (m c : Nat) (news : List Value) (hx : a.eval x = .slice (some ad) m c) (hm : 0 < m) (hl : news.length = m * size) (hnews : ∀ j u, news[j]? = some u → w.cell? (ad.add j) = some u) (h1 : ∀ u ∈ news, u.oneCell' = true)
    (h63 : n + m ≤ maxLen) (hbytes : (n + m) * bytes ≤ 140737488355328) (hbase : base ≤ w.heap.size)
    (h : ∀ v' w', QRow w' base e size v' (n + m) (xs ++ news) → w.grownBy w' v.ownBlock → (∀ g, v'.ownBlock = some g → v.ownBlock = some g ∨ w.heap.size ≤ g) → K (a.put o.dst v') w') : if Region.wanted o (yielded ops a.tmps) = true then Oper.wp P o a w K Q else E := by
  rw [if_pos (by simp [Region.wanted, hgd])]
  obtain ⟨v', w', hrun, r1, r2, r3⟩ := run_append_q (P := P) w t o.type e i z size bytes ht hi hz hsize hby hzs hsz base v n xs hq ad m c news hm hl hnews h1 h63 hbytes hbase
  unfold Oper.wp
  simp [execOp, ho, resolve, invoke, builtin, hs, hx, hrun, Result.andThen]
  exact h v' w' r1 r2 r3
end Go.Proofs.YtajpfkenhchafaaDoor

/- What tuskref01.Same does at two rows of the same strings: it answers true; nothing old in memory is turned. -/
namespace Go.Proofs.YtajpfkenhchafaaDoor
open Go.RowKit

theorem own_strs {w : World} {B : Nat} {ao : Option Addr} {n cap : Nat} {ss : List ByteArray} (h : w.ownsRow B 9 1 (.slice ao n cap) n ((bl ss).map strVal)) (hn : n = ss.length) : StrsAt w ao ss := by
  subst hn
  intro j hj
  rcases h.2 with ⟨hv, h0⟩ | ⟨g, cap', cur, hv, hb, hg, _⟩
  · omega
  · simp at hv
    obtain ⟨rfl, _⟩ := hv
    refine ⟨g, 0, rfl, (Array.getElem?_eq_some_iff.1 hg).1, ?_⟩
    have := h.cells (g := g) rfl j (.string ss[j]) (by simp [bl, strVal, List.getElem?_eq_getElem hj])
    rw [Go.WideShapes.add_plain] at this
    exact this

theorem StrsAt.drewN {w : World} {ao : Option Addr} {ss : List ByteArray} (h : StrsAt w ao ss) (n : Nat) : StrsAt (w.drewN n) ao ss :=
  h.below (below_drewN (Below.refl _ _) n)
end Go.Proofs.YtajpfkenhchafaaDoor
