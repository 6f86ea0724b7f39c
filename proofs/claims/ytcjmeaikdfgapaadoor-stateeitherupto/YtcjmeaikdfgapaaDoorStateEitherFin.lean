/- StateEither: for every input the statement answers true, and each argument reads afterwards as it read before. Condition: the two tables of package mix read as the program's text lays them; and what the arguments hold is together of bulk at most 1048576. -/
import Derived.Test.YtcjmeaikdfgapaaDoorAccTx
import Derived.Test.YtcjmeaikdfgapaaDoorMapStr
import Derived.Test.YtcjmeaikdfgapaaDoorAccLeast
import Derived.BigQuiet
import Derived.Deep.QuietTactic
import Derived.Test.YtcjmeaikdfgapaaDoorTxRows
import Derived.Test.YtcjmeaikdfgapaaDoorKinds
import Derived.Test.YtcjmeaikdfgapaaDoorFrame
import Derived.Deep.Slices
import Derived.Lib.SmallJoins
import Derived.Test.YtcjmeaikdfgapaaDoorTxKind
import Derived.Test.YtcjmeaikdfgapaaDoorStaWorks
import Derived.Test.YtcjmeaikdfgapaaDoorStaRich
import Derived.Test.YtcjmeaikdfgapaaDoorStaMath
import Derived.Test.YtcjmeaikdfgapaaDoorAccMath
import Derived.Test.YtcjmeaikdfgapaaDoorRows
import Derived.Shelf.SlIter.Nil
import Derived.Shelf.SortM.Plain
import Derived.Shelf.SortM.SortNone
import Derived.Shelf.SlMaps.Clone
import Derived.Ground.GgzProg
import Derived.Ground.SlgmProg
import Derived.Ground.SlmcProg
import Derived.Test.YtcjmeaikdfgapaaDoorStaLie
import Derived.Test.YtcjmeaikdfgapaaDoorKindsOwn
import Derived.Test.YtcjmeaikdfgapaaDoorStaNew
import Derived.Test.YtcjmeaikdfgapaaDoorBld
import Derived.Test.YtcjmeaikdfgapaaDoorQueue
import Derived.BigRegion
import Derived.Test.YtcjmeaikdfgapaaDoorMixAll
import Derived.Test.YtcjmeaikdfgapaaDoorTxName
import Derived.Test.YtcjmeaikdfgapaaDoorTxEncode
import Derived.Test.YtcjmeaikdfgapaaDoorTxRight
import Derived.Test.YtcjmeaikdfgapaaDoorTxFrame
import Derived.Test.YtcjmeaikdfgapaaDoorWireText
import Derived.Deep.RegionWith
import Derived.Test.YtcjmeaikdfgapaaDoorRefSame
import Derived.Test.YtcjmeaikdfgapaaDoorTxOwn
import Derived.Lib.QuietBelow
import Derived.Deep.DeepCutAuto
import Derived.Deep.CutBlock
import Derived.Deep.RegionHeld3
import Derived.JoinedCond
import Derived.Test.YtcjmeaikdfgapaaDoorCards
import Derived.Test.YtcjmeaikdfgapaaDoorTie
import Derived.SevenTiedAt
import Derived.Deep.DeepHandedRow
/- What access.Clash does. -/
namespace Go.Proofs.YtcjmeaikdfgapaaDoor
open Go Go.RowKit
set_option linter.unusedVariables false

/-- What is declared of a key. -/
def usesF (rs ws : List ByteArray) (k : ByteArray) : Option Value := if inK ws k = true then some (.int .i64 2) else if inK rs k = true then some (.int .i64 1) else none

theorem inK_snoc (l : List ByteArray) (x k : ByteArray) : inK (l ++ [x]) k = (inK l k || decide (x = k)) := by
  unfold inK
  rw [List.any_append]
  simp

theorem usesF_read {rs : List ByteArray} {i : Nat} {x : ByteArray} (hx : rs[i]? = some x) (k : ByteArray) : usesF (rs.take (i + 1)) [] k = putF (usesF (rs.take i) []) x (.int .i64 1) k := by
  rw [List.take_add_one, hx]
  unfold usesF putF
  show _ = if k = x then _ else _
  have e0 : inK [] k = false := rfl
  simp only [e0, Option.toList_some, inK_snoc]
  by_cases h : k = x
  · subst h; simp
  · rw [if_neg h]
    have : decide (x = k) = false := decide_eq_false (fun e => h e.symm)
    rw [this, Bool.or_false]

theorem usesF_write {rs ws : List ByteArray} {i : Nat} {x : ByteArray} (hx : ws[i]? = some x) (k : ByteArray) : usesF rs (ws.take (i + 1)) k = putF (usesF rs (ws.take i)) x (.int .i64 2) k := by
  rw [List.take_add_one, hx]
  unfold usesF putF
  simp only [Option.toList_some, inK_snoc]
  by_cases h : k = x
  · subst h; simp
  · rw [if_neg h]
    have : decide (x = k) = false := decide_eq_false (fun e => h e.symm)
    rw [this, Bool.or_false]

theorem putN_le (f : ByteArray → Option Value) (id : ByteArray) (n : Nat) : putN f id n ≤ n + 1 := by
  unfold putN
  split <;> omega

def GotUses (W : World) (x : TxA) (e : Ending) (w : World) : Prop :=
  ∃ b n, e = .returned (.map (some b)) ∧ SMap w b (usesF x.rs x.ws) n ∧ W.heap.size ≤ b ∧ Below W.heap.size W w

set_option maxRecDepth 100000 in
set_option maxHeartbeats 1000000 in
theorem usesA_any (x : TxA) (w : World) (hA : TxA.At w x) (lr : x.rs.length ≤ 1000000) (lw : x.ws.length ≤ 1000000) :
    Calls Tryd.prog 41 #[x.v] w fun e w' => GotUses w x e w' := by
  have hX := Arr.new w 33 x.c
  have hB := belowNew w (.cells x.c.toArray 33)
  have hM := SMap.new (w.alloc (.cells x.c.toArray 33))
  have hBm := belowNew (w.alloc (.cells x.c.toArray 33)) (.map #[] 0)
  rw [alloc_size] at hM
  have hX1 := hX.below hBm (by rw [alloc_size]; omega)
  have hB1 := hB.trans (hBm.mono (by rw [alloc_size]; omega))
  obtain ⟨hrd, hwr, hnr, hnw, hzr, hzw⟩ := hA
  obtain ⟨kind, frm, dst, amt, non, key, val, rs, ws, ra, rc, wa, wc⟩ := x
  replace lr : rs.length ≤ 1000000 := lr
  replace lw : ws.length ≤ 1000000 := lw
  replace hrd : RowAt textK w ra rs := hrd
  replace hwr : RowAt textK w wa ws := hwr
  replace hzr : ∀ s ∈ rs, s.size ≤ maxLen := hzr
  replace hzw : ∀ s ∈ ws, s.size ≤ maxLen := hzw
  have k7 := hX1.cell (i := 7) rfl
  have k8 := hX1.cell (i := 8) rfl
  have k7a := hX.cell (i := 7) rfl
  have k8a := hX.cell (i := 8) rfl
  have mk : ∀ (n : Int) (w : World), (Instr.makeMap 84 (some (.int .i64 n))).run Tryd.prog w = .ok (.map (some w.heap.size)) (w.alloc (.map #[] 0)) := fun n w => rfl
  clear hX hB hBm hnr hnw
  unfold TxA.v
  go_enter Tryd.func41, Tryd.ntmps41
  go_wp2_with fail
  go_loopw [19] (fun v19 wr => ∃ i m : Nat, i ≤ rs.length ∧ v19 = .int .i64 (i : Int) ∧ SMap wr (w.heap.size + 1) (usesF (rs.take i) []) m ∧ m ≤ i ∧ wr.cell? ⟨w.heap.size, 8, none⟩ = some (.slice wa ws.length wc) ∧ w.heap.size < wr.heap.size ∧ Below w.heap.size w wr) (fun v _ => rs.length - (intOf v).toNat)
  case atStart => exact ⟨0, 0, Nat.zero_le _, rfl, hM, Nat.le_refl _, k8, hX1.lt, hB1⟩
  case round =>
    obtain ⟨i, m, hi, rfl, hm1, hm2, hk8, hlt, hb⟩ := hrel
    clear hM hX1 hB1 k7 k8 k7a k8a
    by_cases hil : i < rs.length
    · have g1 : (i : Int) < (rs.length : Int) := by omega
      obtain ⟨y, hy⟩ : ∃ p, rs[i]? = some p := ⟨_, List.getElem?_eq_getElem hil⟩
      obtain ⟨b, off, rfl, hbl, hcell⟩ := (hrd.below hb).txt hy
      have hid := hzr y (List.mem_of_getElem? hy)
      have hmx : m < maxLen := by unfold maxLen; omega
      have hnx : Hid (∀ k, usesF (rs.take (i + 1)) [] k = putF (usesF (rs.take i) []) y (.int .i64 1) k) := usesF_read hy
      go_wp2_with (at_mapUpdate; refine smap_put rfl _ _ _ 84 rfl 3 Tryd.underlying84 (w.heap.size + 1) _ _ rfl hm1 hmx y hid rfl _ rfl ?_; intro w5 hM5 hk5)
      have hp := putN_le (usesF (rs.take i) []) y m
      go_roundw
      case rel => exact ⟨i + 1, _, by omega, by go_num, hM5.congr hnx.out, by omega, by rw [hk5.cell (p := ⟨w.heap.size, 8, none⟩) hlt (fun e => by have : w.heap.size = w.heap.size + 1 := e; omega)]; exact hk8, Nat.lt_of_lt_of_le hlt hk5.size, hb.trans (hk5.below hb.size (fun k e => by have : k = w.heap.size + 1 := e; omega))⟩
      case measure => simp [intOf]; omega
    · have g1 : ¬ (i : Int) < (rs.length : Int) := by omega
      have hir : i = rs.length := by omega
      rw [hir, List.take_length] at hm1
      have hm2' : m ≤ rs.length := by omega
      clear hir hm2 hil hi hrd
      go_wp2_with fail
      go_loopw [29] (fun v29 wr => ∃ i m : Nat, i ≤ ws.length ∧ v29 = .int .i64 (i : Int) ∧ SMap wr (w.heap.size + 1) (usesF rs (ws.take i)) m ∧ m ≤ rs.length + i ∧ Below w.heap.size w wr) (fun v _ => ws.length - (intOf v).toNat)
      case atStart => exact ⟨0, m, Nat.zero_le _, rfl, hm1, by omega, hb⟩
      case round =>
        obtain ⟨i, m, hi, rfl, hm1, hm2, hb⟩ := hrel
        by_cases hil : i < ws.length
        · have g1 : (i : Int) < (ws.length : Int) := by omega
          obtain ⟨y, hy⟩ : ∃ p, ws[i]? = some p := ⟨_, List.getElem?_eq_getElem hil⟩
          obtain ⟨b, off, rfl, hbl, hcell⟩ := (hwr.below hb).txt hy
          have hid := hzw y (List.mem_of_getElem? hy)
          have hmx : m < maxLen := by unfold maxLen; omega
          have hnx : Hid (∀ k, usesF rs (ws.take (i + 1)) k = putF (usesF rs (ws.take i)) y (.int .i64 2) k) := usesF_write hy
          go_wp2_with (at_mapUpdate; refine smap_put rfl _ _ _ 84 rfl 3 Tryd.underlying84 (w.heap.size + 1) _ _ rfl hm1 hmx y hid rfl _ rfl ?_; intro w5 hM5 hk5)
          have hp := putN_le (usesF rs (ws.take i)) y m
          go_roundw
          case rel => exact ⟨i + 1, _, by omega, by go_num, hM5.congr hnx.out, by omega, hb.trans (hk5.below hb.size (fun k e => by have : k = w.heap.size + 1 := e; omega))⟩
          case measure => simp [intOf]; omega
        · have g1 : ¬ (i : Int) < (ws.length : Int) := by omega
          have hir : i = ws.length := by omega
          rw [hir, List.take_length] at hm1
          clear hir hm2 hil hi
          go_wp2
          go_ret
          exact ⟨_, _, rfl, hm1, by omega, hb⟩

set_option maxRecDepth 100000 in
theorem zeroIntA (w : World) : (zeroValue 3).run Tryd.prog w = .ok (.int .i64 0) w := by rfl

theorem clash_uses (a b : RwD) : clashB a b = (b.ws.any (fun y => inK a.ws y || inK a.rs y) || b.rs.any (fun y => inK a.ws y)) := by
  rw [Bool.eq_iff_iff, clashB_iff]
  simp only [Bool.or_eq_true, List.any_eq_true, inK_iff]
  constructor
  · rintro (⟨k, h1, h2 | h2⟩ | ⟨k, h1, h2⟩)
    · exact Or.inl ⟨k, h2, Or.inl h1⟩
    · exact Or.inr ⟨k, h2, h1⟩
    · exact Or.inl ⟨k, h1, Or.inr h2⟩
  · rintro (⟨k, h1, h2 | h2⟩ | ⟨k, h1, h2⟩)
    · exact Or.inl ⟨k, h2, Or.inl h1⟩
    · exact Or.inr ⟨k, h1, h2⟩
    · exact Or.inl ⟨k, h2, Or.inr h1⟩

theorem two_newA (w : World) (x y : TxA) : ∃ w2, w2 = (w.alloc (.cells x.c.toArray 33)).alloc (.cells y.c.toArray 33) ∧ Arr w2 w.heap.size 33 x.c ∧ Arr w2 (w.heap.size + 1) 33 y.c ∧ Below w.heap.size w w2 := by
  obtain ⟨h1, h2, h3⟩ := two_new w 33 33 x.c y.c
  exact ⟨_, rfl, h1, h2, h3⟩

theorem take_any {α : Type} {l : List α} {p : α → Bool} {i : Nat} {x : α} (hx : l[i]? = some x) (h : (l.take i).any p = false) (hp : p x = false) : (l.take (i + 1)).any p = false := by
  rw [List.take_add_one, hx, List.any_append, h]
  simp [hp]

theorem any_hit {α : Type} {l : List α} {p : α → Bool} {i : Nat} {x : α} (hx : l[i]? = some x) (hp : p x = true) : l.any p = true := List.any_eq_true.2 ⟨x, List.mem_of_getElem? hx, hp⟩

set_option maxRecDepth 100000 in
set_option maxHeartbeats 1000000 in
theorem clashA_any (x y : TxA) (w : World) (hA : TxA.At w x) (hB : TxA.At w y) (xr : x.rs.length ≤ 1000000) (xw : x.ws.length ≤ 1000000) (yr : y.rs.length ≤ 1000000) (yw : y.ws.length ≤ 1000000) :
    Calls Tryd.prog 23 #[x.v, y.v] w fun e w' => e = .returned (.bool (clashB x.rw y.rw)) ∧ Below w.heap.size w w' := by
  obtain ⟨w2, hw2, hX, hY, hb2⟩ := two_newA w x y
  have hU := usesA_any x w2 (hA.below hb2) xr xw
  have hrd := hB.rd
  have hwr := hB.wr
  have hzr := hB.zr
  have hzw := hB.zw
  rw [clash_uses]
  obtain ⟨kind, frm, dst, amt, non, key, val, rs, ws, ra, rc, wa, wc⟩ := x
  obtain ⟨kind', frm', dst', amt', non', key', val', rs', ws', ra', rc', wa', wc'⟩ := y
  show Calls _ _ _ _ fun e w' => e = .returned (.bool (ws'.any (fun y => inK ws y || inK rs y) || rs'.any (fun y => inK ws y))) ∧ _
  replace hw2 : (w.alloc (.cells #[.int .i64 kind, .string frm, .string dst, .int .u64 amt, .int .u64 non, .string key, .string val, .slice ra rs.length rc, .slice wa ws.length wc] 33)).alloc (.cells #[.int .i64 kind', .string frm', .string dst', .int .u64 amt', .int .u64 non', .string key', .string val', .slice ra' rs'.length rc', .slice wa' ws'.length wc'] 33) = w2 := hw2.symm
  replace hrd : RowAt textK w ra' rs' := hrd
  replace hwr : RowAt textK w wa' ws' := hwr
  replace hzr : ∀ s ∈ rs', s.size ≤ maxLen := hzr
  replace hzw : ∀ s ∈ ws', s.size ≤ maxLen := hzw
  replace yr : rs'.length ≤ 1000000 := yr
  replace yw : ws'.length ≤ 1000000 := yw
  have x0 := hX.cell (i := 0) rfl
  have x1 := hX.cell (i := 1) rfl
  have x2 := hX.cell (i := 2) rfl
  have x3 := hX.cell (i := 3) rfl
  have x4 := hX.cell (i := 4) rfl
  have x5 := hX.cell (i := 5) rfl
  have x6 := hX.cell (i := 6) rfl
  have x7 := hX.cell (i := 7) rfl
  have x8 := hX.cell (i := 8) rfl
  clear hA hB
  unfold TxA.v at hU ⊢
  go_enter Tryd.func23, Tryd.ntmps23
  go_wp2_with (go_at_call 41; refine hU.mono ?_; rintro _ w3 ⟨mb, mn, rfl, hM, hmb, hb3⟩; have hY3 := hY.below hb3 hY.lt; have y7 := hY3.cell (i := 7) rfl; have y8 := hY3.cell (i := 8) rfl; clear x0 x1 x2 x3 x4 x5 x6 x7 x8 hX hY hU hw2)
  replace hM : SMap w3 mb (usesF rs ws) mn := hM
  have hbw := hb2.trans (hb3.mono hb2.size)
  have hrd3 := hrd.below hbw
  have hwr3 := hwr.below hbw
  clear hb2 hb3 hrd hwr hmb
  go_loopw [15] (fun v15 wr => ∃ i : Nat, i ≤ ws'.length ∧ v15 = .int .i64 (i : Int) ∧ Hid ((ws'.take i).any (fun y => inK ws y || inK rs y) = false) ∧ wr = w3) (fun v _ => ws'.length - (intOf v).toNat)
  case atStart => exact ⟨0, Nat.zero_le _, rfl, rfl, rfl⟩
  case round =>
    obtain ⟨i, hi, rfl, hno, rfl⟩ := hrel
    by_cases hil : i < ws'.length
    · have g1 : (i : Int) < (ws'.length : Int) := by omega
      obtain ⟨y, hy⟩ : ∃ p, ws'[i]? = some p := ⟨_, List.getElem?_eq_getElem hil⟩
      obtain ⟨b, off, rfl, hbl, hcell⟩ := hwr3.txt hy
      have hid := hzw y (List.mem_of_getElem? hy)
      cases hu : (inK ws y || inK rs y) with
      | true =>
        have hres : Hid (ws'.any (fun y => inK ws y || inK rs y) = true) := any_hit hy hu
        obtain ⟨n, hn0, hun⟩ : ∃ n : Int, ((n == 0) = false) ∧ Hid (usesF rs ws y = some (.int .i64 n)) := by
          unfold Hid usesF
          by_cases h1 : inK ws y = true
          · exact ⟨2, rfl, by rw [if_pos h1]⟩
          · have h2 : inK rs y = true := by rw [Bool.not_eq_true] at h1; rw [h1] at hu; simpa using hu
            exact ⟨1, rfl, by rw [if_neg h1, if_pos h2]⟩
        clear hu
        go_wp2_with (at_lookup; refine smap_look (by rfl) _ _ 84 rfl 3 Tryd.underlying84 _ (zeroIntA _) mb _ _ rfl hM y hid rfl ?_; rw [hun.out]; simp only [Option.getD_some])
        go_ret
        exact ⟨by rw [hres.out]; rfl, hbw⟩
      | false =>
        have hno' : Hid ((ws'.take (i + 1)).any (fun y => inK ws y || inK rs y) = false) := take_any hy hno.out hu
        have hun : Hid (usesF rs ws y = none) := by
          unfold Hid usesF
          rw [Bool.or_eq_false_iff] at hu
          rw [hu.1, hu.2]
          rfl
        clear hu hno
        go_wp2_with (at_lookup; refine smap_look (by rfl) _ _ 84 rfl 3 Tryd.underlying84 _ (zeroIntA _) mb _ _ rfl hM y hid rfl ?_; rw [hun.out]; simp only [Option.getD_none])
        go_roundw
        case rel => exact ⟨i + 1, by omega, by go_num, hno', by trivial⟩
        case measure => simp [intOf]; omega
    · have g1 : ¬ (i : Int) < (ws'.length : Int) := by omega
      have hir : i = ws'.length := by omega
      have hN : Hid (ws'.any (fun y => inK ws y || inK rs y) = false) := by
        have := hno.out
        rw [hir, List.take_length] at this
        exact this
      clear hir hno hil hi
      go_wp2_with fail
      go_loopw [27] (fun v27 wz => ∃ i : Nat, i ≤ rs'.length ∧ v27 = .int .i64 (i : Int) ∧ Hid ((rs'.take i).any (fun y => inK ws y) = false) ∧ wz = wr) (fun v _ => rs'.length - (intOf v).toNat)
      case atStart => exact ⟨0, Nat.zero_le _, rfl, rfl, rfl⟩
      case round =>
        obtain ⟨i, hi, rfl, hno, rfl⟩ := hrel
        by_cases hil : i < rs'.length
        · have g1 : (i : Int) < (rs'.length : Int) := by omega
          obtain ⟨y, hy⟩ : ∃ p, rs'[i]? = some p := ⟨_, List.getElem?_eq_getElem hil⟩
          obtain ⟨b, off, rfl, hbl, hcell⟩ := hrd3.txt hy
          have hid := hzr y (List.mem_of_getElem? hy)
          cases hu : inK ws y with
          | true =>
            have hres : Hid (rs'.any (fun y => inK ws y) = true) := any_hit hy hu
            have hun : Hid (usesF rs ws y = some (.int .i64 2)) := by
              unfold Hid usesF
              rw [if_pos hu]
            clear hu
            go_wp2_with (at_lookup; refine smap_look (by rfl) _ _ 84 rfl 3 Tryd.underlying84 _ (zeroIntA _) mb _ _ rfl hM y hid rfl ?_; rw [hun.out]; simp only [Option.getD_some])
            go_ret
            exact ⟨by rw [hres.out, Bool.or_true]; rfl, hbw⟩
          | false =>
            have hno' : Hid ((rs'.take (i + 1)).any (fun y => inK ws y) = false) := take_any hy hno.out hu
            obtain ⟨n, hn0, hun⟩ : ∃ n : Int, ((n == 2) = false) ∧ Hid ((usesF rs ws y).getD (.int .i64 0) = .int .i64 n) := by
              unfold Hid usesF
              rw [hu]
              by_cases h2 : inK rs y = true
              · exact ⟨1, rfl, by rw [if_pos h2]; rfl⟩
              · exact ⟨0, rfl, by rw [if_neg h2]; rfl⟩
            clear hu hno
            go_wp2_with (at_lookup; refine smap_look (by rfl) _ _ 84 rfl 3 Tryd.underlying84 _ (zeroIntA _) mb _ _ rfl hM y hid rfl ?_; rw [hun.out])
            go_roundw
            case rel => exact ⟨i + 1, by omega, by go_num, hno', by trivial⟩
            case measure => simp [intOf]; omega
        · have g1 : ¬ (i : Int) < (rs'.length : Int) := by omega
          have hir : i = rs'.length := by omega
          have hN2 : Hid (rs'.any (fun y => inK ws y) = false) := by
            have := hno.out
            rw [hir, List.take_length] at this
            exact this
          clear hir hno hil hi
          go_wp2
          go_ret
          exact ⟨by rw [hN.out, hN2.out]; rfl, hbw⟩
end Go.Proofs.YtcjmeaikdfgapaaDoor

/- What (access.groups).joinBy, access.lastWriters and access.Groups do. -/
namespace Go.Proofs.YtcjmeaikdfgapaaDoor
open Go Go.RowKit
set_option linter.unusedVariables false

/-- The last writers, as a map tells them. -/
def lastF (l : List RwD) (key : ByteArray) : Option Value := (lastN l key l.length).map (fun w => .int .i64 ((w : Nat) : Int))

/-- All these keys' last writers are joined with member i. -/
def JnK (l : List RwD) (g : List Nat) (i : Nat) (ks : List ByteArray) : Prop := ∀ key ∈ ks, ∀ w, lastN l key l.length = some w → Same2 g i w

theorem JnK.mono {l : List RwD} {g g' : List Nat} {i : Nat} {ks : List ByteArray} (h : JnK l g i ks) (hs : ∀ x y, Same2 g x y → Same2 g' x y) : JnK l g' i ks := fun key hk w hw => hs _ _ (h key hk w hw)

theorem JnK.more {l : List RwD} {g : List Nat} {i j : Nat} {ks : List ByteArray} {y : ByteArray} (hy : ks[j]? = some y) (h : JnK l g i (ks.take j)) (hn : ∀ w, lastN l y l.length = some w → Same2 g i w) : JnK l g i (ks.take (j + 1)) := by
  intro key hk w hw
  rw [List.take_add_one, hy, List.mem_append] at hk
  rcases hk with hk | hk
  · exact h key hk w hw
  · simp only [Option.toList_some, List.mem_singleton] at hk
    subst hk
    exact hn w hw

/-- A member is joined with the last writers of its keys. -/
def GotJoinBy (l : List RwD) (W : World) (B g : Nat) (q : Value) (gl : List Nat) (i : Nat) (ks : List ByteArray) (e : Ending) (w : World) : Prop :=
  e = .returned (.tuple #[]) ∧ ∃ gl', KQ natK 3 w B q gl' ∧ UF l gl' ∧ (∀ x y, Same2 gl x y → Same2 gl' x y) ∧ JnK l gl' i ks ∧ Kept (fun k => k = g) W w
end Go.Proofs.YtcjmeaikdfgapaaDoor

/- What access.lastWriters does. -/
namespace Go.Proofs.YtcjmeaikdfgapaaDoor
open Go Go.RowKit
set_option linter.unusedVariables false

/-- Transactions are few, and their keys. -/
def Few (l : List TxA) : Prop := l.length ≤ 1000 ∧ ∀ x ∈ l, x.rs.length ≤ 1000 ∧ x.ws.length ≤ 1000

/-- The last writers among the first i members, and of member i's first keys. -/
def lastP (l : List RwD) (i : Nat) (ks : List ByteArray) (key : ByteArray) : Option Value :=
  if inK ks key = true then some (.int .i64 ((i : Nat) : Int)) else (lastN l key i).map (fun w => .int .i64 ((w : Nat) : Int))

theorem lastP_put {l : List RwD} {i j : Nat} {ks : List ByteArray} {y : ByteArray} (hy : ks[j]? = some y) (k : ByteArray) : lastP l i (ks.take (j + 1)) k = putF (lastP l i (ks.take j)) y (.int .i64 ((i : Nat) : Int)) k := by
  rw [List.take_add_one, hy]
  unfold lastP putF
  simp only [Option.toList_some, inK_snoc]
  by_cases h : k = y
  · subst h; simp
  · rw [if_neg h]
    have : decide (y = k) = false := decide_eq_false (fun e => h e.symm)
    rw [this, Bool.or_false]

theorem lastP_end {l : List RwD} {i : Nat} {t : RwD} (ht : l[i]? = some t) (k : ByteArray) : lastP l (i + 1) [] k = lastP l i t.ws k := by
  have h1 : lastN l k (i + 1) = match l[i]? with | some t => if inK t.ws k = true then some i else lastN l k i | none => lastN l k i := rfl
  unfold lastP
  have e0 : inK [] k = false := rfl
  rw [e0, h1, ht]
  simp only [Bool.false_eq_true, if_false]
  by_cases h : inK t.ws k = true
  · rw [if_pos h, if_pos h]; rfl
  · rw [if_neg h, if_neg h]

theorem lastP_start (l : List RwD) (k : ByteArray) : lastP l 0 [] k = none := rfl

def GotLast (W : World) (l : List RwD) (e : Ending) (w : World) : Prop :=
  ∃ b n, e = .returned (.map (some b)) ∧ SMap w b (lastF l) n ∧ W.heap.size ≤ b ∧ Below W.heap.size W w
end Go.Proofs.YtcjmeaikdfgapaaDoor

/- What tusklaw20.Great does. -/
namespace Go.Proofs.YtcjmeaikdfgapaaDoor
open Go Go.RowKit
set_option linter.unusedVariables false

/-- How much transactions are, with their keys. -/
def totA (l : List TxA) : Nat := (l.map (fun x => 1 + x.rs.length + x.ws.length)).sum

theorem totA_next {l : List TxA} {i : Nat} {x : TxA} (h : l[i]? = some x) : totA (l.take (i + 1)) = totA (l.take i) + (1 + x.rs.length + x.ws.length) := by
  unfold totA
  rw [List.take_add_one, h, Option.toList_some, List.map_append, List.sum_append]
  simp

theorem totA_le (l : List TxA) (i : Nat) : totA (l.take i) ≤ totA l := by
  have h : totA l = totA (l.take i) + totA (l.drop i) := by
    conv => lhs; rw [← List.take_append_drop i l]
    unfold totA
    rw [List.map_append, List.sum_append]
  omega

theorem totA_mem {l : List TxA} {x : TxA} (h : x ∈ l) : 1 + x.rs.length + x.ws.length ≤ totA l := by
  obtain ⟨i, hi⟩ := List.mem_iff_getElem?.1 h
  have h1 := totA_next hi
  have h2 := totA_le l (i + 1)
  omega

theorem totA_length : ∀ (l : List TxA), l.length ≤ totA l
  | [] => Nat.le_refl _
  | x :: l => by
    have := totA_length l
    have e : totA (x :: l) = (1 + x.rs.length + x.ws.length) + totA l := by simp [totA]
    rw [List.length_cons, e]
    omega

/-- Are they too many? -/
def greatA (l : List TxA) : Bool := decide (500 < totA l)

theorem few_of {l : List TxA} (h : greatA l = false) : Few l := by
  have h1 := of_decide_eq_false h
  have h2 := totA_length l
  refine ⟨by omega, fun x hx => ?_⟩
  have := totA_mem hx
  omega

/-- What a machine has at most. -/
def Wide (l : List TxA) : Prop := l.length ≤ 17592186044416 ∧ ∀ x ∈ l, x.rs.length ≤ 17592186044416 ∧ x.ws.length ≤ 17592186044416

set_option maxRecDepth 100000 in
set_option maxHeartbeats 2000000 in
theorem great_any (l : List TxA) (ao : Option Addr) (cp : Nat) (w : World) (hl : RowAt txA w ao l) (hw : Wide l) :
    Calls Tryd.prog 8 #[.slice ao l.length cp] w fun e w' => e = .returned (.bool (greatA l)) ∧ Below w.heap.size w w' := by
  obtain ⟨hn, hx⟩ := hw
  go_enter Tryd.func8, Tryd.ntmps8
  go_wp2_with fail
  go_loopw [3, 4] (fun v3 v4 wr => ∃ i n : Nat, i ≤ l.length ∧ v3 = .int .i64 (n : Int) ∧ v4 = .int .i64 (i : Int) ∧ Hid (n = totA (l.take i)) ∧ n ≤ 140737488355328 ∧ Below w.heap.size w wr) (fun _ v _ => l.length - (intOf v).toNat)
  case atStart => exact ⟨0, 0, Nat.zero_le _, rfl, rfl, rfl, by omega, Below.refl _ _⟩
  case round =>
    obtain ⟨i, n, hi, rfl, rfl, hnt, hnm, hb⟩ := hrel
    by_cases hil : i < l.length
    · have g1 : (i : Int) < (l.length : Int) := by omega
      by_cases hn5 : n ≤ 500
      · have g2 : (n : Int) ≤ 500 := by omega
        obtain ⟨x, hx1⟩ : ∃ p, l[i]? = some p := ⟨_, List.getElem?_eq_getElem hil⟩
        obtain ⟨b, off, rfl, hbl, x0, x1, x2, x3, x4, x5, x6, x7, x8, hA⟩ := (hl.below hb).tx hx1
        obtain ⟨hxr, hxw⟩ := hx x (List.mem_of_getElem? hx1)
        have hnx : Hid (n + 1 + x.rs.length + x.ws.length = totA (l.take (i + 1))) := by unfold Hid; rw [totA_next hx1, ← hnt.out]; omega
        have hx' : Hid _ := hx1
        clear hnt hx1 hA hx
        go_wp2_with fail
        go_quiet (fail)
        go_wp2
        go_roundw
        case rel => exact ⟨i + 1, n + 1 + x.rs.length + x.ws.length, by omega, by go_num, by go_num, hnx, by omega, below_drewN hb _⟩
        case measure => simp [intOf]; omega
      · have g2 : ¬ (n : Int) ≤ 500 := by omega
        have g3 : (500 : Int) < (n : Int) := by omega
        have hfin : Hid (greatA l = true) := by
          unfold Hid greatA
          refine decide_eq_true ?_
          have := totA_le l i
          rw [← hnt.out] at this
          omega
        clear hnt
        go_wp2
        go_ret
        exact ⟨by rw [hfin.out]; rfl, hb⟩
    · have g1 : ¬ (i : Int) < (l.length : Int) := by omega
      have hnt2 : n = totA l := by
        have := hnt.out
        rw [show i = l.length by omega, List.take_length] at this
        exact this
      clear hnt
      by_cases hn5 : n ≤ 500
      · have g3 : ¬ (500 : Int) < (n : Int) := by omega
        have hfin : Hid (greatA l = false) := by
          unfold Hid greatA
          exact decide_eq_false (by omega)
        clear hnt2
        go_wp2
        go_ret
        exact ⟨by rw [hfin.out]; rfl, hb⟩
      · have g3 : (500 : Int) < (n : Int) := by omega
        have hfin : Hid (greatA l = true) := by
          unfold Hid greatA
          exact decide_eq_true (by omega)
        clear hnt2
        go_wp2
        go_ret
        exact ⟨by rw [hfin.out]; rfl, hb⟩
end Go.Proofs.YtcjmeaikdfgapaaDoor

/- How a row of transactions that came in is opened. (Laid only where the dump has []api.Tx: not yet built.) -/
namespace Go.Proofs.YtcjmeaikdfgapaaDoor
open Go.ChangeShapes Go.WideShapes Go.ChangeAt Go.RowKit Go.Joins Go.Deep
set_option linter.unusedVariables false

/-- How a row of transactions reads. -/
def TxsDatum {H : Type} (d : DataW H) (l : List TxM) : Prop :=
  (d = .nil ∧ l = []) ∨ ∃ (ds rest : List (DataW H)), d = .slice ds rest ∧ ds.length = l.length ∧ ∀ (i : Nat) (y : DataW H) (x : TxM), ds[i]? = some y → l[i]? = some x → TxDatum y x.d

set_option maxRecDepth 100000 in
/-- A row of transactions that came in. -/
theorem open_txs {H : Type} {enc : TypeId × Value → H} {W : World} {fuel : Nat} {a : Option Addr} {len cap : Nat} {y : DataW H × List MemPlace}
    (hf : DataW.trod enc Tryd.prog W 0 (fun _ => true) true fuel 24 [.slice a len cap] = some y) :
    ∃ l : List TxM, l.length = len ∧ TxsAt W a l ∧ (∀ x ∈ l, TxSizes x.d) ∧ (a = none → cap = 0) ∧ len ≤ maxLen ∧ TxsDatum y.1 l := by
  rcases open_slice Tryd.underlying24 hf with ⟨hcs, hx⟩ | ⟨x, l, c, m, n, D, Pl, hcs, _, hl, hm, hmm, hx, hc⟩
  · simp at hcs
    obtain ⟨rfl, rfl, rfl⟩ := hcs
    exact ⟨[], rfl, nil_txs _ _, by simp, fun _ => rfl, Nat.zero_le _, Or.inl ⟨by rw [hx], rfl⟩⟩
  · simp at hcs
    obtain ⟨rfl, rfl, rfl⟩ := hcs
    simp at hmm
    subst hmm
    have hall : ∀ i : Nat, ∃ q : TxM, i < len → (∀ j v, q.c[j]? = some v → W.cell? (x.add (i * 9 + j)) = some v) ∧ q.At W ∧ TxSizes q.d ∧ TxDatum (D i) q.d := by
      intro i
      by_cases hi : i < len
      · obtain ⟨cs', h1, h2⟩ := hc i (by omega)
        rw [cellsTx] at h1
        obtain ⟨_, hlen, hcell⟩ := World.cells?_some h1
        obtain ⟨q, rfl, q2, q3, q4⟩ := open_tx_cells h2
        refine ⟨q, fun _ => ⟨fun j v hv => ?_, q2, q3, q4⟩⟩
        have hj : j < q.c.length := (List.getElem?_eq_some_iff.1 hv).1
        have := hcell j (by rw [TxM.c_length] at hj; exact hj)
        rw [add_add] at this
        rw [this, hv]
      · exact ⟨⟨.none, none, 0, none, 0⟩, fun h => absurd h hi⟩
    obtain ⟨Y, hY⟩ := Classical.axiomOfChoice hall
    refine ⟨(List.range len).map Y, by simp, ?_, ?_, (fun h => by cases h), by omega, Or.inr ⟨_, _, by rw [hx], by simp, ?_⟩⟩
    · intro i q hq
      have hi : i < len := by
        by_cases hi : i < len
        · exact hi
        · rw [List.getElem?_eq_none (by simp; omega)] at hq
          cases hq
      obtain rfl : Y i = q := by simpa [hi] using hq
      obtain ⟨c0, q2, _, _⟩ := hY i hi
      obtain ⟨b, off, spot⟩ := x
      have hz := (hY 0 (by omega)).1 0 _ rfl
      have hspot : spot = none := by simpa [Addr.add] using World.cell?_spot hz
      subst hspot
      have hb0 := c0 0 _ rfl
      rw [Go.WideShapes.add_plain] at hb0
      refine ⟨⟨b, off, rfl, World.block_lt_of_cell? W _ hb0, fun j v hv => ?_⟩, q2⟩
      have := c0 j v hv
      rw [Go.WideShapes.add_plain] at this
      rw [← this, Nat.add_assoc]
    · intro q hq
      obtain ⟨i, hi, rfl⟩ := List.mem_map.1 hq
      exact (hY i (by simpa using hi)).2.2.1
    · intro i y' q hy hq
      have hi : i < len := by
        by_cases hi : i < len
        · exact hi
        · rw [List.getElem?_eq_none (by simp; omega)] at hq
          cases hq
      obtain rfl : Y i = q := by simpa [hi] using hq
      obtain rfl : D i = y' := by simpa [hi] using hy
      exact (hY i hi).2.2.2
end Go.Proofs.YtcjmeaikdfgapaaDoor

/- How a row of whatever elements that came in is opened. -/
namespace Go.Proofs.YtcjmeaikdfgapaaDoor
open Go.ChangeShapes Go.WideShapes Go.ChangeAt Go.RowKit Go.Joins Go.Deep
set_option linter.unusedVariables false

/-- How a row reads, its elements as Q says. -/
def RowD {H α : Type} (Q : DataW H → α → Prop) (d : DataW H) (l : List α) : Prop :=
  (d = .nil ∧ l = []) ∨ ∃ (ds rest : List (DataW H)), d = .slice ds rest ∧ ds.length = l.length ∧ ∀ (i : Nat) (y : DataW H) (x : α), ds[i]? = some y → l[i]? = some x → Q y x

set_option maxRecDepth 100000 in
theorem open_row {α : Type} [Inhabited α] (K : Kind α) {H : Type} {enc : TypeId × Value → H} {W : World} {T E : TypeId} (Q : DataW H → α → Prop) (hT : Tryd.prog.underlying T = some (.slice E)) (hE : Tryd.prog.cellsOf E = K.n)
    (opens : ∀ {fuel cs y}, DataW.trod enc Tryd.prog W 0 (fun _ => true) true fuel E cs = some y → ∃ x : α, cs = K.c x ∧ K.At W x ∧ Q y.1 x)
    {fuel : Nat} {a : Option Addr} {len cap : Nat} {y : DataW H × List MemPlace} (hf : DataW.trod enc Tryd.prog W 0 (fun _ => true) true fuel T [.slice a len cap] = some y) :
    ∃ l : List α, l.length = len ∧ RowAt K W a l ∧ (a = none → cap = 0) ∧ len ≤ maxLen ∧ RowD Q y.1 l := by
  rcases open_slice hT hf with ⟨hcs, hx⟩ | ⟨x, l, c, m, n, D, Pl, hcs, _, hl, hm, hmm, hx, hc⟩
  · simp at hcs
    obtain ⟨rfl, rfl, rfl⟩ := hcs
    exact ⟨[], rfl, nil_row _ _, fun _ => rfl, Nat.zero_le _, Or.inl ⟨by rw [hx], rfl⟩⟩
  · simp at hcs
    obtain ⟨rfl, rfl, rfl⟩ := hcs
    simp at hmm
    subst hmm
    have hall : ∀ i : Nat, ∃ q : α, i < len → (∀ j v, (K.c q)[j]? = some v → W.cell? (x.add (i * K.n + j)) = some v) ∧ K.At W q ∧ Q (D i) q := by
      intro i
      by_cases hi : i < len
      · obtain ⟨cs', h1, h2⟩ := hc i (by omega)
        rw [hE] at h1
        obtain ⟨_, hlen, hcell⟩ := World.cells?_some h1
        obtain ⟨q, rfl, q2, q3⟩ := opens h2
        refine ⟨q, fun _ => ⟨fun j v hv => ?_, q2, q3⟩⟩
        have hj : j < (K.c q).length := (List.getElem?_eq_some_iff.1 hv).1
        have := hcell j (by rw [K.len] at hj; exact hj)
        rw [add_add] at this
        rw [this, hv]
      · exact ⟨default, fun h => absurd h hi⟩
    obtain ⟨Y, hY⟩ := Classical.axiomOfChoice hall
    have hc0 : ∀ q : α, ∃ v, (K.c q)[0]? = some v := fun q => ⟨(K.c q)[0]'(by rw [K.len]; exact K.pos), List.getElem?_eq_getElem _⟩
    refine ⟨(List.range len).map Y, by simp, ⟨?_, ?_⟩, (fun h => by cases h), by omega, Or.inr ⟨_, _, by rw [hx], by simp, ?_⟩⟩
    · intro i q hq
      have hi : i < len := by
        by_cases hi : i < len
        · exact hi
        · rw [List.getElem?_eq_none (by simp; omega)] at hq
          cases hq
      obtain rfl : Y i = q := by simpa [hi] using hq
      obtain ⟨c0, q2, _⟩ := hY i hi
      obtain ⟨b, off, spot⟩ := x
      obtain ⟨v0, hv0⟩ := hc0 (Y 0)
      have hz := (hY 0 (by omega)).1 0 _ hv0
      have hspot : spot = none := by simpa [Addr.add] using World.cell?_spot hz
      subst hspot
      obtain ⟨v1, hv1⟩ := hc0 (Y i)
      have hb0 := c0 0 _ hv1
      rw [Go.WideShapes.add_plain] at hb0
      refine ⟨b, off, rfl, World.block_lt_of_cell? W _ hb0, fun j v hv => ?_⟩
      have := c0 j v hv
      rw [Go.WideShapes.add_plain] at this
      rw [← this, Nat.add_assoc]
    · intro q hq
      obtain ⟨i, hi, rfl⟩ := List.mem_map.1 hq
      exact (hY i (by simpa using hi)).2.1
    · intro i y' q hy hq
      have hi : i < len := by
        by_cases hi : i < len
        · exact hi
        · rw [List.getElem?_eq_none (by simp; omega)] at hq
          cases hq
      obtain rfl : Y i = q := by simpa [hi] using hq
      obtain rfl : D i = y' := by simpa [hi] using hy
      exact (hY i hi).2.2

theorem weightsAll_of {H : Type} {P : Program} {e : TypeId} : ∀ {l : List (DataW H)} {d : DataW H}, d ∈ l → ∀ n ∈ d.weights P e, n ∈ DataW.weightsAll P e l
  | [], d, h, _, _ => by cases h
  | x :: r, d, h, n, hn => by
    rw [List.mem_cons] at h
    rw [DataW.weightsAll, List.mem_append]
    rcases h with rfl | h
    · exact Or.inl hn
    · exact Or.inr (weightsAll_of h n hn)

theorem weights_of {H : Type} {P : Program} {ts : List TypeId} {ds : List (DataW H)} (h : (DataW.weightsEach P ts ds).all (· ≤ reachBytes) = true) {j : Nat} {t : TypeId} {d : DataW H} (ht : ts[j]? = some t) (hd : ds[j]? = some d) : ∀ n ∈ d.weights P t, n ≤ reachBytes :=
  fun n hn => by simpa using List.all_eq_true.1 h n (DataW.weights_mem_each ht hd n hn)

/-- The sizes of a row's elements, and of the row. -/
theorem RowD.fit {H α : Type} {Q : DataW H → α → Prop} {d : DataW H} {l : List α} (hd : RowD Q d l) {T E : TypeId} (hT : Tryd.prog.underlying T = some (.slice E)) (h : ∀ n ∈ d.weights Tryd.prog T, n ≤ reachBytes) :
    l.length * Tryd.prog.bytesOf E ≤ reachBytes ∧ ∀ x ∈ l, ∃ y, Q y x ∧ ∀ n ∈ y.weights Tryd.prog E, n ≤ reachBytes := by
  rcases hd with ⟨rfl, rfl⟩ | ⟨ds, rest, rfl, hl, hq⟩
  · simp
  · refine ⟨?_, fun x hx => ?_⟩
    · have := h ((ds.length + rest.length) * Tryd.prog.bytesOf E) (by simp [DataW.weights, hT])
      rw [← hl]
      exact Nat.le_trans (Nat.mul_le_mul_right _ (by omega)) this
    · obtain ⟨i, hi⟩ := List.getElem?_of_mem hx
      have hi' : i < ds.length := by have := (List.getElem?_eq_some_iff.1 hi).1; omega
      refine ⟨ds[i], hq i ds[i] x (List.getElem?_eq_getElem hi') hi, fun n hn => h n ?_⟩
      rw [DataW.weights, hT]
      simp only [List.mem_cons, List.mem_append]
      exact Or.inr (Or.inl (weightsAll_of (List.getElem_mem hi') n hn))

theorem bulk_part {H : Type} {d : DataW H} : ∀ {l : List (DataW H)}, d ∈ l → Rows.uptoBulk d ≤ Rows.uptoBulkAll l
  | [], h => by cases h
  | x :: r, h => by
    simp only [Rows.uptoBulkAll]
    rcases List.mem_cons.1 h with e | e
    · subst e; omega
    · have := bulk_part e; omega

theorem bulk_all {H α : Type} {Q : DataW H → α → Prop} {size : α → Nat} (hq : ∀ y x, Q y x → size x ≤ Rows.uptoBulk y) : ∀ (ds : List (DataW H)) (l : List α), ds.length = l.length → (∀ (i : Nat) (y : DataW H) (x : α), ds[i]? = some y → l[i]? = some x → Q y x) → (l.map size).sum ≤ Rows.uptoBulkAll ds
  | [], [], _, _ => by simp
  | [], x :: l, h, _ => by simp at h
  | d :: ds, [], h, _ => by simp at h
  | d :: ds, x :: l, h, hQ => by
    have ih := bulk_all hq ds l (by simpa using h) (fun i y z hy hz => hQ (i + 1) y z (by simpa using hy) (by simpa using hz))
    have h0 := hq d x (hQ 0 d x rfl rfl)
    simp only [List.map_cons, List.sum_cons, Rows.uptoBulkAll]
    omega

/-- The bulk of a row. -/
theorem RowD.bulk {H α : Type} {Q : DataW H → α → Prop} {d : DataW H} {l : List α} (hd : RowD Q d l) {size : α → Nat} (hq : ∀ y x, Q y x → size x ≤ Rows.uptoBulk y) : (l.map size).sum + 1 ≤ Rows.uptoBulk d := by
  rcases hd with ⟨rfl, rfl⟩ | ⟨ds, rest, rfl, hl, hQ⟩
  · simp [Rows.uptoBulk]
  · have := bulk_all hq ds l hl hQ
    simp only [Rows.uptoBulk]
    omega
end Go.Proofs.YtcjmeaikdfgapaaDoor

/- How rows of transactions that came in are opened, with what they weigh. -/
namespace Go.Proofs.YtcjmeaikdfgapaaDoor
open Go.ChangeShapes Go.WideShapes Go.ChangeAt Go.RowKit Go.Joins Go.Deep
set_option linter.unusedVariables false

def TxQs {H : Type} (d : DataW H) (x : TxM) : Prop := TxSizes x.d ∧ TxDatum d x.d

theorem open_txk_cells {H : Type} {enc : TypeId × Value → H} {W : World} {fuel : Nat} {cs : List Value} {y : DataW H × List MemPlace}
    (hf : DataW.trod enc Tryd.prog W 0 (fun _ => true) true fuel 33 cs = some y) : ∃ x : TxM, cs = txK.c x ∧ txK.At W x ∧ TxQs y.1 x := by
  obtain ⟨x, h1, h2, h3, h4⟩ := open_tx_cells hf
  exact ⟨x, h1, h2, h3, h4⟩

theorem open_txs22 {H : Type} {enc : TypeId × Value → H} {W : World} {a : Option Addr} {len cap : Nat} {d : DataW H} {p : List MemPlace}
    (h : DataW.Trod enc Tryd.prog W 0 (fun _ => true) true 24 (.slice a len cap) d p) :
    ∃ l : List TxM, l.length = len ∧ RowAt txK W a l ∧ len ≤ maxLen ∧ RowD TxQs d l := by
  obtain ⟨fuel, hf⟩ := h
  haveI : Inhabited TxM := ⟨⟨.none, none, 0, none, 0⟩⟩
  obtain ⟨l, h1, h2, _, h4, h5⟩ := open_row txK TxQs Tryd.underlying24 cellsTx open_txk_cells hf
  exact ⟨l, h1, h2, h4, h5⟩

theorem bytesTx22 : Tryd.prog.bytesOf 33 = 136 := by kernel_rfl

/-- What a machine has at most. -/
def Wide22 (l : List TxM) : Prop := l.length ≤ 17592186044416 ∧ ∀ x ∈ l, TxSizes x.d ∧ x.d.rs.length * 16 ≤ 140737488351232 ∧ x.d.ws.length * 16 ≤ 140737488351232

theorem weights_mem_all22 {H : Type} {P : Program} {e : TypeId} : ∀ {ds : List (DataW H)} {d : DataW H}, d ∈ ds → ∀ n ∈ d.weights P e, n ∈ DataW.weightsAll P e ds
  | [], _, h, _, _ => by cases h
  | d0 :: ds, d, h, n, hn => by
    simp only [DataW.weightsAll, List.mem_append]
    rcases List.mem_cons.1 h with rfl | h
    · exact Or.inl hn
    · exact Or.inr (weights_mem_all22 h n hn)

theorem txs22_sized {H : Type} {ts : List TypeId} {ds : List (DataW H)} (h : (DataW.weightsEach Tryd.prog ts ds).all (· ≤ reachBytes) = true) {j : Nat} {d : DataW H} {l : List TxM} (ht : ts[j]? = some 24) (hd : ds[j]? = some d) (hs : RowD TxQs d l) : Wide22 l := by
  rcases hs with ⟨rfl, rfl⟩ | ⟨es, rest, rfl, hl, ha⟩
  · exact ⟨Nat.zero_le _, fun x hx => by cases hx⟩
  · refine ⟨?_, fun x hx => ?_⟩
    · have := sized_slice h ht hd Tryd.underlying24
      rw [bytesTx22] at this
      simp [reachBytes] at this
      omega
    · obtain ⟨i, hi⟩ := List.getElem?_of_mem hx
      have hil := (List.getElem?_eq_some_iff.1 hi).1
      obtain ⟨q1, q2⟩ := ha i _ x (List.getElem?_eq_getElem (by omega)) hi
      refine ⟨q1, tx_sized (ts := [33]) (ds := [es[i]'(by omega)]) (j := 0) ?_ rfl rfl q2⟩
      rw [List.all_eq_true]
      intro n hn
      have h0 : n ∈ DataW.weights Tryd.prog 33 (es[i]'(by omega)) := by simpa [DataW.weightsEach] using hn
      have h1 : n ∈ DataW.weights Tryd.prog 24 (.slice es rest) := by
        simp only [DataW.weights, Tryd.underlying24]
        exact List.mem_cons_of_mem _ (List.mem_append.2 (Or.inl (weights_mem_all22 (List.getElem_mem _) n h0)))
      exact List.all_eq_true.1 h _ (DataW.weights_mem_each ht hd n h1)
end Go.Proofs.YtcjmeaikdfgapaaDoor

/- Transactions as layer 20's texts have them: too many? in each other's way? Their own copies. -/
namespace Go.Proofs.YtcjmeaikdfgapaaDoor
open Go Go.RowKit
set_option linter.unusedVariables false

def TxM.a (x : TxM) : TxA := ⟨x.d.kind, x.d.frm, x.d.to, x.d.amt, x.d.non, x.d.key, x.d.val, x.d.rs, x.d.ws, x.ra, x.rc, x.wa, x.wc⟩

theorem TxM.a_v (x : TxM) : x.a.v = x.v := rfl
theorem TxM.a_c (x : TxM) : x.a.c = x.c := rfl

theorem TxM.At.a {w : World} {x : TxM} (h : x.At w) (hs : TxSizes x.d) : TxA.At w x.a := ⟨h.at_.rd.row, h.at_.wr.row, h.nr, h.nw, hs.rs, hs.ws⟩

theorem rows_a {w : World} {ao : Option Addr} {l : List TxM} (h : RowAt txK w ao l) (hs : ∀ x ∈ l, TxSizes x.d) : RowAt txA w ao (l.map TxM.a) := by
  refine ⟨fun i y hy => ?_, fun y hy => ?_⟩
  · rw [List.getElem?_map] at hy
    obtain ⟨x, hx, rfl⟩ := Option.map_eq_some_iff.1 hy
    exact h.cell i x hx
  · obtain ⟨x, hx, rfl⟩ := List.mem_map.1 hy
    exact TxM.At.a (h.at_ x hx) (hs x hx)

/-- Are they too many? -/
def greatM (l : List TxM) : Bool := greatA (l.map TxM.a)

theorem greatM_any (l : List TxM) (ao : Option Addr) (cp : Nat) (w : World) (hl : RowAt txK w ao l) (hw : Wide22 l) :
    Calls Tryd.prog 8 #[.slice ao l.length cp] w fun e w' => e = .returned (.bool (greatM l)) ∧ Below w.heap.size w w' := by
  have h := great_any (l.map TxM.a) ao cp w (rows_a hl (fun x hx => (hw.2 x hx).1)) ⟨by rw [List.length_map]; exact hw.1, fun y hy => by
    obtain ⟨x, hx, rfl⟩ := List.mem_map.1 hy
    have := (hw.2 x hx).2
    show x.d.rs.length ≤ _ ∧ x.d.ws.length ≤ _
    omega⟩
  rw [List.length_map] at h
  exact h

theorem fewM_of {l : List TxM} (h : greatM l = false) : l.length ≤ 500 ∧ ∀ x ∈ l, x.d.rs.length ≤ 500 ∧ x.d.ws.length ≤ 500 := by
  have h0 := of_decide_eq_false h
  refine ⟨?_, fun x hx => ?_⟩
  · have := totA_length (l.map TxM.a)
    rw [List.length_map] at this
    omega
  · have := totA_mem (List.mem_map_of_mem (f := TxM.a) hx)
    have h3 : 1 + x.d.rs.length + x.d.ws.length ≤ totA (l.map TxM.a) := this
    omega

theorem clashM_any (x y : TxM) (w : World) (hA : x.At w) (hB : y.At w) (sx : TxSizes x.d) (sy : TxSizes y.d) (xr : x.d.rs.length ≤ 500 ∧ x.d.ws.length ≤ 500) (yr : y.d.rs.length ≤ 500 ∧ y.d.ws.length ≤ 500) :
    Calls Tryd.prog 23 #[x.v, y.v] w fun e w' => e = .returned (.bool (clashB ⟨x.d.rs, x.d.ws⟩ ⟨y.d.rs, y.d.ws⟩)) ∧ Below w.heap.size w w' :=
  clashA_any x.a y.a w (hA.a sx) (hB.a sy) (Nat.le_trans xr.1 (by decide)) (Nat.le_trans xr.2 (by decide)) (Nat.le_trans yr.1 (by decide)) (Nat.le_trans yr.2 (by decide))

/-- A transaction of the call's own is handed back. -/
def GotOwn22 (W : World) (d : TxD) (e : Ending) (w : World) : Prop := ∃ y : TxM, e = .returned y.v ∧ y.d = d ∧ y.At w ∧ Below W.heap.size W w

theorem own22_any (x : TxM) (w : World) (hA : x.At w) (lr : x.d.rs.length ≤ 500 ∧ x.d.ws.length ≤ 500) :
    Calls Tryd.prog 14 #[x.v] w fun e w' => GotOwn22 w x.d e w' := by
  refine (own_any x.d x.ra x.rc x.wa x.wc w hA.at_ hA.nr hA.nw (by omega) (by omega)).mono ?_
  rintro e w' ⟨ra, rc, wa, wc, rfl, h1, h2, h3, hb⟩
  exact ⟨⟨x.d, ra, rc, wa, wc⟩, rfl, rfl, ⟨h1, h2, h3⟩, hb⟩

/-- The nine cells of one of a row. -/
theorem RowAt.tx22 {w : World} {ao : Option Addr} {l : List TxM} (h : RowAt txK w ao l) {i : Nat} {x : TxM} (hx : l[i]? = some x) :
    ∃ b off, ao = some ⟨b, off, none⟩ ∧ b < w.heap.size ∧ w.cell? ⟨b, off + i * 9, none⟩ = some (.int .i64 x.d.kind) ∧ w.cell? ⟨b, off + i * 9 + 1, none⟩ = some (.string x.d.frm) ∧ w.cell? ⟨b, off + i * 9 + 2, none⟩ = some (.string x.d.to) ∧ w.cell? ⟨b, off + i * 9 + 3, none⟩ = some (.int .u64 (x.d.amt : Int)) ∧ w.cell? ⟨b, off + i * 9 + 4, none⟩ = some (.int .u64 (x.d.non : Int)) ∧
      w.cell? ⟨b, off + i * 9 + 5, none⟩ = some (.string x.d.key) ∧ w.cell? ⟨b, off + i * 9 + 6, none⟩ = some (.string x.d.val) ∧ w.cell? ⟨b, off + i * 9 + 7, none⟩ = some (.slice x.ra x.d.rs.length x.rc) ∧ w.cell? ⟨b, off + i * 9 + 8, none⟩ = some (.slice x.wa x.d.ws.length x.wc) ∧ x.At w := by
  obtain ⟨b, off, h1, h2, h3⟩ := h.cell i x hx
  exact ⟨b, off, h1, h2, h3 0 _ rfl, h3 1 _ rfl, h3 2 _ rfl, h3 3 _ rfl, h3 4 _ rfl, h3 5 _ rfl, h3 6 _ rfl, h3 7 _ rfl, h3 8 _ rfl, h.at_ x (List.mem_of_getElem? hx)⟩
end Go.Proofs.YtcjmeaikdfgapaaDoor

/- Transactions done one behind the other; what the statements' rows give at each. -/
namespace Go.Proofs.YtcjmeaikdfgapaaDoor
open Go Go.RowKit
set_option linter.unusedVariables false

/-- The state behind the first i. -/
def runF (s : StF) (l : List TxM) (i : Nat) : StF := (l.take i).foldl (fun s x => applyF s x.d) s

theorem runF_zero (s : StF) (l : List TxM) : runF s l 0 = s := rfl

theorem runF_step (s : StF) {l : List TxM} {i : Nat} {x : TxM} (hx : l[i]? = some x) : runF s l (i + 1) = applyF (runF s l i) x.d := by
  unfold runF
  rw [List.take_add_one, hx, List.foldl_append]
  rfl

/-- What the statements' rows are, where they are not too many. -/
structure RowsM (W : World) (lo : Option Addr) (l : List TxM) : Prop where
  row : RowAt txK W lo l
  len : l.length ≤ 500
  fit : ∀ x ∈ l, TxSizes x.d ∧ x.d.rs.length ≤ 500 ∧ x.d.ws.length ≤ 500

theorem RowsM.of {W : World} {lo : Option Addr} {l : List TxM} (h : RowAt txK W lo l) (hw : Wide22 l) (hg : greatM l = false) : RowsM W lo l := by
  obtain ⟨h1, h2⟩ := fewM_of hg
  exact ⟨h, h1, fun x hx => ⟨(hw.2 x hx).1, h2 x hx⟩⟩

theorem RowsM.below {W w : World} {lo : Option Addr} {l : List TxM} (h : RowsM W lo l) (hb : Below W.heap.size W w) : RowsM w lo l := ⟨h.row.below hb, h.len, h.fit⟩

/-- The beginning's names, copied. -/
theorem copied22 {W w : World} {ao : Option Addr} {l : List ByteArray} (h : OwnStrs W.heap.size w ao l) : RowAt strK w ao l := StrsAt.row h.at
end Go.Proofs.YtcjmeaikdfgapaaDoor

/- Two that fit and are not in each other's way reach different accounts and lay different values. -/
namespace Go.Proofs.YtcjmeaikdfgapaaDoor
open Go
set_option linter.unusedVariables false

theorem hasL_mem {l : List ByteArray} {s : ByteArray} (h : hasL l s = true) : s ∈ l := by
  unfold hasL at h
  obtain ⟨x, hx, e⟩ := List.any_eq_true.1 h
  rw [bytes_eq] at e
  rw [of_decide_eq_true e]
  exact hx

theorem fits_check {d : TxD} (h : fitsL d = true) : checkL d = 0 := by
  unfold fitsL needsL at h
  by_cases hc : checkL d = 0
  · exact hc
  · rw [if_neg hc] at h
    cases h

theorem fits_kind {d : TxD} (h : fitsL d = true) : d.kind = 1 ∨ d.kind = 2 := by
  have hc := fits_check h
  unfold checkL at hc
  split at hc
  · cases hc
  · rename_i hk
    by_cases h1 : d.kind = 1
    · exact Or.inl h1
    · exact Or.inr (Decidable.byContradiction (fun h2 => hk ⟨h1, h2⟩))

theorem needs_ws {d : TxD} (h : fitsL d = true) {k : ByteArray} (hk : k ∈ needsL d) : k ∈ d.ws := by
  unfold fitsL at h
  rw [Bool.and_eq_true, List.all_eq_true] at h
  exact hasL_mem (h.2 k hk)

theorem nms_needs {d : TxD} (h : fitsL d = true) {n : ByteArray} (hn : n ∈ nmsD d) : aP ++ n ∈ needsL d := by
  have hc := fits_check h
  unfold needsL
  rw [if_pos hc]
  unfold nmsD at hn
  rcases fits_kind h with hk | hk
  · rw [if_pos hk] at hn
    rw [if_neg (by rw [hk]; decide)]
    have h1 : n = d.frm ∨ n = d.to := by simpa using hn
    split
    · rcases h1 with e | e <;> rw [e] <;> simp
    · split
      · rcases h1 with e | e <;> rw [e] <;> simp
      · rename_i a1 a2
        have e2 : aP ++ d.frm = aP ++ d.to := by
          rw [lessT_eq] at a1 a2
          have b1 : ¬ (aP ++ d.frm).toList < (aP ++ d.to).toList := by simpa using a1
          have b2 : ¬ (aP ++ d.to).toList < (aP ++ d.frm).toList := by simpa using a2
          refine bytes_inj ?_
          rcases List.le_total (aP ++ d.frm).toList (aP ++ d.to).toList with h4 | h4
          · rcases List.le_iff_lt_or_eq.1 h4 with h5 | h5
            · exact (b1 h5).elim
            · exact h5
          · rcases List.le_iff_lt_or_eq.1 h4 with h5 | h5
            · exact (b2 h5).elim
            · exact h5.symm
        rcases h1 with e | e
        · rw [e]; exact List.mem_singleton.2 rfl
        · rw [e, ← e2]; exact List.mem_singleton.2 rfl
  · rw [if_neg (by rw [hk]; decide)] at hn
    rw [if_pos hk, List.mem_singleton.1 hn]
    exact List.mem_cons_self

theorem key_needs {d : TxD} (h : fitsL d = true) (hk : d.kind ≠ 1) : kP ++ d.key ∈ needsL d := by
  have h2 : d.kind = 2 := (fits_kind h).resolve_left hk
  unfold needsL
  rw [if_pos (fits_check h), if_pos h2]
  simp

theorem fit_apart {d e : TxD} (hd : fitsL d = true) (he : fitsL e = true) (hc : clashB ⟨d.rs, d.ws⟩ ⟨e.rs, e.ws⟩ = false) : (∀ n ∈ nmsD d, n ∉ nmsD e) ∧ (d.kind ≠ 1 → e.kind ≠ 1 → d.key ≠ e.key) := by
  have hno : ∀ k, k ∈ d.ws → k ∉ e.ws := fun k h1 h2 => by
    have : clashB ⟨d.rs, d.ws⟩ ⟨e.rs, e.ws⟩ = true := clashB_iff.2 (Or.inl ⟨k, h1, Or.inl h2⟩)
    rw [hc] at this
    cases this
  refine ⟨fun n h1 h2 => hno _ (needs_ws hd (nms_needs hd h1)) (needs_ws he (nms_needs he h2)), fun h1 h2 q => ?_⟩
  have := needs_ws hd (key_needs hd h1)
  rw [q] at this
  exact hno _ this (needs_ws he (key_needs he h2))

/-- 22.4, of states. -/
theorem state_either (s : StF) {d e : TxD} (hd : fitsL d = true) (he : fitsL e = true) (hc : clashB ⟨d.rs, d.ws⟩ ⟨e.rs, e.ws⟩ = false) :
    applyE (applyF s e) d = applyE s d ∧ applyE (applyF s d) e = applyE s e ∧ applyF (applyF s d) e = applyF (applyF s e) d :=
  apply_either s (fit_apart hd he hc).1 (fit_apart hd he hc).2
end Go.Proofs.YtcjmeaikdfgapaaDoor

/- The library's contracts on maps.Keys, slices.Sorted, slices.Sort and maps.Clone, laid over this program in plain words. -/
namespace Go.Proofs.YtcjmeaikdfgapaaDoor
open Go Go.Shelf
set_option linter.unusedVariables false

def keysA_ren : Go.Shelf.Ren := ⟨fun | 7 => 29 | 10 => 48 | n => n, fun | 23 => 50 | 26 => 9 | 3 => 55 | 28 => 69 | 0 => 0 | 27 => 68 | 33 => 43 | 4 => 4 | n => n, fun | n => n⟩

theorem keysA : Go.Proofs.SlLaysZ.n7 Tryd.prog keysA_ren := {
  mixed := by kernel_rfl
  f7 := ⟨Tryd.f29.name, by decide, Tryd.func29.trans (congrArg some (by kernel_rfl))⟩
  f10 := ⟨Tryd.f48.name, by decide, Tryd.func48.trans (congrArg some (by kernel_rfl))⟩
  t0 := Tryd.underlying0
  a0 := Tryd.isAgg0
  z0 := Tryd.sizeOf0
  v0 := Tryd.zeroValue0
  t4 := Tryd.underlying4
  a4 := Tryd.isAgg4
  z4 := Tryd.sizeOf4
  v4 := Tryd.zeroValue4
  t23 := Tryd.underlying50
  a23 := Tryd.isAgg50
  z23 := Tryd.sizeOf50
  v23 := Tryd.zeroValue50
  t26 := Tryd.underlying9
  a26 := Tryd.isAgg9
  z26 := Tryd.sizeOf9
  v26 := Tryd.zeroValue9
  t27 := Tryd.underlying68
  a27 := Tryd.isAgg68
  z27 := Tryd.sizeOf68
  v27 := Tryd.zeroValue68
  t28 := Tryd.underlying69
  a28 := Tryd.isAgg69
  z28 := Tryd.sizeOf69
  v28 := Tryd.zeroValue69
  t33 := Tryd.underlying43
  a33 := Tryd.isAgg43
  z33 := Tryd.sizeOf43
  v33 := Tryd.zeroValue43 }

def keysV_ren : Go.Shelf.Ren := ⟨fun | 7 => 33 | 10 => 50 | n => n, fun | 23 => 51 | 26 => 9 | 3 => 79 | 28 => 69 | 0 => 0 | 27 => 68 | 33 => 43 | 4 => 4 | n => n, fun | n => n⟩

theorem keysV : Go.Proofs.SlLaysZ.n7 Tryd.prog keysV_ren := {
  mixed := by kernel_rfl
  f7 := ⟨Tryd.f33.name, by decide, Tryd.func33.trans (congrArg some (by kernel_rfl))⟩
  f10 := ⟨Tryd.f50.name, by decide, Tryd.func50.trans (congrArg some (by kernel_rfl))⟩
  t0 := Tryd.underlying0
  a0 := Tryd.isAgg0
  z0 := Tryd.sizeOf0
  v0 := Tryd.zeroValue0
  t4 := Tryd.underlying4
  a4 := Tryd.isAgg4
  z4 := Tryd.sizeOf4
  v4 := Tryd.zeroValue4
  t23 := Tryd.underlying51
  a23 := Tryd.isAgg51
  z23 := Tryd.sizeOf51
  v23 := Tryd.zeroValue51
  t26 := Tryd.underlying9
  a26 := Tryd.isAgg9
  z26 := Tryd.sizeOf9
  v26 := Tryd.zeroValue9
  t27 := Tryd.underlying68
  a27 := Tryd.isAgg68
  z27 := Tryd.sizeOf68
  v27 := Tryd.zeroValue68
  t28 := Tryd.underlying69
  a28 := Tryd.isAgg69
  z28 := Tryd.sizeOf69
  v28 := Tryd.zeroValue69
  t33 := Tryd.underlying43
  a33 := Tryd.isAgg43
  z33 := Tryd.sizeOf43
  v33 := Tryd.zeroValue43 }

def sortedS_ren : Go.Shelf.Ren := ⟨fun | 6 => 28 | 8 => 46 | 9 => 47 | 11 => 58 | 13 => 60 | 12 => 59 | 23 => 84 | 24 => 85 | 14 => 75 | 15 => 76 | 16 => 77 | 17 => 78 | 18 => 79 | 19 => 80 | 20 => 81 | 21 => 82 | 22 => 83 | 25 => 92 | 26 => 93 | 27 => 94 | 28 => 95 | 29 => 96 | 30 => 97 | 31 => 101 | n => n, fun | 26 => 9 | 28 => 69 | 24 => 22 | 0 => 0 | 3 => 3 | 37 => 92 | 48 => 103 | 50 => 23 | 4 => 4 | 40 => 120 | 39 => 119 | 45 => 125 | 5 => 5 | 9 => 9 | 51 => 138 | 55 => 142 | 57 => 145 | 58 => 146 | 33 => 43 | n => n, fun | n => n⟩

theorem sortedS : Go.Proofs.SlLaysZ.n6 Tryd.prog sortedS_ren := {
  mixed := by kernel_rfl
  f6 := ⟨Tryd.f28.name, by decide, Tryd.func28.trans (congrArg some (by kernel_rfl))⟩
  f8 := ⟨Tryd.f46.name, by decide, Tryd.func46.trans (congrArg some (by kernel_rfl))⟩
  f11 := ⟨Tryd.f58.name, by decide, Tryd.func58.trans (congrArg some (by kernel_rfl))⟩
  t0 := Tryd.underlying0
  a0 := Tryd.isAgg0
  z0 := Tryd.sizeOf0
  v0 := Tryd.zeroValue0
  t24 := Tryd.underlying22
  a24 := Tryd.isAgg22
  z24 := Tryd.sizeOf22
  v24 := Tryd.zeroValue22
  t26 := Tryd.underlying9
  a26 := Tryd.isAgg9
  z26 := Tryd.sizeOf9
  v26 := Tryd.zeroValue9
  t28 := Tryd.underlying69
  a28 := Tryd.isAgg69
  z28 := Tryd.sizeOf69
  v28 := Tryd.zeroValue69
  i26 := by kernel_rfl }

def sortS_ren : Go.Shelf.Ren := ⟨fun | 6 => 47 | 8 => 60 | 9 => 59 | 19 => 84 | 20 => 85 | 21 => 75 | 22 => 76 | 23 => 77 | 24 => 78 | 25 => 79 | 26 => 80 | 27 => 81 | 28 => 82 | 29 => 83 | 36 => 92 | 31 => 93 | 32 => 94 | 37 => 95 | 38 => 96 | 39 => 97 | 41 => 101 | n => n, fun | 27 => 22 | 29 => 9 | 3 => 3 | 32 => 92 | 26 => 22 | 0 => 0 | 44 => 103 | 46 => 23 | 4 => 4 | 36 => 120 | 35 => 119 | 41 => 125 | 5 => 5 | 9 => 9 | 53 => 138 | 57 => 142 | 63 => 145 | 64 => 146 | n => n, fun | n => n⟩

theorem sortS : Go.Proofs.SlLaysM.n6 Tryd.prog sortS_ren := {
  mixed := by kernel_rfl
  f6 := ⟨Tryd.f47.name, by decide, Tryd.func47.trans (congrArg some (by kernel_rfl))⟩
  f8 := Tryd.func60.trans (congrArg some (by kernel_rfl))
  f9 := ⟨Tryd.f59.name, by decide, Tryd.func59.trans (congrArg some (by kernel_rfl))⟩
  f19 := Tryd.func84.trans (congrArg some (by kernel_rfl))
  f20 := Tryd.func85.trans (congrArg some (by kernel_rfl))
  f21 := ⟨Tryd.f75.name, by decide, Tryd.func75.trans (congrArg some (by kernel_rfl))⟩
  f22 := ⟨Tryd.f76.name, by decide, Tryd.func76.trans (congrArg some (by kernel_rfl))⟩
  f23 := ⟨Tryd.f77.name, by decide, Tryd.func77.trans (congrArg some (by kernel_rfl))⟩
  f24 := ⟨Tryd.f78.name, by decide, Tryd.func78.trans (congrArg some (by kernel_rfl))⟩
  f25 := ⟨Tryd.f79.name, by decide, Tryd.func79.trans (congrArg some (by kernel_rfl))⟩
  f26 := ⟨Tryd.f80.name, by decide, Tryd.func80.trans (congrArg some (by kernel_rfl))⟩
  f27 := ⟨Tryd.f81.name, by decide, Tryd.func81.trans (congrArg some (by kernel_rfl))⟩
  f28 := ⟨Tryd.f82.name, by decide, Tryd.func82.trans (congrArg some (by kernel_rfl))⟩
  f29 := ⟨Tryd.f83.name, by decide, Tryd.func83.trans (congrArg some (by kernel_rfl))⟩
  f31 := Tryd.func93.trans (congrArg some (by kernel_rfl))
  f32 := Tryd.func94.trans (congrArg some (by kernel_rfl))
  f36 := ⟨Tryd.f92.name, by decide, Tryd.func92.trans (congrArg some (by kernel_rfl))⟩
  f37 := ⟨Tryd.f95.name, by decide, Tryd.func95.trans (congrArg some (by kernel_rfl))⟩
  f38 := ⟨Tryd.f96.name, by decide, Tryd.func96.trans (congrArg some (by kernel_rfl))⟩
  f39 := ⟨Tryd.f97.name, by decide, Tryd.func97.trans (congrArg some (by kernel_rfl))⟩
  f41 := ⟨Tryd.f101.name, by decide, Tryd.func101.trans (congrArg some (by kernel_rfl))⟩
  t0 := Tryd.underlying0
  a0 := Tryd.isAgg0
  z0 := Tryd.sizeOf0
  v0 := Tryd.zeroValue0
  t3 := Tryd.underlying3
  a3 := Tryd.isAgg3
  z3 := Tryd.sizeOf3
  v3 := Tryd.zeroValue3
  t4 := Tryd.underlying4
  a4 := Tryd.isAgg4
  z4 := Tryd.sizeOf4
  v4 := Tryd.zeroValue4
  t5 := Tryd.underlying5
  a5 := Tryd.isAgg5
  z5 := Tryd.sizeOf5
  v5 := Tryd.zeroValue5
  t9 := Tryd.underlying9
  a9 := Tryd.isAgg9
  z9 := Tryd.sizeOf9
  v9 := Tryd.zeroValue9
  t26 := Tryd.underlying22
  a26 := Tryd.isAgg22
  z26 := Tryd.sizeOf22
  v26 := Tryd.zeroValue22
  t27 := Tryd.underlying22
  a27 := Tryd.isAgg22
  z27 := Tryd.sizeOf22
  v27 := Tryd.zeroValue22
  t29 := Tryd.underlying9
  a29 := Tryd.isAgg9
  z29 := Tryd.sizeOf9
  v29 := Tryd.zeroValue9
  t32 := Tryd.underlying92
  a32 := Tryd.isAgg92
  z32 := Tryd.sizeOf92
  v32 := Tryd.zeroValue92
  t35 := Tryd.underlying119
  a35 := Tryd.isAgg119
  z35 := Tryd.sizeOf119
  v35 := Tryd.zeroValue119
  t36 := Tryd.underlying120
  a36 := Tryd.isAgg120
  z36 := Tryd.sizeOf120
  v36 := Tryd.zeroValue120
  t41 := Tryd.underlying125
  a41 := Tryd.isAgg125
  z41 := Tryd.sizeOf125
  v41 := Tryd.zeroValue125
  t44 := Tryd.underlying103
  a44 := Tryd.isAgg103
  z44 := Tryd.sizeOf103
  v44 := Tryd.zeroValue103
  t46 := Tryd.underlying23
  a46 := Tryd.isAgg23
  z46 := Tryd.sizeOf23
  v46 := Tryd.zeroValue23
  t53 := Tryd.underlying138
  a53 := Tryd.isAgg138
  z53 := Tryd.sizeOf138
  v53 := Tryd.zeroValue138
  t57 := Tryd.underlying142
  a57 := Tryd.isAgg142
  z57 := Tryd.sizeOf142
  v57 := Tryd.zeroValue142
  t63 := Tryd.underlying145
  a63 := Tryd.isAgg145
  z63 := Tryd.sizeOf145
  v63 := Tryd.zeroValue145
  t64 := Tryd.underlying146
  a64 := Tryd.isAgg146
  z64 := Tryd.sizeOf146
  v64 := Tryd.zeroValue146 }

def cloneA_ren : Go.Shelf.Ren := ⟨fun | 5 => 43 | 7 => 55 | n => n, fun | 23 => 50 | 25 => 9 | 3 => 55 | 4 => 4 | 20 => 20 | n => n, fun | n => n⟩

theorem cloneA : Go.Proofs.SlLaysW.n5 Tryd.prog cloneA_ren := {
  mixed := by kernel_rfl
  f5 := ⟨Tryd.f43.name, by decide, Tryd.func43.trans (congrArg some (by kernel_rfl))⟩
  f7 := Tryd.func55.trans (congrArg some (by kernel_rfl))
  t4 := Tryd.underlying4
  a4 := Tryd.isAgg4
  z4 := Tryd.sizeOf4
  v4 := Tryd.zeroValue4
  t20 := Tryd.underlying20
  a20 := Tryd.isAgg20
  z20 := Tryd.sizeOf20
  v20 := Tryd.zeroValue20
  t23 := Tryd.underlying50
  a23 := Tryd.isAgg50
  z23 := Tryd.sizeOf50
  v23 := Tryd.zeroValue50 }

def cloneV_ren : Go.Shelf.Ren := ⟨fun | 5 => 44 | 7 => 55 | n => n, fun | 23 => 51 | 25 => 9 | 3 => 79 | 4 => 4 | 20 => 20 | n => n, fun | n => n⟩

theorem cloneV : Go.Proofs.SlLaysW.n5 Tryd.prog cloneV_ren := {
  mixed := by kernel_rfl
  f5 := ⟨Tryd.f44.name, by decide, Tryd.func44.trans (congrArg some (by kernel_rfl))⟩
  f7 := Tryd.func55.trans (congrArg some (by kernel_rfl))
  t4 := Tryd.underlying4
  a4 := Tryd.isAgg4
  z4 := Tryd.sizeOf4
  v4 := Tryd.zeroValue4
  t20 := Tryd.underlying20
  a20 := Tryd.isAgg20
  z20 := Tryd.sizeOf20
  v20 := Tryd.zeroValue20
  t23 := Tryd.underlying51
  a23 := Tryd.isAgg51
  z23 := Tryd.sizeOf51
  v23 := Tryd.zeroValue51 }
end Go.Proofs.YtcjmeaikdfgapaaDoor

/- slices.Sorted(maps.Keys(m)) of the state's two maps: all their names, rising; maps.Clone of them. -/
namespace Go.Proofs.YtcjmeaikdfgapaaDoor
open Go Go.RowKit Go.Maps Go.Sort
set_option linter.unusedVariables false

theorem keysA_any (mb : Option Nat) (W : World) : Calls Tryd.prog 29 #[.map mb] W fun e w' => e = .returned (.func (.func 48) #[] #[.pointer (some ⟨W.heap.size, 0, none⟩)]) ∧ w' = W.alloc (.cells #[.map mb] 50) :=
  callsIn_wide.1 (AnyZ.keys_in keysA Fence.wide 5 trivial rfl mb W)

theorem keysV_any (mb : Option Nat) (W : World) : Calls Tryd.prog 33 #[.map mb] W fun e w' => e = .returned (.func (.func 50) #[] #[.pointer (some ⟨W.heap.size, 0, none⟩)]) ∧ w' = W.alloc (.cells #[.map mb] 51) :=
  callsIn_wide.1 (AnyZ.keys_in keysV Fence.wide 5 trivial rfl mb W)

theorem sortsS (m : Nat) : AnyZ.SortsIn Tryd.prog sortedS_ren Fence.wide m :=
  ⟨fun blk off cap ss W hH hblk hsz => callsIn_wide.2 (AnyM.slices_Sort_string sortS blk off cap ss W hH hblk hsz),
   fun p cap W => callsIn_wide.2 (AnyM.slices_Sort_string_none sortS p cap W)⟩

/-- A row of texts of the call's own. -/
def NamesAt (w : World) (ao : Option Addr) (cap : Nat) (L : List ByteArray) : Prop := ∃ B, w.ownsRow B 9 1 (.slice ao L.length cap) L.length (flatK strK L)

theorem NamesAt.kept {S : Nat → Prop} {w w' : World} {ao : Option Addr} {cap : Nat} {L : List ByteArray} (h : NamesAt w ao cap L) (hk : Kept S w w') (hn : ∀ k cur, w.heap[k]? = some (.cells cur 9 (0, 0)) → ¬ S k) : NamesAt w' ao cap L := by
  obtain ⟨B, h1, h2⟩ := h
  refine ⟨B, h1, h2.imp id ?_⟩
  rintro ⟨g, c, cur, e1, e2, e3, e4⟩
  exact ⟨g, c, cur, e1, e2, (hk.block g (Array.getElem?_eq_some_iff.1 e3).1 (hn g cur e3)).trans e3, e4⟩

theorem NamesAt.below {w w' : World} {ao : Option Addr} {cap : Nat} {L : List ByteArray} (h : NamesAt w ao cap L) (hb : Below w.heap.size w w') : NamesAt w' ao cap L :=
  h.kept (S := fun _ => False) (Kept.of_below hb) (fun _ _ _ => id)

theorem NamesAt.row {w : World} {ao : Option Addr} {cap : Nat} {L : List ByteArray} (h : NamesAt w ao cap L) : RowAt strK w ao L := by
  obtain ⟨B, h1⟩ := h
  have hQ : KQ strK 9 w B (.slice ao L.length cap) L := KQ.of_own (K := strK) (T := 9) (fun x b h => h.elim) (fun x _ => trivial) rfl h1
  obtain ⟨ao', cap', e1, _, hr⟩ := hQ.form
  simp only [Value.slice.injEq, true_and] at e1
  rw [e1.1]
  exact hr

theorem NamesAt.few {w : World} {ao : Option Addr} {cap : Nat} {L : List ByteArray} (h : NamesAt w ao cap L) : L.length ≤ cap := by
  obtain ⟨B, _, h2⟩ := h
  rcases h2 with ⟨_, hz⟩ | ⟨g, c, cur, e1, e2, e3, e4, _⟩
  · omega
  · simp only [Value.slice.injEq] at e1
    omega

/-- What is handed back: all names of the map, rising. -/
def GotNames (f : ByteArray → Option Value) (n : Nat) (W : World) (e : Ending) (w : World) : Prop :=
  ∃ (L : List ByteArray) (ao : Option Addr) (cap : Nat), e = .returned (.slice ao L.length cap) ∧ NamesAt w ao cap L ∧ L.length = n ∧ RiseN L ∧ (∀ k, k ∈ L ↔ (f k).isSome = true) ∧ Below W.heap.size W w

theorem names_of {w W w' : World} {b n : Nat} {f : ByteArray → Option Value} (D : DataW Value) (hown : w.ownsMap Tryd.prog 9 heldElem b n D) (hsz : Maps.size D = n) (hf : ∀ id, Maps.has D (keyS id) = (f id).isSome) {v : Value} {ss : List (List UInt8)} (hp : ss.Perm (strKeys D))
    (hrow : w'.ownsRow W.heap.size 9 1 v ss.length ((ss.mergeSort (fun x y => decide (x ≤ y))).map encStr)) (hb : Below W.heap.size W w') : GotNames f n W (.returned v) w' := by
  obtain ⟨es, hD, hpw, _⟩ := hown.entries lawStr
  obtain ⟨es', hD', hko⟩ := hown.keysOf
  obtain rfl : es = es' := by rw [hD] at hD'; simpa using hD'
  subst hD
  have hk : ∀ p ∈ es, ∃ x, p.1 = .string x := fun p hp => by
    obtain ⟨v, hv⟩ := hko p hp
    obtain ⟨x, _, hx, _⟩ := Maps.keyOf_str Tryd.underlying9 hv
    exact ⟨x, hx⟩
  have hnd : (strKeys (.map es)).Nodup := by
    show (es.map fun p => strOf p.1).Nodup
    refine List.pairwise_map.2 (hpw.imp_of_mem fun {p q} hp' hq' hne e => hne ?_)
    obtain ⟨a, ha⟩ := hk p hp'
    obtain ⟨b, hb⟩ := hk q hq'
    rw [ha, hb] at e ⊢
    exact congrArg _ e
  have hmem : ∀ x, x ∈ strKeys (.map es) ↔ has (.map es) (.string x) = true := fun x => by
    rw [has_eq, List.any_eq_true]
    show x ∈ es.map (fun p => strOf p.1) ↔ _
    rw [List.mem_map]
    constructor
    · rintro ⟨p, hp', rfl⟩
      obtain ⟨a, ha⟩ := hk p hp'
      exact ⟨p, hp', by rw [ha]; simp [Lit.sameKey, strOf]⟩
    · rintro ⟨p, hp', hs⟩
      obtain ⟨a, ha⟩ := hk p hp'
      rw [ha] at hs
      exact ⟨p, hp', by rw [ha]; simpa [Lit.sameKey, strOf] using hs⟩
  have hP2 : (ss.mergeSort (fun x y => decide (x ≤ y))).Perm (strKeys (.map es)) := (List.mergeSort_perm ss _).trans hp
  have hlen : ss.length = n := by
    rw [hp.length_eq, ← hsz, size_eq]
    show (es.map _).length = _
    rw [List.length_map]
  have hsort : (ss.mergeSort (fun x y => decide (x ≤ y))).Pairwise (fun a b => decide (a ≤ b) = true) :=
    List.pairwise_mergeSort (fun a b c h1 h2 => by simp only [decide_eq_true_eq] at *; exact List.le_trans h1 h2) (fun a b => by simp only [Bool.or_eq_true, decide_eq_true_eq]; exact List.le_total a b) ss
  have hnd2 : (ss.mergeSort (fun x y => decide (x ≤ y))).Nodup := hP2.nodup_iff.2 hnd
  generalize hm : ss.mergeSort (fun x y => decide (x ≤ y)) = m at *
  have hml : m.length = ss.length := by rw [← hm, List.length_mergeSort]
  have hstrict : m.Pairwise (fun a b => a < b) := by
    refine (hsort.and hnd2).imp (fun {a b} h => ?_)
    have h1 : a ≤ b := of_decide_eq_true h.1
    rcases List.le_iff_lt_or_eq.1 h1 with h2 | h2
    · exact h2
    · exact absurd h2 h.2
  have tl : ∀ x : List UInt8, (⟨x.toArray⟩ : ByteArray).toList = x := fun x => by rw [ByteArray.toList_eq]
  have eF : m.map encStr = flatK strK (m.map (fun x => (⟨x.toArray⟩ : ByteArray))) := by
    clear hm hsort hnd2 hstrict hml hP2 hrow
    induction m with
    | nil => rfl
    | cons x r ih =>
      rw [List.map_cons, List.map_cons, ih]
      rfl
  rw [eF] at hrow
  obtain ⟨ao, cap, rfl⟩ : ∃ ao cap, v = .slice ao ss.length cap := by
    rcases hrow.2 with ⟨rfl, hz⟩ | ⟨g, cap, cur, rfl, _⟩
    · exact ⟨none, 0, by rw [hz]⟩
    · exact ⟨_, _, rfl⟩
  have hl2 : ss.length = (m.map (fun x => (⟨x.toArray⟩ : ByteArray))).length := by rw [List.length_map, hml]
  rw [hl2] at hrow
  refine ⟨m.map (fun x => (⟨x.toArray⟩ : ByteArray)), ao, cap, by rw [← hl2], ⟨W.heap.size, hrow⟩, by rw [← hl2]; exact hlen, ?_, ?_, hb⟩
  · refine List.pairwise_map.2 (hstrict.imp (fun {a b} h => ?_))
    rw [tl, tl]
    exact h
  · intro k
    rw [← hf k, List.mem_map]
    have : Maps.has (DataW.map es) (keyS k) = true ↔ k.data.toList ∈ m := by
      rw [hP2.mem_iff, hmem]
      rfl
    rw [this]
    constructor
    · rintro ⟨x, hx, rfl⟩
      simpa using hx
    · intro h
      exact ⟨k.data.toList, h, by simp⟩

set_option maxHeartbeats 1000000 in
theorem sortedA_any (b n : Nat) (f : ByteArray → Option Value) (w : World) (h : SMap w b f n) (hn : n ≤ 1000000) :
    Calls Tryd.prog 28 #[.func (.func 48) #[] #[.pointer (some ⟨w.heap.size, 0, none⟩)]] (w.alloc (.cells #[.map (some b)] 50)) fun e w' => GotNames f n (w.alloc (.cells #[.map (some b)] 50)) e w' := by
  obtain ⟨D, hown, hsz, hf, _⟩ := h
  have hbl := hown.lt
  have hmax : Maps.size D ≤ maxLen := by rw [hsz]; unfold maxLen; omega
  have hbytes : Maps.size D * 16 ≤ 140737488355328 := by rw [hsz]; omega
  have hseq : SeqGives Fence.wide 2 Tryd.prog 48 #[.pointer (some ⟨w.heap.size, 0, none⟩)] encStr (fun ss => ss.Perm (strKeys D)) (Maps.size D) (w.alloc (.cells #[.map (some b)] 50)) :=
    AnyZ.keys_gives (ρ := keysA_ren) { keysA with } Fence.wide _ trivial rfl (by omega) w.heap.size b n D _ (by simp) (by simp) (by
      obtain ⟨es, clock, hb, Ft, hs, hD⟩ := hown
      exact ⟨es, clock, (Below.heap_alloc _ _ b hbl).trans hb, Ft, hs, hD⟩)
  have cS := AnyZ.sorted_in sortedS Fence.wide 5 trivial trivial trivial trivial rfl (by omega) (sortsS _) (enters_of Tryd.func47 (by kernel_rfl) rfl) 48 #[.pointer (some ⟨w.heap.size, 0, none⟩)] trivial (enters_of Tryd.func48 (by kernel_rfl) rfl) _ _ hmax hbytes _ hseq
  refine (callsIn_wide.1 cS).mono ?_
  rintro e w' ⟨v, ss, rfl, hp, hrow, _, hb⟩
  exact names_of D hown hsz hf hp hrow hb

set_option maxHeartbeats 1000000 in
theorem sortedV_any (b n : Nat) (f : ByteArray → Option Value) (w : World) (h : SMap w b f n) (hn : n ≤ 1000000) :
    Calls Tryd.prog 28 #[.func (.func 50) #[] #[.pointer (some ⟨w.heap.size, 0, none⟩)]] (w.alloc (.cells #[.map (some b)] 51)) fun e w' => GotNames f n (w.alloc (.cells #[.map (some b)] 51)) e w' := by
  obtain ⟨D, hown, hsz, hf, _⟩ := h
  have hbl := hown.lt
  have hmax : Maps.size D ≤ maxLen := by rw [hsz]; unfold maxLen; omega
  have hbytes : Maps.size D * 16 ≤ 140737488355328 := by rw [hsz]; omega
  have hseq : SeqGives Fence.wide 2 Tryd.prog 50 #[.pointer (some ⟨w.heap.size, 0, none⟩)] encStr (fun ss => ss.Perm (strKeys D)) (Maps.size D) (w.alloc (.cells #[.map (some b)] 51)) :=
    AnyZ.keys_gives (ρ := keysV_ren) { keysV with } Fence.wide _ trivial rfl (by omega) w.heap.size b n D _ (by simp) (by simp) (by
      obtain ⟨es, clock, hb, Ft, hs, hD⟩ := hown
      exact ⟨es, clock, (Below.heap_alloc _ _ b hbl).trans hb, Ft, hs, hD⟩)
  have cS := AnyZ.sorted_in sortedS Fence.wide 5 trivial trivial trivial trivial rfl (by omega) (sortsS _) (enters_of Tryd.func47 (by kernel_rfl) rfl) 50 #[.pointer (some ⟨w.heap.size, 0, none⟩)] trivial (enters_of Tryd.func50 (by kernel_rfl) rfl) _ _ hmax hbytes _ hseq
  refine (callsIn_wide.1 cS).mono ?_
  rintro e w' ⟨v, ss, rfl, hp, hrow, _, hb⟩
  exact names_of D hown hsz hf hp hrow hb

/-- A map copied: a new block that holds the same. -/
theorem cloneA_any (b n : Nat) (f : ByteArray → Option Value) (w : World) (h : SMap w b f n) :
    Calls Tryd.prog 43 #[.map (some b)] w fun e w' => e = .returned (.map (some w.heap.size)) ∧ SMap w' w.heap.size f n ∧ Below w.heap.size w w' := by
  obtain ⟨D, hown, hsz, hf, hg⟩ := h
  refine (AnyW.maps_Clone_owns cloneA 9 heldElem b n D w hown).mono ?_
  rintro e w' ⟨h1, h2, _, h4⟩
  exact ⟨h1, ⟨D, h2, hsz, hf, hg⟩, h4⟩

theorem cloneV_any (b n : Nat) (f : ByteArray → Option Value) (w : World) (h : SMap w b f n) :
    Calls Tryd.prog 44 #[.map (some b)] w fun e w' => e = .returned (.map (some w.heap.size)) ∧ SMap w' w.heap.size f n ∧ Below w.heap.size w w' := by
  obtain ⟨D, hown, hsz, hf, hg⟩ := h
  refine (AnyW.maps_Clone_owns cloneV 9 heldElem b n D w hown).mono ?_
  rintro e w' ⟨h1, h2, _, h4⟩
  exact ⟨h1, ⟨D, h2, hsz, hf, hg⟩, h4⟩
end Go.Proofs.YtcjmeaikdfgapaaDoor

/- What Copy does. -/
namespace Go.Proofs.YtcjmeaikdfgapaaDoor
open Go Go.RowKit
set_option linter.unusedVariables false

set_option maxRecDepth 100000 in
set_option maxHeartbeats 1000000 in
theorem copy22_any (w : World) (p : Nat) (S : Nat → Prop) (s : StF) (N : Nat) (h : PS w p S s N) :
    Calls Tryd.prog 25 #[.pointer (some ⟨p, 0, none⟩)] w fun e w' => GotState w s N e w' := by
  obtain ⟨a, v, -, hP⟩ := h
  obtain ⟨n1, hn1, hM⟩ := hP.acc
  obtain ⟨n2, hn2, hV⟩ := hP.val
  have hok := hP.ok
  have c0 := hP.box.cell (i := 0) rfl
  have c1 := hP.box.cell (i := 1) rfl
  have lp := hP.box.lt
  have hbd : Below w.heap.size w w.drew := below_drewN (Below.refl _ w) 1
  have cA := fun w1 (hb : Below w.heap.size w w1) => cloneA_any a n1 _ w1 (hM.below hb)
  have cV := fun w1 (hb : Below w.heap.size w w1) => cloneV_any v n2 _ w1 (hV.below hb)
  have hc := fun w1 (hb : Below w.heap.size w w1) => cell_same (hb.block _ lp)
  have hG : ∀ (w1 : World) (a' v' : Nat), Below w.heap.size w w1 → SMap w1 a' (accM s.acc) n1 → SMap w1 v' (valM s.val) n2 → w.heap.size ≤ a' → w.heap.size ≤ v' → a' ≠ v' → GotState w s N (.returned (.pointer (some ⟨w1.heap.size, 0, none⟩))) (w1.alloc (.cells #[.map (some a'), .map (some v')] 53)) := by
    intro w1 a' v' hb hA hV' e1 e2 e3
    have l1 := hA.lt
    have l2 := hV'.lt
    have hb2 := belowNew w1 (.cells #[.map (some a'), .map (some v')] 53)
    exact ⟨w1.heap.size, fun b => b = w1.heap.size ∨ b = a' ∨ b = v', rfl, ⟨a', v', fun b => Iff.rfl, ⟨Arr.new w1 53 [.map (some a'), .map (some v')], ⟨n1, hn1, hA.below hb2⟩, ⟨n2, hn2, hV'.below hb2⟩, by omega, by omega, e3, hok⟩⟩, fun b hb' => by have := hb.size; omega, hb.alloc hb.size _⟩
  have hd0 := hc _ hbd 0
  have hd1 := hc _ hbd 1
  rw [c0] at hd0
  rw [c1] at hd1
  clear hM hV hok hP
  generalize accM s.acc = f at *
  generalize valM s.val = g at *
  generalize hGG : GotState w s N = GG at *
  clear hGG
  go_enter Tryd.func25, Tryd.ntmps25
  go_wp2_with fail
  go_region_law (first
    | (go_simp; go_at_call 43; refine (cA _ hbd).mono ?_; rintro e wA ⟨rfl, hA, hbA⟩; have hbA2 := hbd.trans (hbA.mono hbd.size); have kA1 := (hc _ hbA2 1).trans c1; have lA := hA.lt)
    | (go_simp; go_at_call 44; refine (cV _ hbA2).mono ?_; rintro e wV ⟨rfl, hV, hbV⟩; have hbV2 := hbA2.trans (hbV.mono hbA2.size); have hA2 := hA.below hbV; have hfin := hG wV _ _ hbV2 hA2 hV))
  all_goals (
    have lA' : w.heap.size < wA.heap.size := lA
    have hfin' := hfin (Nat.le_refl _) (Nat.le_of_lt lA') (Nat.ne_of_lt lA')
    clear hfin hA2 hA hV hbV hbA hG cA cV hc kA1 lA hd0 hd1
    rename_i K hK
    refine hK _ _ ?_
    clear hK
    go_wp2
    go_ret
    exact hfin')
end Go.Proofs.YtcjmeaikdfgapaaDoor

/- A strings.Builder of the call's own: what WriteString turns is told block by block; String of nothing. -/
namespace Go.Proofs.YtcjmeaikdfgapaaDoor
open Go.RowKit
set_option linter.unusedVariables false

theorem copyCheck_kept (B b : Nat) (bs : List Value) (w : World) (h : Lib.IsBuilder 66 5 B b bs w) :
    Calls Tryd.prog 49 #[.pointer (some ⟨b, 0, none⟩)] w fun e w' => e = .returned (.tuple #[]) ∧ (Lib.BuilderAt 66 5 B b (.pointer (some ⟨b, 0, none⟩)) bs w' ∧ Kept (fun k => k = b) w w' ∧ w'.heap.size = w.heap.size) := by
  rcases h with h | h
  · refine (copyCheck_fresh b w h.cell0 h.shape h.frozen0).mono ?_
    rintro e w' ⟨rfl, rfl⟩
    exact ⟨rfl, h.used _, Kept.setCell w ⟨b, 0, none⟩ _, by show (w.heap.modify b _).size = _; simp⟩
  · refine (copyCheck_used b w h.cell0).mono ?_
    rintro e w' ⟨rfl, rfl⟩
    exact ⟨rfl, h, Kept.refl _ _, rfl⟩

/-- What is turned: the builder, and a row of bytes behind B. -/
def ByteS (w : World) (B b k : Nat) : Prop := k = b ∨ (B ≤ k ∧ ∃ cur, w.heap[k]? = some (.cells cur 5 (0, 0)))

set_option maxRecDepth 100000 in
set_option maxHeartbeats 400000 in
theorem write_kept (B b : Nat) (bs : List Value) (s : ByteArray) (w : World) (h : Lib.IsBuilder 66 5 B b bs w) (hlen : bs.length + s.size ≤ 140737488355328) (hBw : B ≤ w.heap.size) :
    Calls Tryd.prog 30 #[.pointer (some ⟨b, 0, none⟩), .string s] w fun e w' => e = .returned (.tuple #[.int .i64 s.size, .nilIface]) ∧ (Lib.BuilderAt 66 5 B b (.pointer (some ⟨b, 0, none⟩)) (bs ++ Lib.strCells s) w' ∧ Kept (ByteS w B b) w w') := by
  obtain ⟨i0, hi, hz0, hz1, hz2⟩ := info_parts infoByte
  go_enter Tryd.func30, Tryd.ntmps30
  go_wp2_with fail
  refine (copyCheck_kept B b bs _ h).mono ?_
  rintro e w1 ⟨rfl, h1, hb1, hs1⟩
  obtain ⟨hB, v, hbk, hown, hne⟩ := h1
  have c1 : w1.cell? ⟨b, 1, none⟩ = some v := by rw [Lib.cell_of_heap hbk]; rfl
  have hv : ∀ k, v.ownBlock = some k → ByteS w B b k := by
    intro k hk
    rcases hown.2 with ⟨rfl, _⟩ | ⟨g, cap, cur, rfl, e2, e3, _⟩
    · cases hk
    · have e : g = k := by simpa [Value.ownBlock] using hk
      subst e
      have hgb : ¬ g = b := fun e => hne (by rw [← e]; rfl)
      refine Or.inr ⟨e2, cur, ?_⟩
      have hlt : g < w.heap.size := by
        rcases Nat.lt_or_ge g w.heap.size with q | q
        · exact q
        · exfalso
          have := (Array.getElem?_eq_some_iff.1 e3).1
          omega
      rw [← hb1.block g hlt hgb]
      exact e3
  clear hs1
  go_wp2_with (at_builtin; refine Lib.wpList_append_own_string _ rfl _ _ 64 9 rfl B 5 i0 Tryd.underlying64 Tryd.underlying9 hi hz0 hz1 hz2 _ _ _ rfl hown s rfl ?c3 ?c4 ?c5 ?_)
  case c3 => unfold maxLen; omega
  case c4 => omega
  case c5 => have := hb1.size; omega
  intro v' w2 hown' hgrow _
  have hlt : b < w1.heap.size := (Array.getElem?_eq_some_iff.1 hbk).1
  have hb2 : w2.heap[b]? = some (.cells #[.pointer (some ⟨b, 0, none⟩), v] 66 (0, 0)) := by
    rw [hgrow.block b hlt (fun e => hne e.symm)]
    exact hbk
  have d1 : w2.cell? ⟨b, 1, none⟩ = some v := by rw [Lib.cell_of_heap hb2]; rfl
  have f1 : w2.frozen? ⟨b, 1, none⟩ = false := Lib.frozen_of_heap hb2 1
  obtain ⟨ao, n', cap, rfl⟩ : ∃ ao n' cap, v' = .slice ao n' cap := by
    rcases hown'.2 with ⟨hv, _⟩ | ⟨g, cap, cur, hv, _⟩
    · exact ⟨_, _, _, hv⟩
    · exact ⟨_, _, _, hv⟩
  have fin1 : Lib.BuilderAt 66 5 B b (.pointer (some ⟨b, 0, none⟩)) (bs ++ Lib.strCells s) (w2.setCell ⟨b, 1, none⟩ (.slice ao n' cap)) :=
    Lib.BuilderAt.put (T := 66) (e := 5) hB hb2 (bs' := bs ++ Lib.strCells s) (by simpa [Lib.strCells_length] using hown') (by decide)
  have fin2 : Kept (ByteS w B b) w (w2.setCell ⟨b, 1, none⟩ (.slice ao n' cap)) :=
    ((hb1.mono (fun k _ e => Or.inl e)).trans ((Kept.of_grown hgrow).mono (fun k _ e => hv k e))).trans ((Kept.setCell w2 ⟨b, 1, none⟩ _).mono (fun k _ e => Or.inl e))
  clear hown' hgrow hown hbk hb2 hb1 h hne hlt c1 hv
  go_wp2
  go_ret2
  exact ⟨rfl, fin1, fin2⟩

set_option maxRecDepth 100000 in
set_option maxHeartbeats 400000 in
/-- String of a builder that was never written. -/
theorem string_none (b : Nat) (w : World) (hbk : w.heap[b]? = some (.cells #[.pointer none, .slice none 0 0] 66 (0, 0))) :
    Calls Tryd.prog 35 #[.pointer (some ⟨b, 0, none⟩)] w fun e w' => e = .returned (.string ⟨#[]⟩) ∧ Below w.heap.size w w' := by
  have fin := Below.drew (Below.refl w.heap.size w)
  have hSt : (Builtin.unsafeString_ #[94, 3] 9 #[.pointer none, .int .i64 0]).run Tryd.prog w.drew = .ok (.string ⟨#[]⟩) w.drew := Lib.run_unsafeString_none _ _ _ _ _
  have hSD : (Builtin.unsafeSliceData_ #[64] 94 #[.slice none 0 0]).run Tryd.prog w.drew = .ok (.pointer none) w.drew := rfl
  have c1 : w.cell? ⟨b, 1, none⟩ = some (.slice none 0 0) := by rw [Lib.cell_of_heap hbk]; rfl
  clear hbk
  go_enter Tryd.func35, Tryd.ntmps35
  go_wp2
  go_region
  all_goals (go_wp2; go_ret; exact ⟨rfl, fin⟩)

/-- Block b is a builder of the call's own that holds l; nothing that is older than W has turned. -/
structure DgS (W : World) (b : Nat) (w : World) (l : List UInt8) : Prop where
  bld : Lib.IsBuilder 66 5 W.heap.size b (Lib.byteCells l) w
  emp : l = [] → w.heap[b]? = some (.cells #[.pointer none, .slice none 0 0] 66 (0, 0))
  bel : Below W.heap.size W w
  low : W.heap.size ≤ b

theorem DgS.new (W : World) : DgS W W.heap.size (W.alloc (.cells #[.pointer none, .slice none 0 0] 66)) [] :=
  ⟨Lib.fresh_isBuilder 66 5 W, fun _ => heap_alloc_new W _, belowNew W _, Nat.le_refl _⟩

theorem DgS.lt {W w : World} {b : Nat} {l : List UInt8} (h : DgS W b w l) : b < w.heap.size := by
  rcases h.bld with h1 | h1 <;> exact Lib.BuilderAt.lt h1

theorem DgS.call {W w w1 : World} {b : Nat} {l : List UInt8} (h : DgS W b w l) (hb : Below w.heap.size w w1) : DgS W b w1 l :=
  ⟨builder_keep h.bld hb, fun e => (hb.block b h.lt).trans (h.emp e), h.bel.trans (hb.mono h.bel.size), h.low⟩

theorem DgS.write {W w : World} {b : Nat} {l : List UInt8} (h : DgS W b w l) (m : List UInt8) (hm : l.length + m.length ≤ 140737488355328) (h0 : m ≠ []) :
    Calls Tryd.prog 30 #[.pointer (some ⟨b, 0, none⟩), .string ⟨m.toArray⟩] w fun e w' => e = .returned (.tuple #[.int .i64 m.length, .nilIface]) ∧ DgS W b w' (l ++ m) ∧ Kept (ByteS w W.heap.size b) w w' := by
  refine (write_kept W.heap.size b _ ⟨m.toArray⟩ w h.bld (by rw [Lib.byteCells_length, size_mk]; exact hm) h.bel.size).mono ?_
  rintro e w' ⟨rfl, h2, hk⟩
  have hbw : Below W.heap.size W w' := h.bel.trans (hk.below h.bel.size (fun k hk => by
    rcases hk with e | ⟨e, _⟩
    · rw [e]; exact h.low
    · exact e))
  refine ⟨by rw [size_mk], ⟨Or.inr ?_, fun e => ?_, hbw, h.low⟩, hk⟩
  · rw [Lib.byteCells_append]
    rw [Lib.strCells_eq] at h2
    exact h2
  · exact absurd (List.append_eq_nil_iff.1 e).2 h0

theorem DgS.read {W w : World} {b : Nat} {l : List UInt8} (h : DgS W b w l) :
    Calls Tryd.prog 35 #[.pointer (some ⟨b, 0, none⟩)] w fun e w' => e = .returned (.string ⟨l.toArray⟩) ∧ Below W.heap.size W w' := by
  by_cases h0 : l = []
  · refine (string_none b w (h.emp h0)).mono ?_
    rintro e w' ⟨rfl, hb⟩
    exact ⟨by rw [h0], h.bel.trans (hb.mono h.bel.size)⟩
  · refine (string_any W.heap.size b l w h.bld h0).mono ?_
    rintro e w' ⟨rfl, hb⟩
    exact ⟨rfl, h.bel.trans hb⟩

/-- A block of another type is no row of bytes, and no builder. -/
theorem DgS.other {W w : World} {b : Nat} {l : List UInt8} (h : DgS W b w l) {T : TypeId} (h1 : T ≠ 5) (h2 : T ≠ 66) (k : Nat) (cur : Array Value) (hk : w.heap[k]? = some (.cells cur T (0, 0))) : ¬ ByteS w W.heap.size b k := by
  rintro (e | ⟨_, c, e⟩)
  · subst e
    rcases h.bld with ⟨_, v, h3, _⟩ | ⟨_, v, h3, _⟩ <;> (rw [hk] at h3; simp at h3; exact h2 h3.2)
  · rw [hk] at e
    simp at e
    exact h1 e.2

theorem DgS.arr {W w w' : World} {b : Nat} {l : List UInt8} (h : DgS W b w l) (hk : Kept (ByteS w W.heap.size b) w w') {g : Nat} {T : TypeId} {cs : List Value} (hA : Arr w g T cs) (h1 : T ≠ 5) (h2 : T ≠ 66) : Arr w' g T cs :=
  hA.kept hk (h.other h1 h2 g _ hA)
end Go.Proofs.YtcjmeaikdfgapaaDoor

/- What Digest does. -/
namespace Go.Proofs.YtcjmeaikdfgapaaDoor
open Go Go.RowKit
set_option linter.unusedVariables false

/-- A state's digest is handed back. -/
def GotDig (W : World) (s : StF) (e : Ending) (w : World) : Prop := ∃ t, IsDig s t ∧ e = .returned (.string (Mx.bytes (Mx.sumL t))) ∧ Below W.heap.size W w

theorem accM_is (f : ByteArray → Nat × Nat) (n : ByteArray) : (accM f n).isSome = true ↔ f n ≠ (0, 0) := by
  unfold accM
  by_cases h : f n = (0, 0)
  · rw [if_pos h]; simp [h]
  · rw [if_neg h]; simp [h]

theorem wrap64i (n : Nat) (h : n ≤ 4611686018427387903) : IntKind.i64.wrap (n : Int) = (n : Int) := by
  simp [IntKind.wrap, IntKind.bits, IntKind.signed]
  omega

set_option maxRecDepth 100000 in
set_option maxHeartbeats 4000000 in
theorem digest22_any (w : World) (p : Nat) (S : Nat → Prop) (s : StF) (N : Nat) (h : PS w p S s N) (hN : N ≤ 100000) (hG : Mx.Glob w) :
    Calls Tryd.prog 11 #[.pointer (some ⟨p, 0, none⟩)] w fun e w' => GotDig w s e w' := by
  obtain ⟨a, v, -, hP⟩ := h
  obtain ⟨n1, hn1, hM⟩ := hP.acc
  obtain ⟨n2, hn2, hV⟩ := hP.val
  have hok := hP.ok
  have lp := hP.box.lt
  have hbx := hP.box
  clear hP
  have c0 := hbx.cell (i := 0) rfl
  have D1 := DgS.new w
  have hM1 := hM.below D1.bel
  have hV1 := hV.below D1.bel
  have cK := keysA_any (some a) (w.alloc (.cells #[.pointer none, .slice none 0 0] 66))
  have cS := sortedA_any a n1 _ _ hM1 (by omega)
  have hk2 := belowNew (w.alloc (.cells #[.pointer none, .slice none 0 0] 66)) (.cells #[.map (some a)] 50)
  obtain ⟨w1, hw1⟩ : ∃ q, w.alloc (.cells #[.pointer none, .slice none 0 0] 66) = q := ⟨_, rfl⟩
  rw [hw1] at D1 hM1 hV1 cK cS hk2
  obtain ⟨w2, hw2⟩ : ∃ q, w1.alloc (.cells #[.map (some a)] 50) = q := ⟨_, rfl⟩
  rw [hw2] at cK cS hk2
  have c01 : w1.cell? ⟨p, 0, none⟩ = some (.map (some a)) := by rw [cell_same (D1.bel.block _ lp)]; exact c0
  generalize hGG : GotDig w s = GG
  go_enter Tryd.func11, Tryd.ntmps11
  go_wp2_with fail
  refine cK.mono ?_
  rintro e w' ⟨rfl, rfl⟩
  clear cK
  go_wp2_with fail
  refine cS.mono ?_
  rintro e w3 ⟨L, ao, cap, rfl, hNm, hLn, hLr, hLm, hb3⟩
  have D3 := (D1.call hk2).call hb3
  clear cS hw1 hw2 hk2 hM1 D1 c01 hb3
  have hLs : ∀ x ∈ L, s.acc x ≠ (0, 0) := fun x hx => (accM_is _ _).1 ((hLm x).1 hx)
  have hLen : Hid (∀ i, ((L.take i).flatMap (accT s.acc)).length ≤ 10000000) := by
    intro i
    have h1 := flat_len (accT s.acc) 100 (L.take i) (fun x hx => accT_len hok (hLs x (List.mem_of_mem_take hx)))
    have h2 : (L.take i).length ≤ L.length := by rw [List.length_take]; omega
    omega
  have lL : L.length ≤ 100000 := by omega
  replace hLn : Hid _ := hLn
  go_wp2_with fail
  go_loopw [16] (fun v16 wr => ∃ i : Nat, i ≤ L.length ∧ v16 = .int .i64 (i : Int) ∧ DgS w w.heap.size wr ((L.take i).flatMap (accT s.acc)) ∧ NamesAt wr ao cap L) (fun v _ => L.length - (intOf v).toNat)
  case atStart => exact ⟨0, Nat.zero_le _, rfl, by rw [List.take_zero]; exact D3, hNm⟩
  case round =>
    obtain ⟨i, hi, rfl, D, hNr⟩ := hrel
    clear D3 hNm
    by_cases hil : i < L.length
    · have g1 : (i : Int) < (L.length : Int) := by omega
      obtain ⟨x, hx⟩ : ∃ q, L[i]? = some q := ⟨_, List.getElem?_eq_getElem hil⟩
      have hxm := List.mem_of_getElem? hx
      obtain ⟨b2, off, hao, hbl, hcell⟩ := hNr.row.cell i x hx
      subst hao
      have hc2 := hcell 0 _ rfl
      have eo : off + i * strK.n + 0 = off + i := by show off + i * 1 + 0 = _; omega
      rw [eo] at hc2
      clear hcell eo
      have hxn := hok.nm x (hLs x hxm)
      have hxz := isNm_size hxn
      have hid : x.size ≤ maxLen := by unfold maxLen; omega
      have hMr := hM.below D.bel
      have hg := accM_get s.acc x
      have ha1 := hok.amt x
      have ha2 := hok.num x
      have hnx : Hid ((L.take i).flatMap (accT s.acc) ++ txt (aP ++ x).data.toList ++ goInt ((s.acc x).1 : Nat) ++ goInt ((s.acc x).2 : Nat) = (L.take (i + 1)).flatMap (accT s.acc)) := by
        show _ = _
        rw [List.take_add_one, hx, List.flatMap_append]
        simp [accT]
      have c0r : wr.cell? ⟨p, 0, none⟩ = some (.map (some a)) := by rw [cell_same (D.bel.block _ lp)]; exact c0
      obtain ⟨x1, hx1⟩ : ∃ q, Hid ((s.acc x).1 = q) := ⟨_, rfl⟩
      obtain ⟨x2, hx2⟩ : ∃ q, Hid ((s.acc x).2 = q) := ⟨_, rfl⟩
      rw [hx1.out] at hg ha1 hnx
      rw [hx2.out] at hg ha2 hnx
      have hnb := belowNew wr (.cells #[.int .u64 (x1 : Int), .int .u64 (x2 : Int)] 55)
      have hA4 : Arr (wr.alloc (.cells #[.int .u64 (x1 : Int), .int .u64 (x2 : Int)] 55)) wr.heap.size 55 [.int .u64 (x1 : Int), .int .u64 (x2 : Int)] := Arr.new wr 55 _
      have D4 := D.call hnb
      have hN4 := hNr.below hnb
      have hsz1 : (⟨#[97, 58]⟩ : ByteArray).size + x.size ≤ 9223372036854775807 := by
        have : (⟨#[97, 58]⟩ : ByteArray).size = 2 := rfl
        omega
      have cT := fun wx => text_any (⟨#[97, 58]⟩ ++ x) wx (by have := apP_size x; unfold aP at this; omega)
      have cI1 := fun wx => int_any (x1 : Int) wx
      have cI2 := fun wx => int_any (x2 : Int) wx
      have hw1 := wrap64i x1 ha1
      have hw2 := wrap64i x2 (by omega)
      have e1 := txt_le (aP ++ x).data.toList
      have e2 := goInt_length (x1 : Int)
      have e3 := goInt_length (x2 : Int)
      have e4 := dlen (aP ++ x)
      have e5 := apP_size x
      have n1' := goInt_ne x1 (by omega)
      have n2' := goInt_ne x2 (by omega)
      have n0' : txt (aP ++ x).data.toList ≠ [] := by
        unfold txt
        intro e
        exact goInt_ne _ (by omega) (List.append_eq_nil_iff.1 e).1
      change ∀ wx, Calls _ _ _ _ (fun e w' => e = .returned (.string ⟨(txt (aP ++ x).data.toList).toArray⟩) ∧ _) at cT
      generalize txt (aP ++ x).data.toList = T0 at *
      generalize goInt (x1 : Int) = T1 at *
      generalize goInt (x2 : Int) = T2 at *
      have hl0 := hLen.out i
      generalize (L.take i).flatMap (accT s.acc) = l0 at *
      have hsz : Hid (l0.length ≤ 10000000 ∧ T0.length ≤ 100 ∧ T1.length ≤ 10 ∧ T2.length ≤ 10) := ⟨hl0, by omega, by omega, by omega⟩
      clear e1 e2 e3 e4 e5 hl0 hNr hnb
      go_wp2_with (first
        | (at_lookup; refine smap_look (by rfl) _ _ 50 rfl 55 Tryd.underlying50 _ (zeroAcc _) a _ _ rfl hMr x hid rfl ?_; rw [hg]))
      refine (cT _).mono ?_
      rintro e w5 ⟨rfl, hb5⟩
      have D5 := D4.call hb5
      have hA5 := hA4.below hb5 hA4.lt
      have hN5 := hN4.below hb5
      clear cT D4 hA4 hN4 hb5 c0r hMr hc2 hbl hsz1
      go_wp2_with fail
      refine (D5.write T0 (by have := hsz.out; omega) n0').mono ?_
      rintro e w6 ⟨rfl, D6, hk6⟩
      have hA6 := D5.arr hk6 hA5 (by decide) (by decide)
      have hN6 := hN5.kept hk6 (D5.other (by decide) (by decide))
      have k0 := hA6.cell (i := 0) rfl
      clear D5 hA5 hN5 hk6
      go_wp2_with fail
      refine (cI1 _).mono ?_
      rintro e w7 ⟨rfl, hb7⟩
      have D7 := D6.call hb7
      have hA7 := hA6.below hb7 hA6.lt
      have hN7 := hN6.below hb7
      clear cI1 D6 hA6 hN6 hb7 k0 hw1
      go_wp2_with fail
      refine (D7.write T1 (by have := hsz.out; rw [List.length_append]; omega) n1').mono ?_
      rintro e w8 ⟨rfl, D8, hk8⟩
      have hA8 := D7.arr hk8 hA7 (by decide) (by decide)
      have hN8 := hN7.kept hk8 (D7.other (by decide) (by decide))
      have k1 := hA8.cell (i := 1) rfl
      clear D7 hA7 hN7 hk8
      go_wp2_with fail
      refine (cI2 _).mono ?_
      rintro e w9 ⟨rfl, hb9⟩
      have D9 := D8.call hb9
      have hN9 := hN8.below hb9
      clear cI2 D8 hA8 hN8 hb9 k1 hw2
      go_wp2_with fail
      refine (D9.write T2 (by have := hsz.out; rw [List.length_append, List.length_append]; omega) n2').mono ?_
      rintro e w10 ⟨rfl, D10, hk10⟩
      have hN10 := hN9.kept hk10 (D9.other (by decide) (by decide))
      rw [hnx.out] at D10
      clear D9 hN9 hk10 hnx hsz
      go_wp2
      go_roundw
      case rel => exact ⟨i + 1, by omega, by go_num, D10, hN10⟩
      case measure => simp [intOf]; omega
    · have g1 : ¬ (i : Int) < (L.length : Int) := by omega
      have hir : i = L.length := by omega
      rw [hir, List.take_length] at D
      clear hir hi hil hNr
      have hV2 := hV.below D.bel
      have c1r : wr.cell? ⟨p, 1, none⟩ = some (.map (some v)) := by rw [cell_same (D.bel.block _ lp)]; exact hbx.cell (i := 1) rfl
      have cK := keysV_any (some v) wr
      have cS := sortedV_any v n2 _ _ hV2 (by omega)
      have hk2 := belowNew wr (.cells #[.map (some v)] 51)
      obtain ⟨w2, hw2⟩ : ∃ q, wr.alloc (.cells #[.map (some v)] 51) = q := ⟨_, rfl⟩
      rw [hw2] at cK cS hk2
      have hl1 := flat_len (accT s.acc) 100 L (fun x hx => accT_len hok (hLs x hx))
      obtain ⟨l1, hl1'⟩ : ∃ q, Hid (L.flatMap (accT s.acc) = q) := ⟨_, rfl⟩
      rw [hl1'.out] at D hl1
      clear hV1 hLen
      go_wp2_with fail
      refine cK.mono ?_
      rintro e w3 ⟨rfl, rfl⟩
      clear cK
      go_wp2_with fail
      refine cS.mono ?_
      rintro e w4 ⟨M, bo, bcap, rfl, hNm, hMn, hMr, hMm, hb3⟩
      have D4 := (D.call hk2).call hb3
      clear cS hw2 hk2 hV2 D c1r hb3
      have hMs : ∀ x ∈ M, s.val x ≠ none := fun x hx => by
        have := (hMm x).1 hx
        rw [valM_is] at this
        intro e
        rw [e] at this
        cases this
      have hMen : Hid (∀ i, ((M.take i).flatMap (valT s.val)).length ≤ 20000000) := by
        intro i
        have h1 := flat_len (valT s.val) 200 (M.take i) (fun x hx => valT_len hok (hMs x (List.mem_of_mem_take hx)))
        have h2 : (M.take i).length ≤ M.length := by rw [List.length_take]; omega
        omega
      have lM : M.length ≤ 100000 := by omega
      have ll1 : Hid (l1.length ≤ 10000000) := by show l1.length ≤ _; omega
      have hdig : Hid (IsDig s (l1 ++ M.flatMap (valT s.val))) := by
        refine ⟨L, M, hLr, hMr, fun n => (hLm n).trans (accM_is _ _), fun n => (hMm n).trans ?_, by rw [hl1'.out]⟩
        rw [valM_is]
        cases s.val n <;> simp
      clear hl1 hLm hLr hMm hMr hLs hl1'
      replace hMn : Hid _ := hMn
      go_wp2_with fail
      go_loopw [48] (fun v48 wr => ∃ i : Nat, i ≤ M.length ∧ v48 = .int .i64 (i : Int) ∧ DgS w w.heap.size wr (l1 ++ (M.take i).flatMap (valT s.val)) ∧ NamesAt wr bo bcap M) (fun v _ => M.length - (intOf v).toNat)
      case atStart => exact ⟨0, Nat.zero_le _, rfl, by rw [List.take_zero, List.flatMap_nil, List.append_nil]; exact D4, hNm⟩
      case round =>
        obtain ⟨i, hi, rfl, D, hNr⟩ := hrel
        clear D4 hNm
        by_cases hil : i < M.length
        · have g2 : (i : Int) < (M.length : Int) := by omega
          obtain ⟨x, hx⟩ : ∃ q, M[i]? = some q := ⟨_, List.getElem?_eq_getElem hil⟩
          have hxm := List.mem_of_getElem? hx
          obtain ⟨b3, off3, hao, hbl, hcell⟩ := hNr.row.cell i x hx
          subst hao
          have hc2 := hcell 0 _ rfl
          have eo : off3 + i * strK.n + 0 = off3 + i := by show off3 + i * 1 + 0 = _; omega
          rw [eo] at hc2
          clear hcell eo
          obtain ⟨y, hy⟩ := Option.ne_none_iff_exists'.1 (hMs x hxm)
          obtain ⟨hxn, hys⟩ := hok.vnm x y hy
          have hxz := isNm_size hxn
          have hid : x.size ≤ maxLen := by unfold maxLen; omega
          have hVr := hV.below D.bel
          have hg := valM_get s.val x
          have hnx : Hid (l1 ++ (M.take i).flatMap (valT s.val) ++ txt (kP ++ x).data.toList ++ txt ((s.val x).getD ⟨#[]⟩).data.toList = l1 ++ (M.take (i + 1)).flatMap (valT s.val)) := by
            show _ = _
            rw [List.take_add_one, hx, List.flatMap_append]
            simp [valT]
          rw [hy] at hg hnx
          simp only [Option.getD_some] at hg hnx
          have hsz1 : (⟨#[107, 58]⟩ : ByteArray).size + x.size ≤ 9223372036854775807 := by
            have : (⟨#[107, 58]⟩ : ByteArray).size = 2 := rfl
            omega
          have cT := fun wx => text_any (⟨#[107, 58]⟩ ++ x) wx (by have := kpP_size x; unfold kP at this; omega)
          have cY := fun wx => text_any y wx (by omega)
          have e1 := txt_le (kP ++ x).data.toList
          have e2 := txt_le y.data.toList
          have e4 := dlen (kP ++ x)
          have e5 := kpP_size x
          have e6 := dlen y
          have n0' : txt (kP ++ x).data.toList ≠ [] := by
            unfold txt
            intro e
            exact goInt_ne _ (by omega) (List.append_eq_nil_iff.1 e).1
          have n1' : txt y.data.toList ≠ [] := by
            unfold txt
            intro e
            exact goInt_ne _ (by omega) (List.append_eq_nil_iff.1 e).1
          change ∀ wx, Calls _ _ _ _ (fun e w' => e = .returned (.string ⟨(txt (kP ++ x).data.toList).toArray⟩) ∧ _) at cT
          generalize txt (kP ++ x).data.toList = T0 at *
          generalize txt y.data.toList = T1 at *
          have hl0 := hMen.out i
          generalize (M.take i).flatMap (valT s.val) = l0 at *
          have hsz : Hid (l0.length ≤ 20000000 ∧ T0.length ≤ 100 ∧ T1.length ≤ 100) := ⟨hl0, by omega, by omega⟩
          have hlq : Hid ((l1 ++ l0).length = l1.length + l0.length) := List.length_append
          obtain ⟨l2, hl2⟩ : ∃ q, Hid (l1 ++ l0 = q) := ⟨_, rfl⟩
          rw [hl2.out] at D hnx hlq
          clear e1 e2 e4 e5 e6 hl0 hy
          go_wp2_with fail
          refine (cT _).mono ?_
          rintro e w5 ⟨rfl, hb5⟩
          have D5 := D.call hb5
          have hN5 := hNr.below hb5
          clear cT D hNr hb5 hVr hc2 hbl hsz1
          go_wp2_with fail
          refine (D5.write T0 (by have h1 := hsz.out; have h2 := hlq.out; have h3 := ll1.out; omega) n0').mono ?_
          rintro e w6 ⟨rfl, D6, hk6⟩
          have hN6 := hN5.kept hk6 (D5.other (by decide) (by decide))
          have hV6 := hV.below D6.bel
          have c16 : w6.cell? ⟨p, 1, none⟩ = some (.map (some v)) := by rw [cell_same (D6.bel.block _ lp)]; exact hbx.cell (i := 1) rfl
          clear D5 hN5 hk6
          go_wp2_with (at_lookup; refine smap_look (by rfl) _ _ 51 rfl 79 Tryd.underlying51 _ (zeroVal _) v _ _ rfl hV6 x hid rfl ?_; rw [hg])
          rename_i K hK
          refine hK _ _ ?_
          clear hK
          go_wp2_with fail
          refine (cY _).mono ?_
          rintro e w7 ⟨rfl, hb7⟩
          have D7 := D6.call hb7
          have hN7 := hN6.below hb7
          clear cY D6 hN6 hb7 hV6 c16
          go_wp2_with fail
          refine (D7.write T1 (by have h1 := hsz.out; have h2 := hlq.out; have h3 := ll1.out; rw [List.length_append]; omega) n1').mono ?_
          rintro e w8 ⟨rfl, D8, hk8⟩
          have hN8 := hN7.kept hk8 (D7.other (by decide) (by decide))
          rw [hnx.out] at D8
          clear D7 hN7 hk8 hnx hsz hlq hl2
          go_wp2
          go_roundw
          case rel => exact ⟨i + 1, by omega, by go_num, D8, hN8⟩
          case measure => simp [intOf]; omega
        · have g2 : ¬ (i : Int) < (M.length : Int) := by omega
          have hir : i = M.length := by omega
          have hm2 := hMen.out M.length
          rw [List.take_length] at hm2
          rw [hir, List.take_length] at D
          clear hir hi hil hNr hMen hMs
          obtain ⟨t, ht⟩ : ∃ q, Hid (l1 ++ M.flatMap (valT s.val) = q) := ⟨_, rfl⟩
          have hts : Hid (t.length ≤ 30000000) := by
            show t.length ≤ _
            rw [← ht.out, List.length_append]
            have := ll1.out
            omega
          rw [ht.out] at D hdig
          clear ht hm2 ll1
          go_wp2_with fail
          refine D.read.mono ?_
          rintro e w5 ⟨rfl, hb5⟩
          have cM := Mx.sum_any ⟨t.toArray⟩ w5 (by rw [size_mk]; have := hts.out; omega) (hG.below hb5)
          go_wp2_with fail
          refine cM.mono ?_
          rintro e w6 ⟨rfl, hb6⟩
          have hfin : GG (.returned (.string (Mx.bytes (Mx.sumL t)))) w6 := by
            rw [← hGG]
            exact ⟨t, hdig.out, rfl, hb5.trans (hb6.mono hb5.size)⟩
          clear cM D hdig hGG
          go_wp2
          exact hfin
end Go.Proofs.YtcjmeaikdfgapaaDoor

/- What tuskref04.Name and Key do; memory stands. -/
namespace Go.Proofs.YtcjmeaikdfgapaaDoor
open Go.RowKit
set_option linter.unusedVariables false

set_option maxRecDepth 100000 in
set_option maxHeartbeats 1000000 in
theorem refName_any (s : ByteArray) (w : World) (hs : s.size ≤ maxLen) :
    Calls Tryd.prog 22 #[.string s] w fun e w' => e = .returned (.bool (isNm s)) ∧ w' = w := by
  unfold maxLen at hs
  go_enter Tryd.func22, Tryd.ntmps22
  go_wp2
  go_loop [3] (fun v => ∃ k : Nat, k ≤ s.size ∧ v = .int .i64 k ∧ Hid ((s.data.toList.take k).all nameByte = true)) (fun v => s.size - (intOf v).toNat)
  case atStart => exact ⟨0, by omega, rfl, by show _ = _; simp⟩
  case round =>
    obtain ⟨k, hk, rfl, hall⟩ := hrel
    by_cases hlt : k < s.size
    · obtain ⟨c, hc⟩ : ∃ c, s[k].toNat = c := ⟨_, rfl⟩
      have hY : (97 ≤ c ∧ c ≤ 122 ∨ 48 ≤ c ∧ c ≤ 57) → Hid ((s.data.toList.take (k + 1)).all nameByte = true) := by
        intro h
        show _ = _
        rw [all_take_succ s k hlt, hall.out]
        unfold nameByte
        rw [hc]
        simp only [Bool.true_and, Bool.or_eq_true, Bool.and_eq_true, decide_eq_true_eq]
        exact h
      have hN : ¬ (97 ≤ c ∧ c ≤ 122 ∨ 48 ≤ c ∧ c ≤ 57) → Hid (isNm s = false) := by
        intro h
        show _ = _
        unfold isNm
        rw [all_of_take s k hlt _ (by
          unfold nameByte
          rw [hc]
          simp only [Bool.or_eq_false_iff, Bool.and_eq_false_iff, decide_eq_false_iff_not]
          omega)]
        simp
      clear hall
      have hI : ((c : Int) < 48 ∧ (c : Int) ≤ 57 ∧ (c : Int) < 97 ∧ (c : Int) ≤ 122) ∨ ((48 : Int) ≤ c ∧ (57 : Int) < c ∧ (c : Int) < 97 ∧ (c : Int) ≤ 122) ∨ ((48 : Int) ≤ c ∧ (57 : Int) < c ∧ (97 : Int) ≤ c ∧ (122 : Int) < c) ∨
          ((48 : Int) ≤ c ∧ (c : Int) ≤ 57 ∧ (c : Int) < 97 ∧ (c : Int) ≤ 122) ∨ ((48 : Int) ≤ c ∧ (57 : Int) < c ∧ (97 : Int) ≤ c ∧ (c : Int) ≤ 122) := by omega
      rcases hI with ⟨i1, i2, i3, i4⟩ | ⟨i1, i2, i3, i4⟩ | ⟨i1, i2, i3, i4⟩ | ⟨i1, i2, i3, i4⟩ | ⟨i1, i2, i3, i4⟩
      · have H := hN (by omega)
        clear hY hN
        go_wp2
        go_ret
        exact ⟨by rw [H.out]; rfl, rfl⟩
      · have H := hN (by omega)
        clear hY hN
        go_wp2
        go_ret
        exact ⟨by rw [H.out]; rfl, rfl⟩
      · have H := hN (by omega)
        clear hY hN
        go_wp2
        go_ret
        exact ⟨by rw [H.out]; rfl, rfl⟩
      · have H := hY (by omega)
        clear hY hN
        have d57 : decide ((57 : Int) < c) = false := decide_eq_false (by omega)
        go_wp2
        go_round
        case rel => exact ⟨k + 1, by omega, by go_num, H⟩
        case measure => simp [intOf]; omega
      · have H := hY (by omega)
        clear hY hN
        have d122 : decide ((122 : Int) < c) = false := decide_eq_false (by omega)
        go_wp2
        go_round
        case rel => exact ⟨k + 1, by omega, by go_num, H⟩
        case measure => simp [intOf]; omega
    · have H : Hid (isNm s = (decide (1 ≤ s.size) && decide (s.size ≤ 32))) := by
        show _ = _
        have h1 := hall.out
        rw [List.take_of_length_le (by simp; omega)] at h1
        unfold isNm
        rw [h1]
        simp
      clear hall
      by_cases h1 : 1 ≤ s.size
      · have h1' : (1 : Int) ≤ s.size := by omega
        replace H : Hid (isNm s = decide (s.size ≤ 32)) := by show _ = _; rw [H.out, decide_eq_true h1]; rfl
        by_cases h2 : s.size ≤ 32
        · replace H : Hid (isNm s = true) := by show _ = _; rw [H.out, decide_eq_true h2]
          have h2' : (s.size : Int) ≤ 32 := by omega
          go_wp2
          go_ret
          exact ⟨by rw [H.out]; rfl, rfl⟩
        · replace H : Hid (isNm s = false) := by show _ = _; rw [H.out, decide_eq_false h2]
          have h2' : (32 : Int) < s.size := by omega
          have d2 : decide ((s.size : Int) ≤ 32) = false := decide_eq_false (by omega)
          go_wp2
          go_ret
          exact ⟨by rw [H.out]; rfl, rfl⟩
      · replace H : Hid (isNm s = false) := by show _ = _; rw [H.out, decide_eq_false h1]; rfl
        have h1' : (s.size : Int) < 1 := by omega
        go_wp2
        go_ret
        exact ⟨by rw [H.out]; rfl, rfl⟩
end Go.Proofs.YtcjmeaikdfgapaaDoor

/- Keys and their front; lists of one key; what a right transaction needs. -/
namespace Go.Proofs.YtcjmeaikdfgapaaDoor
open Go.RowKit
set_option linter.unusedVariables false

theorem pre_data (a b : UInt8) (s : ByteArray) : (⟨#[a, b]⟩ ++ s : ByteArray) = ⟨(a :: b :: s.data.toList).toArray⟩ := append_list [a, b] s

theorem pre_front (a b : UInt8) (s : ByteArray) : (⟨#[a, b]⟩ ++ s : ByteArray).extract 0 2 = ⟨#[a, b]⟩ := by
  rw [pre_data, extract_list]
  simp

theorem pre_rest (a b : UInt8) (s : ByteArray) : (⟨#[a, b]⟩ ++ s : ByteArray).extract 2 (⟨#[a, b]⟩ ++ s : ByteArray).size = s := by
  rw [pre_data, extract_list, size_mk]
  apply ByteArray.ext
  apply Array.ext'
  simp
  exact List.take_of_length_le (by simp)

theorem pre_size (a b : UInt8) (s : ByteArray) : (⟨#[a, b]⟩ ++ s : ByteArray).size = s.size + 2 := by
  rw [pre_data, size_mk]
  simp

theorem cut_pre (a b : UInt8) (s : ByteArray) : cutOk (⟨#[a, b]⟩ ++ s) ⟨#[a, b]⟩ = true := by
  unfold cutOk
  have h : (⟨#[a, b]⟩ : ByteArray).size = 2 := rfl
  rw [h, pre_front, pre_size, decide_eq_true (by omega)]
  simp

theorem isKy_a (s : ByteArray) : isKy (aP ++ s) = isNm s := by
  unfold isKy aP
  rw [cut_pre, pre_rest]
  simp

theorem isKy_k (s : ByteArray) : isKy (kP ++ s) = isNm s := by
  unfold isKy kP
  rw [cut_pre, pre_rest]
  simp

theorem pre_above (a b : UInt8) (s : ByteArray) : (Op.bytesLess (⟨#[a, b]⟩ ++ s : ByteArray).toList (⟨#[]⟩ : ByteArray).toList || (⟨#[a, b]⟩ ++ s : ByteArray).toList == (⟨#[]⟩ : ByteArray).toList) = false := by
  rw [pre_data, ByteArray.toList_eq, ByteArray.toList_eq]
  simp [Op.bytesLess]

theorem keys_one_a (s : ByteArray) : keysL [aP ++ s] = if isNm s = true then 0 else 3 := by
  unfold keysL
  rw [if_neg (by simp), keysGo, isKy_a]
  cases isNm s with
  | false => simp
  | true =>
    rw [if_neg (by simp)]
    unfold aP
    rw [pre_above, if_neg (by simp), keysGo]
    rfl

theorem keys_one_k (s : ByteArray) : keysL [kP ++ s] = if isNm s = true then 0 else 3 := by
  unfold keysL
  rw [if_neg (by simp), keysGo, isKy_k]
  cases isNm s with
  | false => simp
  | true =>
    rw [if_neg (by simp)]
    unfold kP
    rw [pre_above, if_neg (by simp), keysGo]
    rfl

theorem less_eq : ∀ (x y : List UInt8), Op.bytesLess x y = decide (x < y)
  | [], [] => by simp [Op.bytesLess]
  | _ :: _, [] => by simp [Op.bytesLess]
  | [], _ :: _ => by simp [Op.bytesLess]
  | a :: x, b :: y => by
    rw [Op.bytesLess, less_eq x y]
    simp only [List.cons_lt_cons_iff]
    by_cases h1 : a < b <;> by_cases h2 : a = b <;> by_cases h3 : x < y <;> simp [h1, h2, h3]

theorem less_asymm {x y : List UInt8} (h : Op.bytesLess x y = true) : Op.bytesLess y x = false := by
  rw [less_eq, decide_eq_true_eq] at h
  rw [less_eq, decide_eq_false_iff_not]
  exact List.lt_asymm h

theorem less_ne {x y : List UInt8} (h : Op.bytesLess x y = true) : x ≠ y := by
  rintro rfl
  have := less_asymm h
  rw [h] at this
  cases this

theorem a_below_k (x y : ByteArray) : Op.bytesLess (aP ++ x).toList (kP ++ y).toList = true := by
  have h1 : (aP ++ x) = ⟨([97, 58] ++ x.data.toList).toArray⟩ := append_list [97, 58] x
  have h2 : (kP ++ y) = ⟨([107, 58] ++ y.data.toList).toArray⟩ := append_list [107, 58] y
  rw [h1, h2, ByteArray.toList_eq, ByteArray.toList_eq]
  simp [Op.bytesLess]

/-- What a right transaction needs: one key, or two that rise. -/
theorem needs_form {d : TxD} (h : checkL d = 0) : (∃ a, needsL d = [a]) ∨ ∃ a b, needsL d = [a, b] ∧ Op.bytesLess a.toList b.toList = true := by
  unfold needsL
  rw [if_pos h]
  by_cases hk : d.kind = 2
  · rw [if_pos hk]
    exact Or.inr ⟨_, _, rfl, a_below_k _ _⟩
  · rw [if_neg hk]
    split
    · rename_i h1
      exact Or.inr ⟨_, _, rfl, h1⟩
    · split
      · rename_i h1
        exact Or.inr ⟨_, _, rfl, h1⟩
      · exact Or.inl ⟨_, rfl⟩

theorem ky_above {k : ByteArray} (h : isKy k = true) : (Op.bytesLess k.toList (⟨#[]⟩ : ByteArray).toList || k.toList == (⟨#[]⟩ : ByteArray).toList) = false := by
  have hs : 1 ≤ k.size := by
    unfold isKy at h
    rw [Bool.and_eq_true] at h
    have h2 := h.2
    unfold isNm at h2
    simp only [Bool.and_eq_true, decide_eq_true_eq, ByteArray.size_extract] at h2
    omega
  have hl : k.data.toList.length = k.size := by simp
  rw [ByteArray.toList_eq, ByteArray.toList_eq]
  cases hd : k.data.toList with
  | nil => rw [hd] at hl; simp at hl; omega
  | cons x r => simp [Op.bytesLess]

theorem keysL_one {a : ByteArray} (ha : isKy a = true) : keysL [a] = 0 := by
  unfold keysL
  rw [if_neg (by simp), keysGo, if_neg (by rw [ha]; simp), ky_above ha, if_neg (by simp), keysGo]

theorem keysL_pair {a b : ByteArray} (ha : isKy a = true) (hb : isKy b = true) (h : Op.bytesLess a.toList b.toList = true) : keysL [a, b] = 0 := by
  have h1 : (Op.bytesLess b.toList a.toList || b.toList == a.toList) = false := by
    rw [less_asymm h, beq_eq_false_iff_ne.2 (less_ne h).symm]
    rfl
  unfold keysL
  rw [if_neg (by simp), keysGo, if_neg (by rw [ha]; simp), ky_above ha, if_neg (by simp), keysGo, if_neg (by rw [hb]; simp), h1, if_neg (by simp), keysGo]

theorem needs_keys {d : TxD} (h : checkL d = 0) : ∀ k ∈ needsL d, isKy k = true := by
  obtain ⟨z1, z2, _⟩ := check_zero h
  unfold fieldsR at z2
  rw [Bool.and_eq_true] at z2
  have hf := z2.1
  have z3 := z2.2
  unfold needsL
  rw [if_pos h]
  by_cases hk : d.kind = 2
  · rw [if_neg (by omega)] at z3
    simp only [Bool.and_eq_true] at z3
    have hy := z3.1.1.1
    rw [if_pos hk]
    intro k hm
    simp at hm
    rcases hm with rfl | rfl
    · rw [isKy_a]; exact hf
    · rw [isKy_k]; exact hy
  · rw [if_pos (by omega)] at z3
    simp only [Bool.and_eq_true] at z3
    have ht := z3.1.1
    rw [if_neg hk]
    intro k hm
    have hm' : k = aP ++ d.frm ∨ k = aP ++ d.to := by
      split at hm
      · simpa using hm
      · split at hm
        · simp at hm; exact hm.symm
        · simp at hm; exact Or.inl hm
    rcases hm' with rfl | rfl
    · rw [isKy_a]; exact hf
    · rw [isKy_a]; exact ht

theorem needs_no {d : TxD} (h : checkL d ≠ 0) : needsL d = [] := by
  unfold needsL
  rw [if_neg h]

theorem keys_needs {d : TxD} (h : checkL d = 0) : keysL (needsL d) = 0 := by
  have hk := needs_keys h
  rcases needs_form h with ⟨a, e⟩ | ⟨a, b, e, hl⟩
  · rw [e] at hk ⊢
    exact keysL_one (hk a (by simp))
  · rw [e] at hk ⊢
    exact keysL_pair (hk a (by simp)) (hk b (by simp)) hl

theorem check_withW {d : TxD} (h : checkL d = 0) {ws : List ByteArray} (hk : keysL ws = 0) : checkL { d with ws := ws } = 0 := by
  obtain ⟨z1, z2, z3, z4, z5, _⟩ := check_zero h
  unfold checkL
  rw [if_neg (by show ¬ (d.kind ≠ 1 ∧ d.kind ≠ 2); omega), if_neg (by show ¬ (fieldsR d = false); rw [z2]; simp), if_neg (by show ¬ (_ < d.amt ∨ _ < d.non); omega), if_neg (by show ¬ (keysL d.rs ≠ 0); rw [z5]; simp)]
  exact hk

theorem needs_withW {d : TxD} {ws : List ByteArray} (h : checkL d = 0) (hw : checkL { d with ws := ws } = 0) : needsL { d with ws := ws } = needsL d := by
  unfold needsL
  rw [if_pos h, if_pos hw]

theorem fits_with {d : TxD} (h : checkL d = 0) : fitsL { d with ws := needsL d } = true := by
  have h1 := check_withW h (keys_needs h)
  unfold fitsL
  rw [needs_withW h h1]
  have hne : (needsL d).isEmpty = false := by
    rcases needs_form h with ⟨a, e⟩ | ⟨a, b, e, _⟩ <;> rw [e] <;> rfl
  rw [hne]
  simp only [Bool.not_false, Bool.true_and, List.all_eq_true]
  intro k hm
  show hasL (needsL d) k = true
  unfold hasL
  rw [List.any_eq_true]
  exact ⟨k, hm, by simp⟩

theorem fits_without {d : TxD} (h : checkL d = 0) : fitsL { d with ws := (needsL d).tail } = false := by
  by_cases h1 : checkL { d with ws := (needsL d).tail } = 0
  · unfold fitsL
    rw [needs_withW h h1]
    have hf : (needsL d).all (hasL (needsL d).tail) = false := by
      rcases needs_form h with ⟨a, e⟩ | ⟨a, b, e, hl⟩
      · rw [e]; simp [hasL]
      · rw [e]
        have := less_ne hl
        simp [hasL, this]
    show (!(needsL d).isEmpty && (needsL d).all (hasL (needsL d).tail)) = false
    rw [hf]
    simp
  · have e : needsL { d with ws := (needsL d).tail } = [] := needs_no h1
    unfold fitsL
    rw [e]
    rfl
end Go.Proofs.YtcjmeaikdfgapaaDoor

/- What tuskref04.Key, keys and Check do; nothing old in memory is turned. -/
namespace Go.Proofs.YtcjmeaikdfgapaaDoor
open Go.RowKit
set_option linter.unusedVariables false

theorem cut_two {s : ByteArray} (h : 2 < s.size) (a b : UInt8) : cutOk s ⟨#[a, b]⟩ = ((s.extract 0 2).toList == [a, b]) := by
  unfold cutOk
  have h1 : (⟨#[a, b]⟩ : ByteArray).size = 2 := rfl
  rw [h1, decide_eq_true (by omega), ByteArray.toList_eq ⟨#[a, b]⟩]
  rfl

theorem small_key {s : ByteArray} (h : s.size ≤ 2) : isKy s = false := by
  unfold isKy
  have h1 : isNm (s.extract 2 s.size) = false := by
    cases hn : isNm (s.extract 2 s.size) with
    | false => rfl
    | true =>
      unfold isNm at hn
      simp only [Bool.and_eq_true, decide_eq_true_eq, ByteArray.size_extract] at hn
      omega
  rw [h1]
  simp

set_option maxRecDepth 100000 in
set_option maxHeartbeats 400000 in
theorem refKey_any (s : ByteArray) (w : World) (hs : s.size ≤ maxLen) :
    Calls Tryd.prog 90 #[.string s] w fun e w' => e = .returned (.bool (isKy s)) ∧ w' = w := by
  by_cases h2 : 2 < s.size
  · have h2' : (2 : Int) < s.size := by omega
    have hsz : (2 : Int) ≤ s.size := by omega
    have cn := refName_any (s.extract 2 s.size) w (by rw [ByteArray.size_extract]; omega)
    have H : Hid (isKy s = ((((s.extract 0 2).toList == [97, 58]) || ((s.extract 0 2).toList == [107, 58])) && isNm (s.extract 2 s.size))) := by
      show _ = _
      unfold isKy aP kP
      rw [cut_two h2, cut_two h2]
    generalize isNm (s.extract 2 s.size) = b at cn H
    clear hs
    by_cases ha : (s.extract 0 2).toList = [97, 58]
    · replace H : Hid (isKy s = b) := by show _ = _; rw [H.out, ha]; simp
      go_enter Tryd.func90, Tryd.ntmps90
      go_wp2_with fail
      refine cn.mono ?_
      rintro e w' ⟨rfl, rfl⟩
      go_wp2
      go_ret
      exact ⟨by rw [H.out]; rfl, rfl⟩
    · have ha' : ((s.extract 0 2).toList == [97, 58]) = false := beq_eq_false_iff_ne.2 ha
      by_cases hk : (s.extract 0 2).toList = [107, 58]
      · replace H : Hid (isKy s = b) := by show _ = _; rw [H.out, ha', hk]; simp
        go_enter Tryd.func90, Tryd.ntmps90
        go_wp2_with fail
        refine cn.mono ?_
        rintro e w' ⟨rfl, rfl⟩
        go_wp2
        go_ret
        exact ⟨by rw [H.out]; rfl, rfl⟩
      · have hk' : ((s.extract 0 2).toList == [107, 58]) = false := beq_eq_false_iff_ne.2 hk
        replace H : Hid (isKy s = false) := by show _ = _; rw [H.out, ha', hk']; simp
        go_enter Tryd.func90, Tryd.ntmps90
        go_wp2
        go_ret
        exact ⟨by rw [H.out]; rfl, rfl⟩
  · have h2' : ¬ (2 : Int) < s.size := by omega
    have H : Hid (isKy s = false) := small_key (by omega)
    go_enter Tryd.func90, Tryd.ntmps90
    go_wp2
    go_ret
    exact ⟨by rw [H.out]; rfl, rfl⟩

/-- The one ahead. -/
def prevK (ss : List ByteArray) (k : Nat) : ByteArray := if k = 0 then ⟨#[]⟩ else ss.getD (k - 1) ⟨#[]⟩

set_option maxRecDepth 100000 in
set_option maxHeartbeats 1000000 in
theorem refKeys_any (ao : Option Addr) (cap : Nat) (ss : List ByteArray) (w : World) (hc : StrsAt w ao ss) (hz : ∀ s ∈ ss, s.size ≤ maxLen) :
    Calls Tryd.prog 72 #[.slice ao ss.length cap] w fun e w' => e = .returned (.int .i64 (keysL ss : Int)) ∧ Below w.heap.size w w' := by
  by_cases h8 : 8 < ss.length
  · have H : Hid (keysL ss = 8) := by show _ = _; unfold keysL; rw [if_pos h8]
    have h8' : (8 : Int) < ss.length := by omega
    go_enter Tryd.func72, Tryd.ntmps72
    go_wp2
    go_ret
    exact ⟨by rw [H.out]; rfl, Below.refl _ _⟩
  have h8' : ¬ (8 : Int) < ss.length := by omega
  have HK : Hid (keysL ss = keysGo ⟨#[]⟩ ss) := by show _ = _; unfold keysL; rw [if_neg h8]
  go_enter Tryd.func72, Tryd.ntmps72
  go_wp2
  go_loopw [3] (fun v wr => ∃ k : Nat, k ≤ ss.length ∧ v = .int .i64 k ∧ Hid (keysL ss = keysGo (prevK ss k) (ss.drop k)) ∧ Below w.heap.size w wr) (fun v _ => ss.length - (intOf v).toNat)
  case atStart => exact ⟨0, by omega, rfl, HK, Below.refl _ _⟩
  case round =>
    obtain ⟨k, hk, rfl, hK, hb⟩ := hrel
    by_cases hlt : k < ss.length
    · obtain ⟨b, off, rfl, hbl, hcell⟩ := (hc.below hb) k hlt
      have hd : ss.drop k = ss[k] :: ss.drop (k + 1) := List.drop_eq_getElem_cons hlt
      have hK2 := hK.out
      rw [hd, keysGo] at hK2
      have cn := fun w1 => refKey_any ss[k] w1 (hz _ (List.getElem_mem hlt))
      obtain ⟨x, hx⟩ : ∃ x, x = ss[k] := ⟨_, rfl⟩
      have hpr : prevK ss (k + 1) = x := by rw [hx]; unfold prevK; rw [if_neg (by omega)]; simp [List.getD, hlt]
      rw [← hx] at hK2 cn hcell
      clear hK hd HK
      cases hky : isKy x with
      | false =>
        have H : Hid (keysL ss = 3) := by show _ = _; rw [hK2, if_pos hky]
        simp only [hky] at cn
        clear hK2 hky hx hpr hc
        go_wp2_with fail
        refine (cn _).mono ?_
        rintro e w' ⟨rfl, rfl⟩
        go_wp2
        go_ret
        exact ⟨by rw [H.out]; rfl, hb⟩
      | true =>
        have hab := ky_above hky
        simp only [hky] at cn
        rw [if_neg (by rw [hky]; simp)] at hK2
        by_cases hk0 : k = 0
        · subst hk0
          have H : Hid (keysL ss = keysGo (prevK ss (0 + 1)) (ss.drop (0 + 1))) := by
            show _ = _
            rw [hpr, hK2]
            have : prevK ss 0 = ⟨#[]⟩ := rfl
            rw [this, hab, if_neg (by simp)]
          replace hcell : wr.cell? ⟨b, off, none⟩ = some (.string x) := hcell
          clear hK2 hky hx hpr hc hab
          go_wp2_with fail
          refine (cn _).mono ?_
          rintro e w' ⟨rfl, rfl⟩
          go_wp2_with fail
          go_quiet (fail)
          have hb2 := below_drewN hb nq
          clear hb hcell
          go_wp2
          go_roundw
          case rel => exact ⟨0 + 1, by omega, by go_num, H, hb2⟩
          case measure => simp [intOf]; omega
        · obtain ⟨j, rfl⟩ : ∃ j, k = j + 1 := ⟨k - 1, by omega⟩
          obtain ⟨b', off', e', _, hcell'⟩ := (hc.below hb) j (by omega)
          simp at e'
          obtain ⟨rfl, rfl⟩ := e'
          obtain ⟨y, hy⟩ : ∃ y, y = ss[j] := ⟨_, rfl⟩
          have hpy : prevK ss (j + 1) = y := by rw [hy]; unfold prevK; rw [if_neg (by omega)]; simp [List.getD, show j < ss.length by omega]
          rw [← hy] at hcell'
          rw [hpy] at hK2
          have hj1 : (((j + 1 : Nat) : Int)) - 1 = (j : Int) := by omega
          have hdk : decide ((0 : Int) < ((j + 1 : Nat) : Int)) = true := decide_eq_true (by omega)
          cases hle : (Op.bytesLess x.toList y.toList || x.toList == y.toList) with
          | true =>
            have H : Hid (keysL ss = 9) := by show _ = _; rw [hK2, if_pos hle]
            clear hK2 hky hx hpr hc hab hy hpy
            go_wp2_with fail
            refine (cn _).mono ?_
            rintro e w' ⟨rfl, rfl⟩
            go_wp2_with fail
            go_quiet (fail)
            have hb2 := below_drewN hb nq
            clear hb hcell hcell'
            go_wp2
            go_ret
            exact ⟨by rw [H.out]; rfl, hb2⟩
          | false =>
            have H : Hid (keysL ss = keysGo (prevK ss (j + 1 + 1)) (ss.drop (j + 1 + 1))) := by show _ = _; rw [hpr, hK2, if_neg (by rw [hle]; simp)]
            clear hK2 hky hx hpr hc hab hy hpy
            go_wp2_with fail
            refine (cn _).mono ?_
            rintro e w' ⟨rfl, rfl⟩
            go_wp2_with fail
            go_quiet (fail)
            have hb2 := below_drewN hb nq
            clear hb hcell hcell'
            go_wp2
            go_roundw
            case rel => exact ⟨j + 1 + 1, by omega, by go_num, H, hb2⟩
            case measure => simp [intOf]; omega
    · have H : Hid (keysL ss = 0) := by
        show _ = _
        rw [hK.out, List.drop_of_length_le (by omega), keysGo]
      clear hK
      go_wp2
      go_ret
      exact ⟨by rw [H.out]; rfl, hb⟩
end Go.Proofs.YtcjmeaikdfgapaaDoor

/- What tuskref04.Check does; nothing old in memory is turned. -/
namespace Go.Proofs.YtcjmeaikdfgapaaDoor
open Go.RowKit
set_option linter.unusedVariables false

theorem check_three {d : TxD} (hk : d.kind = 1 ∨ d.kind = 2) (h : fieldsR d = false) : checkL d = 3 := by
  unfold checkL
  rw [if_neg (by omega), if_pos h]

theorem check_two {d : TxD} (hk : d.kind = 1 ∨ d.kind = 2) (h : fieldsR d = true) (hr : 4611686018427387903 < d.amt ∨ 4611686018427387903 < d.non) : checkL d = 2 := by
  unfold checkL
  rw [if_neg (by omega), if_neg (by rw [h]; simp), if_pos hr]

theorem check_rs {d : TxD} (hk : d.kind = 1 ∨ d.kind = 2) (h : fieldsR d = true) (h1 : d.amt ≤ 4611686018427387903) (h2 : d.non ≤ 4611686018427387903) (hz : keysL d.rs ≠ 0) : checkL d = keysL d.rs := by
  unfold checkL
  rw [if_neg (by omega), if_neg (by rw [h]; simp), if_neg (by omega), if_pos hz]

theorem check_ws {d : TxD} (hk : d.kind = 1 ∨ d.kind = 2) (h : fieldsR d = true) (h1 : d.amt ≤ 4611686018427387903) (h2 : d.non ≤ 4611686018427387903) (hz : keysL d.rs = 0) : checkL d = keysL d.ws := by
  unfold checkL
  rw [if_neg (by omega), if_neg (by rw [h]; simp), if_neg (by omega), if_neg (by rw [hz]; simp)]

set_option maxRecDepth 100000 in
set_option maxHeartbeats 4000000 in
theorem refCheck_any (d : TxD) (ra : Option Addr) (rc : Nat) (wa : Option Addr) (wc : Nat) (w : World) (hA : TxAt w d ra wa) (hs : TxSizes d) :
    Calls Tryd.prog 54 #[txV d ra rc wa wc] w fun e w' => e = .returned (.int .i64 (checkL d : Int)) ∧ Below w.heap.size w w' := by
  have hX : Arr _ _ _ (txC d ra rc wa wc) := TxBox.new w d ra rc wa wc
  have hB := belowNew w (.cells (txC d ra rc wa wc).toArray 33)
  have hA0 := hA.below hB
  have cF := fun w1 => refName_any d.frm w1 hs.frm
  have cT := fun w1 => refName_any d.to w1 hs.to
  have cK := fun w1 => refName_any d.key w1 hs.key
  have ck1 := fun w1 (h : StrsAt w1 ra d.rs) => refKeys_any ra rc d.rs w1 h hs.rs
  have ck2 := fun w1 (h : StrsAt w1 wa d.ws) => refKeys_any wa wc d.ws w1 h hs.ws
  have hR0 := hA0.rd
  have hW0 := hA0.wr
  have t3 := check_three (d := d)
  have t2 := check_two (d := d)
  have tr := check_rs (d := d)
  have tw := check_ws (d := d)
  have t5 : d.kind ≠ 1 ∧ d.kind ≠ 2 → checkL d = 5 := fun h => by unfold checkL; rw [if_pos h]
  have F : fieldsR d = (isNm d.frm && (if d.kind = 1 then isNm d.to && (d.key.toList == []) && (d.val.toList == []) else isNm d.key && decide (d.val.size ≤ 64) && (d.to.toList == []) && decide (d.amt = 0))) := rfl
  simp only [bemp] at F
  clear hA hA0 hs
  obtain ⟨kind, frm, rcp, amt, non, key, val, rs, ws⟩ := d
  dsimp only at cF cT cK ck1 ck2 hR0 hW0 t3 t2 tr tw t5 F
  unfold txV
  generalize hchk : checkL ⟨kind, frm, rcp, amt, non, key, val, rs, ws⟩ = chk at *
  clear hchk
  generalize hfld : fieldsR ⟨kind, frm, rcp, amt, non, key, val, rs, ws⟩ = fld at *
  clear hfld
  by_cases hk : kind ≠ 1 ∧ kind ≠ 2
  · have H : Hid (chk = 5) := t5 hk
    have hk1 : (kind != 1) = true := by simpa using hk.1
    have hk2 : (kind != 2) = true := by simpa using hk.2
    clear t3 t2 tr tw t5 F hk cF cT cK ck1 ck2 hR0 hW0 hX
    go_enter Tryd.func54, Tryd.ntmps54
    go_wp2
    go_ret
    exact ⟨by rw [H.out]; rfl, hB⟩
  clear t5
  cases n1 : isNm frm with
  | false =>
    have hkk : kind = 1 ∨ kind = 2 := by omega
    clear hk
    simp only [n1] at cF
    replace F : fld = false := by rw [F, n1]; rfl
    rcases hkk with rfl | rfl
    · have hkk : (1 : Int) = 1 ∨ (1 : Int) = 2 := Or.inl rfl
      have H : Hid (chk = 3) := t3 hkk F
      clear t3 t2 tr tw F hkk hX
      clear ck1 ck2 hR0 hW0
      go_enter Tryd.func54, Tryd.ntmps54
      go_wp2_with fail
      refine (cF _).mono ?_
      rintro e w0 ⟨rfl, hw1⟩
      subst hw1
      go_wp2
      go_ret
      exact ⟨by rw [H.out]; rfl, hB⟩
    · have hkk : (2 : Int) = 1 ∨ (2 : Int) = 2 := Or.inr rfl
      have H : Hid (chk = 3) := t3 hkk F
      clear t3 t2 tr tw F hkk hX
      clear ck1 ck2 hR0 hW0
      go_enter Tryd.func54, Tryd.ntmps54
      go_wp2_with fail
      refine (cF _).mono ?_
      rintro e w0 ⟨rfl, hw1⟩
      subst hw1
      go_wp2
      go_ret
      exact ⟨by rw [H.out]; rfl, hB⟩
  | true =>
    simp only [n1] at cF
    rw [n1, Bool.true_and] at F
    by_cases hk1 : kind = 1
    · subst hk1
      have hkk : (1 : Int) = 1 ∨ (1 : Int) = 2 := Or.inl rfl
      rw [if_pos rfl] at F
      clear hk cK
      cases n2 : isNm rcp with
      | false =>
        simp only [n2] at cT
        replace F : fld = false := by rw [F, n2]; rfl
        have H : Hid (chk = 3) := t3 hkk F
        clear t3 t2 tr tw F hkk hX
        clear ck1 ck2 hR0 hW0
        go_enter Tryd.func54, Tryd.ntmps54
        go_wp2_with fail
        refine (cF _).mono ?_
        rintro e w0 ⟨rfl, hw1⟩
        subst hw1
        go_wp2_with fail
        refine (cT _).mono ?_
        rintro e w1 ⟨rfl, hw1⟩
        subst hw1
        go_wp2
        go_ret
        exact ⟨by rw [H.out]; rfl, hB⟩
      | true =>
        simp only [n2] at cT
        rw [n2, Bool.true_and] at F
        by_cases hkey : key.toList = []
        · have e1 : key.toList.isEmpty = true := by rw [hkey]; rfl
          rw [e1, Bool.true_and] at F
          by_cases hval : val.toList = []
          · have e2 : val.toList.isEmpty = true := by rw [hval]; rfl
            rw [e2] at F
            by_cases ha : 4611686018427387903 < amt
            · have H : Hid (chk = 2) := t2 hkk F (Or.inl ha)
              have ha' : (4611686018427387903 : Int) < amt := by omega
              clear t3 t2 tr tw F hkk hX
              clear ck1 ck2 hR0 hW0 ha
              go_enter Tryd.func54, Tryd.ntmps54
              go_wp2_with fail
              refine (cF _).mono ?_
              rintro e w0 ⟨rfl, hw1⟩
              subst hw1
              go_wp2_with fail
              refine (cT _).mono ?_
              rintro e w1 ⟨rfl, hw1⟩
              subst hw1
              go_wp2
              go_ret
              exact ⟨by rw [H.out]; rfl, hB⟩
            have ha' : (amt : Int) ≤ 4611686018427387903 := by omega
            by_cases hn : 4611686018427387903 < non
            · have H : Hid (chk = 2) := t2 hkk F (Or.inr hn)
              have hn' : (4611686018427387903 : Int) < non := by omega
              clear t3 t2 tr tw F hkk hX
              clear ck1 ck2 hR0 hW0 hn ha
              go_enter Tryd.func54, Tryd.ntmps54
              go_wp2_with fail
              refine (cF _).mono ?_
              rintro e w0 ⟨rfl, hw1⟩
              subst hw1
              go_wp2_with fail
              refine (cT _).mono ?_
              rintro e w1 ⟨rfl, hw1⟩
              subst hw1
              go_wp2
              go_ret
              exact ⟨by rw [H.out]; rfl, hB⟩
            have hn' : (non : Int) ≤ 4611686018427387903 := by omega
            by_cases hz : keysL rs = 0
            · have H : Hid (chk = keysL ws) := tw hkk F (by omega) (by omega) hz
              simp only [hz] at ck1
              generalize keysL ws = n2 at ck2 H
              clear t3 t2 tr tw F hkk hz hn ha
              go_enter Tryd.func54, Tryd.ntmps54
              go_wp2_with fail
              refine (cF _).mono ?_
              rintro e w0 ⟨rfl, hw1⟩
              subst hw1
              go_wp2_with fail
              refine (cT _).mono ?_
              rintro e w1 ⟨rfl, hw1⟩
              subst hw1
              go_wp2_with fail
              refine (ck1 _ hR0).mono ?_
              rintro e w5 ⟨rfl, hb5⟩
              have hB5 := hB.trans (hb5.mono hB.size)
              have x8 := (hX.below hb5 hX.lt).cell (i := 8) rfl
              have hW5 := hW0.below hb5
              clear hb5 hX hW0 hR0 ck1
              go_wp2_with fail
              refine (ck2 _ hW5).mono ?_
              rintro e w6 ⟨rfl, hb6⟩
              have hB6 := hB5.trans (hb6.mono hB5.size)
              clear hb6 hB5 hW5 ck2
              go_wp2
              go_ret
              exact ⟨by rw [H.out]; rfl, hB6⟩
            · have H : Hid (chk = keysL rs) := tr hkk F (by omega) (by omega) hz
              have hz' : ((keysL rs : Int) == 0) = false := beq_eq_false_iff_ne.2 (by omega)
              generalize keysL rs = n2 at ck1 H hz'
              clear t3 t2 tr tw F hkk hz hn ha ck2
              go_enter Tryd.func54, Tryd.ntmps54
              go_wp2_with fail
              refine (cF _).mono ?_
              rintro e w0 ⟨rfl, hw1⟩
              subst hw1
              go_wp2_with fail
              refine (cT _).mono ?_
              rintro e w1 ⟨rfl, hw1⟩
              subst hw1
              go_wp2_with fail
              refine (ck1 _ hR0).mono ?_
              rintro e w5 ⟨rfl, hb5⟩
              have hB5 := hB.trans (hb5.mono hB.size)
              clear hb5 hX hW0 hR0 ck1
              go_wp2
              go_ret
              exact ⟨by rw [H.out]; rfl, hB5⟩
          · have e2 : val.toList.isEmpty = false := by simpa using hval
            rw [e2] at F
            have H : Hid (chk = 3) := t3 hkk F
            clear t3 t2 tr tw F hkk hX
            clear ck1 ck2 hR0 hW0
            go_enter Tryd.func54, Tryd.ntmps54
            go_wp2_with fail
            refine (cF _).mono ?_
            rintro e w0 ⟨rfl, hw1⟩
            subst hw1
            go_wp2_with fail
            refine (cT _).mono ?_
            rintro e w1 ⟨rfl, hw1⟩
            subst hw1
            go_wp2
            go_ret
            exact ⟨by rw [H.out]; rfl, hB⟩
        · have e1 : key.toList.isEmpty = false := by simpa using hkey
          replace F : fld = false := by rw [F, e1]; rfl
          have H : Hid (chk = 3) := t3 hkk F
          clear t3 t2 tr tw F hkk hX
          clear ck1 ck2 hR0 hW0
          go_enter Tryd.func54, Tryd.ntmps54
          go_wp2_with fail
          refine (cF _).mono ?_
          rintro e w0 ⟨rfl, hw1⟩
          subst hw1
          go_wp2_with fail
          refine (cT _).mono ?_
          rintro e w1 ⟨rfl, hw1⟩
          subst hw1
          go_wp2
          go_ret
          exact ⟨by rw [H.out]; rfl, hB⟩
    · have hk2 : kind = 2 := by omega
      subst hk2
      have hkk : (2 : Int) = 1 ∨ (2 : Int) = 2 := Or.inr rfl
      rw [if_neg (by decide)] at F
      clear hk hk1 cT
      cases n2 : isNm key with
      | false =>
        simp only [n2] at cK
        replace F : fld = false := by rw [F, n2]; rfl
        have H : Hid (chk = 3) := t3 hkk F
        clear t3 t2 tr tw F hkk hX
        clear ck1 ck2 hR0 hW0
        go_enter Tryd.func54, Tryd.ntmps54
        go_wp2_with fail
        refine (cF _).mono ?_
        rintro e w0 ⟨rfl, hw1⟩
        subst hw1
        go_wp2_with fail
        refine (cK _).mono ?_
        rintro e w1 ⟨rfl, hw1⟩
        subst hw1
        go_wp2
        go_ret
        exact ⟨by rw [H.out]; rfl, hB⟩
      | true =>
        simp only [n2] at cK
        rw [n2, Bool.true_and] at F
        by_cases hv : val.size ≤ 64
        · have hv' : (val.size : Int) ≤ 64 := by omega
          have dv : decide ((64 : Int) < val.size) = false := decide_eq_false (by omega)
          rw [decide_eq_true hv, Bool.true_and] at F
          by_cases ht : rcp.toList = []
          · have e1 : rcp.toList.isEmpty = true := by rw [ht]; rfl
            rw [e1, Bool.true_and] at F
            by_cases ham : amt = 0
            · subst ham
              replace F : fld = true := by rw [F]; rfl
              have ha : ¬ (4611686018427387903 < 0) := by omega
              by_cases hn : 4611686018427387903 < non
              · have H : Hid (chk = 2) := t2 hkk F (Or.inr hn)
                have hn' : (4611686018427387903 : Int) < non := by omega
                clear t3 t2 tr tw F hkk hX
                clear ck1 ck2 hR0 hW0 hn ha
                go_enter Tryd.func54, Tryd.ntmps54
                go_wp2_with fail
                refine (cF _).mono ?_
                rintro e w0 ⟨rfl, hw1⟩
                subst hw1
                go_wp2_with fail
                refine (cK _).mono ?_
                rintro e w1 ⟨rfl, hw1⟩
                subst hw1
                go_wp2
                go_ret
                exact ⟨by rw [H.out]; rfl, hB⟩
              have hn' : (non : Int) ≤ 4611686018427387903 := by omega
              by_cases hz : keysL rs = 0
              · have H : Hid (chk = keysL ws) := tw hkk F (by omega) (by omega) hz
                simp only [hz] at ck1
                generalize keysL ws = n2 at ck2 H
                clear t3 t2 tr tw F hkk hz hn ha
                go_enter Tryd.func54, Tryd.ntmps54
                go_wp2_with fail
                refine (cF _).mono ?_
                rintro e w0 ⟨rfl, hw1⟩
                subst hw1
                go_wp2_with fail
                refine (cK _).mono ?_
                rintro e w1 ⟨rfl, hw1⟩
                subst hw1
                go_wp2_with fail
                refine (ck1 _ hR0).mono ?_
                rintro e w5 ⟨rfl, hb5⟩
                have hB5 := hB.trans (hb5.mono hB.size)
                have x8 := (hX.below hb5 hX.lt).cell (i := 8) rfl
                have hW5 := hW0.below hb5
                clear hb5 hX hW0 hR0 ck1
                go_wp2_with fail
                refine (ck2 _ hW5).mono ?_
                rintro e w6 ⟨rfl, hb6⟩
                have hB6 := hB5.trans (hb6.mono hB5.size)
                clear hb6 hB5 hW5 ck2
                go_wp2
                go_ret
                exact ⟨by rw [H.out]; rfl, hB6⟩
              · have H : Hid (chk = keysL rs) := tr hkk F (by omega) (by omega) hz
                have hz' : ((keysL rs : Int) == 0) = false := beq_eq_false_iff_ne.2 (by omega)
                generalize keysL rs = n2 at ck1 H hz'
                clear t3 t2 tr tw F hkk hz hn ha ck2
                go_enter Tryd.func54, Tryd.ntmps54
                go_wp2_with fail
                refine (cF _).mono ?_
                rintro e w0 ⟨rfl, hw1⟩
                subst hw1
                go_wp2_with fail
                refine (cK _).mono ?_
                rintro e w1 ⟨rfl, hw1⟩
                subst hw1
                go_wp2_with fail
                refine (ck1 _ hR0).mono ?_
                rintro e w5 ⟨rfl, hb5⟩
                have hB5 := hB.trans (hb5.mono hB.size)
                clear hb5 hX hW0 hR0 ck1
                go_wp2
                go_ret
                exact ⟨by rw [H.out]; rfl, hB5⟩
            · have ha' : ((amt : Int) != 0) = true := by rw [bne_iff_ne]; omega
              rw [decide_eq_false ham] at F
              have H : Hid (chk = 3) := t3 hkk F
              clear t3 t2 tr tw F hkk hX
              clear ck1 ck2 hR0 hW0
              go_enter Tryd.func54, Tryd.ntmps54
              go_wp2_with fail
              refine (cF _).mono ?_
              rintro e w0 ⟨rfl, hw1⟩
              subst hw1
              go_wp2_with fail
              refine (cK _).mono ?_
              rintro e w1 ⟨rfl, hw1⟩
              subst hw1
              go_wp2
              go_ret
              exact ⟨by rw [H.out]; rfl, hB⟩
          · have e1 : rcp.toList.isEmpty = false := by simpa using ht
            replace F : fld = false := by rw [F, e1]; rfl
            have H : Hid (chk = 3) := t3 hkk F
            clear t3 t2 tr tw F hkk hX
            clear ck1 ck2 hR0 hW0
            go_enter Tryd.func54, Tryd.ntmps54
            go_wp2_with fail
            refine (cF _).mono ?_
            rintro e w0 ⟨rfl, hw1⟩
            subst hw1
            go_wp2_with fail
            refine (cK _).mono ?_
            rintro e w1 ⟨rfl, hw1⟩
            subst hw1
            go_wp2
            go_ret
            exact ⟨by rw [H.out]; rfl, hB⟩
        · have hv' : (64 : Int) < val.size := by omega
          replace F : fld = false := by rw [F, decide_eq_false hv]; rfl
          have H : Hid (chk = 3) := t3 hkk F
          clear t3 t2 tr tw F hkk hX
          clear ck1 ck2 hR0 hW0
          go_enter Tryd.func54, Tryd.ntmps54
          go_wp2_with fail
          refine (cF _).mono ?_
          rintro e w0 ⟨rfl, hw1⟩
          subst hw1
          go_wp2_with fail
          refine (cK _).mono ?_
          rintro e w1 ⟨rfl, hw1⟩
          subst hw1
          go_wp2
          go_ret
          exact ⟨by rw [H.out]; rfl, hB⟩
end Go.Proofs.YtcjmeaikdfgapaaDoor

/- What tuskref01.Int does: the same bytes of a number; nothing old in memory is turned. -/
namespace Go.Proofs.YtcjmeaikdfgapaaDoor
open Go.RowKit

theorem bcell {W w1 : World} (hb : Below W.heap.size W w1) : ∀ b o, b < W.heap.size → w1.cell? ⟨b, o, none⟩ = W.cell? ⟨b, o, none⟩ :=
  fun b o h => hb.cell (p := ⟨b, o, none⟩) h

theorem conv_byte {w : World} {b : Nat} {x : Nat} (hx : x < 256) (h : w.cell? ⟨b, 0, none⟩ = some (.int .u8 (x : Int))) :
    (convert 64 9 (.slice (some ⟨b, 0, none⟩) 1 1)).run Tryd.prog w = .ok (.string ⟨#[UInt8.ofNat x]⟩) w := by
  have := run_convert_bytes_back w 64 9 5 ⟨b, 0, none⟩ 1 [UInt8.ofNat x] Tryd.underlying64 Tryd.underlying5 Tryd.underlying9 (fun j hj => by
    have : j = 0 := by simp at hj; omega
    subst this
    have e : (UInt8.ofNat x).toNat = x := by simp; omega
    simp only [List.getElem_cons_zero, e]
    simpa [Addr.add] using h)
  exact this

set_option maxRecDepth 100000 in
set_option maxHeartbeats 1000000 in
theorem refInt_no (n : Int) (w : World) (h : n < 0 ∨ 4611686018427387903 < n) :
    Calls Tryd.prog 37 #[.int .i64 n] w fun e w' => e = .returned (.string ⟨#[]⟩) ∧ w' = w := by
  rcases h with h | h
  · go_enter Tryd.func37, Tryd.ntmps37
    go_wp2
    go_ret
    exact ⟨rfl, rfl⟩
  · have h0 : ¬ n < 0 := by omega
    go_enter Tryd.func37, Tryd.ntmps37
    go_wp2
    go_ret
    exact ⟨rfl, rfl⟩

set_option maxRecDepth 100000 in
set_option maxHeartbeats 1000000 in
theorem refInt_small (n : Nat) (w : World) (h : n < 128) :
    Calls Tryd.prog 37 #[.int .i64 n] w fun e w' => e = .returned (.string ⟨(enc n).toArray⟩) ∧ Below w.heap.size w w' := by
  have h0 : ¬ (n : Int) < 0 := by omega
  have h1 : ¬ (4611686018427387903 : Int) < n := by omega
  have h2 : (n : Int) < 128 := by omega
  have hcv : ∀ (w : World) (b : Nat), w.cell? ⟨b, 0, none⟩ = some (.int .u8 (n : Int)) → (convert 64 9 (.slice (some ⟨b, 0, none⟩) 1 1)).run Tryd.prog w = .ok (.string ⟨#[UInt8.ofNat n]⟩) w := fun w b hc => conv_byte (by omega) hc
  have HE : Hid (enc n = [UInt8.ofNat n]) := enc_small n h
  go_enter Tryd.func37, Tryd.ntmps37
  go_wp2
  go_ret
  exact ⟨by rw [HE.out]; rfl, (Below.refl _ _).alloc (Nat.le_refl _) _⟩

set_option maxRecDepth 100000 in
set_option maxHeartbeats 1000000 in
theorem refInt_big (n : Nat) (w : World) (h : 128 ≤ n) (hn : n ≤ 4611686018427387903)
    (ih : ∀ w, Calls Tryd.prog 37 #[.int .i64 ((n / 128 : Nat) : Int)] w fun e w' => e = .returned (.string ⟨(enc (n / 128)).toArray⟩) ∧ Below w.heap.size w w') :
    Calls Tryd.prog 37 #[.int .i64 n] w fun e w' => e = .returned (.string ⟨(enc n).toArray⟩) ∧ Below w.heap.size w w' := by
  have h0 : ¬ (n : Int) < 0 := by omega
  have h1 : ¬ (4611686018427387903 : Int) < n := by omega
  have h2 : ¬ (n : Int) < 128 := by omega
  obtain ⟨r, hr⟩ : ∃ r, r = n % 128 := ⟨_, rfl⟩
  obtain ⟨c, hc⟩ : ∃ c, c = 128 + r := ⟨_, rfl⟩
  obtain ⟨m, hm⟩ : ∃ m, m = n / 128 := ⟨_, rfl⟩
  have e1 : (n : Int).tmod 128 = (r : Int) := by rw [Int.tmod_eq_emod_of_nonneg (by omega)]; omega
  have e2 : IntKind.i64.wrap (128 + (r : Int)) = (c : Int) := by simp [IntKind.wrap, IntKind.bits, IntKind.signed]; omega
  have e3 : IntKind.u8.wrap (c : Int) = (c : Int) := by rw [IntKind.wrap_u8']; omega
  have e4 : IntKind.i64.wrap ((n : Int) / 128) = (m : Int) := by simp [IntKind.wrap, IntKind.bits, IntKind.signed]; omega
  have hcv : ∀ (w : World) (b : Nat), w.cell? ⟨b, 0, none⟩ = some (.int .u8 (c : Int)) → (convert 64 9 (.slice (some ⟨b, 0, none⟩) 1 1)).run Tryd.prog w = .ok (.string ⟨#[UInt8.ofNat c]⟩) w := fun w b hc => conv_byte (by omega) hc
  have HE : Hid (enc n = UInt8.ofNat c :: enc m) := by
    show _ = _
    rw [hc, hr, hm]; exact enc_big n h
  have IH : Hid (∀ w, Calls Tryd.prog 37 #[.int .i64 (m : Int)] w fun e w' => e = .returned (.string ⟨(enc m).toArray⟩) ∧ Below w.heap.size w w') := by
    rw [hm]; exact ih
  have hl := enc_length_nine m (by omega)
  clear ih hr hc hm
  generalize enc m = tl at *
  have e5 : (⟨#[UInt8.ofNat c]⟩ ++ ⟨tl.toArray⟩ : ByteArray) = ⟨(enc n).toArray⟩ := by
    rw [HE.out]; exact ByteArray.mk_append_mk [UInt8.ofNat c] tl
  go_enter Tryd.func37, Tryd.ntmps37
  go_wp2_with fail
  go_region_with (go_at_call 37; refine (IH.out _).mono ?_; rintro e w' ⟨rfl, hb⟩; have hcl := bcell hb)
  · have hbw : Below w.heap.size w w' := (((Below.refl _ w).alloc (Nat.le_refl _) _).drew).trans (hb.mono (by simp))
    clear hb hcl
    go_wp2
    go_ret
    exact ⟨rfl, hbw⟩
  · have hbw : Below w.heap.size w w' := (((Below.refl _ w).alloc (Nat.le_refl _) _).drew).trans (hb.mono (by simp))
    clear hb hcl
    go_wp2
    go_ret
    exact ⟨rfl, hbw⟩
  · have hbw : Below w.heap.size w w' := ((Below.refl _ w).drew).trans hb
    clear hb hcl
    go_wp2
    go_ret
    exact ⟨rfl, hbw.alloc hbw.size _⟩

theorem refInt_yes : ∀ (n : Nat) (w : World), n ≤ 4611686018427387903 →
    Calls Tryd.prog 37 #[.int .i64 n] w fun e w' => e = .returned (.string ⟨(enc n).toArray⟩) ∧ Below w.heap.size w w' := by
  intro n
  induction n using Nat.strongRecOn with
  | _ n ih =>
    intro w hn
    by_cases h : n < 128
    · exact refInt_small n w h
    · exact refInt_big n w (by omega) hn (fun w => ih (n / 128) (by omega) w (by omega))

theorem refInt_any (n : Int) (w : World) :
    Calls Tryd.prog 37 #[.int .i64 n] w fun e w' => e = .returned (.string ⟨(goInt n).toArray⟩) ∧ Below w.heap.size w w' := by
  by_cases h : 0 ≤ n ∧ n ≤ 4611686018427387903
  · obtain ⟨m, rfl⟩ := Int.eq_ofNat_of_zero_le h.1
    have e : goInt (m : Int) = enc m := by rw [goInt, if_pos h]; simp
    rw [e]
    exact refInt_yes m w (by omega)
  · have e : goInt n = [] := by rw [goInt, if_neg h]
    rw [e]
    refine (refInt_no n w (by omega)).mono ?_
    rintro e w' ⟨rfl, rfl⟩
    exact ⟨rfl, Below.refl _ _⟩
end Go.Proofs.YtcjmeaikdfgapaaDoor

/- What tuskref01.GetInt does: it answers as the number at the front of bytes is defined; memory stands. -/
namespace Go.Proofs.YtcjmeaikdfgapaaDoor
open Go.RowKit

def val : List UInt8 → Nat
  | [] => 0
  | c :: r => c.toNat % 128 + 128 * val r

theorem val_drop_le : ∀ (l : List UInt8) (j : Nat), val (l.drop j) ≤ val l
  | [], j => by simp
  | c :: r, 0 => by simp
  | c :: r, j + 1 => by
    have := val_drop_le r j
    simp only [List.drop_succ_cons, val]
    omega

theorem giGo_val : ∀ (k : Nat) (l : List UInt8) (acc i : Nat) (hk : k < l.length), (∀ j (hj : j < l.length), j < k → 128 ≤ l[j].toNat) → l[k].toNat < 128 → i + k ≤ 8 →
    giGo l acc i = if 4611686018427387903 < acc + val (l.take (k + 1)) * 128 ^ i then (0, 0, 2) else if l[k].toNat = 0 ∧ 1 < i + k + 1 then (0, 0, 3) else (acc + val (l.take (k + 1)) * 128 ^ i, i + k + 1, 0)
  | 0, c :: r, acc, i, hk, _, h2, _ => by
    simp only [List.getElem_cons_zero] at h2
    rw [giGo, if_neg (by omega)]
    simp [val]
  | k + 1, c :: r, acc, i, hk, h1, h2, h3 => by
    have hc : 128 ≤ c.toNat := h1 0 (by simp) (by omega)
    simp only [List.length_cons] at hk
    rw [giGo, if_pos hc, if_neg (by omega)]
    rw [giGo_val k r _ (i + 1) (by omega) (fun j hj hjk => h1 (j + 1) (by simp; omega) (by omega)) (by simpa using h2) (by omega)]
    have e : acc + c.toNat % 128 * 128 ^ i + val (r.take (k + 1)) * 128 ^ (i + 1) = acc + val ((c :: r).take (k + 1 + 1)) * 128 ^ i := by
      rw [List.take_succ_cons, val, Nat.pow_succ, Nat.add_mul, Nat.mul_comm (128 ^ i) 128, ← Nat.mul_assoc, Nat.mul_comm (val _) 128]
      omega
    rw [e]
    simp only [List.getElem_cons_succ]
    have e2 : i + 1 + k + 1 = i + (k + 1) + 1 := by omega
    rw [e2]
  | 0, [], _, _, hk, _, _, _ => by simp at hk
  | k + 1, [], _, _, hk, _, _, _ => by simp at hk

theorem giGo_high : ∀ (l : List UInt8) (acc i : Nat), (∀ c ∈ l, 128 ≤ c.toNat) → i + l.length ≤ 8 → giGo l acc i = (0, 0, 1)
  | [], _, _, _, _ => by simp [giGo]
  | c :: r, acc, i, h, h2 => by
    simp only [List.length_cons] at h2
    rw [giGo, if_pos (h c (by simp)), if_neg (by omega)]
    exact giGo_high r _ _ (fun x hx => h x (by simp [hx])) (by omega)

theorem giGo_nine : ∀ (k : Nat) (l : List UInt8) (acc i : Nat), i + k = 9 → 0 < k → k ≤ l.length → (∀ j (hj : j < l.length), j < k → 128 ≤ l[j].toNat) → giGo l acc i = (0, 0, 2)
  | 0, _, _, _, _, h, _, _ => by omega
  | k + 1, [], _, _, _, _, h, _ => by simp at h
  | k + 1, c :: r, acc, i, h1, _, h3, h4 => by
    have hc : 128 ≤ c.toNat := h4 0 (by simp) (by omega)
    rw [giGo, if_pos hc]
    by_cases h : i + 1 = 9
    · rw [if_pos h]
    · rw [if_neg h]
      exact giGo_nine k r _ _ (by omega) (by omega) (by simp at h3; omega) (fun j hj hjk => h4 (j + 1) (by simp; omega) (by omega))

theorem val_step (s : ByteArray) (k j : Nat) (hk : k < s.size) (hj : j ≤ k) : val ((s.data.toList.take (k + 1)).drop j) = s[j].toNat % 128 + 128 * val ((s.data.toList.take (k + 1)).drop (j + 1)) := by
  have h1 : j < (s.data.toList.take (k + 1)).length := by simp; omega
  rw [List.drop_eq_getElem_cons h1, val]
  simp
  rfl

theorem getElem_list (s : ByteArray) (j : Nat) (h : j < s.data.toList.length) : s.data.toList[j] = s[j]'(by simpa using h) := by
  simp
  rfl
end Go.Proofs.YtcjmeaikdfgapaaDoor

/- tusklaw01.WireInts answers true at every number and every string; nothing old in memory is turned. -/
namespace Go.Proofs.YtcjmeaikdfgapaaDoor
open Go.RowKit
end Go.Proofs.YtcjmeaikdfgapaaDoor

/- What tuskref01.Text and tuskref01.GetText do. -/
namespace Go.Proofs.YtcjmeaikdfgapaaDoor
open Go.RowKit

set_option maxRecDepth 100000 in
set_option maxHeartbeats 400000 in
theorem refText_any (s : ByteArray) (w : World) (hs : s.size ≤ 140737488351232000) :
    Calls Tryd.prog 36 #[.string s] w fun e w' => e = .returned (.string ⟨(txt s.data.toList).toArray⟩) ∧ Below w.heap.size w w' := by
  have hg := goInt_length s.size
  have e1 : ∀ l : List UInt8, l = goInt s.size → Value.string (⟨l.toArray⟩ ++ s) = Value.string ⟨(txt s.data.toList).toArray⟩ := by
    rintro l rfl
    rw [append_list, txt]
    simp
  go_enter Tryd.func36, Tryd.ntmps36
  go_wp2_with fail
  refine (refInt_any _ _).mono ?_
  rintro e w' ⟨rfl, hb⟩
  obtain ⟨l, hl⟩ : ∃ l, l = goInt s.size := ⟨_, rfl⟩
  rw [← hl] at hg ⊢
  have E := e1 l hl
  clear e1 hl
  go_wp2
  go_ret
  exact ⟨rfl, hb⟩
end Go.Proofs.YtcjmeaikdfgapaaDoor

/- What tuskref01.List and tuskref01.GetList do. -/
namespace Go.Proofs.YtcjmeaikdfgapaaDoor
open Go.RowKit
end Go.Proofs.YtcjmeaikdfgapaaDoor

/- What tuskref04.Needs, Has, Fits and Encode do; nothing old in memory is turned. -/
namespace Go.Proofs.YtcjmeaikdfgapaaDoor
open Go.RowKit Go.Sort
set_option linter.unusedVariables false

set_option maxRecDepth 100000 in
set_option maxHeartbeats 400000 in
theorem refHas_any (ao : Option Addr) (cap : Nat) (ss : List ByteArray) (v : ByteArray) (w : World) (hc : StrsAt w ao ss) (hn : ss.length ≤ 9223372036854775807) :
    Calls Tryd.prog 21 #[.slice ao ss.length cap, .string v] w fun e w' => e = .returned (.bool (hasL ss v)) ∧ w' = w := by
  go_enter Tryd.func21, Tryd.ntmps21
  go_wp2
  go_loop [5] (fun u => ∃ k : Nat, k ≤ ss.length ∧ u = .int .i64 k ∧ Hid (hasL ss v = hasL (ss.drop k) v)) (fun u => ss.length - (intOf u).toNat)
  case atStart => exact ⟨0, by omega, rfl, by show _ = _; simp⟩
  case round =>
    obtain ⟨k, hk, rfl, hK⟩ := hrel
    by_cases hlt : k < ss.length
    · obtain ⟨b, off, rfl, hbl, hcell⟩ := hc k hlt
      have hd : ss.drop k = ss[k] :: ss.drop (k + 1) := List.drop_eq_getElem_cons hlt
      have hK2 := hK.out
      rw [hd] at hK2
      obtain ⟨x, hx⟩ : ∃ x, x = ss[k] := ⟨_, rfl⟩
      rw [← hx] at hK2 hcell
      clear hK hd hx
      by_cases he : x.toList = v.toList
      · have H : Hid (hasL ss v = true) := by show _ = _; rw [hK2]; simp [hasL, he]
        clear hK2
        go_wp2
        go_ret
        exact ⟨by rw [H.out]; rfl, rfl⟩
      · have H : Hid (hasL ss v = hasL (ss.drop (k + 1)) v) := by show _ = _; rw [hK2]; simp [hasL, Ne.symm he]
        have heb : (x.toList == v.toList) = false := beq_eq_false_iff_ne.2 he
        clear hK2
        go_wp2
        go_round
        case rel => exact ⟨k + 1, by omega, by go_num, H⟩
        case measure => simp [intOf]; omega
    · have H : Hid (hasL ss v = false) := by show _ = _; rw [hK.out, List.drop_of_length_le (by omega)]; rfl
      clear hK
      go_wp2
      go_ret
      exact ⟨by rw [H.out]; rfl, rfl⟩

theorem beq_of_less {x y : List UInt8} (h : Op.bytesLess x y = true) : (x == y) = false := beq_eq_false_iff_ne.2 (less_ne h)

theorem eq_of_neither {x y : List UInt8} (h1 : Op.bytesLess x y = false) (h2 : Op.bytesLess y x = false) : x = y := by
  rw [less_eq, decide_eq_false_iff_not] at h1 h2
  exact List.le_antisymm (List.not_lt.1 h2) (List.not_lt.1 h1)

set_option maxRecDepth 100000 in
set_option maxHeartbeats 1000000 in
theorem refNeeds_any (d : TxD) (ra : Option Addr) (rc : Nat) (wa : Option Addr) (wc : Nat) (w : World) (hA : TxAt w d ra wa) (hs : TxSizes d) :
    Calls Tryd.prog 42 #[txV d ra rc wa wc] w fun e w' => GotStrs w (needsL d) e w' := by
  have hX : Arr _ _ _ (txC d ra rc wa wc) := TxBox.new w d ra rc wa wc
  have hB := belowNew w (.cells (txC d ra rc wa wc).toArray 33)
  have cc := refCheck_any d ra rc wa wc _ (hA.below hB) hs
  by_cases hz : checkL d = 0
  · obtain ⟨z1, z2, z3, z4, z5, z6⟩ := check_zero hz
    obtain ⟨y1, y2, y3, y4⟩ := fields_sizes z2
    have N : needsL d = (if d.kind = 2 then [aP ++ d.frm, kP ++ d.key]
     else if Op.bytesLess (aP ++ d.frm).toList (aP ++ d.to).toList = true then [aP ++ d.frm, aP ++ d.to]
     else if Op.bytesLess (aP ++ d.to).toList (aP ++ d.frm).toList = true then [aP ++ d.to, aP ++ d.frm]
     else [aP ++ d.frm]) := by unfold needsL; rw [if_pos hz]
    rw [hz] at cc
    clear z2 z3 z4 z5 z6 hz hA hs
    obtain ⟨kind, frm, rcp, amt, non, key, val, rs, ws⟩ := d
    replace z1 : kind = 1 ∨ kind = 2 := z1
    replace y1 : frm.size ≤ 32 := y1
    replace y2 : rcp.size ≤ 32 := y2
    replace y3 : key.size ≤ 32 := y3
    have hk := a_below_k frm key
    unfold aP kP at N hk
    unfold txV at cc ⊢
    rcases z1 with rfl | rfl
    · replace N : needsL ⟨1, frm, rcp, amt, non, key, val, rs, ws⟩ = (if Op.bytesLess (⟨#[97, 58]⟩ ++ frm : ByteArray).toList (⟨#[97, 58]⟩ ++ rcp : ByteArray).toList = true then [⟨#[97, 58]⟩ ++ frm, ⟨#[97, 58]⟩ ++ rcp]
        else if Op.bytesLess (⟨#[97, 58]⟩ ++ rcp : ByteArray).toList (⟨#[97, 58]⟩ ++ frm : ByteArray).toList = true then [⟨#[97, 58]⟩ ++ rcp, ⟨#[97, 58]⟩ ++ frm]
        else [⟨#[97, 58]⟩ ++ frm]) := N
      clear hk
      generalize needsL ⟨1, frm, rcp, amt, non, key, val, rs, ws⟩ = nl at *
      go_enter Tryd.func42, Tryd.ntmps42
      go_wp2_with fail
      refine cc.mono ?_
      rintro e w1 ⟨rfl, hb1⟩
      have hX1 := hX.below hb1 hX.lt
      have hB1 := hB.trans (hb1.mono hB.size)
      have c1 := hX1.cell (i := 1) rfl
      have c2 := hX1.cell (i := 2) rfl
      clear hb1 cc hX hB
      have HN : Hid (nl = _) := N
      clear N
      go_wp2_with fail
      go_quiet (fail)
      have hX2 := hX1.drewN nq
      have hB2 := below_drewN hB1 nq
      clear hX1 hB1 c1 c2
      generalize w1.drewN nq = w2 at hX2 hB2 ⊢
      have c0 := hX2.cell (i := 0) rfl
      have c5 := hX2.cell (i := 5) rfl
      have hsz := hB2.size
      clear hX2
      generalize (⟨#[97, 58]⟩ ++ frm : ByteArray) = A at HN ⊢
      generalize (⟨#[97, 58]⟩ ++ rcp : ByteArray) = B at HN ⊢
      cases h1 : Op.bytesLess A.toList B.toList with
      | true =>
        have hne := beq_of_less h1
        replace HN : Hid (nl = [A, B]) := by show _ = _; rw [HN.out, if_pos h1]
        go_wp2
        go_ret
        rw [HN.out]
        exact GotStrs.of rfl rfl (two_strs _ _ _ _) (hB2.alloc hsz _)
      | false =>
        cases h2 : Op.bytesLess B.toList A.toList with
        | true =>
          have hne : (A.toList == B.toList) = false := beq_eq_false_iff_ne.2 (less_ne h2).symm
          replace HN : Hid (nl = [B, A]) := by show _ = _; rw [HN.out, if_neg (by rw [h1]; simp), if_pos h2]
          go_wp2
          go_ret
          rw [HN.out]
          exact GotStrs.of rfl rfl (two_strs _ _ _ _) (hB2.alloc hsz _)
        | false =>
          have heq : A.toList = B.toList := eq_of_neither h1 h2
          have hne : (A.toList == B.toList) = true := beq_iff_eq.2 heq
          clear heq
          replace HN : Hid (nl = [A]) := by show _ = _; rw [HN.out, if_neg (by rw [h1]; simp), if_neg (by rw [h2]; simp)]
          go_wp2
          go_ret
          rw [HN.out]
          exact GotStrs.of rfl rfl (one_strs _ _ _) (hB2.alloc hsz _)
    · replace N : needsL ⟨2, frm, rcp, amt, non, key, val, rs, ws⟩ = [⟨#[97, 58]⟩ ++ frm, ⟨#[107, 58]⟩ ++ key] := N
      generalize needsL ⟨2, frm, rcp, amt, non, key, val, rs, ws⟩ = nl at *
      go_enter Tryd.func42, Tryd.ntmps42
      go_wp2_with fail
      refine cc.mono ?_
      rintro e w1 ⟨rfl, hb1⟩
      have hX1 := hX.below hb1 hX.lt
      have hB1 := hB.trans (hb1.mono hB.size)
      have c1 := hX1.cell (i := 1) rfl
      have c2 := hX1.cell (i := 2) rfl
      clear hb1 cc hX hB
      have HN : Hid (nl = _) := N
      clear N
      go_wp2_with fail
      go_quiet (fail)
      have hX2 := hX1.drewN nq
      have hB2 := below_drewN hB1 nq
      clear hX1 hB1 c1 c2
      generalize w1.drewN nq = w2 at hX2 hB2 ⊢
      have c0 := hX2.cell (i := 0) rfl
      have c5 := hX2.cell (i := 5) rfl
      have hsz := hB2.size
      clear hX2
      have hne := beq_of_less hk
      go_wp2
      go_ret
      rw [HN.out]
      exact GotStrs.of rfl rfl (two_strs _ _ _ _) (hB2.alloc hsz _)
  · have HN : Hid (needsL d = []) := by show _ = _; unfold needsL; rw [if_neg hz]
    have hz' : ((checkL d : Int) != 0) = true := by rw [bne_iff_ne]; omega
    generalize checkL d = n at cc hz'
    generalize needsL d = nl at *
    clear hz hA hX hs
    unfold txV at cc ⊢
    go_enter Tryd.func42, Tryd.ntmps42
    go_wp2_with fail
    refine cc.mono ?_
    rintro e w1 ⟨rfl, hb1⟩
    have hB1 := hB.trans (hb1.mono hB.size)
    clear hb1 cc
    go_wp2
    go_ret
    rw [HN.out]
    exact GotStrs.of rfl rfl (nil_strs _ _) hB1

set_option maxRecDepth 100000 in
set_option maxHeartbeats 1000000 in
theorem refFits_any (d : TxD) (ra : Option Addr) (rc : Nat) (wa : Option Addr) (wc : Nat) (w : World) (hA : TxAt w d ra wa) (hs : TxSizes d) (hn : d.ws.length ≤ 9223372036854775807) :
    Calls Tryd.prog 24 #[txV d ra rc wa wc] w fun e w' => e = .returned (.bool (fitsL d)) ∧ Below w.heap.size w w' := by
  have hX : Arr _ _ _ (txC d ra rc wa wc) := TxBox.new w d ra rc wa wc
  have hB := belowNew w (.cells (txC d ra rc wa wc).toArray 33)
  have cc := refNeeds_any d ra rc wa wc _ (hA.below hB) hs
  have hW : StrsAt w wa d.ws := hA.wr
  have HF : Hid (fitsL d = (!(needsL d).isEmpty && (needsL d).all (hasL d.ws))) := (rfl : _ = _)
  have hl2 : (needsL d).length ≤ 2 := by
    unfold needsL
    split
    · split
      · simp
      · split
        · simp
        · split <;> simp
    · simp
  generalize needsL d = nl at cc HF hl2
  generalize fitsL d = F at HF ⊢
  clear hA hs
  obtain ⟨kind, frm, rcp, amt, non, key, val, rs, ws⟩ := d
  replace hW : StrsAt w wa ws := hW
  replace hn : ws.length ≤ 9223372036854775807 := hn
  replace HF : Hid (F = (!nl.isEmpty && nl.all (hasL ws))) := HF
  unfold txV at cc ⊢
  go_enter Tryd.func24, Tryd.ntmps24
  go_wp2_with fail
  refine cc.mono ?_
  rintro e w1 ⟨ao, rfl, hS, hb1⟩
  have hX1 := hX.below hb1 hX.lt
  have hB1 := hB.trans (hb1.mono hB.size)
  replace hW := hW.below hB1
  clear hb1 cc hX hB
  go_wp2
  go_loopw [4] (fun u wr => ∃ k : Nat, k ≤ nl.length ∧ u = .int .i64 k ∧ Hid ((nl.take k).all (hasL ws) = true) ∧ Below w1.heap.size w1 wr) (fun u _ => nl.length - (intOf u).toNat)
  case atStart => exact ⟨0, by omega, rfl, (by show _ = _; simp), Below.refl _ _⟩
  case round =>
    obtain ⟨k, hk, rfl, hK, hbr⟩ := hrel
    by_cases hlt : k < nl.length
    · obtain ⟨b, off, rfl, hbl, hcell⟩ := (hS.below hbr) k hlt
      have c8 := (hX1.below hbr hX1.lt).cell (i := 8) rfl
      have hWr := hW.below hbr
      have ct := fun dq => refHas_any wa wc ws nl[k] (wr.drewN dq) (hWr.drewN dq) hn
      have hall := hK.out
      have e1 : (nl.take (k + 1)).all (hasL ws) = ((nl.take k).all (hasL ws) && hasL ws nl[k]) := by
        rw [List.take_succ_eq_append_getElem hlt, List.all_append]; simp
      cases hh : hasL ws nl[k] with
      | true =>
        have H : Hid ((nl.take (k + 1)).all (hasL ws) = true) := by show _ = _; rw [e1, hall, hh]; rfl
        simp only [hh] at ct
        clear e1 hall hK hh
        go_wp2_with fail
        go_quiet (exact Calls.quiet_of_same (ct _))
        have hb2 := below_drewN hbr nq
        clear ct hbr hcell c8 hWr
        go_wp2
        go_roundw
        case rel => exact ⟨k + 1, by omega, by go_num, H, hb2⟩
        case measure => simp [intOf]; omega
      | false =>
        have H : Hid (F = false) := by
          show _ = _
          rw [HF.out]
          have e2 : nl.all (hasL ws) = false := by
            rw [← List.take_append_drop (k + 1) nl, List.all_append, e1, hh]
            simp
          rw [e2]
          simp
        simp only [hh] at ct
        clear e1 hall hK hh
        go_wp2_with fail
        go_quiet (exact Calls.quiet_of_same (ct _))
        have hb2 := below_drewN hbr nq
        clear ct hbr hcell c8 hWr
        go_wp2
        go_ret
        exact ⟨by rw [H.out]; rfl, hB1.trans (hb2.mono hB1.size)⟩
    · have H : Hid (F = decide (0 < nl.length)) := by
        show _ = _
        rw [HF.out]
        have h1 := hK.out
        rw [List.take_of_length_le (by omega)] at h1
        rw [h1]
        cases nl <;> simp
      clear hK
      go_wp2
      go_ret
      exact ⟨by rw [H.out]; rfl, hB1.trans (hbr.mono hB1.size)⟩

theorem joins (l m : List UInt8) : (⟨l.toArray⟩ ++ ⟨m.toArray⟩ : ByteArray) = ⟨(l ++ m).toArray⟩ := ByteArray.mk_append_mk l m
end Go.Proofs.YtcjmeaikdfgapaaDoor

/- StateEither: the walk. -/
namespace Go.Proofs.YtcjmeaikdfgapaaDoor
open Go Go.RowKit
set_option linter.unusedVariables false

/-- Two transactions side by side in a new block. -/
theorem rows_two {w : World} {g : Nat} {x y : TxM} (h : Arr w g 33 (x.c ++ y.c)) (hx : x.At w) (hy : y.At w) : RowAt txK w (some ⟨g, 0, none⟩) [x, y] := by
  refine ⟨fun i z hz => ⟨g, 0, rfl, h.lt, fun j v hv => ?_⟩, fun z hz => ?_⟩
  · have hj : j < 9 := (List.getElem?_eq_some_iff.1 hv).1
    match i, hz with
    | 0, hz =>
      simp at hz
      subst hz
      refine h.cell ?_
      have e : 0 + 0 * txK.n + j = j := by omega
      rw [e, List.getElem?_append_left (by show j < 9; omega)]
      exact hv
    | 1, hz =>
      simp at hz
      subst hz
      refine h.cell ?_
      have e : 0 + 1 * txK.n + j = 9 + j := by show 0 + 1 * 9 + j = _; omega
      rw [e, List.getElem?_append_right (by show 9 ≤ 9 + j; omega), show 9 + j - x.c.length = j by show 9 + j - 9 = j; omega]
      exact hv
    | k + 2, hz => simp at hz
  · simp at hz
    rcases hz with e | e <;> rw [e]
    · exact hx
    · exact hy

/-- Two boxes that hold them. -/
structure Bx2 (W w : World) (p q : Nat) (x y : TxM) : Prop where
  bx : Arr w p 33 x.c
  bz : Arr w q 33 y.c
  hx : x.At W
  hy : y.At W
  gp : W.heap.size ≤ p
  gq : W.heap.size ≤ q
  bel : Below W.heap.size W w

section
variable {W w w' : World} {p q : Nat} {x y : TxM}

theorem Bx2.below (h : Bx2 W w p q x y) (hb : Below w.heap.size w w') : Bx2 W w' p q x y := ⟨h.bx.below hb h.bx.lt, h.bz.below hb h.bz.lt, h.hx, h.hy, h.gp, h.gq, h.bel.trans (hb.mono h.bel.size)⟩

theorem Bx2.kept {S : Nat → Prop} (h : Bx2 W w p q x y) (hk : Kept S w w') (h1 : ∀ k, S k → q < k ∧ p < k) : Bx2 W w' p q x y :=
  ⟨h.bx.kept hk (fun e => by have := (h1 _ e).2; omega), h.bz.kept hk (fun e => by have := (h1 _ e).1; omega), h.hx, h.hy, h.gp, h.gq, h.bel.trans (hk.below h.bel.size (fun k e => by have := (h1 k e).2; have := h.gp; omega))⟩

theorem Bx2.ax (h : Bx2 W w p q x y) : x.At w := h.hx.below h.bel
theorem Bx2.ay (h : Bx2 W w p q x y) : y.At w := h.hy.below h.bel
end

theorem txm_nine {w : World} {p : Nat} {x : TxM} (h : Arr w p 33 x.c) : (w.cell? ⟨p, 0, none⟩ = some (.int .i64 x.d.kind) ∧ w.cell? ⟨p, 1, none⟩ = some (.string x.d.frm) ∧ w.cell? ⟨p, 2, none⟩ = some (.string x.d.to) ∧ w.cell? ⟨p, 3, none⟩ = some (.int .u64 (x.d.amt : Int)) ∧ w.cell? ⟨p, 4, none⟩ = some (.int .u64 (x.d.non : Int)) ∧ w.cell? ⟨p, 5, none⟩ = some (.string x.d.key) ∧ w.cell? ⟨p, 6, none⟩ = some (.string x.d.val) ∧ w.cell? ⟨p, 7, none⟩ = some (.slice x.ra x.d.rs.length x.rc) ∧ w.cell? ⟨p, 8, none⟩ = some (.slice x.wa x.d.ws.length x.wc)) :=
  ⟨h.cell (i := 0) rfl, h.cell (i := 1) rfl, h.cell (i := 2) rfl, h.cell (i := 3) rfl, h.cell (i := 4) rfl, h.cell (i := 5) rfl, h.cell (i := 6) rfl, h.cell (i := 7) rfl, h.cell (i := 8) rfl⟩

set_option maxRecDepth 100000 in
set_option maxHeartbeats 16000000 in
theorem stateEither_walk (ro : Option Addr) (rc : Nat) (rich : List ByteArray) (funds : Nat) (lo : Option Addr) (lc : Nat) (l : List TxM) (x y : TxM) (W : World)
    (hR : RowAt strK W ro rich) (hrc : ro = none → rc = 0) (hrn : rich.length ≤ 1048576) (hrz : ∀ s ∈ rich, s.size ≤ 1048576) (hL : RowAt txK W lo l) (hlw : Wide22 l)
    (hx : x.At W) (hxs : TxSizes x.d) (hxl : x.d.rs.length * 16 ≤ 140737488351232 ∧ x.d.ws.length * 16 ≤ 140737488351232) (hy : y.At W) (hys : TxSizes y.d) (hyl : y.d.rs.length * 16 ≤ 140737488351232 ∧ y.d.ws.length * 16 ≤ 140737488351232) (hG : Mx.Glob W) :
    Calls Tryd.prog 5 #[.slice ro rich.length rc, .int .u64 (funds : Int), .slice lo l.length lc, x.v, y.v] W fun e w' => e = .returned (.bool true) ∧ Below W.heap.size W w' := by
  obtain ⟨hX, hY, hB⟩ := two_new W 33 33 [.int .i64 x.d.kind, .string x.d.frm, .string x.d.to, .int .u64 (x.d.amt : Int), .int .u64 (x.d.non : Int), .string x.d.key, .string x.d.val, .slice x.ra x.d.rs.length x.rc, .slice x.wa x.d.ws.length x.wc] [.int .i64 y.d.kind, .string y.d.frm, .string y.d.to, .int .u64 (y.d.amt : Int), .int .u64 (y.d.non : Int), .string y.d.key, .string y.d.val, .slice y.ra y.d.rs.length y.rc, .slice y.wa y.d.ws.length y.wc]
  have hT : Bx2 W _ W.heap.size (W.heap.size + 1) x y := ⟨hX, hY, hx, hy, Nat.le_refl _, Nat.le_succ _, hB⟩
  have hw2 : Wide22 [x, y] := ⟨by show 2 ≤ _; decide, fun z hz => by
    rcases List.mem_cons.1 hz with e | hz
    · rw [e]; exact ⟨hxs, hxl⟩
    · rw [List.mem_singleton.1 hz]; exact ⟨hys, hyl⟩⟩
  clear hX hY hB hx hy hxl hyl
  unfold TxM.v txV
  go_enter Tryd.func5, Tryd.ntmps5
  go_wp2_with fail
  obtain ⟨gy, hgy⟩ : ∃ q, q = W.heap.size + 1 := ⟨_, rfl⟩
  rw [← hgy] at hT ⊢
  obtain ⟨gx, hgx⟩ : ∃ q, q = W.heap.size := ⟨_, rfl⟩
  rw [← hgx] at hT ⊢
  have hgg : Hid (gx < gy) := by show gx < gy; omega
  clear hgy hgx
  generalize (W.alloc (.cells #[.int .i64 x.d.kind, .string x.d.frm, .string x.d.to, .int .u64 (x.d.amt : Int), .int .u64 (x.d.non : Int), .string x.d.key, .string x.d.val, .slice x.ra x.d.rs.length x.rc, .slice x.wa x.d.ws.length x.wc] 33)).alloc (.cells #[.int .i64 y.d.kind, .string y.d.frm, .string y.d.to, .int .u64 (y.d.amt : Int), .int .u64 (y.d.non : Int), .string y.d.key, .string y.d.val, .slice y.ra y.d.rs.length y.rc, .slice y.wa y.d.ws.length y.wc] 33) = w1 at *
  refine (works22_any w1).mono ?_
  rintro e w2 ⟨rfl, hb2⟩
  replace hT := hT.below hb2
  clear hb2
  have cR := rich_any rich ro rc w2 (hR.below hT.bel) hrn hrz
  go_wp2_with fail
  refine cR.mono ?_
  rintro e w3 ⟨rfl, hb3⟩
  replace hT := hT.below hb3
  clear cR hb3
  have cL := greatM_any l lo lc w3 (hL.below hT.bel) hlw
  by_cases hri : richB rich = true
  · rw [hri]
    have hbF := hT.bel
    clear cL hT
    go_wp2
    go_ret
    exact ⟨rfl, hbF⟩
  obtain hri := Bool.eq_false_iff.2 hri
  have hrl := few_rich hri
  rw [hri]
  go_wp2_with fail
  refine cL.mono ?_
  rintro e w4 ⟨rfl, hb4⟩
  replace hT := hT.below hb4
  clear cL hb4
  by_cases hgl : greatM l = true
  · rw [hgl]
    have hbF := hT.bel
    clear hT
    go_wp2
    go_ret
    exact ⟨rfl, hbF⟩
  obtain hgl := Bool.eq_false_iff.2 hgl
  have hLm := RowsM.of hL hlw hgl
  rw [hgl]
  clear hgl hlw hL
  obtain ⟨x0, x1, x2, x3, x4, x5, x6, x7, x8⟩ := txm_nine hT.bx
  obtain ⟨y0, y1, y2, y3, y4, y5, y6, y7, y8⟩ := txm_nine hT.bz
  have hN : Arr (w4.alloc (.cells #[.int .i64 x.d.kind, .string x.d.frm, .string x.d.to, .int .u64 (x.d.amt : Int), .int .u64 (x.d.non : Int), .string x.d.key, .string x.d.val, .slice x.ra x.d.rs.length x.rc, .slice x.wa x.d.ws.length x.wc, .int .i64 y.d.kind, .string y.d.frm, .string y.d.to, .int .u64 (y.d.amt : Int), .int .u64 (y.d.non : Int), .string y.d.key, .string y.d.val, .slice y.ra y.d.rs.length y.rc, .slice y.wa y.d.ws.length y.wc] 33)) w4.heap.size 33 (x.c ++ y.c) := Arr.new w4 33 (x.c ++ y.c)
  have hnb := belowNew w4 (.cells #[.int .i64 x.d.kind, .string x.d.frm, .string x.d.to, .int .u64 (x.d.amt : Int), .int .u64 (x.d.non : Int), .string x.d.key, .string x.d.val, .slice x.ra x.d.rs.length x.rc, .slice x.wa x.d.ws.length x.wc, .int .i64 y.d.kind, .string y.d.frm, .string y.d.to, .int .u64 (y.d.amt : Int), .int .u64 (y.d.non : Int), .string y.d.key, .string y.d.val, .slice y.ra y.d.rs.length y.rc, .slice y.wa y.d.ws.length y.wc] 33)
  have hTn := hT.below hnb
  have cT := greatM_any [x, y] (some ⟨w4.heap.size, 0, none⟩) 2 _ (rows_two hN hTn.ax hTn.ay) hw2
  clear hN hnb hT hw2
  go_wp2_with fail
  refine cT.mono ?_
  rintro e w5 ⟨rfl, hb5⟩
  replace hTn := hTn.below hb5
  clear cT hb5 x0 x1 x2 x3 x4 x5 x6 x7 x8 y0 y1 y2 y3 y4 y5 y6 y7 y8
  by_cases hgt : greatM [x, y] = true
  · rw [hgt]
    have hbF := hTn.bel
    clear hTn
    go_wp2
    go_ret
    exact ⟨rfl, hbF⟩
  obtain hgt := Bool.eq_false_iff.2 hgt
  obtain ⟨-, hfw⟩ := fewM_of hgt
  have hxr := hfw x (by simp)
  have hyr := hfw y (by simp)
  rw [hgt]
  clear hgt hfw
  obtain ⟨cl, hcl⟩ : ∃ q, Hid (clashB ⟨x.d.rs, x.d.ws⟩ ⟨y.d.rs, y.d.ws⟩ = q) := ⟨_, rfl⟩
  obtain ⟨fx, hfx⟩ : ∃ q, Hid (fitsL x.d = q) := ⟨_, rfl⟩
  obtain ⟨fy, hfy⟩ : ∃ q, Hid (fitsL y.d = q) := ⟨_, rfl⟩
  have cO1 : ∀ w, Bx2 W w gx gy x y → Calls Tryd.prog 14 #[.agg #[.int .i64 x.d.kind, .string x.d.frm, .string x.d.to, .int .u64 (x.d.amt : Int), .int .u64 (x.d.non : Int), .string x.d.key, .string x.d.val, .slice x.ra x.d.rs.length x.rc, .slice x.wa x.d.ws.length x.wc]] w fun e w' => GotOwn22 w x.d e w' := fun w h => own22_any x w h.ax hxr
  have cO2 : ∀ w, Bx2 W w gx gy x y → Calls Tryd.prog 14 #[.agg #[.int .i64 y.d.kind, .string y.d.frm, .string y.d.to, .int .u64 (y.d.amt : Int), .int .u64 (y.d.non : Int), .string y.d.key, .string y.d.val, .slice y.ra y.d.rs.length y.rc, .slice y.wa y.d.ws.length y.wc]] w fun e w' => GotOwn22 w y.d e w' := fun w h => own22_any y w h.ay hyr
  have cF1 : ∀ w, Bx2 W w gx gy x y → Calls Tryd.prog 24 #[.agg #[.int .i64 x.d.kind, .string x.d.frm, .string x.d.to, .int .u64 (x.d.amt : Int), .int .u64 (x.d.non : Int), .string x.d.key, .string x.d.val, .slice x.ra x.d.rs.length x.rc, .slice x.wa x.d.ws.length x.wc]] w fun e w' => e = .returned (.bool fx) ∧ Below w.heap.size w w' := fun w h => by
    have := refFits_any x.d x.ra x.rc x.wa x.wc w h.ax.at_ hxs (by omega)
    rw [hfx.out] at this
    exact this
  have cF2 : ∀ w, Bx2 W w gx gy x y → Calls Tryd.prog 24 #[.agg #[.int .i64 y.d.kind, .string y.d.frm, .string y.d.to, .int .u64 (y.d.amt : Int), .int .u64 (y.d.non : Int), .string y.d.key, .string y.d.val, .slice y.ra y.d.rs.length y.rc, .slice y.wa y.d.ws.length y.wc]] w fun e w' => e = .returned (.bool fy) ∧ Below w.heap.size w w' := fun w h => by
    have := refFits_any y.d y.ra y.rc y.wa y.wc w h.ay.at_ hys (by omega)
    rw [hfy.out] at this
    exact this
  have cC : ∀ (w : World) (a b : TxM), a.d = x.d → b.d = y.d → a.At w → b.At w → Calls Tryd.prog 23 #[a.v, b.v] w fun e w' => e = .returned (.bool cl) ∧ Below w.heap.size w w' := fun w a b h1 h2 h3 h4 => by
    have := clashM_any a b w h3 h4 (by rw [h1]; exact hxs) (by rw [h2]; exact hys) (by rw [h1]; exact hxr) (by rw [h2]; exact hyr)
    rw [h1, h2, hcl.out] at this
    exact this
  have hkp : ∀ w', Bx2 W w' gx gy x y → (w'.cell? ⟨gx, 0, none⟩ = some (.int .i64 x.d.kind) ∧ w'.cell? ⟨gx, 1, none⟩ = some (.string x.d.frm) ∧ w'.cell? ⟨gx, 2, none⟩ = some (.string x.d.to) ∧ w'.cell? ⟨gx, 3, none⟩ = some (.int .u64 (x.d.amt : Int)) ∧ w'.cell? ⟨gx, 4, none⟩ = some (.int .u64 (x.d.non : Int)) ∧ w'.cell? ⟨gx, 5, none⟩ = some (.string x.d.key) ∧ w'.cell? ⟨gx, 6, none⟩ = some (.string x.d.val) ∧ w'.cell? ⟨gx, 7, none⟩ = some (.slice x.ra x.d.rs.length x.rc) ∧ w'.cell? ⟨gx, 8, none⟩ = some (.slice x.wa x.d.ws.length x.wc)) ∧ (w'.cell? ⟨gy, 0, none⟩ = some (.int .i64 y.d.kind) ∧ w'.cell? ⟨gy, 1, none⟩ = some (.string y.d.frm) ∧ w'.cell? ⟨gy, 2, none⟩ = some (.string y.d.to) ∧ w'.cell? ⟨gy, 3, none⟩ = some (.int .u64 (y.d.amt : Int)) ∧ w'.cell? ⟨gy, 4, none⟩ = some (.int .u64 (y.d.non : Int)) ∧ w'.cell? ⟨gy, 5, none⟩ = some (.string y.d.key) ∧ w'.cell? ⟨gy, 6, none⟩ = some (.string y.d.val) ∧ w'.cell? ⟨gy, 7, none⟩ = some (.slice y.ra y.d.rs.length y.rc) ∧ w'.cell? ⟨gy, 8, none⟩ = some (.slice y.wa y.d.ws.length y.wc)) := fun w' h => ⟨txm_nine h.bx, txm_nine h.bz⟩
  go_upto_region 5 with fail
  go_cut [46] (fun s46 wx => s46 = .bool (cl || !fx || !fy) ∧ Bx2 W wx gx gy x y)
  case first =>
    have hT0 : Bx2 W w5.drew gx gy x y := hTn.below (below_drewN (Below.refl _ w5) 1)
    clear hTn
    obtain ⟨⟨x0, x1, x2, x3, x4, x5, x6, x7, x8⟩, y0, y1, y2, y3, y4, y5, y6, y7, y8⟩ := hkp _ hT0
    cases cl <;> cases fx <;> cases fy
    all_goals
      go_wp2_with fail
      go_region_law (first
        | (go_simp; go_at_call 24; refine (cF2 _ hTF).mono ?_; rintro _ wE ⟨rfl, hbE⟩; have hTE := Bx2.below hTF hbE; obtain ⟨⟨x0, x1, x2, x3, x4, x5, x6, x7, x8⟩, y0, y1, y2, y3, y4, y5, y6, y7, y8⟩ := hkp _ hTE)
        | (go_simp; go_at_call 24; refine (cF1 _ hTC).mono ?_; rintro _ wD ⟨rfl, hbD⟩; have hTF := Bx2.below hTC hbD; have hTE := hTF; obtain ⟨⟨x0, x1, x2, x3, x4, x5, x6, x7, x8⟩, y0, y1, y2, y3, y4, y5, y6, y7, y8⟩ := hkp _ hTF)
        | (go_simp; go_at_call 23; refine (cC _ ya yb ea eb yaB ybA).mono ?_; rintro _ wC ⟨rfl, hbC⟩; have hTC := Bx2.below hTB hbC; have hTE := hTC; obtain ⟨⟨x0, x1, x2, x3, x4, x5, x6, x7, x8⟩, y0, y1, y2, y3, y4, y5, y6, y7, y8⟩ := hkp _ hTC)
        | (go_simp; go_at_call 14; refine (cO2 _ hTA).mono ?_; rintro _ wB ⟨yb, rfl, eb, ybA, hbB⟩; have hTB := Bx2.below hTA hbB; have yaB := TxM.At.below yaA hbB; obtain ⟨⟨x0, x1, x2, x3, x4, x5, x6, x7, x8⟩, y0, y1, y2, y3, y4, y5, y6, y7, y8⟩ := hkp _ hTB)
        | (go_simp; go_at_call 14; refine (cO1 _ hT0).mono ?_; rintro _ wA ⟨ya, rfl, ea, yaA, hbA⟩; have hTA := Bx2.below hT0 hbA; obtain ⟨⟨x0, x1, x2, x3, x4, x5, x6, x7, x8⟩, y0, y1, y2, y3, y4, y5, y6, y7, y8⟩ := hkp _ hTA))
      all_goals (
        go_wp2_with fail
        go_meet
        case rel => exact ⟨rfl, hTE⟩)
  case rest =>
    obtain ⟨rfl, hT⟩ := hcut
    clear hTn cC cF1 cF2
    by_cases hgo : (cl || !fx || !fy) = true
    · rw [hgo]
      have hbF := hT.bel
      clear hT hkp cO1 cO2
      go_wp2
      go_ret
      exact ⟨rfl, hbF⟩
    have hsw : ∀ s, applyE (applyF s y.d) x.d = applyE s x.d ∧ applyE (applyF s x.d) y.d = applyE s y.d ∧ applyF (applyF s x.d) y.d = applyF (applyF s y.d) x.d := fun s => by
      have h1 : cl = false := by cases cl <;> simp_all
      have h2 : fx = true := by cases fx <;> simp_all
      have h3 : fy = true := by cases fy <;> simp_all
      exact state_either s (by rw [hfx.out, h2]) (by rw [hfy.out, h3]) (by rw [hcl.out, h1])
    obtain hgo := Bool.eq_false_iff.2 hgo
    rw [hgo]
    clear hgo hcl hfx hfy
    generalize wc = w6 at *
    have hown := own_made w6 w6.heap.size rfl
    have hbE := belowNew w6 (.cells #[] 9)
    have hS := ((hR.below hT.bel).below hbE).strs
    have hs3 : w6.heap.size ≤ (w6.alloc (.cells #[] 9)).heap.size := by rw [alloc_size]; omega
    go_wp2_with (at_builtin; refine wpList_append_strs rfl _ _ rfl w6.heap.size _ rfl hown ro rc rich rfl hS hrc (by omega) hs3 ?_)
    intro a1 c1 w7 h7 hn7 hb7
    have hT7 := hT.below (hbE.trans hb7)
    have cN := new22_any rich a1 c1 funds w7 h7.at.row (fun s hs => by have := hrz s hs; unfold maxLen; omega) (by omega)
    clear hown hbE hS hs3 h7 hn7 hb7 hR hrc hrz hT
    generalize newF rich funds = s0 at *
    go_wp2_with fail
    refine cN.mono ?_
    rintro e w8 ⟨p, S, rfl, h8, hS8, hb8⟩
    have hSx : ∀ k, S k → gy < k ∧ gx < k := fun k hk => by
      have h1 := hS8 k hk
      have h2 := hT7.bz.lt
      have h3 := hgg.out
      omega
    have hT8 := hT7.below hb8
    have hge : ∀ k, S k → W.heap.size ≤ k := fun k hk => Nat.le_trans hT7.bel.size (hS8 k hk)
    have hP8 := h8.mono hrl
    clear cN hb8 h8 hS8 hT7
    go_wp2_with fail
    go_loopw [12] (fun v12 wr => ∃ (i : Nat) (s : StF), i ≤ l.length ∧ i ≤ 30 ∧ v12 = .int .i64 (i : Int) ∧ PS wr p S s (100 + 2 * i) ∧ Bx2 W wr gx gy x y) (fun v _ => l.length - (intOf v).toNat)
    case atStart => exact ⟨0, s0, Nat.zero_le _, by omega, rfl, hP8, hT8⟩
    case round =>
      obtain ⟨i, s, hi, hi2, rfl, hP, hT⟩ := hrel
      clear hP8 hT8
      by_cases hlt : i < l.length ∧ i < 30
      · obtain ⟨hil, hi30⟩ := hlt
        have g1 : (i : Int) < (l.length : Int) := by omega
        have g2 : (i : Int) < 30 := by omega
        obtain ⟨z, hz⟩ : ∃ z, l[i]? = some z := ⟨_, List.getElem?_eq_getElem hil⟩
        obtain ⟨b, off, rfl, hbl, x0, x1, x2, x3, x4, x5, x6, x7, x8, hzA⟩ := (hLm.below hT.bel).row.tx22 hz
        obtain ⟨hzs, hzr⟩ := hLm.fit z (List.mem_of_getElem? hz)
        have cO := own22_any z wr hzA hzr
        clear hz hzA
        go_wp2_with fail
        refine cO.mono ?_
        rintro e wa ⟨y', rfl, hyd, hyA, hba⟩
        have cA := applyD_any y' hyd wa hyA hzs hzr.2 p S (100 + 2 * i) s (hP.below hba) (by omega) _ rfl
        have hTa := hT.below hba
        obtain ⟨s', hs'⟩ : ∃ q, Hid (applyF s z.d = q) := ⟨_, rfl⟩
        clear cO hba hT hP x0 x1 x2 x3 x4 x5 x6 x7 x8 hbl
        go_wp2_with fail
        refine cA.mono ?_
        rintro e wb ⟨rfl, hb7, hk7⟩
        have hTb := hTa.kept hk7 hSx
        rw [hs'.out] at hb7
        clear cA hk7 hTa
        go_wp2
        go_roundw
        case rel => exact ⟨i + 1, s', by omega, by omega, by go_num, hb7, hTb⟩
        case measure => simp [intOf]; omega
      · have hg : ¬ (i : Int) < (l.length : Int) ∨ ((i : Int) < (l.length : Int) ∧ ¬ (i : Int) < 30) := by omega
        have hNb : 100 + 2 * i ≤ 160 := by omega
        replace hP := hP.mono hNb
        clear hNb hlt hi hi2
        go_upto_region 9 with fail
        go_cut [59] (fun s59 wx => s59 = .bool false ∧ wx = wr)
        case first =>
          rcases hg with g1 | ⟨g1, g2⟩
          all_goals
            go_wp2_with fail
            go_meet
            exact ⟨rfl, rfl⟩
        case rest =>
          obtain ⟨rfl, rfl⟩ := hcut
          clear hg
          have cC := copy22_any wc p S s 160 hP
          go_wp2_with fail
          refine cC.mono ?_
          rintro e w6 ⟨q, Q, rfl, h6, hQ6, hb6⟩
          have hP6 := hP.below hb6
          have hT6 := hT.below hb6
          have hST : ∀ k, S k → ¬ Q k := fun k h1 h2 => by
            have := hP.lt h1
            have := hQ6 k h2
            omega
          have hQx : ∀ k, Q k → gy < k ∧ gx < k := fun k hk => by
            have h1 := hQ6 k hk
            have h2 := hT.bz.lt
            have h3 := hgg.out
            omega
          clear cC hb6 hP hT hQ6
          obtain ⟨hs1, hs2, hs3⟩ := hsw s
          clear hsw
          obtain ⟨sx, hsx⟩ : ∃ q, Hid (applyF s x.d = q) := ⟨_, rfl⟩
          obtain ⟨sy, hsy⟩ : ∃ q, Hid (applyF s y.d = q) := ⟨_, rfl⟩
          obtain ⟨ex, hex⟩ : ∃ q : Int, Hid (((applyE s x.d : Nat) : Int) = q) := ⟨_, rfl⟩
          obtain ⟨ey, hey⟩ : ∃ q : Int, Hid (((applyE s y.d : Nat) : Int) = q) := ⟨_, rfl⟩
          rw [hsx.out, hsy.out] at hs3
          have hxy : ((applyE sx y.d : Nat) : Int) = ey := by rw [← hsx.out, hs2, hey.out]
          have hyx : ((applyE sy x.d : Nat) : Int) = ex := by rw [← hsy.out, hs1, hex.out]
          obtain ⟨sf, hsf⟩ : ∃ q, Hid (applyF sx y.d = q) := ⟨_, rfl⟩
          have hsg : Hid (applyF sy x.d = sf) := hs3.symm.trans hsf.out
          clear hs1 hs2 hs3
          replace hxy : Hid _ := hxy
          replace hyx : Hid _ := hyx
          go_upto_region 15 with fail
          go_cut [14, 15] (fun s14 s15 wx => s14 = .int .i64 ex ∧ s15 = .int .i64 ey ∧ Bx2 W wx gx gy x y ∧ PS wx p S sf 164 ∧ PS wx q Q s 160)
          case first =>
            have bd : Below w6.heap.size w6 w6.drew := below_drewN (Below.refl _ w6) 1
            have hT0 : Bx2 W w6.drew gx gy x y := hT6.below bd
            have hP0 := hP6.below bd
            have hQ0 := h6.below bd
            clear hT6 hP6 h6
            have hTc := hkp _ hT0
            go_wp2_with fail
            go_region_held3 (fun w' => (w'.cell? ⟨gx, 0, none⟩ = some (.int .i64 x.d.kind) ∧ w'.cell? ⟨gx, 1, none⟩ = some (.string x.d.frm) ∧ w'.cell? ⟨gx, 2, none⟩ = some (.string x.d.to) ∧ w'.cell? ⟨gx, 3, none⟩ = some (.int .u64 (x.d.amt : Int)) ∧ w'.cell? ⟨gx, 4, none⟩ = some (.int .u64 (x.d.non : Int)) ∧ w'.cell? ⟨gx, 5, none⟩ = some (.string x.d.key) ∧ w'.cell? ⟨gx, 6, none⟩ = some (.string x.d.val) ∧ w'.cell? ⟨gx, 7, none⟩ = some (.slice x.ra x.d.rs.length x.rc) ∧ w'.cell? ⟨gx, 8, none⟩ = some (.slice x.wa x.d.ws.length x.wc)) ∧ (w'.cell? ⟨gy, 0, none⟩ = some (.int .i64 y.d.kind) ∧ w'.cell? ⟨gy, 1, none⟩ = some (.string y.d.frm) ∧ w'.cell? ⟨gy, 2, none⟩ = some (.string y.d.to) ∧ w'.cell? ⟨gy, 3, none⟩ = some (.int .u64 (y.d.amt : Int)) ∧ w'.cell? ⟨gy, 4, none⟩ = some (.int .u64 (y.d.non : Int)) ∧ w'.cell? ⟨gy, 5, none⟩ = some (.string y.d.key) ∧ w'.cell? ⟨gy, 6, none⟩ = some (.string y.d.val) ∧ w'.cell? ⟨gy, 7, none⟩ = some (.slice y.ra y.d.rs.length y.rc) ∧ w'.cell? ⟨gy, 8, none⟩ = some (.slice y.wa y.d.ws.length y.wc))) (exact hkp _ (by assumption))
              (first
              | (go_at_call 13; refine (applyD_any yb eb _ ybA hys hyr.2 p S 162 sx hPB (by omega) ey hxy.out).mono ?_; rintro _ wE ⟨rfl, hPE, hkE⟩; rw [hsf.out] at hPE; have hTE := Bx2.kept hTB hkE hSx; have hQE := PS.kept hQB hkE (fun k h1 h2 => hST k h2 h1))
              | (go_at_call 13; refine (applyD_any ya ea _ yaA hxs hxr.2 p S 160 s hPA (by omega) ex hex.out).mono ?_; rintro _ wD ⟨rfl, hPD, hkD⟩; rw [hsx.out] at hPD; have hTD := Bx2.kept hTA hkD hSx; have hQD := PS.kept hQA hkD (fun k h1 h2 => hST k h2 h1))
              | (go_at_call 14; refine (cO2 _ hTD).mono ?_; rintro _ wB ⟨yb, rfl, eb, ybA, hbB⟩; have hTB := Bx2.below hTD hbB; have hPB := PS.below hPD hbB; have hQB := PS.below hQD hbB)
              | (go_at_call 14; refine (cO1 _ hT0).mono ?_; rintro _ wA ⟨ya, rfl, ea, yaA, hbA⟩; have hTA := Bx2.below hT0 hbA; have hPA := PS.below hP0 hbA; have hQA := PS.below hQ0 hbA))
            go_wp2_with fail
            go_meet
            exact ⟨rfl, rfl, hTE, hPE, hQE⟩
          case rest =>
            obtain ⟨rfl, rfl, hT, hP, hQ⟩ := hcut
            clear hT6 hP6 h6
            generalize wc = w7 at *
            obtain ⟨⟨x0, x1, x2, x3, x4, x5, x6, x7, x8⟩, y0, y1, y2, y3, y4, y5, y6, y7, y8⟩ := hkp _ hT
            have c2 := cO2 w7 hT
            clear cO2
            go_wp2_with fail
            refine c2.mono ?_
            rintro e w8 ⟨yb, rfl, eb, ybA, hbB⟩
            have cA := applyD_any yb eb w8 ybA hys hyr.2 q Q 160 s (hQ.below hbB) (by omega) ey hey.out
            have hTB := hT.below hbB
            have hPB := hP.below hbB
            clear c2 hT hP hQ hbB x0 x1 x2 x3 x4 x5 x6 x7 x8 y0 y1 y2 y3 y4 y5 y6 y7 y8
            go_wp2_with fail
            refine cA.mono ?_
            rintro e w9 ⟨rfl, hQ, hk9⟩
            rw [hsy.out] at hQ
            have hT := hTB.kept hk9 hQx
            have hP := hPB.kept hk9 hST
            clear cA hTB hPB hk9 ybA
            obtain ⟨⟨x0, x1, x2, x3, x4, x5, x6, x7, x8⟩, y0, y1, y2, y3, y4, y5, y6, y7, y8⟩ := hkp _ hT
            have c1 := cO1 w9 hT
            clear cO1
            go_wp2_with fail
            refine c1.mono ?_
            rintro e w10 ⟨ya, rfl, ea, yaA, hbA⟩
            have cA := applyD_any ya ea w10 yaA hxs hxr.2 q Q (160 + 2) sy (hQ.below hbA) (by omega) ex hyx.out
            have hTB := hT.below hbA
            have hPB := hP.below hbA
            clear c1 hT hP hQ hbA x0 x1 x2 x3 x4 x5 x6 x7 x8 y0 y1 y2 y3 y4 y5 y6 y7 y8
            go_wp2_with fail
            refine cA.mono ?_
            rintro e w11 ⟨rfl, hQ, hk11⟩
            rw [hsg.out] at hQ
            have hT := hTB.kept hk11 hQx
            have hP := hPB.kept hk11 hST
            have hb := hT.bel
            clear cA hTB hPB hk11 yaA hT hkp hsx hsy hsf hsg hex hey hxy hyx
            have cD := digest22_any w11 p S sf 164 hP (by omega) (hG.below hb)
            go_wp2_with fail
            refine cD.mono ?_
            rintro e w12 ⟨t1, hd1, rfl, hb12⟩
            have cE := digest22_any w12 q Q sf _ (hQ.below hb12) (by omega) (hG.below (hb.trans (hb12.mono hb.size)))
            clear cD
            go_wp2_with fail
            refine cE.mono ?_
            rintro e w13 ⟨t2, hd2, rfl, hb13⟩
            obtain rfl := hd1.uniq hd2
            have hbF := (hb.trans (hb12.mono hb.size)).trans (hb13.mono (hb.trans (hb12.mono hb.size)).size)
            clear cE hP hQ hb hb12 hb13 hd1 hd2
            go_wp2
            go_ret
            exact ⟨rfl, hbF⟩
end Go.Proofs.YtcjmeaikdfgapaaDoor

/- What the bound of the second form gives: the sizes of strings, and of slices of strings with all that they hold. -/
namespace Go.Proofs.YtcjmeaikdfgapaaDoor
open Go.ChangeShapes Go.WideShapes Go.ChangeAt Go.RowKit

theorem upto_part {H : Type} {d : DataW H} : ∀ {l : List (DataW H)}, d ∈ l → Rows.uptoBulk d ≤ Rows.uptoBulkAll l
  | [], h => by cases h
  | x :: r, h => by
    simp only [Rows.uptoBulkAll]
    rcases List.mem_cons.1 h with e | e
    · subst e; omega
    · have := upto_part e; omega

theorem upto_bound {H : Type} {l : List (DataW H)} (hk : Rows.uptoSmall H l = true) : Rows.uptoBulkAll l ≤ 1048576 := of_decide_eq_true hk

theorem upto_string {H : Type} {s : ByteArray} {d : DataW H} (hd : d = .lit (.string s.data.toList)) {l : List (DataW H)} (hk : Rows.uptoSmall H l = true) (hm : d ∈ l) : s.size ≤ 1048576 := by
  have h1 := upto_bound hk
  have h2 := upto_part hm
  subst hd
  simp only [Rows.uptoBulk] at h2
  have : s.data.toList.length = s.size := by simp
  omega

/-- How many values and letters a row of strings holds. -/
def strsBulk (ss : List ByteArray) : Nat := (ss.map (fun s => s.size + 1)).sum

theorem bulk_strs {H : Type} : ∀ (ss : List ByteArray), Rows.uptoBulkAll (strs (H := H) ss) = strsBulk ss
  | [] => by simp [strs, strsBulk, Rows.uptoBulkAll]
  | s :: ss => by
    have ih := bulk_strs (H := H) ss
    simp only [strs, strsBulk, List.map_cons, List.sum_cons, Rows.uptoBulkAll, Rows.uptoBulk] at ih ⊢
    rw [ih]
    simp

theorem upto_strs {H : Type} {ss : List ByteArray} {d : DataW H} (hd : StrsDatum d ss) {l : List (DataW H)} (hk : Rows.uptoSmall H l = true) (hm : d ∈ l) : strsBulk ss ≤ 1048576 := by
  have h1 := upto_bound hk
  have h2 := upto_part hm
  rcases hd with ⟨rfl, rfl⟩ | ⟨rest, rfl⟩
  · simp [strsBulk]
  · simp only [Rows.uptoBulk] at h2
    rw [bulk_strs] at h2
    omega

theorem strsBulk_length : ∀ (ss : List ByteArray), ss.length ≤ strsBulk ss
  | [] => by simp
  | s :: ss => by
    have := strsBulk_length ss
    simp only [strsBulk, List.map_cons, List.sum_cons, List.length_cons] at this ⊢
    omega

theorem flat_bulk : ∀ (ss : List ByteArray), ((bl ss).flatMap txt).length ≤ 10 * strsBulk ss
  | [] => by simp [bl]
  | s :: ss => by
    have ih := flat_bulk ss
    have hg := goInt_length s.size
    have e : (bl (s :: ss)).flatMap txt = txt s.data.toList ++ (bl ss).flatMap txt := by simp [bl]
    rw [e, List.length_append]
    have e2 : (txt s.data.toList).length = (goInt s.size).length + s.size := by simp [txt]
    simp only [strsBulk, List.map_cons, List.sum_cons] at ih ⊢
    omega

theorem lst_bulk (ss : List ByteArray) : (lst (bl ss)).length ≤ 9 + 10 * strsBulk ss := by
  have := flat_bulk ss
  have := goInt_length (bl ss).length
  rw [lst, List.length_append]
  omega
end Go.Proofs.YtcjmeaikdfgapaaDoor

/- What comes in, with the bound of the second form. -/
namespace Go.Proofs.YtcjmeaikdfgapaaDoor
open Go.ChangeShapes Go.WideShapes Go.ChangeAt Go.RowKit Go.Joins Go.Deep
set_option linter.unusedVariables false

theorem strs_one : ∀ {ss : List ByteArray} {s : ByteArray}, s ∈ ss → s.size ≤ strsBulk ss
  | [], _, h => by cases h
  | x :: r, s, h => by
    have e : strsBulk (x :: r) = x.size + 1 + strsBulk r := by simp [strsBulk]
    rcases List.mem_cons.1 h with q | q
    · rw [q]; omega
    · have := strs_one q; omega

theorem strs_few {ss : List ByteArray} (h : strsBulk ss ≤ 1048576) : ss.length ≤ 1048576 ∧ ∀ s ∈ ss, s.size ≤ 1048576 :=
  ⟨Nat.le_trans (strsBulk_length ss) h, fun _ hs => Nat.le_trans (strs_one hs) h⟩

theorem nat_of_u64 {n : Int} (h : (Lit.int .u64 n).wf = true) : ∃ k : Nat, n = (k : Int) := ⟨n.toNat, by have := (wf_u64 h).1; omega⟩

set_option maxRecDepth 100000 in
theorem open_tx22 {H : Type} {enc : TypeId × Value → H} {W : World} {r : Reach} {b0 : Nat} {v : Value} {d : DataW H} {p : List MemPlace} (hv : Value.okWide Tryd.prog W r b0 33 v)
    (h : DataW.Trod enc Tryd.prog W 0 (fun _ => true) true 33 v d p) : ∃ x : TxM, v = x.v ∧ x.At W ∧ TxSizes x.d ∧ TxDatum d x.d := by
  obtain ⟨D, ra, rc, wa, wc, h1, h2, h3, h4, h5, h6⟩ := open_tx hv h
  exact ⟨⟨D, ra, rc, wa, wc⟩, h1, ⟨h2, h3, h4⟩, h5, h6⟩
end Go.Proofs.YtcjmeaikdfgapaaDoor

/- StateEither: for every input the statement answers true, and each argument reads afterwards as it read before. Condition: the two tables of package mix read as the program's text lays them; and what the arguments hold is together of bulk at most 1048576. -/
namespace Go.Proofs.YtcjmeaikdfgapaaDoor
open Go.ChangeShapes Go.WideShapes Go.ChangeAt Go.RowKit
open Go.ChangeMaps (open_string shut_string)
set_option linter.unusedVariables false

set_option maxRecDepth 100000 in
theorem stateEither_reads (os : Os) {H : Type} (enc : TypeId × Value → H) : ∃ places, DataW.whole enc Tryd.prog ((World.doorLaid Tryd.prog 400 os).forCall (fun _ _ => 0) ⟨#[], #[.slice none 0 0, .int .u64 0, .slice none 0 0, .agg #[.int .i64 0, .string ByteArray.empty, .string ByteArray.empty, .int .u64 0, .int .u64 0, .string ByteArray.empty, .string ByteArray.empty, .slice none 0 0, .slice none 0 0], .agg #[.int .i64 0, .string ByteArray.empty, .string ByteArray.empty, .int .u64 0, .int .u64 0, .string ByteArray.empty, .string ByteArray.empty, .slice none 0 0, .slice none 0 0]], []⟩).memory Tryd.f5.params.toList Rows.stateEitherSpec.vars false (#[.slice none 0 0, .int .u64 0, .slice none 0 0, .agg #[.int .i64 0, .string ByteArray.empty, .string ByteArray.empty, .int .u64 0, .int .u64 0, .string ByteArray.empty, .string ByteArray.empty, .slice none 0 0, .slice none 0 0], .agg #[.int .i64 0, .string ByteArray.empty, .string ByteArray.empty, .int .u64 0, .int .u64 0, .string ByteArray.empty, .string ByteArray.empty, .slice none 0 0, .slice none 0 0]] : Array Value).toList 8 = some ([.nil, .lit (.int .u64 0), .nil, .agg [.lit (.int .i64 0), .lit (.string []), .lit (.string []), .lit (.int .u64 0), .lit (.int .u64 0), .lit (.string []), .lit (.string []), .nil, .nil], .agg [.lit (.int .i64 0), .lit (.string []), .lit (.string []), .lit (.int .u64 0), .lit (.int .u64 0), .lit (.string []), .lit (.string []), .nil, .nil]], [], places) :=
  ⟨[], by kernel_rfl⟩

set_option maxRecDepth 100000 in
theorem stateEither_lifted (os : Os) (started : os.Started) (H : Type) (enc : TypeId × Value → H) (F : Stop.Interp) :
    ReturnsInHanded {} Tryd.checked os 5 .any ((Rows.OpenSpec.upto Rows.stateEitherSpec).preRow enc Tryd.prog Tryd.f5 Rows.stateEitherUptoRow.domain false Rows.stateEitherUptoRow.laid) (((Rows.OpenSpec.upto Rows.stateEitherSpec).at F).post enc Tryd.prog Tryd.f5 false true false false) := by
  obtain ⟨places, hx⟩ := stateEither_reads os enc
  refine returnsInHanded_of_row (C := Tryd.checked) (s := Rows.OpenSpec.upto Rows.stateEitherSpec) ownKnob_none started (by kernel_rfl) Tryd.func5
    ⟨World.doorLaid Tryd.prog 400 os, fun _ _ => 0, ⟨#[], #[.slice none 0 0, .int .u64 0, .slice none 0 0, .agg #[.int .i64 0, .string ByteArray.empty, .string ByteArray.empty, .int .u64 0, .int .u64 0, .string ByteArray.empty, .string ByteArray.empty, .slice none 0 0, .slice none 0 0], .agg #[.int .i64 0, .string ByteArray.empty, .string ByteArray.empty, .int .u64 0, .int .u64 0, .string ByteArray.empty, .string ByteArray.empty, .slice none 0 0, .slice none 0 0]], []⟩, rfl, World.shaped_of_RefB (by kernel_rfl) (by kernel_rfl), rfl, (Input.okWide_of_okWideB (by kernel_rfl)).2,
      OpenSpec.preRow_of_cond 8 hx (by kernel_rfl) (fun k hk => by cases hk; kernel_rfl) (by kernel_rfl) (Mx.door_met os _), by
      simp only [Assume.holds]
      exact ⟨by simp, by simp, fun _ => Modest.zero, by simp, by simp⟩⟩ ?_
  intro W base args ds gs before hval0 hW hcnd hcond hsz0 hL _ _
  have hk : Rows.uptoSmall H (ds ++ gs) = true := hcond _ rfl
  have hval : ∀ (j : Nat) t v, Tryd.f5.params[j]? = some t → args[j]? = some v → Value.okWide Tryd.prog W .any base t v := hval0
  have hsz : (DataW.weightsEach Tryd.prog (Tryd.f5.params.toList ++ Rows.stateEitherSpec.plain.varTypes Tryd.prog) (ds ++ gs)).all (· ≤ reachBytes) = true := hsz0
  have hW' := hW
  obtain ⟨p, q, hA0, hV, rfl, hfz, hnd⟩ := hW
  have hA : DataW.TrodAll enc Tryd.prog W 0 (fun _ => true) true Tryd.f5.params.toList args.toList ds p := hA0
  rw [Tryd.params5] at hA hval hsz
  obtain ⟨v0, vs0, d0, ds0, p0, q0, hargs, rfl, rfl, h0, r0⟩ := trodAll_cons hA
  obtain ⟨v1, vs1, d1, ds1, p1, q1, rfl, rfl, rfl, h1, r1⟩ := trodAll_cons r0
  obtain ⟨v2, vs2, d2, ds2, p2, q2, rfl, rfl, rfl, h2, r2⟩ := trodAll_cons r1
  obtain ⟨v3, vs3, d3, ds3, p3, q3, rfl, rfl, rfl, h3, r3⟩ := trodAll_cons r2
  obtain ⟨v4, vs4, d4, ds4, p4, q4, rfl, rfl, rfl, h4, r4⟩ := trodAll_cons r3
  obtain ⟨rfl, rfl, rfl⟩ := trodAll_nil r4
  obtain rfl : args = #[v0, v1, v2, v3, v4] := by cases args; simp_all
  obtain ⟨rfl, rfl⟩ := trodVars_none hV
  have k0 := h0
  have lt0 : ∀ x ∈ p0, x.block < W.heap.size := by obtain ⟨m, hm⟩ := k0; exact DataW.trod_lt m _ _ _ hm
  obtain ⟨a0, len0, cap0, rfl⟩ := okWide_slice Tryd.underlying22 (hval 0 22 v0 rfl rfl)
  obtain ⟨ss0, sl0, st0, sm0, sd0⟩ := strs_open h0
  subst sl0
  have bk0 := strs_few (upto_strs sd0 hk (by simp))
  have k1 := h1
  have lt1 : ∀ x ∈ p1, x.block < W.heap.size := by obtain ⟨m, hm⟩ := k1; exact DataW.trod_lt m _ _ _ hm
  obtain ⟨b1, rfl, hd1, hp1, w1⟩ := open_int Tryd.underlying23 (hval 1 23 v1 rfl rfl) h1
  obtain ⟨a1, rfl⟩ := nat_of_u64 w1
  have k2 := h2
  have lt2 : ∀ x ∈ p2, x.block < W.heap.size := by obtain ⟨m, hm⟩ := k2; exact DataW.trod_lt m _ _ _ hm
  obtain ⟨a2, len2, cap2, rfl⟩ := okWide_slice Tryd.underlying24 (hval 2 24 v2 rfl rfl)
  obtain ⟨l2, rfl, st2, sm2, sd2⟩ := open_txs22 h2
  have sz2 := txs22_sized hsz (j := 2) rfl rfl sd2
  have k3 := h3
  have lt3 : ∀ x ∈ p3, x.block < W.heap.size := by obtain ⟨m, hm⟩ := k3; exact DataW.trod_lt m _ _ _ hm
  obtain ⟨x3, rfl, at3, sz3, sd3⟩ := open_tx22 (hval 3 33 v3 rfl rfl) h3
  have sl3 := tx_sized hsz (j := 3) rfl rfl sd3
  have k4 := h4
  have lt4 : ∀ x ∈ p4, x.block < W.heap.size := by obtain ⟨m, hm⟩ := k4; exact DataW.trod_lt m _ _ _ hm
  obtain ⟨x4, rfl, at4, sz4, sd4⟩ := open_tx22 (hval 4 33 v4 rfl rfl) h4
  have sl4 := tx_sized hsz (j := 4) rfl rfl sd4
  clear hA0 hval0 hsz0
  refine (stateEither_walk a0 cap0 ss0 a1 a2 cap2 l2 x3 x4 W st0.row (strs_cap k0) bk0.1 bk0.2 st2 sz2 at3 sz3 sl3 at4 sz4 sl4 (Mx.of_laid hL)).mono fun e W' ⟨he, bel⟩ => ?_
  subst he
  exact ⟨_, rfl, _, _, _, [], _, [], hW', trodAll_mk1 (shut_bool Tryd.underlying4 _), (trodAll_cons_mk (Below.trod laidOut_true (by kernel_rfl) (of_decide_eq_true (by kernel_rfl)) k0 bel lt0) (trodAll_cons_mk (Below.trod laidOut_true (by kernel_rfl) (of_decide_eq_true (by kernel_rfl)) k1 bel lt1) (trodAll_cons_mk (Below.trod laidOut_true (by kernel_rfl) (of_decide_eq_true (by kernel_rfl)) k2 bel lt2) (trodAll_cons_mk (Below.trod laidOut_true (by kernel_rfl) (of_decide_eq_true (by kernel_rfl)) k3 bel lt3) (trodAll_cons_mk (Below.trod laidOut_true (by kernel_rfl) (of_decide_eq_true (by kernel_rfl)) k4 bel lt4) trodAll_mk0))))), rfl, bel.frame _, fun h => by cases h⟩

theorem stateEitherUpto_holds : Rows.StateEitherUptoSaid :=
  OpenClaim.holds_of_cond 5 Tryd.f5 rfl rfl rfl rfl rfl rfl rfl ⟨rfl, rfl, rfl, rfl, rfl⟩ rfl rfl rfl rfl rfl (by kernel_rfl) Tryd.func5 (by kernel_rfl)
    (of_decide_eq_true (by kernel_rfl)) (by unfold Func.isWrapper; rw [if_neg (of_decide_eq_false (by kernel_rfl))]; exact ⟨rfl, rfl⟩)
    (fun os started H enc _ F => by rw [OpenClaim.pre_eq_preRow]; exact stateEither_lifted os started H enc F)

theorem stateEitherUpto_card : Rows.StateEitherUptoCardSaid :=
  Claim7.holds_tied_plain_at .later [] [.data, .data] true (true, "1e32a5eeb282703e4f3e650c36c45899cefdfcfc426a3c03a79052e441ce46ee") true
    stateEitherUpto_holds (fun _ h => by cases h) (by kernel_rfl) (fun _ h => by cases h) stateEitherUpto_row_tie rfl ⟨rfl, rfl⟩ (by kernel_rfl) rfl
    (fun f fn hf hfn => by
      obtain rfl : f = 5 := Option.some.inj ((show Tryd.prog.funcNamed "tusk/tusklaw22.StateEither" = some 5 by kernel_rfl).symm.trans hf) |>.symm
      obtain rfl : fn = Tryd.f5 := (Option.some.inj (Tryd.func5.symm.trans hfn)).symm
      exact ⟨by kernel_rfl, fun j t ht => by
        rw [Tryd.params5] at ht
        have hall : ∀ t ∈ (#[22, 23, 24, 33, 33] : Array TypeId).toList, Tryd.prog.wantsStandIn t = false := by
          show ∀ t ∈ ([22, 23, 24, 33, 33] : List TypeId), Tryd.prog.wantsStandIn t = false
          refine List.forall_mem_cons.2 ⟨by kernel_rfl, ?_⟩
          refine List.forall_mem_cons.2 ⟨by kernel_rfl, ?_⟩
          refine List.forall_mem_cons.2 ⟨by kernel_rfl, ?_⟩
          refine List.forall_mem_cons.2 ⟨by kernel_rfl, ?_⟩
          refine List.forall_mem_cons.2 ⟨by kernel_rfl, ?_⟩
          exact fun _ h => by cases h
        exact hall t (Array.mem_toList_iff.2 (Array.mem_of_getElem? ht))⟩)
    (by kernel_rfl)
end Go.Proofs.YtcjmeaikdfgapaaDoor
