/- What access.Clash does. -/
import Derived.Test.YthegadhkhbokkaaAccTx
import Derived.Test.YthegadhkhbokkaaMapStr
namespace Go.Proofs.Ythegadhkhbokkaa
open Go Go.RowKit
set_option linter.unusedVariables false

/-- What is declared of a key. -/
def usesF (rs ws : List ByteArray) (k : ByteArray) : Option Value := if inK ws k = true then some (.int .i64 2) else if inK rs k = true then some (.int .i64 1) else none

theorem inK_snoc (l : List ByteArray) (x k : ByteArray) : inK (l ++ [x]) k = (inK l k || decide (x = k)) := by
  unfold inK
  rw [List.any_append]
  simp

theorem usesF_read {rs : List ByteArray} {i : Nat} {x : ByteArray} (hx : rs[i]? = some x) (k : ByteArray) : usesF (rs.take (i + 1)) [] k = putF (usesF (rs.take i) []) x (.int .i64 1) k := by
  rw [List.take_add_one, hx]
  unfold usesF putF
  show _ = if k = x then _ else _
  have e0 : inK [] k = false := rfl
  simp only [e0, Option.toList_some, inK_snoc]
  by_cases h : k = x
  · subst h; simp
  · rw [if_neg h]
    have : decide (x = k) = false := decide_eq_false (fun e => h e.symm)
    rw [this, Bool.or_false]

theorem usesF_write {rs ws : List ByteArray} {i : Nat} {x : ByteArray} (hx : ws[i]? = some x) (k : ByteArray) : usesF rs (ws.take (i + 1)) k = putF (usesF rs (ws.take i)) x (.int .i64 2) k := by
  rw [List.take_add_one, hx]
  unfold usesF putF
  simp only [Option.toList_some, inK_snoc]
  by_cases h : k = x
  · subst h; simp
  · rw [if_neg h]
    have : decide (x = k) = false := decide_eq_false (fun e => h e.symm)
    rw [this, Bool.or_false]

theorem putN_le (f : ByteArray → Option Value) (id : ByteArray) (n : Nat) : putN f id n ≤ n + 1 := by
  unfold putN
  split <;> omega

def GotUses (W : World) (x : TxA) (e : Ending) (w : World) : Prop :=
  ∃ b n, e = .returned (.map (some b)) ∧ SMap w b (usesF x.rs x.ws) n ∧ W.heap.size ≤ b ∧ Below W.heap.size W w

set_option maxRecDepth 100000 in
set_option maxHeartbeats 1000000 in
theorem usesA_any (x : TxA) (w : World) (hA : TxA.At w x) (lr : x.rs.length ≤ 1000000) (lw : x.ws.length ≤ 1000000) :
    Calls Try.prog 22 #[x.v] w fun e w' => GotUses w x e w' := by
  have hX := Arr.new w 26 x.c
  have hB := belowNew w (.cells x.c.toArray 26)
  have hM := SMap.new (w.alloc (.cells x.c.toArray 26))
  have hBm := belowNew (w.alloc (.cells x.c.toArray 26)) (.map #[] 0)
  rw [alloc_size] at hM
  have hX1 := hX.below hBm (by rw [alloc_size]; omega)
  have hB1 := hB.trans (hBm.mono (by rw [alloc_size]; omega))
  obtain ⟨hrd, hwr, hnr, hnw, hzr, hzw⟩ := hA
  obtain ⟨kind, frm, dst, amt, non, key, val, rs, ws, ra, rc, wa, wc⟩ := x
  replace lr : rs.length ≤ 1000000 := lr
  replace lw : ws.length ≤ 1000000 := lw
  replace hrd : RowAt textK w ra rs := hrd
  replace hwr : RowAt textK w wa ws := hwr
  replace hzr : ∀ s ∈ rs, s.size ≤ maxLen := hzr
  replace hzw : ∀ s ∈ ws, s.size ≤ maxLen := hzw
  have k7 := hX1.cell (i := 7) rfl
  have k8 := hX1.cell (i := 8) rfl
  have k7a := hX.cell (i := 7) rfl
  have k8a := hX.cell (i := 8) rfl
  have mk : ∀ (n : Int) (w : World), (Instr.makeMap 47 (some (.int .i64 n))).run Try.prog w = .ok (.map (some w.heap.size)) (w.alloc (.map #[] 0)) := fun n w => rfl
  clear hX hB hBm hnr hnw
  unfold TxA.v
  go_enter Try.func22, Try.ntmps22
  go_wp2_with fail
  go_loopw [19] (fun v19 wr => ∃ i m : Nat, i ≤ rs.length ∧ v19 = .int .i64 (i : Int) ∧ SMap wr (w.heap.size + 1) (usesF (rs.take i) []) m ∧ m ≤ i ∧ wr.cell? ⟨w.heap.size, 8, none⟩ = some (.slice wa ws.length wc) ∧ w.heap.size < wr.heap.size ∧ Below w.heap.size w wr) (fun v _ => rs.length - (intOf v).toNat)
  case atStart => exact ⟨0, 0, Nat.zero_le _, rfl, hM, Nat.le_refl _, k8, hX1.lt, hB1⟩
  case round =>
    obtain ⟨i, m, hi, rfl, hm1, hm2, hk8, hlt, hb⟩ := hrel
    clear hM hX1 hB1 k7 k8 k7a k8a
    by_cases hil : i < rs.length
    · have g1 : (i : Int) < (rs.length : Int) := by omega
      obtain ⟨y, hy⟩ : ∃ p, rs[i]? = some p := ⟨_, List.getElem?_eq_getElem hil⟩
      obtain ⟨b, off, rfl, hbl, hcell⟩ := (hrd.below hb).txt hy
      have hid := hzr y (List.mem_of_getElem? hy)
      have hmx : m < maxLen := by unfold maxLen; omega
      have hnx : Hid (∀ k, usesF (rs.take (i + 1)) [] k = putF (usesF (rs.take i) []) y (.int .i64 1) k) := usesF_read hy
      go_wp2_with (at_mapUpdate; refine smap_put rfl _ _ _ 47 rfl 3 Try.underlying47 (w.heap.size + 1) _ _ rfl hm1 hmx y hid rfl _ rfl ?_; intro w5 hM5 hk5)
      have hp := putN_le (usesF (rs.take i) []) y m
      go_roundw
      case rel => exact ⟨i + 1, _, by omega, by go_num, hM5.congr hnx.out, by omega, by rw [hk5.cell (p := ⟨w.heap.size, 8, none⟩) hlt (fun e => by have : w.heap.size = w.heap.size + 1 := e; omega)]; exact hk8, Nat.lt_of_lt_of_le hlt hk5.size, hb.trans (hk5.below hb.size (fun k e => by have : k = w.heap.size + 1 := e; omega))⟩
      case measure => simp [intOf]; omega
    · have g1 : ¬ (i : Int) < (rs.length : Int) := by omega
      have hir : i = rs.length := by omega
      rw [hir, List.take_length] at hm1
      have hm2' : m ≤ rs.length := by omega
      clear hir hm2 hil hi hrd
      go_wp2_with fail
      go_loopw [29] (fun v29 wr => ∃ i m : Nat, i ≤ ws.length ∧ v29 = .int .i64 (i : Int) ∧ SMap wr (w.heap.size + 1) (usesF rs (ws.take i)) m ∧ m ≤ rs.length + i ∧ Below w.heap.size w wr) (fun v _ => ws.length - (intOf v).toNat)
      case atStart => exact ⟨0, m, Nat.zero_le _, rfl, hm1, by omega, hb⟩
      case round =>
        obtain ⟨i, m, hi, rfl, hm1, hm2, hb⟩ := hrel
        by_cases hil : i < ws.length
        · have g1 : (i : Int) < (ws.length : Int) := by omega
          obtain ⟨y, hy⟩ : ∃ p, ws[i]? = some p := ⟨_, List.getElem?_eq_getElem hil⟩
          obtain ⟨b, off, rfl, hbl, hcell⟩ := (hwr.below hb).txt hy
          have hid := hzw y (List.mem_of_getElem? hy)
          have hmx : m < maxLen := by unfold maxLen; omega
          have hnx : Hid (∀ k, usesF rs (ws.take (i + 1)) k = putF (usesF rs (ws.take i)) y (.int .i64 2) k) := usesF_write hy
          go_wp2_with (at_mapUpdate; refine smap_put rfl _ _ _ 47 rfl 3 Try.underlying47 (w.heap.size + 1) _ _ rfl hm1 hmx y hid rfl _ rfl ?_; intro w5 hM5 hk5)
          have hp := putN_le (usesF rs (ws.take i)) y m
          go_roundw
          case rel => exact ⟨i + 1, _, by omega, by go_num, hM5.congr hnx.out, by omega, hb.trans (hk5.below hb.size (fun k e => by have : k = w.heap.size + 1 := e; omega))⟩
          case measure => simp [intOf]; omega
        · have g1 : ¬ (i : Int) < (ws.length : Int) := by omega
          have hir : i = ws.length := by omega
          rw [hir, List.take_length] at hm1
          clear hir hm2 hil hi
          go_wp2
          go_ret
          exact ⟨_, _, rfl, hm1, by omega, hb⟩

theorem zeroIntA (w : World) : (zeroValue 3).run Try.prog w = .ok (.int .i64 0) w := by rfl

theorem clash_uses (a b : RwD) : clashB a b = (b.ws.any (fun y => inK a.ws y || inK a.rs y) || b.rs.any (fun y => inK a.ws y)) := by
  rw [Bool.eq_iff_iff, clashB_iff]
  simp only [Bool.or_eq_true, List.any_eq_true, inK_iff]
  constructor
  · rintro (⟨k, h1, h2 | h2⟩ | ⟨k, h1, h2⟩)
    · exact Or.inl ⟨k, h2, Or.inl h1⟩
    · exact Or.inr ⟨k, h2, h1⟩
    · exact Or.inl ⟨k, h1, Or.inr h2⟩
  · rintro (⟨k, h1, h2 | h2⟩ | ⟨k, h1, h2⟩)
    · exact Or.inl ⟨k, h2, Or.inl h1⟩
    · exact Or.inr ⟨k, h1, h2⟩
    · exact Or.inl ⟨k, h2, Or.inr h1⟩

theorem two_newA (w : World) (x y : TxA) : ∃ w2, w2 = (w.alloc (.cells x.c.toArray 26)).alloc (.cells y.c.toArray 26) ∧ Arr w2 w.heap.size 26 x.c ∧ Arr w2 (w.heap.size + 1) 26 y.c ∧ Below w.heap.size w w2 := by
  obtain ⟨h1, h2, h3⟩ := two_new w 26 26 x.c y.c
  exact ⟨_, rfl, h1, h2, h3⟩

theorem take_any {α : Type} {l : List α} {p : α → Bool} {i : Nat} {x : α} (hx : l[i]? = some x) (h : (l.take i).any p = false) (hp : p x = false) : (l.take (i + 1)).any p = false := by
  rw [List.take_add_one, hx, List.any_append, h]
  simp [hp]

theorem any_hit {α : Type} {l : List α} {p : α → Bool} {i : Nat} {x : α} (hx : l[i]? = some x) (hp : p x = true) : l.any p = true := List.any_eq_true.2 ⟨x, List.mem_of_getElem? hx, hp⟩

set_option maxRecDepth 100000 in
set_option maxHeartbeats 1000000 in
theorem clashA_any (x y : TxA) (w : World) (hA : TxA.At w x) (hB : TxA.At w y) (xr : x.rs.length ≤ 1000000) (xw : x.ws.length ≤ 1000000) (yr : y.rs.length ≤ 1000000) (yw : y.ws.length ≤ 1000000) :
    Calls Try.prog 13 #[x.v, y.v] w fun e w' => e = .returned (.bool (clashB x.rw y.rw)) ∧ Below w.heap.size w w' := by
  obtain ⟨w2, hw2, hX, hY, hb2⟩ := two_newA w x y
  have hU := usesA_any x w2 (hA.below hb2) xr xw
  have hrd := hB.rd
  have hwr := hB.wr
  have hzr := hB.zr
  have hzw := hB.zw
  rw [clash_uses]
  obtain ⟨kind, frm, dst, amt, non, key, val, rs, ws, ra, rc, wa, wc⟩ := x
  obtain ⟨kind', frm', dst', amt', non', key', val', rs', ws', ra', rc', wa', wc'⟩ := y
  show Calls _ _ _ _ fun e w' => e = .returned (.bool (ws'.any (fun y => inK ws y || inK rs y) || rs'.any (fun y => inK ws y))) ∧ _
  replace hw2 : (w.alloc (.cells #[.int .i64 kind, .string frm, .string dst, .int .u64 amt, .int .u64 non, .string key, .string val, .slice ra rs.length rc, .slice wa ws.length wc] 26)).alloc (.cells #[.int .i64 kind', .string frm', .string dst', .int .u64 amt', .int .u64 non', .string key', .string val', .slice ra' rs'.length rc', .slice wa' ws'.length wc'] 26) = w2 := hw2.symm
  replace hrd : RowAt textK w ra' rs' := hrd
  replace hwr : RowAt textK w wa' ws' := hwr
  replace hzr : ∀ s ∈ rs', s.size ≤ maxLen := hzr
  replace hzw : ∀ s ∈ ws', s.size ≤ maxLen := hzw
  replace yr : rs'.length ≤ 1000000 := yr
  replace yw : ws'.length ≤ 1000000 := yw
  have x0 := hX.cell (i := 0) rfl
  have x1 := hX.cell (i := 1) rfl
  have x2 := hX.cell (i := 2) rfl
  have x3 := hX.cell (i := 3) rfl
  have x4 := hX.cell (i := 4) rfl
  have x5 := hX.cell (i := 5) rfl
  have x6 := hX.cell (i := 6) rfl
  have x7 := hX.cell (i := 7) rfl
  have x8 := hX.cell (i := 8) rfl
  clear hA hB
  unfold TxA.v at hU ⊢
  go_enter Try.func13, Try.ntmps13
  go_wp2_with (go_at_call 22; refine hU.mono ?_; rintro _ w3 ⟨mb, mn, rfl, hM, hmb, hb3⟩; have hY3 := hY.below hb3 hY.lt; have y7 := hY3.cell (i := 7) rfl; have y8 := hY3.cell (i := 8) rfl; clear x0 x1 x2 x3 x4 x5 x6 x7 x8 hX hY hU hw2)
  replace hM : SMap w3 mb (usesF rs ws) mn := hM
  have hbw := hb2.trans (hb3.mono hb2.size)
  have hrd3 := hrd.below hbw
  have hwr3 := hwr.below hbw
  clear hb2 hb3 hrd hwr hmb
  go_loopw [15] (fun v15 wr => ∃ i : Nat, i ≤ ws'.length ∧ v15 = .int .i64 (i : Int) ∧ Hid ((ws'.take i).any (fun y => inK ws y || inK rs y) = false) ∧ wr = w3) (fun v _ => ws'.length - (intOf v).toNat)
  case atStart => exact ⟨0, Nat.zero_le _, rfl, rfl, rfl⟩
  case round =>
    obtain ⟨i, hi, rfl, hno, rfl⟩ := hrel
    by_cases hil : i < ws'.length
    · have g1 : (i : Int) < (ws'.length : Int) := by omega
      obtain ⟨y, hy⟩ : ∃ p, ws'[i]? = some p := ⟨_, List.getElem?_eq_getElem hil⟩
      obtain ⟨b, off, rfl, hbl, hcell⟩ := hwr3.txt hy
      have hid := hzw y (List.mem_of_getElem? hy)
      cases hu : (inK ws y || inK rs y) with
      | true =>
        have hres : Hid (ws'.any (fun y => inK ws y || inK rs y) = true) := any_hit hy hu
        obtain ⟨n, hn0, hun⟩ : ∃ n : Int, ((n == 0) = false) ∧ Hid (usesF rs ws y = some (.int .i64 n)) := by
          unfold Hid usesF
          by_cases h1 : inK ws y = true
          · exact ⟨2, rfl, by rw [if_pos h1]⟩
          · have h2 : inK rs y = true := by rw [Bool.not_eq_true] at h1; rw [h1] at hu; simpa using hu
            exact ⟨1, rfl, by rw [if_neg h1, if_pos h2]⟩
        clear hu
        go_wp2_with (at_lookup; refine smap_look (by rfl) _ _ 47 rfl 3 Try.underlying47 _ (zeroIntA _) mb _ _ rfl hM y hid rfl ?_; rw [hun.out]; simp only [Option.getD_some])
        go_ret
        exact ⟨by rw [hres.out]; rfl, hbw⟩
      | false =>
        have hno' : Hid ((ws'.take (i + 1)).any (fun y => inK ws y || inK rs y) = false) := take_any hy hno.out hu
        have hun : Hid (usesF rs ws y = none) := by
          unfold Hid usesF
          rw [Bool.or_eq_false_iff] at hu
          rw [hu.1, hu.2]
          rfl
        clear hu hno
        go_wp2_with (at_lookup; refine smap_look (by rfl) _ _ 47 rfl 3 Try.underlying47 _ (zeroIntA _) mb _ _ rfl hM y hid rfl ?_; rw [hun.out]; simp only [Option.getD_none])
        go_roundw
        case rel => exact ⟨i + 1, by omega, by go_num, hno', by trivial⟩
        case measure => simp [intOf]; omega
    · have g1 : ¬ (i : Int) < (ws'.length : Int) := by omega
      have hir : i = ws'.length := by omega
      have hN : Hid (ws'.any (fun y => inK ws y || inK rs y) = false) := by
        have := hno.out
        rw [hir, List.take_length] at this
        exact this
      clear hir hno hil hi
      go_wp2_with fail
      go_loopw [27] (fun v27 wz => ∃ i : Nat, i ≤ rs'.length ∧ v27 = .int .i64 (i : Int) ∧ Hid ((rs'.take i).any (fun y => inK ws y) = false) ∧ wz = wr) (fun v _ => rs'.length - (intOf v).toNat)
      case atStart => exact ⟨0, Nat.zero_le _, rfl, rfl, rfl⟩
      case round =>
        obtain ⟨i, hi, rfl, hno, rfl⟩ := hrel
        by_cases hil : i < rs'.length
        · have g1 : (i : Int) < (rs'.length : Int) := by omega
          obtain ⟨y, hy⟩ : ∃ p, rs'[i]? = some p := ⟨_, List.getElem?_eq_getElem hil⟩
          obtain ⟨b, off, rfl, hbl, hcell⟩ := hrd3.txt hy
          have hid := hzr y (List.mem_of_getElem? hy)
          cases hu : inK ws y with
          | true =>
            have hres : Hid (rs'.any (fun y => inK ws y) = true) := any_hit hy hu
            have hun : Hid (usesF rs ws y = some (.int .i64 2)) := by
              unfold Hid usesF
              rw [if_pos hu]
            clear hu
            go_wp2_with (at_lookup; refine smap_look (by rfl) _ _ 47 rfl 3 Try.underlying47 _ (zeroIntA _) mb _ _ rfl hM y hid rfl ?_; rw [hun.out]; simp only [Option.getD_some])
            go_ret
            exact ⟨by rw [hres.out, Bool.or_true]; rfl, hbw⟩
          | false =>
            have hno' : Hid ((rs'.take (i + 1)).any (fun y => inK ws y) = false) := take_any hy hno.out hu
            obtain ⟨n, hn0, hun⟩ : ∃ n : Int, ((n == 2) = false) ∧ Hid ((usesF rs ws y).getD (.int .i64 0) = .int .i64 n) := by
              unfold Hid usesF
              rw [hu]
              by_cases h2 : inK rs y = true
              · exact ⟨1, rfl, by rw [if_pos h2]; rfl⟩
              · exact ⟨0, rfl, by rw [if_neg h2]; rfl⟩
            clear hu hno
            go_wp2_with (at_lookup; refine smap_look (by rfl) _ _ 47 rfl 3 Try.underlying47 _ (zeroIntA _) mb _ _ rfl hM y hid rfl ?_; rw [hun.out])
            go_roundw
            case rel => exact ⟨i + 1, by omega, by go_num, hno', by trivial⟩
            case measure => simp [intOf]; omega
        · have g1 : ¬ (i : Int) < (rs'.length : Int) := by omega
          have hir : i = rs'.length := by omega
          have hN2 : Hid (rs'.any (fun y => inK ws y) = false) := by
            have := hno.out
            rw [hir, List.take_length] at this
            exact this
          clear hir hno hil hi
          go_wp2
          go_ret
          exact ⟨by rw [hN.out, hN2.out]; rfl, hbw⟩
end Go.Proofs.Ythegadhkhbokkaa
