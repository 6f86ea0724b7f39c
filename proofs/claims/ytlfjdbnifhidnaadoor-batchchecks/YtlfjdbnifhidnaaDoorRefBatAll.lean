/- Texts as one: RefTxSame, RefBatSame, RefTxName, RefTxCheck, RefTxRight, RefBatCheck, RefInt, RefGetInt, WireIntsWalk, RefText, RefList, RefTxNeeds, RefBatEncode. -/
import Derived.Test.YtlfjdbnifhidnaaDoorTxOwn
import Derived.Test.YtlfjdbnifhidnaaDoorBatCheck
import Derived.Deep.RegionHeld3
import Derived.Test.YtlfjdbnifhidnaaDoorTxName
import Derived.Test.YtlfjdbnifhidnaaDoorTxRight
import Derived.Test.YtlfjdbnifhidnaaDoorTxKeyMath
import Derived.Deep.QuietTactic
import Derived.BigQuiet
import Derived.Test.YtlfjdbnifhidnaaDoorTxFrame
import Derived.Test.YtlfjdbnifhidnaaDoorWireText
import Derived.Deep.RegionWith
import Derived.Test.YtlfjdbnifhidnaaDoorRefSame
import Derived.Lib.QuietBelow
import Derived.Test.YtlfjdbnifhidnaaDoorBatEncode
/- tuskref04.Same answers true at two transactions that read the same; nothing old in memory is turned. -/
namespace Go.Proofs.YtlfjdbnifhidnaaDoor
open Go.RowKit
set_option linter.unusedVariables false

set_option maxRecDepth 100000 in
set_option maxHeartbeats 1000000 in
theorem sameTx_any (d : TxD) (ra : Option Addr) (rc : Nat) (wa : Option Addr) (wc : Nat) (ra2 : Option Addr) (rc2 : Nat) (wa2 : Option Addr) (wc2 : Nat) (w : World) (h1 : TxAt w d ra wa) (h2 : TxAt w d ra2 wa2) (l1 : d.rs.length ≤ 9223372036854775807) (l2 : d.ws.length ≤ 9223372036854775807) :
    Calls Tryd.prog 24 #[txV d ra rc wa wc, txV d ra2 rc2 wa2 wc2] w fun e w' => e = .returned (.bool true) ∧ Below w.heap.size w w' := by
  obtain ⟨hX, hY, hB⟩ := two_new w 36 36 (txC d ra rc wa wc) (txC d ra2 rc2 wa2 wc2)
  have k1 := h1.below hB
  have k2 := h2.below hB
  have cR := fun w1 (g1 : StrsAt w1 ra d.rs) (g2 : StrsAt w1 ra2 d.rs) => same_any ra ra2 rc rc2 d.rs w1 g1 g2 l1
  have cW := fun w1 (g1 : StrsAt w1 wa d.ws) (g2 : StrsAt w1 wa2 d.ws) => same_any wa wa2 wc wc2 d.ws w1 g1 g2 l2
  unfold txV
  go_enter Tryd.func24, Tryd.ntmps24
  go_wp2_with fail
  refine (cR _ k1.rd k2.rd).mono ?_
  rintro e w1 ⟨rfl, hb1⟩
  have y8 := (hY.below hb1 hY.lt).cell (i := 8) rfl
  have x8 := (hX.below hb1 hX.lt).cell (i := 8) rfl
  have hB1 := hB.trans (hb1.mono hB.size)
  have j1 := k1.below hb1
  have j2 := k2.below hb1
  clear hb1 hX hY hB k1 k2 h1 h2 cR
  go_wp2_with fail
  refine (cW _ j1.wr j2.wr).mono ?_
  rintro e w2 ⟨rfl, hb2⟩
  have hB2 := hB1.trans (hb2.mono hB1.size)
  clear hb2 hB1 cW j1 j2
  go_wp2
  go_ret
  exact ⟨rfl, hB2⟩
end Go.Proofs.YtlfjdbnifhidnaaDoor

/- tuskref05.Same answers true at two batches that read the same; nothing old in memory is turned. -/
namespace Go.Proofs.YtlfjdbnifhidnaaDoor
open Go.RowKit
set_option linter.unusedVariables false

theorem dl_get {l m : List TxM} (h : dl l = dl m) {k : Nat} {x y : TxM} (hx : l[k]? = some x) (hy : m[k]? = some y) : y.d = x.d := by
  have h1 : (dl l)[k]? = some x.d := by simp [dl, hx]
  have h2 : (dl m)[k]? = some y.d := by simp [dl, hy]
  rw [h, h2] at h1
  simpa using h1

set_option maxRecDepth 100000 in
set_option maxHeartbeats 4000000 in
theorem sameB_any (a n : Int) (ao : Option Addr) (l : List TxM) (cap : Nat) (ao2 : Option Addr) (m : List TxM) (cap2 : Nat) (w : World) (hA : TxsAt w ao l) (hA2 : TxsAt w ao2 m) (hd : dl l = dl m) (hn : l.length ≤ 4611686018427387903) (hL : ∀ x ∈ l, x.d.rs.length ≤ 9223372036854775807 ∧ x.d.ws.length ≤ 9223372036854775807) :
    Calls Tryd.prog 11 #[batV a n ao l.length cap, batV a n ao2 m.length cap2] w fun e w' => e = .returned (.bool true) ∧ Below w.heap.size w w' := by
  have hlm : m.length = l.length := by rw [← dl_length m, ← hd, dl_length]
  rw [hlm]
  obtain ⟨hX, hY, hB⟩ := two_new w 24 24 (batC a n ao l.length cap) (batC a n ao2 l.length cap2)
  have x0 := hX.cell (i := 0) rfl
  have x1 := hX.cell (i := 1) rfl
  have x2 := hX.cell (i := 2) rfl
  have y0 := hY.cell (i := 0) rfl
  have y1 := hY.cell (i := 1) rfl
  have y2 := hY.cell (i := 2) rfl
  unfold batV
  go_enter Tryd.func11, Tryd.ntmps11
  go_wp2
  go_loopw [5] (fun v wr => ∃ k : Nat, k ≤ l.length ∧ v = .int .i64 (k : Int) ∧ Arr wr w.heap.size 24 (batC a n ao l.length cap) ∧ Arr wr (w.heap.size + 1) 24 (batC a n ao2 l.length cap2) ∧ Below w.heap.size w wr) (fun v _ => l.length - (intOf v).toNat)
  case atStart => exact ⟨0, Nat.zero_le _, rfl, hX, hY, hB⟩
  case round =>
    obtain ⟨k, hk, rfl, hX1, hY1, hb⟩ := hrel
    clear hX hY hB x0 x1 x2 y0 y1 y2
    have x2 := hX1.cell (i := 2) rfl
    have y2 := hY1.cell (i := 2) rfl
    by_cases hlt : k < l.length
    · obtain ⟨x, hx⟩ : ∃ x, l[k]? = some x := ⟨l[k], List.getElem?_eq_getElem hlt⟩
      obtain ⟨y, hy⟩ : ∃ y, m[k]? = some y := ⟨m[k]'(by omega), List.getElem?_eq_getElem (by omega)⟩
      obtain ⟨b, off, rfl, hbl, p0, p1, p2, p3, p4, p5, p6, p7, p8⟩ := (hA.below hb).cells hx
      obtain ⟨b2, off2, rfl, hbl2, q0, q1, q2, q3, q4, q5, q6, q7, q8⟩ := (hA2.below hb).cells hy
      have hAt := (hA k x hx).2.below hb
      have hAt2 := (hA2 k y hy).2.below hb
      have hxy := dl_get hd hx hy
      have hl1 := hL x (List.mem_of_getElem? hx)
      have hkm : k < m.length := by omega
      have cC := fun w1 (h : TxAt w1 x.d x.ra x.wa) (h2 : TxAt w1 x.d y.ra y.wa) => sameTx_any x.d x.ra x.rc x.wa x.wc y.ra y.rc y.wa y.wc w1 h h2 hl1.1 hl1.2
      have ht2 := hAt2.at_
      rw [hxy] at q0 q1 q2 q3 q4 q5 q6 q7 q8 ht2
      have ht1 := hAt.at_
      have hS : (wr.cell? ⟨b, off + k * 9, none⟩ = some (.int .i64 x.d.kind) ∧ wr.cell? ⟨b, off + k * 9 + 1, none⟩ = some (.string x.d.frm) ∧ wr.cell? ⟨b, off + k * 9 + 2, none⟩ = some (.string x.d.to) ∧ wr.cell? ⟨b, off + k * 9 + 3, none⟩ = some (.int .u64 (x.d.amt : Int)) ∧ wr.cell? ⟨b, off + k * 9 + 4, none⟩ = some (.int .u64 (x.d.non : Int)) ∧ wr.cell? ⟨b, off + k * 9 + 5, none⟩ = some (.string x.d.key) ∧ wr.cell? ⟨b, off + k * 9 + 6, none⟩ = some (.string x.d.val) ∧ wr.cell? ⟨b, off + k * 9 + 7, none⟩ = some (.slice x.ra x.d.rs.length x.rc) ∧ wr.cell? ⟨b, off + k * 9 + 8, none⟩ = some (.slice x.wa x.d.ws.length x.wc)) ∧ (wr.cell? ⟨b2, off2 + k * 9, none⟩ = some (.int .i64 x.d.kind) ∧ wr.cell? ⟨b2, off2 + k * 9 + 1, none⟩ = some (.string x.d.frm) ∧ wr.cell? ⟨b2, off2 + k * 9 + 2, none⟩ = some (.string x.d.to) ∧ wr.cell? ⟨b2, off2 + k * 9 + 3, none⟩ = some (.int .u64 (x.d.amt : Int)) ∧ wr.cell? ⟨b2, off2 + k * 9 + 4, none⟩ = some (.int .u64 (x.d.non : Int)) ∧ wr.cell? ⟨b2, off2 + k * 9 + 5, none⟩ = some (.string x.d.key) ∧ wr.cell? ⟨b2, off2 + k * 9 + 6, none⟩ = some (.string x.d.val) ∧ wr.cell? ⟨b2, off2 + k * 9 + 7, none⟩ = some (.slice y.ra x.d.rs.length y.rc) ∧ wr.cell? ⟨b2, off2 + k * 9 + 8, none⟩ = some (.slice y.wa x.d.ws.length y.wc)) ∧ wr.cell? ⟨w.heap.size, 2, none⟩ = some (.slice (some ⟨b, off, none⟩) l.length cap) ∧ wr.cell? ⟨w.heap.size + 1, 2, none⟩ = some (.slice (some ⟨b2, off2, none⟩) l.length cap2) := ⟨⟨p0, p1, p2, p3, p4, p5, p6, p7, p8⟩, ⟨q0, q1, q2, q3, q4, q5, q6, q7, q8⟩, x2, y2⟩
      have hcs : ∀ w2, Below wr.heap.size wr w2 → ((w2.cell? ⟨b, off + k * 9, none⟩ = some (.int .i64 x.d.kind) ∧ w2.cell? ⟨b, off + k * 9 + 1, none⟩ = some (.string x.d.frm) ∧ w2.cell? ⟨b, off + k * 9 + 2, none⟩ = some (.string x.d.to) ∧ w2.cell? ⟨b, off + k * 9 + 3, none⟩ = some (.int .u64 (x.d.amt : Int)) ∧ w2.cell? ⟨b, off + k * 9 + 4, none⟩ = some (.int .u64 (x.d.non : Int)) ∧ w2.cell? ⟨b, off + k * 9 + 5, none⟩ = some (.string x.d.key) ∧ w2.cell? ⟨b, off + k * 9 + 6, none⟩ = some (.string x.d.val) ∧ w2.cell? ⟨b, off + k * 9 + 7, none⟩ = some (.slice x.ra x.d.rs.length x.rc) ∧ w2.cell? ⟨b, off + k * 9 + 8, none⟩ = some (.slice x.wa x.d.ws.length x.wc)) ∧ (w2.cell? ⟨b2, off2 + k * 9, none⟩ = some (.int .i64 x.d.kind) ∧ w2.cell? ⟨b2, off2 + k * 9 + 1, none⟩ = some (.string x.d.frm) ∧ w2.cell? ⟨b2, off2 + k * 9 + 2, none⟩ = some (.string x.d.to) ∧ w2.cell? ⟨b2, off2 + k * 9 + 3, none⟩ = some (.int .u64 (x.d.amt : Int)) ∧ w2.cell? ⟨b2, off2 + k * 9 + 4, none⟩ = some (.int .u64 (x.d.non : Int)) ∧ w2.cell? ⟨b2, off2 + k * 9 + 5, none⟩ = some (.string x.d.key) ∧ w2.cell? ⟨b2, off2 + k * 9 + 6, none⟩ = some (.string x.d.val) ∧ w2.cell? ⟨b2, off2 + k * 9 + 7, none⟩ = some (.slice y.ra x.d.rs.length y.rc) ∧ w2.cell? ⟨b2, off2 + k * 9 + 8, none⟩ = some (.slice y.wa x.d.ws.length y.wc)) ∧ w2.cell? ⟨w.heap.size, 2, none⟩ = some (.slice (some ⟨b, off, none⟩) l.length cap) ∧ w2.cell? ⟨w.heap.size + 1, 2, none⟩ = some (.slice (some ⟨b2, off2, none⟩) l.length cap2)) := by
        intro w2 hb2
        have c := fun (g o : Nat) (v : Value) (h : g < wr.heap.size) (hc : wr.cell? ⟨g, o, none⟩ = some v) => (hb2.cell (p := ⟨g, o, none⟩) h).trans hc
        exact ⟨⟨c _ _ _ hbl p0, c _ _ _ hbl p1, c _ _ _ hbl p2, c _ _ _ hbl p3, c _ _ _ hbl p4, c _ _ _ hbl p5, c _ _ _ hbl p6, c _ _ _ hbl p7, c _ _ _ hbl p8⟩, ⟨c _ _ _ hbl2 q0, c _ _ _ hbl2 q1, c _ _ _ hbl2 q2, c _ _ _ hbl2 q3, c _ _ _ hbl2 q4, c _ _ _ hbl2 q5, c _ _ _ hbl2 q6, c _ _ _ hbl2 q7, c _ _ _ hbl2 q8⟩, c _ _ _ hX1.lt x2, c _ _ _ hY1.lt y2⟩
      have hbd : Below wr.heap.size wr wr.drew := below_drewN (Below.refl _ _) 1
      clear p0 p1 p2 p3 p4 p5 p6 p7 p8 q0 q1 q2 q3 q4 q5 q6 q7 q8 hAt hAt2 hx hy hl1
      go_wp2_with fail
      go_region_held3 (fun w' => (w'.cell? ⟨b, off + k * 9, none⟩ = some (.int .i64 x.d.kind) ∧ w'.cell? ⟨b, off + k * 9 + 1, none⟩ = some (.string x.d.frm) ∧ w'.cell? ⟨b, off + k * 9 + 2, none⟩ = some (.string x.d.to) ∧ w'.cell? ⟨b, off + k * 9 + 3, none⟩ = some (.int .u64 (x.d.amt : Int)) ∧ w'.cell? ⟨b, off + k * 9 + 4, none⟩ = some (.int .u64 (x.d.non : Int)) ∧ w'.cell? ⟨b, off + k * 9 + 5, none⟩ = some (.string x.d.key) ∧ w'.cell? ⟨b, off + k * 9 + 6, none⟩ = some (.string x.d.val) ∧ w'.cell? ⟨b, off + k * 9 + 7, none⟩ = some (.slice x.ra x.d.rs.length x.rc) ∧ w'.cell? ⟨b, off + k * 9 + 8, none⟩ = some (.slice x.wa x.d.ws.length x.wc)) ∧ (w'.cell? ⟨b2, off2 + k * 9, none⟩ = some (.int .i64 x.d.kind) ∧ w'.cell? ⟨b2, off2 + k * 9 + 1, none⟩ = some (.string x.d.frm) ∧ w'.cell? ⟨b2, off2 + k * 9 + 2, none⟩ = some (.string x.d.to) ∧ w'.cell? ⟨b2, off2 + k * 9 + 3, none⟩ = some (.int .u64 (x.d.amt : Int)) ∧ w'.cell? ⟨b2, off2 + k * 9 + 4, none⟩ = some (.int .u64 (x.d.non : Int)) ∧ w'.cell? ⟨b2, off2 + k * 9 + 5, none⟩ = some (.string x.d.key) ∧ w'.cell? ⟨b2, off2 + k * 9 + 6, none⟩ = some (.string x.d.val) ∧ w'.cell? ⟨b2, off2 + k * 9 + 7, none⟩ = some (.slice y.ra x.d.rs.length y.rc) ∧ w'.cell? ⟨b2, off2 + k * 9 + 8, none⟩ = some (.slice y.wa x.d.ws.length y.wc)) ∧ w'.cell? ⟨w.heap.size, 2, none⟩ = some (.slice (some ⟨b, off, none⟩) l.length cap) ∧ w'.cell? ⟨w.heap.size + 1, 2, none⟩ = some (.slice (some ⟨b2, off2, none⟩) l.length cap2)) (exact hcs _ (by assumption))
        (first
        | (go_at_call 24; refine (cC _ (ht1.below hbd) (ht2.below hbd)).mono ?_; rintro e wA ⟨rfl, hbA⟩; have hbA' := hbd.trans (Below.mono hbA hbd.size)))
      have hX2 := hX1.below hbA' hX1.lt
      have hY2 := hY1.below hbA' hY1.lt
      have hb4 := hb.trans (hbA'.mono hb.size)
      clear hcs hS hbd hbA hbA' hX1 hY1 x2 y2 ht1 ht2
      go_wp2
      go_roundw
      case rel => exact ⟨k + 1, by omega, by go_num, hX2, hY2, hb4⟩
      case measure => simp [intOf]; omega
    · go_wp2
      go_ret
      exact ⟨rfl, hb⟩
end Go.Proofs.YtlfjdbnifhidnaaDoor

/- What tuskref04.Name and Key do; memory stands. -/
namespace Go.Proofs.YtlfjdbnifhidnaaDoor
open Go.RowKit
set_option linter.unusedVariables false

set_option maxRecDepth 100000 in
set_option maxHeartbeats 1000000 in
theorem refName_any (s : ByteArray) (w : World) (hs : s.size ≤ maxLen) :
    Calls Tryd.prog 31 #[.string s] w fun e w' => e = .returned (.bool (isNm s)) ∧ w' = w := by
  unfold maxLen at hs
  go_enter Tryd.func31, Tryd.ntmps31
  go_wp2
  go_loop [3] (fun v => ∃ k : Nat, k ≤ s.size ∧ v = .int .i64 k ∧ Hid ((s.data.toList.take k).all nameByte = true)) (fun v => s.size - (intOf v).toNat)
  case atStart => exact ⟨0, by omega, rfl, by show _ = _; simp⟩
  case round =>
    obtain ⟨k, hk, rfl, hall⟩ := hrel
    by_cases hlt : k < s.size
    · obtain ⟨c, hc⟩ : ∃ c, s[k].toNat = c := ⟨_, rfl⟩
      have hY : (97 ≤ c ∧ c ≤ 122 ∨ 48 ≤ c ∧ c ≤ 57) → Hid ((s.data.toList.take (k + 1)).all nameByte = true) := by
        intro h
        show _ = _
        rw [all_take_succ s k hlt, hall.out]
        unfold nameByte
        rw [hc]
        simp only [Bool.true_and, Bool.or_eq_true, Bool.and_eq_true, decide_eq_true_eq]
        exact h
      have hN : ¬ (97 ≤ c ∧ c ≤ 122 ∨ 48 ≤ c ∧ c ≤ 57) → Hid (isNm s = false) := by
        intro h
        show _ = _
        unfold isNm
        rw [all_of_take s k hlt _ (by
          unfold nameByte
          rw [hc]
          simp only [Bool.or_eq_false_iff, Bool.and_eq_false_iff, decide_eq_false_iff_not]
          omega)]
        simp
      clear hall
      have hI : ((c : Int) < 48 ∧ (c : Int) ≤ 57 ∧ (c : Int) < 97 ∧ (c : Int) ≤ 122) ∨ ((48 : Int) ≤ c ∧ (57 : Int) < c ∧ (c : Int) < 97 ∧ (c : Int) ≤ 122) ∨ ((48 : Int) ≤ c ∧ (57 : Int) < c ∧ (97 : Int) ≤ c ∧ (122 : Int) < c) ∨
          ((48 : Int) ≤ c ∧ (c : Int) ≤ 57 ∧ (c : Int) < 97 ∧ (c : Int) ≤ 122) ∨ ((48 : Int) ≤ c ∧ (57 : Int) < c ∧ (97 : Int) ≤ c ∧ (c : Int) ≤ 122) := by omega
      rcases hI with ⟨i1, i2, i3, i4⟩ | ⟨i1, i2, i3, i4⟩ | ⟨i1, i2, i3, i4⟩ | ⟨i1, i2, i3, i4⟩ | ⟨i1, i2, i3, i4⟩
      · have H := hN (by omega)
        clear hY hN
        go_wp2
        go_ret
        exact ⟨by rw [H.out]; rfl, rfl⟩
      · have H := hN (by omega)
        clear hY hN
        go_wp2
        go_ret
        exact ⟨by rw [H.out]; rfl, rfl⟩
      · have H := hN (by omega)
        clear hY hN
        go_wp2
        go_ret
        exact ⟨by rw [H.out]; rfl, rfl⟩
      · have H := hY (by omega)
        clear hY hN
        have d57 : decide ((57 : Int) < c) = false := decide_eq_false (by omega)
        go_wp2
        go_round
        case rel => exact ⟨k + 1, by omega, by go_num, H⟩
        case measure => simp [intOf]; omega
      · have H := hY (by omega)
        clear hY hN
        have d122 : decide ((122 : Int) < c) = false := decide_eq_false (by omega)
        go_wp2
        go_round
        case rel => exact ⟨k + 1, by omega, by go_num, H⟩
        case measure => simp [intOf]; omega
    · have H : Hid (isNm s = (decide (1 ≤ s.size) && decide (s.size ≤ 32))) := by
        show _ = _
        have h1 := hall.out
        rw [List.take_of_length_le (by simp; omega)] at h1
        unfold isNm
        rw [h1]
        simp
      clear hall
      by_cases h1 : 1 ≤ s.size
      · have h1' : (1 : Int) ≤ s.size := by omega
        replace H : Hid (isNm s = decide (s.size ≤ 32)) := by show _ = _; rw [H.out, decide_eq_true h1]; rfl
        by_cases h2 : s.size ≤ 32
        · replace H : Hid (isNm s = true) := by show _ = _; rw [H.out, decide_eq_true h2]
          have h2' : (s.size : Int) ≤ 32 := by omega
          go_wp2
          go_ret
          exact ⟨by rw [H.out]; rfl, rfl⟩
        · replace H : Hid (isNm s = false) := by show _ = _; rw [H.out, decide_eq_false h2]
          have h2' : (32 : Int) < s.size := by omega
          have d2 : decide ((s.size : Int) ≤ 32) = false := decide_eq_false (by omega)
          go_wp2
          go_ret
          exact ⟨by rw [H.out]; rfl, rfl⟩
      · replace H : Hid (isNm s = false) := by show _ = _; rw [H.out, decide_eq_false h1]; rfl
        have h1' : (s.size : Int) < 1 := by omega
        go_wp2
        go_ret
        exact ⟨by rw [H.out]; rfl, rfl⟩
end Go.Proofs.YtlfjdbnifhidnaaDoor

/- What tuskref04.Key, keys and Check do; nothing old in memory is turned. -/
namespace Go.Proofs.YtlfjdbnifhidnaaDoor
open Go.RowKit
set_option linter.unusedVariables false

theorem cut_two {s : ByteArray} (h : 2 < s.size) (a b : UInt8) : cutOk s ⟨#[a, b]⟩ = ((s.extract 0 2).toList == [a, b]) := by
  unfold cutOk
  have h1 : (⟨#[a, b]⟩ : ByteArray).size = 2 := rfl
  rw [h1, decide_eq_true (by omega), ByteArray.toList_eq ⟨#[a, b]⟩]
  rfl

theorem small_key {s : ByteArray} (h : s.size ≤ 2) : isKy s = false := by
  unfold isKy
  have h1 : isNm (s.extract 2 s.size) = false := by
    cases hn : isNm (s.extract 2 s.size) with
    | false => rfl
    | true =>
      unfold isNm at hn
      simp only [Bool.and_eq_true, decide_eq_true_eq, ByteArray.size_extract] at hn
      omega
  rw [h1]
  simp

set_option maxRecDepth 100000 in
set_option maxHeartbeats 400000 in
theorem refKey_any (s : ByteArray) (w : World) (hs : s.size ≤ maxLen) :
    Calls Tryd.prog 39 #[.string s] w fun e w' => e = .returned (.bool (isKy s)) ∧ w' = w := by
  by_cases h2 : 2 < s.size
  · have h2' : (2 : Int) < s.size := by omega
    have hsz : (2 : Int) ≤ s.size := by omega
    have cn := refName_any (s.extract 2 s.size) w (by rw [ByteArray.size_extract]; omega)
    have H : Hid (isKy s = ((((s.extract 0 2).toList == [97, 58]) || ((s.extract 0 2).toList == [107, 58])) && isNm (s.extract 2 s.size))) := by
      show _ = _
      unfold isKy aP kP
      rw [cut_two h2, cut_two h2]
    generalize isNm (s.extract 2 s.size) = b at cn H
    clear hs
    by_cases ha : (s.extract 0 2).toList = [97, 58]
    · replace H : Hid (isKy s = b) := by show _ = _; rw [H.out, ha]; simp
      go_enter Tryd.func39, Tryd.ntmps39
      go_wp2_with fail
      refine cn.mono ?_
      rintro e w' ⟨rfl, rfl⟩
      go_wp2
      go_ret
      exact ⟨by rw [H.out]; rfl, rfl⟩
    · have ha' : ((s.extract 0 2).toList == [97, 58]) = false := beq_eq_false_iff_ne.2 ha
      by_cases hk : (s.extract 0 2).toList = [107, 58]
      · replace H : Hid (isKy s = b) := by show _ = _; rw [H.out, ha', hk]; simp
        go_enter Tryd.func39, Tryd.ntmps39
        go_wp2_with fail
        refine cn.mono ?_
        rintro e w' ⟨rfl, rfl⟩
        go_wp2
        go_ret
        exact ⟨by rw [H.out]; rfl, rfl⟩
      · have hk' : ((s.extract 0 2).toList == [107, 58]) = false := beq_eq_false_iff_ne.2 hk
        replace H : Hid (isKy s = false) := by show _ = _; rw [H.out, ha', hk']; simp
        go_enter Tryd.func39, Tryd.ntmps39
        go_wp2
        go_ret
        exact ⟨by rw [H.out]; rfl, rfl⟩
  · have h2' : ¬ (2 : Int) < s.size := by omega
    have H : Hid (isKy s = false) := small_key (by omega)
    go_enter Tryd.func39, Tryd.ntmps39
    go_wp2
    go_ret
    exact ⟨by rw [H.out]; rfl, rfl⟩

/-- The one ahead. -/
def prevK (ss : List ByteArray) (k : Nat) : ByteArray := if k = 0 then ⟨#[]⟩ else ss.getD (k - 1) ⟨#[]⟩

set_option maxRecDepth 100000 in
set_option maxHeartbeats 1000000 in
theorem refKeys_any (ao : Option Addr) (cap : Nat) (ss : List ByteArray) (w : World) (hc : StrsAt w ao ss) (hz : ∀ s ∈ ss, s.size ≤ maxLen) :
    Calls Tryd.prog 32 #[.slice ao ss.length cap] w fun e w' => e = .returned (.int .i64 (keysL ss : Int)) ∧ Below w.heap.size w w' := by
  by_cases h8 : 8 < ss.length
  · have H : Hid (keysL ss = 8) := by show _ = _; unfold keysL; rw [if_pos h8]
    have h8' : (8 : Int) < ss.length := by omega
    go_enter Tryd.func32, Tryd.ntmps32
    go_wp2
    go_ret
    exact ⟨by rw [H.out]; rfl, Below.refl _ _⟩
  have h8' : ¬ (8 : Int) < ss.length := by omega
  have HK : Hid (keysL ss = keysGo ⟨#[]⟩ ss) := by show _ = _; unfold keysL; rw [if_neg h8]
  go_enter Tryd.func32, Tryd.ntmps32
  go_wp2
  go_loopw [3] (fun v wr => ∃ k : Nat, k ≤ ss.length ∧ v = .int .i64 k ∧ Hid (keysL ss = keysGo (prevK ss k) (ss.drop k)) ∧ Below w.heap.size w wr) (fun v _ => ss.length - (intOf v).toNat)
  case atStart => exact ⟨0, by omega, rfl, HK, Below.refl _ _⟩
  case round =>
    obtain ⟨k, hk, rfl, hK, hb⟩ := hrel
    by_cases hlt : k < ss.length
    · obtain ⟨b, off, rfl, hbl, hcell⟩ := (hc.below hb) k hlt
      have hd : ss.drop k = ss[k] :: ss.drop (k + 1) := List.drop_eq_getElem_cons hlt
      have hK2 := hK.out
      rw [hd, keysGo] at hK2
      have cn := fun w1 => refKey_any ss[k] w1 (hz _ (List.getElem_mem hlt))
      obtain ⟨x, hx⟩ : ∃ x, x = ss[k] := ⟨_, rfl⟩
      have hpr : prevK ss (k + 1) = x := by rw [hx]; unfold prevK; rw [if_neg (by omega)]; simp [List.getD, hlt]
      rw [← hx] at hK2 cn hcell
      clear hK hd HK
      cases hky : isKy x with
      | false =>
        have H : Hid (keysL ss = 3) := by show _ = _; rw [hK2, if_pos hky]
        simp only [hky] at cn
        clear hK2 hky hx hpr hc
        go_wp2_with fail
        refine (cn _).mono ?_
        rintro e w' ⟨rfl, rfl⟩
        go_wp2
        go_ret
        exact ⟨by rw [H.out]; rfl, hb⟩
      | true =>
        have hab := ky_above hky
        simp only [hky] at cn
        rw [if_neg (by rw [hky]; simp)] at hK2
        by_cases hk0 : k = 0
        · subst hk0
          have H : Hid (keysL ss = keysGo (prevK ss (0 + 1)) (ss.drop (0 + 1))) := by
            show _ = _
            rw [hpr, hK2]
            have : prevK ss 0 = ⟨#[]⟩ := rfl
            rw [this, hab, if_neg (by simp)]
          replace hcell : wr.cell? ⟨b, off, none⟩ = some (.string x) := hcell
          clear hK2 hky hx hpr hc hab
          go_wp2_with fail
          refine (cn _).mono ?_
          rintro e w' ⟨rfl, rfl⟩
          go_wp2_with fail
          go_quiet (fail)
          have hb2 := below_drewN hb nq
          clear hb hcell
          go_wp2
          go_roundw
          case rel => exact ⟨0 + 1, by omega, by go_num, H, hb2⟩
          case measure => simp [intOf]; omega
        · obtain ⟨j, rfl⟩ : ∃ j, k = j + 1 := ⟨k - 1, by omega⟩
          obtain ⟨b', off', e', _, hcell'⟩ := (hc.below hb) j (by omega)
          simp at e'
          obtain ⟨rfl, rfl⟩ := e'
          obtain ⟨y, hy⟩ : ∃ y, y = ss[j] := ⟨_, rfl⟩
          have hpy : prevK ss (j + 1) = y := by rw [hy]; unfold prevK; rw [if_neg (by omega)]; simp [List.getD, show j < ss.length by omega]
          rw [← hy] at hcell'
          rw [hpy] at hK2
          have hj1 : (((j + 1 : Nat) : Int)) - 1 = (j : Int) := by omega
          have hdk : decide ((0 : Int) < ((j + 1 : Nat) : Int)) = true := decide_eq_true (by omega)
          cases hle : (Op.bytesLess x.toList y.toList || x.toList == y.toList) with
          | true =>
            have H : Hid (keysL ss = 9) := by show _ = _; rw [hK2, if_pos hle]
            clear hK2 hky hx hpr hc hab hy hpy
            go_wp2_with fail
            refine (cn _).mono ?_
            rintro e w' ⟨rfl, rfl⟩
            go_wp2_with fail
            go_quiet (fail)
            have hb2 := below_drewN hb nq
            clear hb hcell hcell'
            go_wp2
            go_ret
            exact ⟨by rw [H.out]; rfl, hb2⟩
          | false =>
            have H : Hid (keysL ss = keysGo (prevK ss (j + 1 + 1)) (ss.drop (j + 1 + 1))) := by show _ = _; rw [hpr, hK2, if_neg (by rw [hle]; simp)]
            clear hK2 hky hx hpr hc hab hy hpy
            go_wp2_with fail
            refine (cn _).mono ?_
            rintro e w' ⟨rfl, rfl⟩
            go_wp2_with fail
            go_quiet (fail)
            have hb2 := below_drewN hb nq
            clear hb hcell hcell'
            go_wp2
            go_roundw
            case rel => exact ⟨j + 1 + 1, by omega, by go_num, H, hb2⟩
            case measure => simp [intOf]; omega
    · have H : Hid (keysL ss = 0) := by
        show _ = _
        rw [hK.out, List.drop_of_length_le (by omega), keysGo]
      clear hK
      go_wp2
      go_ret
      exact ⟨by rw [H.out]; rfl, hb⟩
end Go.Proofs.YtlfjdbnifhidnaaDoor

/- What tuskref04.Check does; nothing old in memory is turned. -/
namespace Go.Proofs.YtlfjdbnifhidnaaDoor
open Go.RowKit
set_option linter.unusedVariables false

theorem check_three {d : TxD} (hk : d.kind = 1 ∨ d.kind = 2) (h : fieldsR d = false) : checkL d = 3 := by
  unfold checkL
  rw [if_neg (by omega), if_pos h]

theorem check_two {d : TxD} (hk : d.kind = 1 ∨ d.kind = 2) (h : fieldsR d = true) (hr : 4611686018427387903 < d.amt ∨ 4611686018427387903 < d.non) : checkL d = 2 := by
  unfold checkL
  rw [if_neg (by omega), if_neg (by rw [h]; simp), if_pos hr]

theorem check_rs {d : TxD} (hk : d.kind = 1 ∨ d.kind = 2) (h : fieldsR d = true) (h1 : d.amt ≤ 4611686018427387903) (h2 : d.non ≤ 4611686018427387903) (hz : keysL d.rs ≠ 0) : checkL d = keysL d.rs := by
  unfold checkL
  rw [if_neg (by omega), if_neg (by rw [h]; simp), if_neg (by omega), if_pos hz]

theorem check_ws {d : TxD} (hk : d.kind = 1 ∨ d.kind = 2) (h : fieldsR d = true) (h1 : d.amt ≤ 4611686018427387903) (h2 : d.non ≤ 4611686018427387903) (hz : keysL d.rs = 0) : checkL d = keysL d.ws := by
  unfold checkL
  rw [if_neg (by omega), if_neg (by rw [h]; simp), if_neg (by omega), if_neg (by rw [hz]; simp)]

set_option maxRecDepth 100000 in
set_option maxHeartbeats 4000000 in
theorem refCheck_any (d : TxD) (ra : Option Addr) (rc : Nat) (wa : Option Addr) (wc : Nat) (w : World) (hA : TxAt w d ra wa) (hs : TxSizes d) :
    Calls Tryd.prog 21 #[txV d ra rc wa wc] w fun e w' => e = .returned (.int .i64 (checkL d : Int)) ∧ Below w.heap.size w w' := by
  have hX : Arr _ _ _ (txC d ra rc wa wc) := TxBox.new w d ra rc wa wc
  have hB := belowNew w (.cells (txC d ra rc wa wc).toArray 36)
  have hA0 := hA.below hB
  have cF := fun w1 => refName_any d.frm w1 hs.frm
  have cT := fun w1 => refName_any d.to w1 hs.to
  have cK := fun w1 => refName_any d.key w1 hs.key
  have ck1 := fun w1 (h : StrsAt w1 ra d.rs) => refKeys_any ra rc d.rs w1 h hs.rs
  have ck2 := fun w1 (h : StrsAt w1 wa d.ws) => refKeys_any wa wc d.ws w1 h hs.ws
  have hR0 := hA0.rd
  have hW0 := hA0.wr
  have t3 := check_three (d := d)
  have t2 := check_two (d := d)
  have tr := check_rs (d := d)
  have tw := check_ws (d := d)
  have t5 : d.kind ≠ 1 ∧ d.kind ≠ 2 → checkL d = 5 := fun h => by unfold checkL; rw [if_pos h]
  have F : fieldsR d = (isNm d.frm && (if d.kind = 1 then isNm d.to && (d.key.toList == []) && (d.val.toList == []) else isNm d.key && decide (d.val.size ≤ 64) && (d.to.toList == []) && decide (d.amt = 0))) := rfl
  simp only [bemp] at F
  clear hA hA0 hs
  obtain ⟨kind, frm, to, amt, non, key, val, rs, ws⟩ := d
  dsimp only at cF cT cK ck1 ck2 hR0 hW0 t3 t2 tr tw t5 F
  unfold txV
  generalize hchk : checkL ⟨kind, frm, to, amt, non, key, val, rs, ws⟩ = chk at *
  clear hchk
  generalize hfld : fieldsR ⟨kind, frm, to, amt, non, key, val, rs, ws⟩ = fld at *
  clear hfld
  by_cases hk : kind ≠ 1 ∧ kind ≠ 2
  · have H : Hid (chk = 5) := t5 hk
    have hk1 : (kind != 1) = true := by simpa using hk.1
    have hk2 : (kind != 2) = true := by simpa using hk.2
    clear t3 t2 tr tw t5 F hk cF cT cK ck1 ck2 hR0 hW0 hX
    go_enter Tryd.func21, Tryd.ntmps21
    go_wp2
    go_ret
    exact ⟨by rw [H.out]; rfl, hB⟩
  clear t5
  cases n1 : isNm frm with
  | false =>
    have hkk : kind = 1 ∨ kind = 2 := by omega
    clear hk
    simp only [n1] at cF
    replace F : fld = false := by rw [F, n1]; rfl
    rcases hkk with rfl | rfl
    · have hkk : (1 : Int) = 1 ∨ (1 : Int) = 2 := Or.inl rfl
      have H : Hid (chk = 3) := t3 hkk F
      clear t3 t2 tr tw F hkk hX
      clear ck1 ck2 hR0 hW0
      go_enter Tryd.func21, Tryd.ntmps21
      go_wp2_with fail
      refine (cF _).mono ?_
      rintro e w0 ⟨rfl, hw1⟩
      subst hw1
      go_wp2
      go_ret
      exact ⟨by rw [H.out]; rfl, hB⟩
    · have hkk : (2 : Int) = 1 ∨ (2 : Int) = 2 := Or.inr rfl
      have H : Hid (chk = 3) := t3 hkk F
      clear t3 t2 tr tw F hkk hX
      clear ck1 ck2 hR0 hW0
      go_enter Tryd.func21, Tryd.ntmps21
      go_wp2_with fail
      refine (cF _).mono ?_
      rintro e w0 ⟨rfl, hw1⟩
      subst hw1
      go_wp2
      go_ret
      exact ⟨by rw [H.out]; rfl, hB⟩
  | true =>
    simp only [n1] at cF
    rw [n1, Bool.true_and] at F
    by_cases hk1 : kind = 1
    · subst hk1
      have hkk : (1 : Int) = 1 ∨ (1 : Int) = 2 := Or.inl rfl
      rw [if_pos rfl] at F
      clear hk cK
      cases n2 : isNm to with
      | false =>
        simp only [n2] at cT
        replace F : fld = false := by rw [F, n2]; rfl
        have H : Hid (chk = 3) := t3 hkk F
        clear t3 t2 tr tw F hkk hX
        clear ck1 ck2 hR0 hW0
        go_enter Tryd.func21, Tryd.ntmps21
        go_wp2_with fail
        refine (cF _).mono ?_
        rintro e w0 ⟨rfl, hw1⟩
        subst hw1
        go_wp2_with fail
        refine (cT _).mono ?_
        rintro e w1 ⟨rfl, hw1⟩
        subst hw1
        go_wp2
        go_ret
        exact ⟨by rw [H.out]; rfl, hB⟩
      | true =>
        simp only [n2] at cT
        rw [n2, Bool.true_and] at F
        by_cases hkey : key.toList = []
        · have e1 : key.toList.isEmpty = true := by rw [hkey]; rfl
          rw [e1, Bool.true_and] at F
          by_cases hval : val.toList = []
          · have e2 : val.toList.isEmpty = true := by rw [hval]; rfl
            rw [e2] at F
            by_cases ha : 4611686018427387903 < amt
            · have H : Hid (chk = 2) := t2 hkk F (Or.inl ha)
              have ha' : (4611686018427387903 : Int) < amt := by omega
              clear t3 t2 tr tw F hkk hX
              clear ck1 ck2 hR0 hW0 ha
              go_enter Tryd.func21, Tryd.ntmps21
              go_wp2_with fail
              refine (cF _).mono ?_
              rintro e w0 ⟨rfl, hw1⟩
              subst hw1
              go_wp2_with fail
              refine (cT _).mono ?_
              rintro e w1 ⟨rfl, hw1⟩
              subst hw1
              go_wp2
              go_ret
              exact ⟨by rw [H.out]; rfl, hB⟩
            have ha' : (amt : Int) ≤ 4611686018427387903 := by omega
            by_cases hn : 4611686018427387903 < non
            · have H : Hid (chk = 2) := t2 hkk F (Or.inr hn)
              have hn' : (4611686018427387903 : Int) < non := by omega
              clear t3 t2 tr tw F hkk hX
              clear ck1 ck2 hR0 hW0 hn ha
              go_enter Tryd.func21, Tryd.ntmps21
              go_wp2_with fail
              refine (cF _).mono ?_
              rintro e w0 ⟨rfl, hw1⟩
              subst hw1
              go_wp2_with fail
              refine (cT _).mono ?_
              rintro e w1 ⟨rfl, hw1⟩
              subst hw1
              go_wp2
              go_ret
              exact ⟨by rw [H.out]; rfl, hB⟩
            have hn' : (non : Int) ≤ 4611686018427387903 := by omega
            by_cases hz : keysL rs = 0
            · have H : Hid (chk = keysL ws) := tw hkk F (by omega) (by omega) hz
              simp only [hz] at ck1
              generalize keysL ws = n2 at ck2 H
              clear t3 t2 tr tw F hkk hz hn ha
              go_enter Tryd.func21, Tryd.ntmps21
              go_wp2_with fail
              refine (cF _).mono ?_
              rintro e w0 ⟨rfl, hw1⟩
              subst hw1
              go_wp2_with fail
              refine (cT _).mono ?_
              rintro e w1 ⟨rfl, hw1⟩
              subst hw1
              go_wp2_with fail
              refine (ck1 _ hR0).mono ?_
              rintro e w5 ⟨rfl, hb5⟩
              have hB5 := hB.trans (hb5.mono hB.size)
              have x8 := (hX.below hb5 hX.lt).cell (i := 8) rfl
              have hW5 := hW0.below hb5
              clear hb5 hX hW0 hR0 ck1
              go_wp2_with fail
              refine (ck2 _ hW5).mono ?_
              rintro e w6 ⟨rfl, hb6⟩
              have hB6 := hB5.trans (hb6.mono hB5.size)
              clear hb6 hB5 hW5 ck2
              go_wp2
              go_ret
              exact ⟨by rw [H.out]; rfl, hB6⟩
            · have H : Hid (chk = keysL rs) := tr hkk F (by omega) (by omega) hz
              have hz' : ((keysL rs : Int) == 0) = false := beq_eq_false_iff_ne.2 (by omega)
              generalize keysL rs = n2 at ck1 H hz'
              clear t3 t2 tr tw F hkk hz hn ha ck2
              go_enter Tryd.func21, Tryd.ntmps21
              go_wp2_with fail
              refine (cF _).mono ?_
              rintro e w0 ⟨rfl, hw1⟩
              subst hw1
              go_wp2_with fail
              refine (cT _).mono ?_
              rintro e w1 ⟨rfl, hw1⟩
              subst hw1
              go_wp2_with fail
              refine (ck1 _ hR0).mono ?_
              rintro e w5 ⟨rfl, hb5⟩
              have hB5 := hB.trans (hb5.mono hB.size)
              clear hb5 hX hW0 hR0 ck1
              go_wp2
              go_ret
              exact ⟨by rw [H.out]; rfl, hB5⟩
          · have e2 : val.toList.isEmpty = false := by simpa using hval
            rw [e2] at F
            have H : Hid (chk = 3) := t3 hkk F
            clear t3 t2 tr tw F hkk hX
            clear ck1 ck2 hR0 hW0
            go_enter Tryd.func21, Tryd.ntmps21
            go_wp2_with fail
            refine (cF _).mono ?_
            rintro e w0 ⟨rfl, hw1⟩
            subst hw1
            go_wp2_with fail
            refine (cT _).mono ?_
            rintro e w1 ⟨rfl, hw1⟩
            subst hw1
            go_wp2
            go_ret
            exact ⟨by rw [H.out]; rfl, hB⟩
        · have e1 : key.toList.isEmpty = false := by simpa using hkey
          replace F : fld = false := by rw [F, e1]; rfl
          have H : Hid (chk = 3) := t3 hkk F
          clear t3 t2 tr tw F hkk hX
          clear ck1 ck2 hR0 hW0
          go_enter Tryd.func21, Tryd.ntmps21
          go_wp2_with fail
          refine (cF _).mono ?_
          rintro e w0 ⟨rfl, hw1⟩
          subst hw1
          go_wp2_with fail
          refine (cT _).mono ?_
          rintro e w1 ⟨rfl, hw1⟩
          subst hw1
          go_wp2
          go_ret
          exact ⟨by rw [H.out]; rfl, hB⟩
    · have hk2 : kind = 2 := by omega
      subst hk2
      have hkk : (2 : Int) = 1 ∨ (2 : Int) = 2 := Or.inr rfl
      rw [if_neg (by decide)] at F
      clear hk hk1 cT
      cases n2 : isNm key with
      | false =>
        simp only [n2] at cK
        replace F : fld = false := by rw [F, n2]; rfl
        have H : Hid (chk = 3) := t3 hkk F
        clear t3 t2 tr tw F hkk hX
        clear ck1 ck2 hR0 hW0
        go_enter Tryd.func21, Tryd.ntmps21
        go_wp2_with fail
        refine (cF _).mono ?_
        rintro e w0 ⟨rfl, hw1⟩
        subst hw1
        go_wp2_with fail
        refine (cK _).mono ?_
        rintro e w1 ⟨rfl, hw1⟩
        subst hw1
        go_wp2
        go_ret
        exact ⟨by rw [H.out]; rfl, hB⟩
      | true =>
        simp only [n2] at cK
        rw [n2, Bool.true_and] at F
        by_cases hv : val.size ≤ 64
        · have hv' : (val.size : Int) ≤ 64 := by omega
          have dv : decide ((64 : Int) < val.size) = false := decide_eq_false (by omega)
          rw [decide_eq_true hv, Bool.true_and] at F
          by_cases ht : to.toList = []
          · have e1 : to.toList.isEmpty = true := by rw [ht]; rfl
            rw [e1, Bool.true_and] at F
            by_cases ham : amt = 0
            · subst ham
              replace F : fld = true := by rw [F]; rfl
              have ha : ¬ (4611686018427387903 < 0) := by omega
              by_cases hn : 4611686018427387903 < non
              · have H : Hid (chk = 2) := t2 hkk F (Or.inr hn)
                have hn' : (4611686018427387903 : Int) < non := by omega
                clear t3 t2 tr tw F hkk hX
                clear ck1 ck2 hR0 hW0 hn ha
                go_enter Tryd.func21, Tryd.ntmps21
                go_wp2_with fail
                refine (cF _).mono ?_
                rintro e w0 ⟨rfl, hw1⟩
                subst hw1
                go_wp2_with fail
                refine (cK _).mono ?_
                rintro e w1 ⟨rfl, hw1⟩
                subst hw1
                go_wp2
                go_ret
                exact ⟨by rw [H.out]; rfl, hB⟩
              have hn' : (non : Int) ≤ 4611686018427387903 := by omega
              by_cases hz : keysL rs = 0
              · have H : Hid (chk = keysL ws) := tw hkk F (by omega) (by omega) hz
                simp only [hz] at ck1
                generalize keysL ws = n2 at ck2 H
                clear t3 t2 tr tw F hkk hz hn ha
                go_enter Tryd.func21, Tryd.ntmps21
                go_wp2_with fail
                refine (cF _).mono ?_
                rintro e w0 ⟨rfl, hw1⟩
                subst hw1
                go_wp2_with fail
                refine (cK _).mono ?_
                rintro e w1 ⟨rfl, hw1⟩
                subst hw1
                go_wp2_with fail
                refine (ck1 _ hR0).mono ?_
                rintro e w5 ⟨rfl, hb5⟩
                have hB5 := hB.trans (hb5.mono hB.size)
                have x8 := (hX.below hb5 hX.lt).cell (i := 8) rfl
                have hW5 := hW0.below hb5
                clear hb5 hX hW0 hR0 ck1
                go_wp2_with fail
                refine (ck2 _ hW5).mono ?_
                rintro e w6 ⟨rfl, hb6⟩
                have hB6 := hB5.trans (hb6.mono hB5.size)
                clear hb6 hB5 hW5 ck2
                go_wp2
                go_ret
                exact ⟨by rw [H.out]; rfl, hB6⟩
              · have H : Hid (chk = keysL rs) := tr hkk F (by omega) (by omega) hz
                have hz' : ((keysL rs : Int) == 0) = false := beq_eq_false_iff_ne.2 (by omega)
                generalize keysL rs = n2 at ck1 H hz'
                clear t3 t2 tr tw F hkk hz hn ha ck2
                go_enter Tryd.func21, Tryd.ntmps21
                go_wp2_with fail
                refine (cF _).mono ?_
                rintro e w0 ⟨rfl, hw1⟩
                subst hw1
                go_wp2_with fail
                refine (cK _).mono ?_
                rintro e w1 ⟨rfl, hw1⟩
                subst hw1
                go_wp2_with fail
                refine (ck1 _ hR0).mono ?_
                rintro e w5 ⟨rfl, hb5⟩
                have hB5 := hB.trans (hb5.mono hB.size)
                clear hb5 hX hW0 hR0 ck1
                go_wp2
                go_ret
                exact ⟨by rw [H.out]; rfl, hB5⟩
            · have ha' : ((amt : Int) != 0) = true := by rw [bne_iff_ne]; omega
              rw [decide_eq_false ham] at F
              have H : Hid (chk = 3) := t3 hkk F
              clear t3 t2 tr tw F hkk hX
              clear ck1 ck2 hR0 hW0
              go_enter Tryd.func21, Tryd.ntmps21
              go_wp2_with fail
              refine (cF _).mono ?_
              rintro e w0 ⟨rfl, hw1⟩
              subst hw1
              go_wp2_with fail
              refine (cK _).mono ?_
              rintro e w1 ⟨rfl, hw1⟩
              subst hw1
              go_wp2
              go_ret
              exact ⟨by rw [H.out]; rfl, hB⟩
          · have e1 : to.toList.isEmpty = false := by simpa using ht
            replace F : fld = false := by rw [F, e1]; rfl
            have H : Hid (chk = 3) := t3 hkk F
            clear t3 t2 tr tw F hkk hX
            clear ck1 ck2 hR0 hW0
            go_enter Tryd.func21, Tryd.ntmps21
            go_wp2_with fail
            refine (cF _).mono ?_
            rintro e w0 ⟨rfl, hw1⟩
            subst hw1
            go_wp2_with fail
            refine (cK _).mono ?_
            rintro e w1 ⟨rfl, hw1⟩
            subst hw1
            go_wp2
            go_ret
            exact ⟨by rw [H.out]; rfl, hB⟩
        · have hv' : (64 : Int) < val.size := by omega
          replace F : fld = false := by rw [F, decide_eq_false hv]; rfl
          have H : Hid (chk = 3) := t3 hkk F
          clear t3 t2 tr tw F hkk hX
          clear ck1 ck2 hR0 hW0
          go_enter Tryd.func21, Tryd.ntmps21
          go_wp2_with fail
          refine (cF _).mono ?_
          rintro e w0 ⟨rfl, hw1⟩
          subst hw1
          go_wp2_with fail
          refine (cK _).mono ?_
          rintro e w1 ⟨rfl, hw1⟩
          subst hw1
          go_wp2
          go_ret
          exact ⟨by rw [H.out]; rfl, hB⟩
end Go.Proofs.YtlfjdbnifhidnaaDoor

/- What tuskref05.Check does; nothing old in memory is turned. -/
namespace Go.Proofs.YtlfjdbnifhidnaaDoor
open Go.RowKit
set_option linter.unusedVariables false

set_option maxRecDepth 100000 in
set_option maxHeartbeats 1000000 in
theorem refBatCheck_any (a n : Int) (ao : Option Addr) (l : List TxM) (cap : Nat) (w : World) (hA : TxsAt w ao l) (hS : ∀ x ∈ l, TxSizes x.d) :
    Calls Tryd.prog 8 #[batV a n ao l.length cap] w fun e w' => e = .returned (.int .i64 (checkB ⟨a, n, dl l⟩ : Int)) ∧ Below w.heap.size w w' := by
  have hX : Arr _ _ _ (batC a n ao l.length cap) := Arr.new w 24 (batC a n ao l.length cap)
  have hB := belowNew w (.cells (batC a n ao l.length cap).toArray 24)
  have x0 := hX.cell (i := 0) rfl
  have x1 := hX.cell (i := 1) rfl
  have x2 := hX.cell (i := 2) rfl
  have hdl := dl_length l
  have bad : ∀ {P : Prop}, (a < 0 ∨ 6 < a ∨ n < 1 ∨ 4611686018427387903 < n) → Hid (checkB ⟨a, n, dl l⟩ = 2) := fun h => (if_pos h : _ = _)
  unfold batV
  by_cases h0 : a < 0
  · have H := bad (P := True) (by omega)
    go_enter Tryd.func8, Tryd.ntmps8
    go_wp2
    go_ret
    exact ⟨by rw [H.out]; rfl, hB⟩
  have d0 : decide (a < 0) = false := decide_eq_false h0
  by_cases h00 : 6 < a
  · have H := bad (P := True) (by omega)
    go_enter Tryd.func8, Tryd.ntmps8
    go_wp2
    go_ret
    exact ⟨by rw [H.out]; rfl, hB⟩
  have d00 : decide (6 < a) = false := decide_eq_false h00
  by_cases h1 : n < 1
  · have H := bad (P := True) (by omega)
    go_enter Tryd.func8, Tryd.ntmps8
    go_wp2
    go_ret
    exact ⟨by rw [H.out]; rfl, hB⟩
  have d1 : decide (n < 1) = false := decide_eq_false h1
  by_cases h2 : 4611686018427387903 < n
  · have H := bad (P := True) (by omega)
    go_enter Tryd.func8, Tryd.ntmps8
    go_wp2
    go_ret
    exact ⟨by rw [H.out]; rfl, hB⟩
  have d2 : decide (4611686018427387903 < n) = false := decide_eq_false h2
  have H0 : checkB ⟨a, n, dl l⟩ = _ := if_neg (show ¬ (a < 0 ∨ 6 < a ∨ n < 1 ∨ 4611686018427387903 < n) by omega)
  clear bad
  by_cases h3 : l.length = 0
  · have H : Hid (checkB ⟨a, n, dl l⟩ = 12) := (H0.trans (if_pos (by show (dl l).length = 0; omega)) : _ = _)
    have hn : l = [] := List.eq_nil_of_length_eq_zero h3
    clear H0
    subst hn
    go_enter Tryd.func8, Tryd.ntmps8
    go_wp2
    go_ret
    exact ⟨by rw [H.out]; rfl, hB⟩
  have e3 : ((l.length : Int) == 0) = false := beq_eq_false_iff_ne.2 (by omega)
  replace H0 := H0.trans (if_neg (by show ¬ (dl l).length = 0; omega))
  by_cases h4 : 16 < l.length
  · have H : Hid (checkB ⟨a, n, dl l⟩ = 8) := (H0.trans (if_pos (by show 16 < (dl l).length; omega)) : _ = _)
    have e4 : (16 : Int) < l.length := by omega
    clear H0
    go_enter Tryd.func8, Tryd.ntmps8
    go_wp2
    go_ret
    exact ⟨by rw [H.out]; rfl, hB⟩
  have e4 : decide ((16 : Int) < l.length) = false := decide_eq_false (by omega)
  have H : Hid (checkB ⟨a, n, dl l⟩ = firstE (dl l)) := (H0.trans (if_neg (by show ¬ 16 < (dl l).length; omega)) : _ = _)
  have e5 : l.length ≤ 16 := by omega
  clear H0 h3 h4 h0 h1 h2 h00
  go_enter Tryd.func8, Tryd.ntmps8
  go_wp2
  go_loopw [3, 4] (fun v3 v4 wr => ∃ k : Nat, k ≤ l.length ∧ v3 = .int .i64 (k : Int) ∧ Hid (checkB ⟨a, n, dl l⟩ = firstE (dl (l.drop k))) ∧ Arr wr w.heap.size 24 (batC a n ao l.length cap) ∧ Below w.heap.size w wr) (fun v _ _ => l.length - (intOf v).toNat)
  case atStart => exact ⟨0, Nat.zero_le _, rfl, H, hX, hB⟩
  case round =>
    obtain ⟨k, hk, rfl, hK, hX1, hb⟩ := hrel
    clear H hB hX x0 x1 x2
    have x2 := hX1.cell (i := 2) rfl
    by_cases hlt : k < l.length
    · obtain ⟨x, hx⟩ : ∃ x, l[k]? = some x := ⟨l[k], List.getElem?_eq_getElem hlt⟩
      obtain ⟨b, off, rfl, hbl, y0, y1, y2, y3, y4, y5, y6, y7, y8⟩ := (hA.below hb).cells hx
      have hAt := (hA k x hx).2.below hb
      have hstep := hK.out.trans (firstE_drop l k x hx)
      have cC := fun w1 (h : TxAt w1 x.d x.ra x.wa) => refCheck_any x.d x.ra x.rc x.wa x.wc w1 h (hS x (List.mem_of_getElem? hx))
      clear hK hx
      go_wp2_with fail
      refine (cC _ hAt.at_).mono ?_
      rintro e w2 ⟨rfl, hb3⟩
      have hX2 := hX1.below hb3 hX1.lt
      have hb4 := hb.trans (hb3.mono hb.size)
      clear hb3 hX1 hAt cC y0 y1 y2 y3 y4 y5 y6 y7 y8 x2
      by_cases hc : checkL x.d ≠ 0
      · have H : Hid (checkB ⟨a, n, dl l⟩ = checkL x.d) := (hstep.trans (if_pos hc) : _ = _)
        have hc2 : ((checkL x.d : Int) != 0) = true := by rw [bne_iff_ne]; omega
        clear hstep
        go_wp2
        go_ret
        exact ⟨by rw [H.out]; rfl, hb4⟩
      · have H : Hid (checkB ⟨a, n, dl l⟩ = firstE (dl (l.drop (k + 1)))) := (hstep.trans (if_neg hc) : _ = _)
        have hc2 : checkL x.d = 0 := by omega
        clear hstep hc
        go_wp2
        go_roundw
        case rel => exact ⟨k + 1, by omega, by go_num, H, hX2, hb4⟩
        case measure => simp [intOf]; omega
    · have H : Hid (checkB ⟨a, n, dl l⟩ = 0) := by show _ = _; rw [hK.out, List.drop_of_length_le (by omega)]; rfl
      clear hK
      go_wp2
      go_ret
      exact ⟨by rw [H.out]; rfl, hb⟩
end Go.Proofs.YtlfjdbnifhidnaaDoor

/- What tuskref01.Int does: the same bytes of a number; nothing old in memory is turned. -/
namespace Go.Proofs.YtlfjdbnifhidnaaDoor
open Go.RowKit

theorem bcell {W w1 : World} (hb : Below W.heap.size W w1) : ∀ b o, b < W.heap.size → w1.cell? ⟨b, o, none⟩ = W.cell? ⟨b, o, none⟩ :=
  fun b o h => hb.cell (p := ⟨b, o, none⟩) h

theorem conv_byte {w : World} {b : Nat} {x : Nat} (hx : x < 256) (h : w.cell? ⟨b, 0, none⟩ = some (.int .u8 (x : Int))) :
    (convert 46 9 (.slice (some ⟨b, 0, none⟩) 1 1)).run Tryd.prog w = .ok (.string ⟨#[UInt8.ofNat x]⟩) w := by
  have := run_convert_bytes_back w 46 9 5 ⟨b, 0, none⟩ 1 [UInt8.ofNat x] Tryd.underlying46 Tryd.underlying5 Tryd.underlying9 (fun j hj => by
    have : j = 0 := by simp at hj; omega
    subst this
    have e : (UInt8.ofNat x).toNat = x := by simp; omega
    simp only [List.getElem_cons_zero, e]
    simpa [Addr.add] using h)
  exact this

set_option maxRecDepth 100000 in
set_option maxHeartbeats 1000000 in
theorem refInt_no (n : Int) (w : World) (h : n < 0 ∨ 4611686018427387903 < n) :
    Calls Tryd.prog 17 #[.int .i64 n] w fun e w' => e = .returned (.string ⟨#[]⟩) ∧ w' = w := by
  rcases h with h | h
  · go_enter Tryd.func17, Tryd.ntmps17
    go_wp2
    go_ret
    exact ⟨rfl, rfl⟩
  · have h0 : ¬ n < 0 := by omega
    go_enter Tryd.func17, Tryd.ntmps17
    go_wp2
    go_ret
    exact ⟨rfl, rfl⟩

set_option maxRecDepth 100000 in
set_option maxHeartbeats 1000000 in
theorem refInt_small (n : Nat) (w : World) (h : n < 128) :
    Calls Tryd.prog 17 #[.int .i64 n] w fun e w' => e = .returned (.string ⟨(enc n).toArray⟩) ∧ Below w.heap.size w w' := by
  have h0 : ¬ (n : Int) < 0 := by omega
  have h1 : ¬ (4611686018427387903 : Int) < n := by omega
  have h2 : (n : Int) < 128 := by omega
  have hcv : ∀ (w : World) (b : Nat), w.cell? ⟨b, 0, none⟩ = some (.int .u8 (n : Int)) → (convert 46 9 (.slice (some ⟨b, 0, none⟩) 1 1)).run Tryd.prog w = .ok (.string ⟨#[UInt8.ofNat n]⟩) w := fun w b hc => conv_byte (by omega) hc
  have HE : Hid (enc n = [UInt8.ofNat n]) := enc_small n h
  go_enter Tryd.func17, Tryd.ntmps17
  go_wp2
  go_ret
  exact ⟨by rw [HE.out]; rfl, (Below.refl _ _).alloc (Nat.le_refl _) _⟩

set_option maxRecDepth 100000 in
set_option maxHeartbeats 1000000 in
theorem refInt_big (n : Nat) (w : World) (h : 128 ≤ n) (hn : n ≤ 4611686018427387903)
    (ih : ∀ w, Calls Tryd.prog 17 #[.int .i64 ((n / 128 : Nat) : Int)] w fun e w' => e = .returned (.string ⟨(enc (n / 128)).toArray⟩) ∧ Below w.heap.size w w') :
    Calls Tryd.prog 17 #[.int .i64 n] w fun e w' => e = .returned (.string ⟨(enc n).toArray⟩) ∧ Below w.heap.size w w' := by
  have h0 : ¬ (n : Int) < 0 := by omega
  have h1 : ¬ (4611686018427387903 : Int) < n := by omega
  have h2 : ¬ (n : Int) < 128 := by omega
  obtain ⟨r, hr⟩ : ∃ r, r = n % 128 := ⟨_, rfl⟩
  obtain ⟨c, hc⟩ : ∃ c, c = 128 + r := ⟨_, rfl⟩
  obtain ⟨m, hm⟩ : ∃ m, m = n / 128 := ⟨_, rfl⟩
  have e1 : (n : Int).tmod 128 = (r : Int) := by rw [Int.tmod_eq_emod_of_nonneg (by omega)]; omega
  have e2 : IntKind.i64.wrap (128 + (r : Int)) = (c : Int) := by simp [IntKind.wrap, IntKind.bits, IntKind.signed]; omega
  have e3 : IntKind.u8.wrap (c : Int) = (c : Int) := by rw [IntKind.wrap_u8']; omega
  have e4 : IntKind.i64.wrap ((n : Int) / 128) = (m : Int) := by simp [IntKind.wrap, IntKind.bits, IntKind.signed]; omega
  have hcv : ∀ (w : World) (b : Nat), w.cell? ⟨b, 0, none⟩ = some (.int .u8 (c : Int)) → (convert 46 9 (.slice (some ⟨b, 0, none⟩) 1 1)).run Tryd.prog w = .ok (.string ⟨#[UInt8.ofNat c]⟩) w := fun w b hc => conv_byte (by omega) hc
  have HE : Hid (enc n = UInt8.ofNat c :: enc m) := by
    show _ = _
    rw [hc, hr, hm]; exact enc_big n h
  have IH : Hid (∀ w, Calls Tryd.prog 17 #[.int .i64 (m : Int)] w fun e w' => e = .returned (.string ⟨(enc m).toArray⟩) ∧ Below w.heap.size w w') := by
    rw [hm]; exact ih
  have hl := enc_length_nine m (by omega)
  clear ih hr hc hm
  generalize enc m = tl at *
  have e5 : (⟨#[UInt8.ofNat c]⟩ ++ ⟨tl.toArray⟩ : ByteArray) = ⟨(enc n).toArray⟩ := by
    rw [HE.out]; exact ByteArray.mk_append_mk [UInt8.ofNat c] tl
  go_enter Tryd.func17, Tryd.ntmps17
  go_wp2_with fail
  go_region_with (go_at_call 17; refine (IH.out _).mono ?_; rintro e w' ⟨rfl, hb⟩; have hcl := bcell hb)
  · have hbw : Below w.heap.size w w' := (((Below.refl _ w).alloc (Nat.le_refl _) _).drew).trans (hb.mono (by simp))
    clear hb hcl
    go_wp2
    go_ret
    exact ⟨rfl, hbw⟩
  · have hbw : Below w.heap.size w w' := (((Below.refl _ w).alloc (Nat.le_refl _) _).drew).trans (hb.mono (by simp))
    clear hb hcl
    go_wp2
    go_ret
    exact ⟨rfl, hbw⟩
  · have hbw : Below w.heap.size w w' := ((Below.refl _ w).drew).trans hb
    clear hb hcl
    go_wp2
    go_ret
    exact ⟨rfl, hbw.alloc hbw.size _⟩

theorem refInt_yes : ∀ (n : Nat) (w : World), n ≤ 4611686018427387903 →
    Calls Tryd.prog 17 #[.int .i64 n] w fun e w' => e = .returned (.string ⟨(enc n).toArray⟩) ∧ Below w.heap.size w w' := by
  intro n
  induction n using Nat.strongRecOn with
  | _ n ih =>
    intro w hn
    by_cases h : n < 128
    · exact refInt_small n w h
    · exact refInt_big n w (by omega) hn (fun w => ih (n / 128) (by omega) w (by omega))

theorem refInt_any (n : Int) (w : World) :
    Calls Tryd.prog 17 #[.int .i64 n] w fun e w' => e = .returned (.string ⟨(goInt n).toArray⟩) ∧ Below w.heap.size w w' := by
  by_cases h : 0 ≤ n ∧ n ≤ 4611686018427387903
  · obtain ⟨m, rfl⟩ := Int.eq_ofNat_of_zero_le h.1
    have e : goInt (m : Int) = enc m := by rw [goInt, if_pos h]; simp
    rw [e]
    exact refInt_yes m w (by omega)
  · have e : goInt n = [] := by rw [goInt, if_neg h]
    rw [e]
    refine (refInt_no n w (by omega)).mono ?_
    rintro e w' ⟨rfl, rfl⟩
    exact ⟨rfl, Below.refl _ _⟩
end Go.Proofs.YtlfjdbnifhidnaaDoor

/- What tuskref01.GetInt does: it answers as the number at the front of bytes is defined; memory stands. -/
namespace Go.Proofs.YtlfjdbnifhidnaaDoor
open Go.RowKit

def val : List UInt8 → Nat
  | [] => 0
  | c :: r => c.toNat % 128 + 128 * val r

theorem val_drop_le : ∀ (l : List UInt8) (j : Nat), val (l.drop j) ≤ val l
  | [], j => by simp
  | c :: r, 0 => by simp
  | c :: r, j + 1 => by
    have := val_drop_le r j
    simp only [List.drop_succ_cons, val]
    omega

theorem giGo_val : ∀ (k : Nat) (l : List UInt8) (acc i : Nat) (hk : k < l.length), (∀ j (hj : j < l.length), j < k → 128 ≤ l[j].toNat) → l[k].toNat < 128 → i + k ≤ 8 →
    giGo l acc i = if 4611686018427387903 < acc + val (l.take (k + 1)) * 128 ^ i then (0, 0, 2) else if l[k].toNat = 0 ∧ 1 < i + k + 1 then (0, 0, 3) else (acc + val (l.take (k + 1)) * 128 ^ i, i + k + 1, 0)
  | 0, c :: r, acc, i, hk, _, h2, _ => by
    simp only [List.getElem_cons_zero] at h2
    rw [giGo, if_neg (by omega)]
    simp [val]
  | k + 1, c :: r, acc, i, hk, h1, h2, h3 => by
    have hc : 128 ≤ c.toNat := h1 0 (by simp) (by omega)
    simp only [List.length_cons] at hk
    rw [giGo, if_pos hc, if_neg (by omega)]
    rw [giGo_val k r _ (i + 1) (by omega) (fun j hj hjk => h1 (j + 1) (by simp; omega) (by omega)) (by simpa using h2) (by omega)]
    have e : acc + c.toNat % 128 * 128 ^ i + val (r.take (k + 1)) * 128 ^ (i + 1) = acc + val ((c :: r).take (k + 1 + 1)) * 128 ^ i := by
      rw [List.take_succ_cons, val, Nat.pow_succ, Nat.add_mul, Nat.mul_comm (128 ^ i) 128, ← Nat.mul_assoc, Nat.mul_comm (val _) 128]
      omega
    rw [e]
    simp only [List.getElem_cons_succ]
    have e2 : i + 1 + k + 1 = i + (k + 1) + 1 := by omega
    rw [e2]
  | 0, [], _, _, hk, _, _, _ => by simp at hk
  | k + 1, [], _, _, hk, _, _, _ => by simp at hk

theorem giGo_high : ∀ (l : List UInt8) (acc i : Nat), (∀ c ∈ l, 128 ≤ c.toNat) → i + l.length ≤ 8 → giGo l acc i = (0, 0, 1)
  | [], _, _, _, _ => by simp [giGo]
  | c :: r, acc, i, h, h2 => by
    simp only [List.length_cons] at h2
    rw [giGo, if_pos (h c (by simp)), if_neg (by omega)]
    exact giGo_high r _ _ (fun x hx => h x (by simp [hx])) (by omega)

theorem giGo_nine : ∀ (k : Nat) (l : List UInt8) (acc i : Nat), i + k = 9 → 0 < k → k ≤ l.length → (∀ j (hj : j < l.length), j < k → 128 ≤ l[j].toNat) → giGo l acc i = (0, 0, 2)
  | 0, _, _, _, _, h, _, _ => by omega
  | k + 1, [], _, _, _, _, h, _ => by simp at h
  | k + 1, c :: r, acc, i, h1, _, h3, h4 => by
    have hc : 128 ≤ c.toNat := h4 0 (by simp) (by omega)
    rw [giGo, if_pos hc]
    by_cases h : i + 1 = 9
    · rw [if_pos h]
    · rw [if_neg h]
      exact giGo_nine k r _ _ (by omega) (by omega) (by simp at h3; omega) (fun j hj hjk => h4 (j + 1) (by simp; omega) (by omega))

theorem val_step (s : ByteArray) (k j : Nat) (hk : k < s.size) (hj : j ≤ k) : val ((s.data.toList.take (k + 1)).drop j) = s[j].toNat % 128 + 128 * val ((s.data.toList.take (k + 1)).drop (j + 1)) := by
  have h1 : j < (s.data.toList.take (k + 1)).length := by simp; omega
  rw [List.drop_eq_getElem_cons h1, val]
  simp
  rfl

theorem getElem_list (s : ByteArray) (j : Nat) (h : j < s.data.toList.length) : s.data.toList[j] = s[j]'(by simpa using h) := by
  simp
  rfl
end Go.Proofs.YtlfjdbnifhidnaaDoor

/- tusklaw01.WireInts answers true at every number and every string; nothing old in memory is turned. -/
namespace Go.Proofs.YtlfjdbnifhidnaaDoor
open Go.RowKit
end Go.Proofs.YtlfjdbnifhidnaaDoor

/- What tuskref01.Text and tuskref01.GetText do. -/
namespace Go.Proofs.YtlfjdbnifhidnaaDoor
open Go.RowKit

set_option maxRecDepth 100000 in
set_option maxHeartbeats 400000 in
theorem refText_any (s : ByteArray) (w : World) (hs : s.size ≤ 140737488351232000) :
    Calls Tryd.prog 28 #[.string s] w fun e w' => e = .returned (.string ⟨(txt s.data.toList).toArray⟩) ∧ Below w.heap.size w w' := by
  have hg := goInt_length s.size
  have e1 : ∀ l : List UInt8, l = goInt s.size → Value.string (⟨l.toArray⟩ ++ s) = Value.string ⟨(txt s.data.toList).toArray⟩ := by
    rintro l rfl
    rw [append_list, txt]
    simp
  go_enter Tryd.func28, Tryd.ntmps28
  go_wp2_with fail
  refine (refInt_any _ _).mono ?_
  rintro e w' ⟨rfl, hb⟩
  obtain ⟨l, hl⟩ : ∃ l, l = goInt s.size := ⟨_, rfl⟩
  rw [← hl] at hg ⊢
  have E := e1 l hl
  clear e1 hl
  go_wp2
  go_ret
  exact ⟨rfl, hb⟩
end Go.Proofs.YtlfjdbnifhidnaaDoor

/- What tuskref01.List and tuskref01.GetList do. -/
namespace Go.Proofs.YtlfjdbnifhidnaaDoor
open Go.RowKit

set_option maxRecDepth 100000 in
set_option maxHeartbeats 1000000 in
theorem refList_any (ao : Option Addr) (cap : Nat) (ss : List ByteArray) (w : World) (hc : StrsAt w ao ss) (hlen : (lst (bl ss)).length ≤ 140737488355328) (hn : ss.length ≤ 4611686018427387903) :
    Calls Tryd.prog 18 #[.slice ao ss.length cap] w fun e w' => e = .returned (.string ⟨(lst (bl ss)).toArray⟩) ∧ Below w.heap.size w w' := by
  have hbl : (bl ss).length = ss.length := by simp [bl]
  have HL : Hid (∀ k, k ≤ ss.length → (goInt ss.length ++ ((bl ss).take k).flatMap txt).length ≤ 140737488355328) := by
    intro k _
    have h1 := take_flat_le (bl ss) k
    have h2 : (lst (bl ss)).length = (goInt ss.length).length + ((bl ss).flatMap txt).length := by rw [lst, List.length_append, hbl]
    rw [List.length_append]
    omega
  have Hbl : Hid ((bl ss).length = ss.length) := hbl
  clear hlen hbl
  go_enter Tryd.func18, Tryd.ntmps18
  go_wp2_with fail
  refine (refInt_any _ _).mono ?_
  rintro e w1 ⟨rfl, hb1⟩
  go_wp2
  go_loopw [3, 4] (fun v i wr => ∃ k : Nat, k ≤ ss.length ∧ i = .int .i64 k ∧ v = .string ⟨(goInt ss.length ++ ((bl ss).take k).flatMap txt).toArray⟩ ∧ Below w.heap.size w wr) (fun _ i _ => ss.length - (intOf i).toNat)
  case atStart => exact ⟨0, Nat.zero_le _, rfl, by simp, hb1⟩
  case round =>
    clear hb1
    obtain ⟨k, hk, rfl, rfl, hb⟩ := hrel
    by_cases hlt : k < ss.length
    · obtain ⟨b, off, rfl, hbl, hcell⟩ := (hc.below hb) k hlt
      have hkb : k < (bl ss).length := by rw [Hbl.out]; exact hlt
      have hek : (bl ss)[k] = ss[k].data.toList := by simp [bl]
      have hlen1 := HL.out (k + 1) hlt
      have hlen0 := HL.out k hk
      rw [take_flat _ _ hkb, hek, ← List.append_assoc, List.length_append] at hlen1
      have htl : ss[k].size ≤ (txt ss[k].data.toList).length := by simp [txt]
      have hE : (⟨(goInt ss.length ++ ((bl ss).take k).flatMap txt).toArray⟩ ++ ⟨(txt ss[k].data.toList).toArray⟩ : ByteArray) = ⟨(goInt ss.length ++ ((bl ss).take (k + 1)).flatMap txt).toArray⟩ := by
        rw [ByteArray.mk_append_mk, take_flat _ _ hkb, hek, ← List.append_assoc]
      clear hek hkb
      have hl1 : (⟨(goInt ss.length ++ ((bl ss).take k).flatMap txt).toArray⟩ : ByteArray).size + (⟨(txt ss[k].data.toList).toArray⟩ : ByteArray).size ≤ 140737488355328 := by
        rw [size_mk, size_mk]; exact hlen1
      have hss : ss[k].size ≤ 140737488351232000 := by omega
      clear hlen1 hlen0 htl
      generalize (⟨(goInt ss.length ++ ((bl ss).take k).flatMap txt).toArray⟩ : ByteArray) = s0 at *
      obtain ⟨s1, hs1⟩ : ∃ s1, s1 = (⟨(goInt ss.length ++ ((bl ss).take (k + 1)).flatMap txt).toArray⟩ : ByteArray) := ⟨_, rfl⟩
      rw [← hs1] at hE
      have Hs1 : Hid (s1 = (⟨(goInt ss.length ++ ((bl ss).take (k + 1)).flatMap txt).toArray⟩ : ByteArray)) := hs1
      clear hs1
      go_wp2_with fail
      refine (refText_any _ _ hss).mono ?_
      rintro e w3 ⟨rfl, hb3⟩
      have b3 : Below w.heap.size w w3 := hb.trans (hb3.mono hb.size)
      clear hb hb3
      generalize (⟨(txt ss[k].data.toList).toArray⟩ : ByteArray) = s2 at *
      go_wp2
      go_roundw
      case rel => exact ⟨k + 1, by omega, by go_num, by rw [Hs1.out], b3⟩
      case measure => simp [intOf]; omega
    · go_wp2
      go_ret
      refine ⟨ret_str ?_, hb⟩
      have e1 : k = (bl ss).length := by rw [Hbl.out]; omega
      rw [e1, List.take_length, lst, Hbl.out]
end Go.Proofs.YtlfjdbnifhidnaaDoor

/- What tuskref04.Needs, Has, Fits and Encode do; nothing old in memory is turned. -/
namespace Go.Proofs.YtlfjdbnifhidnaaDoor
open Go.RowKit Go.Sort
set_option linter.unusedVariables false

theorem beq_of_less {x y : List UInt8} (h : Op.bytesLess x y = true) : (x == y) = false := beq_eq_false_iff_ne.2 (less_ne h)

theorem eq_of_neither {x y : List UInt8} (h1 : Op.bytesLess x y = false) (h2 : Op.bytesLess y x = false) : x = y := by
  rw [less_eq, decide_eq_false_iff_not] at h1 h2
  exact List.le_antisymm (List.not_lt.1 h2) (List.not_lt.1 h1)

set_option maxRecDepth 100000 in
set_option maxHeartbeats 1000000 in
theorem refEncode_no (d : TxD) (ra : Option Addr) (rc : Nat) (wa : Option Addr) (wc : Nat) (w : World) (hA : TxAt w d ra wa) (hs : TxSizes d) (hz : checkL d ≠ 0) :
    Calls Tryd.prog 16 #[txV d ra rc wa wc] w fun e w' => e = .returned (.tuple #[.string ⟨#[]⟩, .int .i64 (checkL d : Int)]) ∧ Below w.heap.size w w' := by
  have hB := belowNew w (.cells (txC d ra rc wa wc).toArray 36)
  have cc := refCheck_any d ra rc wa wc _ (hA.below hB) hs
  have hz' : ((checkL d : Int) != 0) = true := by rw [bne_iff_ne]; omega
  generalize checkL d = n at cc hz' ⊢
  clear hz hA
  unfold txV at cc ⊢
  go_enter Tryd.func16, Tryd.ntmps16
  go_wp2_with fail
  refine cc.mono ?_
  rintro e w1 ⟨rfl, hb1⟩
  have hB1 := hB.trans (hb1.mono hB.size)
  clear hb1 cc
  go_wp2
  go_ret2
  exact ⟨rfl, hB1⟩

theorem joins (l m : List UInt8) : (⟨l.toArray⟩ ++ ⟨m.toArray⟩ : ByteArray) = ⟨(l ++ m).toArray⟩ := ByteArray.mk_append_mk l m

set_option maxRecDepth 100000 in
set_option maxHeartbeats 4000000 in
theorem refEncode_yes (d : TxD) (ra : Option Addr) (rc : Nat) (wa : Option Addr) (wc : Nat) (w : World) (hA : TxAt w d ra wa) (hs : TxSizes d) (hz : checkL d = 0) :
    Calls Tryd.prog 16 #[txV d ra rc wa wc] w fun e w' => e = .returned (.tuple #[.string ⟨(encL d).toArray⟩, .int .i64 0]) ∧ Below w.heap.size w w' := by
  have hX : Arr _ _ _ (txC d ra rc wa wc) := TxBox.new w d ra rc wa wc
  have hB := belowNew w (.cells (txC d ra rc wa wc).toArray 36)
  have cc := refCheck_any d ra rc wa wc _ (hA.below hB) hs
  rw [hz] at cc
  obtain ⟨z1, z2, z3, z4, z5, z6⟩ := check_zero hz
  obtain ⟨y1, y2, y3, y4⟩ := fields_sizes z2
  have y5 := lst_le z5
  have y6 := lst_le z6
  have y7 := (keys_sizes z5).1
  have y8 := (keys_sizes z6).1
  have x0 := goInt_length d.kind
  have x1 := txt_le d.frm.data.toList
  have x2 := txt_le d.to.data.toList
  have x3 := goInt_length d.amt
  have x4 := goInt_length d.non
  have x5 := txt_le d.key.data.toList
  have x6 := txt_le d.val.data.toList
  have e1 : d.frm.data.toList.length = d.frm.size := by simp
  have e2 : d.to.data.toList.length = d.to.size := by simp
  have e5 : d.key.data.toList.length = d.key.size := by simp
  have e6 : d.val.data.toList.length = d.val.size := by simp
  have C0 := fun w1 => refInt_any d.kind w1
  have C1 := fun w1 => refText_any d.frm w1 (by omega)
  have C2 := fun w1 => refText_any d.to w1 (by omega)
  have C3 := fun w1 => refInt_any (d.amt : Int) w1
  have C4 := fun w1 => refInt_any (d.non : Int) w1
  have C5 := fun w1 => refText_any d.key w1 (by omega)
  have C6 := fun w1 => refText_any d.val w1 (by omega)
  have C7 := fun w1 (h : StrsAt w1 ra d.rs) => refList_any ra rc d.rs w1 h (by omega) (by omega)
  have C8 := fun w1 (h : StrsAt w1 wa d.ws) => refList_any wa wc d.ws w1 h (by omega) (by omega)
  have E : Hid (encL d = goInt d.kind ++ txt d.frm.data.toList ++ txt d.to.data.toList ++ goInt d.amt ++ goInt d.non ++ txt d.key.data.toList ++ txt d.val.data.toList ++ lst (bl d.rs) ++ lst (bl d.ws)) := (rfl : _ = _)
  obtain ⟨out, hout⟩ : ∃ out, out = (⟨(encL d).toArray⟩ : ByteArray) := ⟨_, rfl⟩
  rw [← hout]
  have Hout : Hid (out = (⟨(encL d).toArray⟩ : ByteArray)) := hout
  clear hout
  replace z3 : (d.amt : Int) ≤ 4611686018427387903 := by omega
  replace z4 : (d.non : Int) ≤ 4611686018427387903 := by omega
  generalize goInt d.kind = l0 at *
  generalize txt d.frm.data.toList = l1 at *
  generalize txt d.to.data.toList = l2 at *
  generalize goInt (d.amt : Int) = l3 at *
  generalize goInt (d.non : Int) = l4 at *
  generalize txt d.key.data.toList = l5 at *
  generalize txt d.val.data.toList = l6 at *
  generalize lst (bl d.rs) = l7 at *
  generalize lst (bl d.ws) = l8 at *
  have hlen : Hid (l0.length ≤ 9 ∧ l1.length ≤ 41 ∧ l2.length ≤ 41 ∧ l3.length ≤ 9 ∧ l4.length ≤ 9 ∧ l5.length ≤ 41 ∧ l6.length ≤ 73 ∧ l7.length ≤ 353 ∧ l8.length ≤ 353) := ⟨by omega, by omega, by omega, by omega, by omega, by omega, by omega, by omega, by omega⟩
  have hAw : ∀ w1, Below w.heap.size w w1 → TxAt w1 d ra wa := fun w1 h => hA.below h
  clear x0 x1 x2 x3 x4 x5 x6 y1 y2 y3 y4 y5 y6 y7 y8 e1 e2 e5 e6 z1 z2 z5 z6 hz hA hs
  obtain ⟨s0, h0⟩ : ∃ q, q = (⟨l0.toArray⟩ : ByteArray) := ⟨_, rfl⟩
  obtain ⟨s1, h1⟩ : ∃ q, q = (⟨l1.toArray⟩ : ByteArray) := ⟨_, rfl⟩
  obtain ⟨s2, h2⟩ : ∃ q, q = (⟨l2.toArray⟩ : ByteArray) := ⟨_, rfl⟩
  obtain ⟨s3, h3⟩ : ∃ q, q = (⟨l3.toArray⟩ : ByteArray) := ⟨_, rfl⟩
  obtain ⟨s4, h4⟩ : ∃ q, q = (⟨l4.toArray⟩ : ByteArray) := ⟨_, rfl⟩
  obtain ⟨s5, h5⟩ : ∃ q, q = (⟨l5.toArray⟩ : ByteArray) := ⟨_, rfl⟩
  obtain ⟨s6, h6⟩ : ∃ q, q = (⟨l6.toArray⟩ : ByteArray) := ⟨_, rfl⟩
  obtain ⟨s7, h7⟩ : ∃ q, q = (⟨l7.toArray⟩ : ByteArray) := ⟨_, rfl⟩
  obtain ⟨s8, h8⟩ : ∃ q, q = (⟨l8.toArray⟩ : ByteArray) := ⟨_, rfl⟩
  have HE : Hid (s0 ++ s1 ++ s2 ++ s3 ++ s4 ++ s5 ++ s6 ++ s7 ++ s8 = out) := by
    show _ = _
    rw [h0, h1, h2, h3, h4, h5, h6, h7, h8, joins, joins, joins, joins, joins, joins, joins, joins, Hout.out, E.out]
  have k0 : s0.size ≤ 9 := by rw [h0, size_mk]; exact hlen.out.1
  have k1 : s1.size ≤ 41 := by rw [h1, size_mk]; exact hlen.out.2.1
  have k2 : s2.size ≤ 41 := by rw [h2, size_mk]; exact hlen.out.2.2.1
  have k3 : s3.size ≤ 9 := by rw [h3, size_mk]; exact hlen.out.2.2.2.1
  have k4 : s4.size ≤ 9 := by rw [h4, size_mk]; exact hlen.out.2.2.2.2.1
  have k5 : s5.size ≤ 41 := by rw [h5, size_mk]; exact hlen.out.2.2.2.2.2.1
  have k6 : s6.size ≤ 73 := by rw [h6, size_mk]; exact hlen.out.2.2.2.2.2.2.1
  have k7 : s7.size ≤ 353 := by rw [h7, size_mk]; exact hlen.out.2.2.2.2.2.2.2.1
  have k8 : s8.size ≤ 353 := by rw [h8, size_mk]; exact hlen.out.2.2.2.2.2.2.2.2
  rw [← h0] at C0
  rw [← h1] at C1
  rw [← h2] at C2
  rw [← h3] at C3
  rw [← h4] at C4
  rw [← h5] at C5
  rw [← h6] at C6
  rw [← h7] at C7
  rw [← h8] at C8
  obtain ⟨t1, q1⟩ : ∃ q, s0 ++ s1 = q := ⟨_, rfl⟩
  have m1 : ¬ (9223372036854775807 < s0.size + s1.size) := by omega
  have g1 : t1.size ≤ 50 := by rw [← q1, ByteArray.size_append]; omega
  obtain ⟨t2, q2⟩ : ∃ q, t1 ++ s2 = q := ⟨_, rfl⟩
  have m2 : ¬ (9223372036854775807 < t1.size + s2.size) := by omega
  have g2 : t2.size ≤ 91 := by rw [← q2, ByteArray.size_append]; omega
  obtain ⟨t3, q3⟩ : ∃ q, t2 ++ s3 = q := ⟨_, rfl⟩
  have m3 : ¬ (9223372036854775807 < t2.size + s3.size) := by omega
  have g3 : t3.size ≤ 100 := by rw [← q3, ByteArray.size_append]; omega
  obtain ⟨t4, q4⟩ : ∃ q, t3 ++ s4 = q := ⟨_, rfl⟩
  have m4 : ¬ (9223372036854775807 < t3.size + s4.size) := by omega
  have g4 : t4.size ≤ 109 := by rw [← q4, ByteArray.size_append]; omega
  obtain ⟨t5, q5⟩ : ∃ q, t4 ++ s5 = q := ⟨_, rfl⟩
  have m5 : ¬ (9223372036854775807 < t4.size + s5.size) := by omega
  have g5 : t5.size ≤ 150 := by rw [← q5, ByteArray.size_append]; omega
  obtain ⟨t6, q6⟩ : ∃ q, t5 ++ s6 = q := ⟨_, rfl⟩
  have m6 : ¬ (9223372036854775807 < t5.size + s6.size) := by omega
  have g6 : t6.size ≤ 223 := by rw [← q6, ByteArray.size_append]; omega
  obtain ⟨t7, q7⟩ : ∃ q, t6 ++ s7 = q := ⟨_, rfl⟩
  have m7 : ¬ (9223372036854775807 < t6.size + s7.size) := by omega
  have g7 : t7.size ≤ 576 := by rw [← q7, ByteArray.size_append]; omega
  obtain ⟨t8, q8⟩ : ∃ q, t7 ++ s8 = q := ⟨_, rfl⟩
  have m8 : ¬ (9223372036854775807 < t7.size + s8.size) := by omega
  have g8 : t8.size ≤ 929 := by rw [← q8, ByteArray.size_append]; omega
  have HE2 := HE.out
  rw [q1, q2, q3, q4, q5, q6, q7, q8] at HE2
  subst HE2
  clear HE
  clear h0 h1 h2 h3 h4 h5 h6 h7 h8 hlen E Hout k0 k1 k2 k3 k4 k5 k6 k7 k8 g1 g2 g3 g4 g5 g6 g7 g8
  unfold txV at cc ⊢
  go_enter Tryd.func16, Tryd.ntmps16
  go_wp2_with fail
  refine cc.mono ?_
  rintro e w1 ⟨rfl, hb1⟩
  have hX1 := hX.below hb1 hX.lt
  have hB1 := hB.trans (hb1.mono hB.size)
  clear hb1 cc hX hB
  obtain ⟨x0, x1, x2, x3, x4, x5, x6, x7, x8⟩ := hX1.cells9
  have X0 : ∀ q os, (grow (redrawn w1 q) os).cell? ⟨w.heap.size, 0, none⟩ = some (.int .i64 d.kind) := fun q os => cell_regrown x0 q os
  have X1 : ∀ q os, (grow (redrawn w1 q) os).cell? ⟨w.heap.size, 1, none⟩ = some (.string d.frm) := fun q os => cell_regrown x1 q os
  have X2 : ∀ q os, (grow (redrawn w1 q) os).cell? ⟨w.heap.size, 2, none⟩ = some (.string d.to) := fun q os => cell_regrown x2 q os
  have X3 : ∀ q os, (grow (redrawn w1 q) os).cell? ⟨w.heap.size, 3, none⟩ = some (.int .u64 (d.amt : Int)) := fun q os => cell_regrown x3 q os
  have X4 : ∀ q os, (grow (redrawn w1 q) os).cell? ⟨w.heap.size, 4, none⟩ = some (.int .u64 (d.non : Int)) := fun q os => cell_regrown x4 q os
  have X5 : ∀ q os, (grow (redrawn w1 q) os).cell? ⟨w.heap.size, 5, none⟩ = some (.string d.key) := fun q os => cell_regrown x5 q os
  have X6 : ∀ q os, (grow (redrawn w1 q) os).cell? ⟨w.heap.size, 6, none⟩ = some (.string d.val) := fun q os => cell_regrown x6 q os
  have X7 : ∀ q os, (grow (redrawn w1 q) os).cell? ⟨w.heap.size, 7, none⟩ = some (.slice ra d.rs.length rc) := fun q os => cell_regrown x7 q os
  have X8 : ∀ q os, (grow (redrawn w1 q) os).cell? ⟨w.heap.size, 8, none⟩ = some (.slice wa d.ws.length wc) := fun q os => cell_regrown x8 q os
  have D0 : ∀ q os, Calls Tryd.prog 17 #[.int .i64 d.kind] (grow (redrawn w1 q) os) fun e w'' => e = .returned (.string s0) ∧ ∃ p : Regrown, w'' = grow (redrawn w1 p.d) p.os := fun q os => Calls.regrown_of (C0 _)
  have D1 : ∀ q os, Calls Tryd.prog 28 #[.string d.frm] (grow (redrawn w1 q) os) fun e w'' => e = .returned (.string s1) ∧ ∃ p : Regrown, w'' = grow (redrawn w1 p.d) p.os := fun q os => Calls.regrown_of (C1 _)
  have D2 : ∀ q os, Calls Tryd.prog 28 #[.string d.to] (grow (redrawn w1 q) os) fun e w'' => e = .returned (.string s2) ∧ ∃ p : Regrown, w'' = grow (redrawn w1 p.d) p.os := fun q os => Calls.regrown_of (C2 _)
  have D3 : ∀ q os, Calls Tryd.prog 17 #[.int .i64 (d.amt : Int)] (grow (redrawn w1 q) os) fun e w'' => e = .returned (.string s3) ∧ ∃ p : Regrown, w'' = grow (redrawn w1 p.d) p.os := fun q os => Calls.regrown_of (C3 _)
  have D4 : ∀ q os, Calls Tryd.prog 17 #[.int .i64 (d.non : Int)] (grow (redrawn w1 q) os) fun e w'' => e = .returned (.string s4) ∧ ∃ p : Regrown, w'' = grow (redrawn w1 p.d) p.os := fun q os => Calls.regrown_of (C4 _)
  have D5 : ∀ q os, Calls Tryd.prog 28 #[.string d.key] (grow (redrawn w1 q) os) fun e w'' => e = .returned (.string s5) ∧ ∃ p : Regrown, w'' = grow (redrawn w1 p.d) p.os := fun q os => Calls.regrown_of (C5 _)
  have D6 : ∀ q os, Calls Tryd.prog 28 #[.string d.val] (grow (redrawn w1 q) os) fun e w'' => e = .returned (.string s6) ∧ ∃ p : Regrown, w'' = grow (redrawn w1 p.d) p.os := fun q os => Calls.regrown_of (C6 _)
  have D7 : ∀ q os, Calls Tryd.prog 18 #[.slice ra d.rs.length rc] (grow (redrawn w1 q) os) fun e w'' => e = .returned (.string s7) ∧ ∃ p : Regrown, w'' = grow (redrawn w1 p.d) p.os := fun q os => Calls.regrown_of (C7 _ (hAw _ (hB1.trans ((below_regrown w1 q os).mono hB1.size))).rd)
  have D8 : ∀ q os, Calls Tryd.prog 18 #[.slice wa d.ws.length wc] (grow (redrawn w1 q) os) fun e w'' => e = .returned (.string s8) ∧ ∃ p : Regrown, w'' = grow (redrawn w1 p.d) p.os := fun q os => Calls.regrown_of (C8 _ (hAw _ (hB1.trans ((below_regrown w1 q os).mono hB1.size))).wr)
  clear C0 C1 C2 C3 C4 C5 C6 C7 C8 x0 x1 x2 x3 x4 x5 x6 x7 x8 hX1
  go_wp2_with fail
  refine wp_region_quiet_below (by kernel_rfl) (by kernel_rfl) ?_
  iterate 2 (go_big_quiet_step (fail))
  go_big_quiet_step (exact D0 _ _)
  iterate 2 (go_big_quiet_step (fail))
  go_big_quiet_step (exact D1 _ _)
  go_big_quiet_step (fail)
  iterate 2 (go_big_quiet_step (fail))
  go_big_quiet_step (exact D2 _ _)
  go_big_quiet_step (fail)
  iterate 3 (go_big_quiet_step (fail))
  go_big_quiet_step (exact D3 _ _)
  go_big_quiet_step (fail)
  iterate 3 (go_big_quiet_step (fail))
  go_big_quiet_step (exact D4 _ _)
  go_big_quiet_step (fail)
  iterate 2 (go_big_quiet_step (fail))
  go_big_quiet_step (exact D5 _ _)
  go_big_quiet_step (fail)
  iterate 2 (go_big_quiet_step (fail))
  go_big_quiet_step (exact D6 _ _)
  go_big_quiet_step (fail)
  iterate 2 (go_big_quiet_step (fail))
  go_big_quiet_step (exact D7 _ _)
  go_big_quiet_step (fail)
  iterate 2 (go_big_quiet_step (fail))
  go_big_quiet_step (exact D8 _ _)
  go_big_quiet_step (fail)
  iterate 2 (go_big_quiet_step (fail))
  refine wpQuiet_nil ?_
  rintro w2 ⟨p, rfl⟩
  have hB2 := hB1.trans ((below_regrown w1 p.d p.os).mono hB1.size)
  generalize grow (redrawn w1 p.d) p.os = w2 at hB2 ⊢
  clear D0 D1 D2 D3 D4 D5 D6 D7 D8 X0 X1 X2 X3 X4 X5 X6 X7 X8
  go_wp2
  go_ret2
  exact ⟨rfl, hB2⟩

theorem refEncode_any (d : TxD) (ra : Option Addr) (rc : Nat) (wa : Option Addr) (wc : Nat) (w : World) (hA : TxAt w d ra wa) (hs : TxSizes d) :
    Calls Tryd.prog 16 #[txV d ra rc wa wc] w fun e w' => e = .returned (.tuple #[.string (encB d), .int .i64 (checkL d : Int)]) ∧ Below w.heap.size w w' := by
  unfold encB
  by_cases hz : checkL d = 0
  · rw [if_pos hz, hz]
    exact refEncode_yes d ra rc wa wc w hA hs hz
  · rw [if_neg hz]
    exact refEncode_no d ra rc wa wc w hA hs hz
end Go.Proofs.YtlfjdbnifhidnaaDoor

/- What tuskref05.Encode does; nothing old in memory is turned. -/
namespace Go.Proofs.YtlfjdbnifhidnaaDoor
open Go.RowKit Go.Sort
set_option linter.unusedVariables false

set_option maxRecDepth 100000 in
set_option maxHeartbeats 4000000 in
theorem refBatEncode_any (a n : Int) (ao : Option Addr) (l : List TxM) (cap : Nat) (w : World) (hA : TxsAt w ao l) (hS : ∀ x ∈ l, TxSizes x.d) :
    Calls Tryd.prog 6 #[batV a n ao l.length cap] w fun e w' => e = .returned (.tuple #[.string (encBB ⟨a, n, dl l⟩), .int .i64 (checkB ⟨a, n, dl l⟩ : Int)]) ∧ Below w.heap.size w w' := by
  have hX : Arr _ _ _ (batC a n ao l.length cap) := Arr.new w 24 (batC a n ao l.length cap)
  have hB := belowNew w (.cells (batC a n ao l.length cap).toArray 24)
  have cC := fun w1 (h : TxsAt w1 ao l) => refBatCheck_any a n ao l cap w1 h hS
  have hA0 := hA.below hB
  unfold batV at cC ⊢
  by_cases hz : checkB ⟨a, n, dl l⟩ ≠ 0
  · have H : Hid (encBB ⟨a, n, dl l⟩ = ⟨#[]⟩) := (if_neg hz : _ = _)
    generalize checkB ⟨a, n, dl l⟩ = er at cC hz ⊢
    have hz2 : ((er : Int) != 0) = true := by rw [bne_iff_ne]; omega
    go_enter Tryd.func6, Tryd.ntmps6
    go_wp2_with fail
    refine (cC _ hA0).mono ?_
    rintro e w1 ⟨rfl, hb1⟩
    have hB1 := hB.trans (hb1.mono hB.size)
    clear hb1 hX hB hA0 cC
    go_wp2
    go_ret2
    exact ⟨by rw [H.out]; rfl, hB1⟩
  · have hz' : checkB ⟨a, n, dl l⟩ = 0 := by omega
    obtain ⟨z1, z2, z3, z4, z5, z6, z7⟩ := checkB_zero hz'
    have hlen := encBat_len hz'
    simp only [dl_length] at z5 z6
    have H : Hid (encBB ⟨a, n, dl l⟩ = ⟨(encBat ⟨a, n, dl l⟩).toArray⟩) := (if_pos hz' : _ = _)
    rw [hz'] at cC ⊢
    have hright : ∀ x ∈ l, checkL x.d = 0 := fun x hx => z7 x.d (List.mem_map.2 ⟨x, hx, rfl⟩)
    obtain ⟨i0, hi, hz0, hz1, hz2⟩ := info_parts infoString
    clear z7
    go_enter Tryd.func6, Tryd.ntmps6
    go_wp2_with fail
    refine (cC _ hA0).mono ?_
    rintro e w1 ⟨rfl, hb1⟩
    have hB1 := hB.trans (hb1.mono hB.size)
    have hX1 := hX.below hb1 hX.lt
    clear hb1 hX hB hA0 cC
    have x2 := hX1.cell (i := 2) rfl
    go_wp2
    go_loopw [5, 6, 7, 8] (fun v5 v6 v7 v8 wr => ∃ k : Nat, k ≤ l.length ∧ v6 = .int .i64 (k : Int) ∧ wr.ownsRow (w.heap.size + 1) 9 1 v5 k ((bl (memB (l.take k))).map strVal) ∧ Arr wr w.heap.size 24 (batC a n ao l.length cap) ∧ Below w.heap.size w wr) (fun _ v _ _ _ => l.length - (intOf v).toNat)
    case atStart => exact ⟨0, Nat.zero_le _, rfl, World.ownsRow_nil _ _ _ _, hX1, hB1⟩
    case round =>
      obtain ⟨k, hk, rfl, hown, hX2, hb⟩ := hrel
      clear hX1 hB1 x2
      by_cases hlt : k < l.length
      · obtain ⟨x, hx⟩ : ∃ x, l[k]? = some x := ⟨l[k], List.getElem?_eq_getElem hlt⟩
        obtain ⟨b, off, rfl, hbl, y0, y1, y2, y3, y4, y5, y6, y7, y8⟩ := (hA.below hb).cells hx
        have hAt := (hA k x hx).2.below hb
        have cE := fun w1 (h : TxAt w1 x.d x.ra x.wa) => refEncode_yes x.d x.ra x.rc x.wa x.wc w1 h (hS x (List.mem_of_getElem? hx)) (hright x (List.mem_of_getElem? hx))
        have hms := memB_succ l k x hx
        clear hx
        have x2 := hX2.cell (i := 2) rfl
        obtain ⟨bb, hbb⟩ : ∃ q, q = (⟨(encL x.d).toArray⟩ : ByteArray) := ⟨_, rfl⟩
        rw [← hbb] at cE hms
        clear hbb
        go_wp2_with fail
        refine (cE _ hAt.at_).mono ?_
        rintro e w2 ⟨rfl, hb3⟩
        have hb4 := hb.trans (hb3.mono hb.size)
        have hX4 := hX2.below hb3 hX2.lt
        have hown4 := own_below' hown hb3
        clear hb3 hAt cE y0 y1 y2 y3 y4 y5 y6 y7 y8 hX2 hb hown x2
        obtain ⟨ao5, c5, rfl, hn5⟩ := own_form' hown4
        have hsz4 : w.heap.size + 1 ≤ w2.heap.size := hX4.lt
        go_wp2_with (at_builtin; refine wpList_append_own _ rfl _ _ 34 rfl (w.heap.size + 1) 9 i0 (.string ⟨#[]⟩) 1 16 Tryd.underlying34 hi hz0 hz1 hz2 rfl (by decide) _ _ _ rfl (hown4.alloc _) ⟨w2.heap.size, 0, none⟩ 1 1 [.string bb] rfl rfl ?c1 ?c2 ?c3 ?c4 ?c5 ?_)
        case c1 =>
          intro i u hj
          match i, hj with
          | 0, hj => simp at hj; subst hj; simp [Addr.add]
        case c2 => intro u hu; simp at hu; subst hu; rfl
        case c3 => unfold maxLen; omega
        case c4 => omega
        case c5 => simp; omega
        · intro v' w3 hown' hgrow _
          have hb5 : Below w.heap.size w w3 := (hb4.alloc hb4.size _).grown hgrow (by simp; omega) (fun q hq => Nat.le_trans (Nat.le_succ _) (hown4.lt q hq).1)
          have hX5 : Arr w3 w.heap.size 24 (batC a n (some ⟨b, off, none⟩) l.length cap) := (hX4.alloc _).kept (Kept.of_grown hgrow) (fun e => by have := (hown4.lt _ e).1; omega)
          have hown2 : w3.ownsRow (w.heap.size + 1) 9 1 v' (k + 1) ((bl (memB (l.take (k + 1)))).map strVal) := by
            rw [hms]
            simpa [bl, strVal] using hown'
          clear hown' hgrow hown4 hb4 hX4
          go_wp2
          go_roundw
          case rel => exact ⟨k + 1, by omega, by go_num, hown2, hX5, hb5⟩
          case measure => simp [intOf]; omega
      · obtain rfl : k = l.length := by omega
        rw [List.take_length] at hown
        obtain ⟨ao5, c5, rfl, hn5⟩ := own_form' hown
        have hstr : StrsAt wr ao5 (memB l) := (own_far hown (memB_length l).symm).at
        have hlst : Hid ((lst (bl (memB l))).length ≤ 33000) := by
          show _ ≤ _
          rw [bl_memB]
          have := hlen
          unfold encBat at this
          simp only [List.length_append] at this
          omega
        have E : Hid (encBat ⟨a, n, dl l⟩ = goInt a ++ goInt n ++ lst (bl (memB l))) := by show _ = _; rw [bl_memB]; rfl
        have x0 := hX2.cell (i := 0) rfl
        have x1 := hX2.cell (i := 1) rfl
        have x2 := hX2.cell (i := 2) rfl
        obtain ⟨ba, hba⟩ : ∃ q, Hid (q = (⟨(goInt a).toArray⟩ : ByteArray)) := ⟨_, rfl⟩
        obtain ⟨bn, hbn⟩ : ∃ q, Hid (q = (⟨(goInt n).toArray⟩ : ByteArray)) := ⟨_, rfl⟩
        obtain ⟨bm, hbm⟩ : ∃ q, Hid (q = (⟨(lst (bl (memB l))).toArray⟩ : ByteArray)) := ⟨_, rfl⟩
        have k1 : ∀ d os, Calls Tryd.prog 17 #[.int .i64 a] (grow (redrawn wr d) os) fun e w'' => e = .returned (.string ba) ∧ ∃ p : Regrown, w'' = grow (redrawn wr p.d) p.os := fun d os => Calls.regrown_of (by rw [hba.out]; exact refInt_any a _)
        have k2 : ∀ d os, Calls Tryd.prog 17 #[.int .i64 n] (grow (redrawn wr d) os) fun e w'' => e = .returned (.string bn) ∧ ∃ p : Regrown, w'' = grow (redrawn wr p.d) p.os := fun d os => Calls.regrown_of (by rw [hbn.out]; exact refInt_any n _)
        have k3 : ∀ d os, Calls Tryd.prog 18 #[.slice ao5 l.length c5] (grow (redrawn wr d) os) fun e w'' => e = .returned (.string bm) ∧ ∃ p : Regrown, w'' = grow (redrawn wr p.d) p.os := fun d os => Calls.regrown_of (by
          have h := refList_any ao5 c5 (memB l) (grow (redrawn wr d) os) (hstr.below (below_regrown wr d os)) (by have := hlst.out; omega) (by rw [memB_length]; omega)
          rw [memB_length, ← hbm.out] at h
          exact h)
        have sa : ba.size ≤ 9 := by rw [hba.out, size_mk]; exact goInt_length a
        have sn : bn.size ≤ 9 := by rw [hbn.out, size_mk]; exact goInt_length n
        have sm : bm.size ≤ 33000 := by rw [hbm.out, size_mk]; exact hlst.out
        have C0 := cell_regrown x0
        have C1 := cell_regrown x1
        have hbs : Hid (ba ++ bn ++ bm = encBB ⟨a, n, dl l⟩) := by
          show _ = _
          rw [H.out, E.out, hba.out, hbn.out, hbm.out]
          apply ByteArray.ext
          simp
        clear x0 x1 E hlst hstr hown
        go_wp2_with fail
        refine wp_region_quiet_below (by kernel_rfl) (by kernel_rfl) ?_
        iterate 2 (go_big_quiet_step (fail))
        go_big_quiet_step (exact k1 _ _)
        iterate 2 (go_big_quiet_step (fail))
        go_big_quiet_step (exact k2 _ _)
        iterate 2 (go_big_quiet_step (fail))
        go_big_quiet_step (exact k3 _ _)
        iterate 3 (go_big_quiet_step (fail))
        refine wpQuiet_nil ?_
        rintro w' ⟨p, rfl⟩
        have hb' := below_regrown wr p.d p.os
        have hBz := hb.trans (hb'.mono hb.size)
        generalize grow (redrawn wr p.d) p.os = w7 at hBz ⊢
        clear k1 k2 k3 C0 C1
        go_wp2
        go_ret2
        exact ⟨by rw [← hbs.out]; rfl, hBz⟩
end Go.Proofs.YtlfjdbnifhidnaaDoor
