/- Texts as one: BatOwn, BatOwnN, HdrSets, KindsStep, HdrOwn, KindsCopy. -/
import Derived.Test.YtaoiejgbbmjpkaaGreatDoorCk17
import Derived.Test.YtaoiejgbbmjpkaaGreatDoorCk08
import Derived.Test.YtaoiejgbbmjpkaaGreatDoorCk03
/- What tusklaw04.Own and tusklaw05.Own do: what is handed back reads the same, in new memory. -/
namespace Go.Proofs.YtaoiejgbbmjpkaaGreatDoor
open Go.RowKit
set_option linter.unusedVariables false

/-- A transaction is handed back, its lists in new memory. -/
def GotTxO (W : World) (d : TxD) (e : Ending) (w : World) : Prop :=
  ∃ ra rc wa wc, e = .returned (txV d ra rc wa wc) ∧ OwnStrs W.heap.size w ra d.rs ∧ OwnStrs W.heap.size w wa d.ws ∧ (ra = none → rc = 0) ∧ (wa = none → wc = 0) ∧ Below W.heap.size W w

set_option maxRecDepth 100000 in
set_option maxHeartbeats 1000000 in
theorem own_new (d : TxD) (ra : Option Addr) (rc : Nat) (wa : Option Addr) (wc : Nat) (w : World) (hA : TxAt w d ra wa) (hr : ra = none → rc = 0) (hw : wa = none → wc = 0) (lr : d.rs.length * 16 ≤ 140737488351232) (lw : d.ws.length * 16 ≤ 140737488351232) :
    Calls Tryz.prog 42 #[txV d ra rc wa wc] w fun e w' => GotTxO w d e w' := by
  obtain ⟨hX, hZ, hB⟩ := two_new w 86 86 (txC d ra rc wa wc) zeroC
  have hown0 := own_made ((w.alloc (.cells (txC d ra rc wa wc).toArray 86)).alloc (.cells zeroC.toArray 86)) (w.heap.size + 1 + 1) (by rw [alloc_size, alloc_size])
  have hB0 := hB.alloc hB.size (.cells #[] 9)
  have hXa := hX.alloc (.cells #[] 9)
  have hZa := hZ.alloc (.cells #[] 9)
  have hR0 := hA.rd.below hB0
  have hW := hA.wr
  have hs0 : w.heap.size + 1 + 1 ≤ (((w.alloc (.cells (txC d ra rc wa wc).toArray 86)).alloc (.cells zeroC.toArray 86)).alloc (.cells #[] 9)).heap.size := by rw [alloc_size, alloc_size, alloc_size]; omega
  clear hX hZ hB hA
  obtain ⟨kind, frm, to, amt, non, key, val, rs, ws⟩ := d
  replace lr : rs.length * 16 ≤ 140737488351232 := lr
  replace lw : ws.length * 16 ≤ 140737488351232 := lw
  unfold txV
  go_enter Tryz.func42, Tryz.ntmps42
  go_wp2_with (at_builtin; refine wpList_append_strs rfl _ _ rfl (w.heap.size + 1 + 1) _ rfl hown0 ra rc rs rfl hR0 hr (by omega) hs0 ?_)
  intro a1 c1 w1 hS1 hn1 hb1
  have hX1 := hXa.below hb1 (by omega)
  have hZ1 := hZa.below hb1 (by omega)
  have hB1 := hB0.trans (hb1.mono (by omega))
  have hsz1 : w.heap.size + 1 + 1 ≤ w1.heap.size := Nat.le_trans hs0 hb1.size
  clear hb1 hXa hZa hB0 hown0 hs0 hR0
  have hX2 := hX1.set 7 (.slice a1 rs.length c1)
  have hZ2 := hZ1.other (p := ⟨w.heap.size, 7, none⟩) (by show w.heap.size + 1 ≠ w.heap.size; omega) (.slice a1 rs.length c1)
  have hB2 := hB1.setCell (p := ⟨w.heap.size, 7, none⟩) (Nat.le_refl _) (.slice a1 rs.length c1)
  have z7 := hX1.frozen 7
  have k7 := hX1.cell (i := 7) rfl
  have k8 := hX1.cell (i := 8) rfl
  have hs2 : (w1.setCell ⟨w.heap.size, 7, none⟩ (.slice a1 rs.length c1)).heap.size = w1.heap.size := setCell_size _ _ _
  have hown1 := own_made (w1.setCell ⟨w.heap.size, 7, none⟩ (.slice a1 rs.length c1)) w1.heap.size hs2
  have hS2 := hS1.put (p := ⟨w.heap.size, 7, none⟩) (by show w.heap.size < _; omega) (.slice a1 rs.length c1)
  have hB3 := hB2.alloc (by rw [hs2]; omega) (.cells #[] 9)
  have hX3 := hX2.alloc (.cells #[] 9)
  have hZ3 := hZ2.alloc (.cells #[] 9)
  have hW3 := hW.below hB3
  have hS3 := hS2.below (belowNew _ (.cells #[] 9))
  have k8 := hX3.cell (i := 8) rfl
  have hs3 : w1.heap.size ≤ ((w1.setCell ⟨w.heap.size, 7, none⟩ (.slice a1 rs.length c1)).alloc (.cells #[] 9)).heap.size := by rw [alloc_size, hs2]; omega
  go_wp2_with (at_builtin; refine wpList_append_strs rfl _ _ rfl w1.heap.size _ rfl hown1 wa wc ws rfl hW3 hw (by omega) hs3 ?_)
  intro a2 c2 w2 hT2 hn2 hb2
  have hX4 := hX3.below hb2 (by omega)
  have hZ4 := hZ3.below hb2 (by omega)
  have hB4 := hB3.trans (hb2.mono (by omega))
  have hS4 : OwnStrs (w.heap.size + 1 + 1) w2 a1 rs := by
    intro j hj
    obtain ⟨b, off, h1, h2, h3, h4⟩ := hS1 j hj
    obtain ⟨b', off', h1', h2', h3', h4'⟩ := hS3 j hj
    rw [h1] at h1'
    simp at h1'
    obtain ⟨rfl, rfl⟩ := h1'
    exact ⟨b, off, h1, h2, Nat.lt_of_lt_of_le h3' hb2.size, by rw [hb2.cell (p := ⟨b, off + j, none⟩) h3]; exact h4'⟩
  have hsz2 : w.heap.size + 1 + 1 ≤ w2.heap.size := Nat.le_trans (Nat.le_trans hsz1 hs3) hb2.size
  clear hb2 hX3 hZ3 hB3 hW3 hS3 k8 hs3 hS2 hown1 hs2 k7 z7 hX2 hZ2 hB2 hX1 hZ1 hB1 hS1 hW
  have z8 := hX4.frozen 8
  have k8 := hX4.cell (i := 8) rfl
  have hX5 := hX4.set 8 (.slice a2 ws.length c2)
  have hZ5 := hZ4.other (p := ⟨w.heap.size, 8, none⟩) (by show w.heap.size + 1 ≠ w.heap.size; omega) (.slice a2 ws.length c2)
  have hB5 := hB4.setCell (p := ⟨w.heap.size, 8, none⟩) (Nat.le_refl _) (.slice a2 ws.length c2)
  have hS5 := hS4.put (p := ⟨w.heap.size, 8, none⟩) (by show w.heap.size < _; omega) (.slice a2 ws.length c2)
  have hT5 := hT2.put (p := ⟨w.heap.size, 8, none⟩) (by show w.heap.size < _; omega) (.slice a2 ws.length c2)
  replace hX5 : Arr (w2.setCell ⟨w.heap.size, 8, none⟩ (.slice a2 ws.length c2)) w.heap.size 86 (txC ⟨kind, frm, to, amt, non, key, val, rs, ws⟩ a1 c1 a2 c2) := hX5
  clear hX4 hZ4 hB4 hS4 hT2
  obtain ⟨w3, hw3⟩ : ∃ w3, Hid (w3 = w2.setCell ⟨w.heap.size, 8, none⟩ (.slice a2 ws.length c2)) := ⟨_, rfl⟩
  rw [← hw3.out] at hX5 hZ5 hB5 hS5 hT5
  have hw3' : w2.setCell ⟨w.heap.size, 8, none⟩ (.slice a2 ws.length c2) = w3 := hw3.out.symm
  have x0 := hX5.cell (i := 0) rfl
  have x1 := hX5.cell (i := 1) rfl
  have x2 := hX5.cell (i := 2) rfl
  have x3 := hX5.cell (i := 3) rfl
  have x4 := hX5.cell (i := 4) rfl
  have x5 := hX5.cell (i := 5) rfl
  have x6 := hX5.cell (i := 6) rfl
  have x7 := hX5.cell (i := 7) rfl
  have x8 := hX5.cell (i := 8) rfl
  have f0 := hZ5.frozen 0
  have f1 := hZ5.frozen 1
  have f2 := hZ5.frozen 2
  have f3 := hZ5.frozen 3
  have f4 := hZ5.frozen 4
  have f5 := hZ5.frozen 5
  have f6 := hZ5.frozen 6
  have f7 := hZ5.frozen 7
  have f8 := hZ5.frozen 8
  have y0 := hZ5.cell (i := 0) rfl
  have y1 := hZ5.cell (i := 1) rfl
  have y2 := hZ5.cell (i := 2) rfl
  have y3 := hZ5.cell (i := 3) rfl
  have y4 := hZ5.cell (i := 4) rfl
  have y5 := hZ5.cell (i := 5) rfl
  have y6 := hZ5.cell (i := 6) rfl
  have y7 := hZ5.cell (i := 7) rfl
  have y8 := hZ5.cell (i := 8) rfl

  go_wp2
  have hF := hZ5.set9 (.int .i64 kind) (.string frm) (.string to) (.int .u64 (amt : Int)) (.int .u64 (non : Int)) (.string key) (.string val) (.slice a1 rs.length c1) (.slice a2 ws.length c2)
  have hBF := below_set9 hB5 (g := w.heap.size + 1) (by omega) (.int .i64 kind) (.string frm) (.string to) (.int .u64 (amt : Int)) (.int .u64 (non : Int)) (.string key) (.string val) (.slice a1 rs.length c1) (.slice a2 ws.length c2)
  have hSF := hS5.set9 (g := w.heap.size + 1) (by omega) (.int .i64 kind) (.string frm) (.string to) (.int .u64 (amt : Int)) (.int .u64 (non : Int)) (.string key) (.string val) (.slice a1 rs.length c1) (.slice a2 ws.length c2)
  have hTF := hT5.set9 (g := w.heap.size + 1) (by omega) (.int .i64 kind) (.string frm) (.string to) (.int .u64 (amt : Int)) (.int .u64 (non : Int)) (.string key) (.string val) (.slice a1 rs.length c1) (.slice a2 ws.length c2)
  unfold set9 at hF hBF hSF hTF
  refine bodyPost_ret (v := txV ⟨kind, frm, to, amt, non, key, val, rs, ws⟩ a1 c1 a2 c2) ?r1 ?r2 ?r3
  case r1 => exact results_tx rfl _ _ (w.heap.size + 1) 86 ⟨kind, frm, to, amt, non, key, val, rs, ws⟩ _ _ _ _ rfl hF
  case r2 => rfl
  refine ⟨a1, c1, a2, c2, rfl, ?_, ?_, hn1, hn2, ?_⟩
  · refine OwnStrs.mono (b2 := w.heap.size + 1 + 1) ?_ (by omega)
    with_reducible exact hSF
  · refine OwnStrs.mono (b2 := w1.heap.size) ?_ (by omega)
    with_reducible exact hTF
  · with_reducible exact hBF

theorem results_bat {fn : Func} {p : Tmp} (h : fn.results = #[.cell p 26]) (tmps : Array Value) (w : World) (g : Nat) (a n : Int) (ao : Option Addr) (len cap : Nat)
    (hp : tmps.getD p undef = .pointer (some ⟨g, 0, none⟩)) (hg : Arr w g 26 (batC a n ao len cap)) :
    (results fn tmps).run Tryz.prog w = .ok (batV a n ao len cap) w :=
  results_cell_row h tmps w g 26 (batC a n ao len cap).toArray (0, 0) _ hp hg Tryz.underlying26 rfl infoBat

/-- A batch is handed back, in new memory. -/
def GotOwn (W : World) (a n : Int) (l : List TxM) (e : Ending) (w : World) : Prop :=
  ∃ ao cap m, e = .returned (batV a n ao (m : List TxM).length cap) ∧ dl m = dl l ∧ TxsAt w ao m ∧ (ao = none → cap = 0) ∧ Below W.heap.size W w

set_option maxRecDepth 100000 in
set_option maxHeartbeats 4000000 in
theorem own05_any (a n : Int) (ao : Option Addr) (l : List TxM) (cap : Nat) (w : World) (hA : TxsAt w ao l) (hL : ∀ x ∈ l, TxLens x.d) (hn : l.length ≤ 100) :
    Calls Tryz.prog 19 #[batV a n ao l.length cap] w fun e w' => GotOwn w a n l e w' := by
  obtain ⟨hX, hZ, hB⟩ := two_new w 26 26 [.int .i64 a, .int .i64 n, .slice ao l.length cap] [.int .i64 0, .int .i64 0, .slice none 0 0]
  obtain ⟨i0, hi, hz0, hz1, hz2⟩ := info_parts infoTx4
  unfold batV
  go_enter Tryz.func19, Tryz.ntmps19
  go_wp2
  go_loopw [3, 4] (fun v3 v4 wr => ∃ (k : Nat) (m : List TxM), k ≤ l.length ∧ m.length = k ∧ v4 = .int .i64 (k : Int) ∧ Hid (dl m = dl (l.take k)) ∧ TxQ wr (w.heap.size + 1 + 1) v3 m ∧ (∀ x ∈ m, x.Off (fun j => j ≤ w.heap.size + 1)) ∧ Arr wr w.heap.size 26 [.int .i64 a, .int .i64 n, .slice ao l.length cap] ∧ Arr wr (w.heap.size + 1) 26 [.int .i64 0, .int .i64 0, .slice none 0 0] ∧ Below w.heap.size w wr) (fun _ v _ => l.length - (intOf v).toNat)
  case atStart => exact ⟨0, [], Nat.zero_le _, rfl, rfl, (rfl : _ = _), TxQ.empty _ _, (fun x hx => by cases hx), hX, hZ, hB⟩
  case round =>
    clear hX hZ hB
    obtain ⟨k, m, hk, hmk, rfl, hD, hq, hof, hX, hZ, hb⟩ := hrel
    have x2 := hX.cell (i := 2) rfl
    by_cases hlt : k < l.length
    · obtain ⟨x, hx⟩ : ∃ x, l[k]? = some x := ⟨l[k], List.getElem?_eq_getElem hlt⟩
      obtain ⟨b, off, rfl, hbl, y0, y1, y2, y3, y4, y5, y6, y7, y8⟩ := (hA.below hb).cells hx
      have hAt := (hA k x hx).2.below hb
      have hLx := hL x (List.mem_of_getElem? hx)
      have cO := own_new x.d x.ra x.rc x.wa x.wc wr hAt.at_ hAt.nr hAt.nw hLx.1 hLx.2
      have hD2 : Hid (dl m ++ [x.d] = dl (l.take (k + 1))) := by
        have he := (List.getElem?_eq_some_iff.1 hx).2
        show _ = _
        rw [List.take_succ_eq_append_getElem hlt, he, hD.out]
        simp [dl]
      obtain ⟨qa, qc, rfl, hqn, _⟩ := hq.form
      rw [hmk] at hq
      clear hx hD
      go_wp2_with fail
      refine cO.mono ?_
      rintro e w1 ⟨ra, rc, wa, wc, rfl, hO1, hO2, hr, hw, hb1⟩
      have hq1 := hq.below hb1
      have hX1 := hX.below hb1 hX.lt
      have hZ1 := hZ.below hb1 hZ.lt
      have hb2 := hb.trans (hb1.mono hb.size)
      obtain ⟨d, hd⟩ : ∃ q, q = x.d := ⟨_, rfl⟩
      rw [← hd] at hO1 hO2 hD2 ⊢
      have hoffx : TxM.Off ⟨d, ra, rc, wa, wc⟩ (fun j => (Value.slice qa k qc).ownBlock = some j) := off_own hO1 hO2 (fun j hj => (hq.lt j hj).2)
      have hoffy : TxM.Off ⟨d, ra, rc, wa, wc⟩ (fun j => j ≤ w.heap.size + 1) := off_own hO1 hO2 (fun j hj => Nat.lt_of_le_of_lt hj hZ.lt)
      have hx1 : TxM.At ⟨d, ra, rc, wa, wc⟩ w1 := ⟨⟨hO1.at, hO2.at⟩, hr, hw⟩
      clear hb1 cO hO1 hO2 hq hb hX hZ x2 y0 y1 y2 y3 y4 y5 y6 y7 y8 hd hAt
      unfold txV
      have hbx := belowNew w1 (.cells (TxM.c ⟨d, ra, rc, wa, wc⟩).toArray 86)
      have hq2 := hq1.below hbx
      have hx2 := hx1.below hbx
      have hX2 := hX1.below hbx hX1.lt
      have hZ2 := hZ1.below hbx hZ1.lt
      have hb3 := hb2.trans (hbx.mono hb2.size)
      have hnew := new_c w1 ⟨d, ra, rc, wa, wc⟩
      have hrow2 := hq2.row
      rw [hmk] at hrow2
      have hbase : w.heap.size + 1 + 1 ≤ (w1.alloc (.cells (TxM.c ⟨d, ra, rc, wa, wc⟩).toArray 86)).heap.size := hZ2.lt
      clear hq1 hx1 hbx
      go_wp2_with (at_builtin; refine wpList_append_q rfl _ _ 24 rfl (w.heap.size + 1 + 1) 86 i0 _ 9 136 Tryz.underlying24 hi hz0 hz1 hz2 rfl (by decide) _ k (flatX m) rfl hrow2 ⟨w1.heap.size, 0, none⟩ 1 1 (TxM.c ⟨d, ra, rc, wa, wc⟩) rfl (by decide) rfl hnew (c_one _) ?c3 ?c4 hbase ?_)
      case c3 => unfold maxLen; omega
      case c4 => omega
      intro q' w3 hrow hgr hfr
      have hq5 := hq2.push (m := [⟨d, ra, rc, wa, wc⟩]) (by intro x hx; simp at hx; rw [hx]; exact hx2) (by intro x hx; simp at hx; rw [hx]; exact hoffx) (by simp) (by rw [flatX_single, hmk]; exact hrow) hgr (fun g hg => by rw [alloc_size]; exact hfr g hg)
      have hkg := Kept.of_grown hgr
      have hqt : ∀ j, (Value.slice qa k qc).ownBlock = some j → w.heap.size + 1 + 1 ≤ j := fun j hj => (hq2.lt j hj).1
      have hX3 := hX2.kept hkg (fun e => by have := hqt _ e; omega)
      have hZ3 := hZ2.kept hkg (fun e => by have := hqt _ e; omega)
      have hb5 : Below w.heap.size w w3 := hb3.trans (hkg.below hb3.size (fun j hj => by have := hqt j hj; omega))
      have hof2 : ∀ x ∈ m ++ [⟨d, ra, rc, wa, wc⟩], x.Off (fun j => j ≤ w.heap.size + 1) := by
        intro x hx
        rw [List.mem_append, List.mem_singleton] at hx
        rcases hx with hx | rfl
        · exact hof x hx
        · exact hoffy
      have hD3 : Hid (dl (m ++ [⟨d, ra, rc, wa, wc⟩]) = dl (l.take (k + 1))) := by
        show _ = _
        rw [← hD2.out]
        simp [dl]
      obtain ⟨qa2, qc2, rfl, _, _⟩ := QRow.form hrow
      clear hrow hgr hfr hq2 hx2 hb3 hnew hrow2 hX2 hZ2 hkg hqt hX1 hZ1
      go_wp2
      go_roundw
      case rel => exact ⟨k + 1, m ++ [⟨d, ra, rc, wa, wc⟩], by omega, by simp [hmk], by go_num, hD3, hq5, hof2, hX3, hZ3, hb5⟩
      case measure => simp [intOf]; omega
    · obtain rfl : k = l.length := by omega
      have hD2 : Hid (dl m = dl l) := by have := hD.out; rw [List.take_length] at this; exact this
      obtain ⟨qa, qc, rfl, hqn, hqT⟩ := hq.form
      have f2 := hX.frozen 2
      have hX2 := hX.set 2 (.slice qa m.length qc)
      have hZ2 := hZ.other (p := ⟨w.heap.size, 2, none⟩) (by show w.heap.size + 1 ≠ w.heap.size; omega) (.slice qa m.length qc)
      have hb2 := hb.setCell (p := ⟨w.heap.size, 2, none⟩) (Nat.le_refl _) (.slice qa m.length qc)
      have hT2 := hqT.kept (Kept.setCell wr ⟨w.heap.size, 2, none⟩ (.slice qa m.length qc)) (fun b o e hb => by have := (hq.lt b (by rw [e]; rfl)).1; have e' : b = w.heap.size := hb; omega) (fun x hx => (hof x hx).mono (fun j e => by have e' : j = w.heap.size := e; omega))
      obtain ⟨w2, hw2⟩ : ∃ q, wr.setCell ⟨w.heap.size, 2, none⟩ (.slice qa m.length qc) = q := ⟨_, rfl⟩
      rw [hw2] at hX2 hZ2 hb2 hT2
      replace hX2 : Arr w2 w.heap.size 26 [.int .i64 a, .int .i64 n, .slice qa m.length qc] := hX2
      have u0 := hX2.cell (i := 0) rfl
      have u1 := hX2.cell (i := 1) rfl
      have u2 := hX2.cell (i := 2) rfl
      have y0 := hZ2.cell (i := 0) rfl
      have y1 := hZ2.cell (i := 1) rfl
      have y2 := hZ2.cell (i := 2) rfl
      have p0 := hZ2.frozen 0
      have p1 := hZ2.frozen 1
      have p2 := hZ2.frozen 2
      have hZF := hZ2.set3 (.int .i64 a) (.int .i64 n) (.slice qa m.length qc)
      have hBF := below_set3 hb2 (g := w.heap.size + 1) (by omega) (.int .i64 a) (.int .i64 n) (.slice qa m.length qc)
      have hTF := hT2.set3 (g := w.heap.size + 1) (fun b o e hb => by have := (hq.lt b (by rw [e]; rfl)).1; omega) (fun x hx => (hof x hx).mono (fun j e => by have e' : j = w.heap.size + 1 := e; omega)) (.int .i64 a) (.int .i64 n) (.slice qa m.length qc)
      have hfin : ∀ e, e = .returned (batV a n qa m.length qc) → GotOwn w a n l e _ := fun e he => ⟨qa, qc, m, he, hD2.out, hTF, hqn, hBF⟩
      unfold set3 at hZF hfin
      clear hD hTF hBF hT2 hqT hq hX hZ hZ2 hb hb2 hX2 hmk
      go_wp2
      refine bodyPost_ret (v := batV a n qa m.length qc) (results_bat rfl _ _ (w.heap.size + 1) a n qa m.length qc rfl hZF) rfl ?_
      exact hfin _ rfl
end Go.Proofs.YtaoiejgbbmjpkaaGreatDoor

/- What tusklaw05.Own does, once more: a batch that shares nothing, and all of it lies in new memory. -/
namespace Go.Proofs.YtaoiejgbbmjpkaaGreatDoor
open Go.RowKit
set_option linter.unusedVariables false

/-- A batch that shares nothing is handed back. -/
def GotOwnT (W : World) (x : BatM) (e : Ending) (w : World) : Prop :=
  ∃ y : BatM, e = .returned y.v ∧ y.d = x.d ∧ y.At w ∧ (∀ b, rowFoot txK y.ta y.txs b → W.heap.size ≤ b) ∧ Below W.heap.size W w

theorem off_new {x : TxM} {n b : Nat} (h : x.Off (fun j => j ≤ n + 1)) (hf : txK.foot x b) : n ≤ b := by
  rcases hf with hf | hf
  · rcases hf with ⟨hne, off, e⟩ | ⟨_, _, h'⟩
    · have := h.r b off e (List.length_pos_iff.2 hne)
      omega
    · exact h'.elim
  · rcases hf with ⟨hne, off, e⟩ | ⟨_, _, h'⟩
    · have := h.w b off e (List.length_pos_iff.2 hne)
      omega
    · exact h'.elim

set_option maxRecDepth 100000 in
set_option maxHeartbeats 4000000 in
theorem own05n_any (a n : Int) (ao : Option Addr) (l : List TxM) (cap : Nat) (w : World) (hA : TxsAt w ao l) (hL : ∀ x ∈ l, TxLens x.d) (hn : l.length ≤ 100) :
    Calls Tryz.prog 19 #[batV a n ao l.length cap] w fun e w' => GotOwnT w ⟨a, n, ao, l, cap⟩ e w' := by
  obtain ⟨hX, hZ, hB⟩ := two_new w 26 26 [.int .i64 a, .int .i64 n, .slice ao l.length cap] [.int .i64 0, .int .i64 0, .slice none 0 0]
  obtain ⟨i0, hi, hz0, hz1, hz2⟩ := info_parts infoTx4
  unfold batV
  go_enter Tryz.func19, Tryz.ntmps19
  go_wp2
  go_loopw [3, 4] (fun v3 v4 wr => ∃ (k : Nat) (m : List TxM), k ≤ l.length ∧ m.length = k ∧ v4 = .int .i64 (k : Int) ∧ Hid (dl m = dl (l.take k)) ∧ TxQ wr (w.heap.size + 1 + 1) v3 m ∧ (∀ x ∈ m, x.Off (fun j => j ≤ w.heap.size + 1)) ∧ Arr wr w.heap.size 26 [.int .i64 a, .int .i64 n, .slice ao l.length cap] ∧ Arr wr (w.heap.size + 1) 26 [.int .i64 0, .int .i64 0, .slice none 0 0] ∧ Below w.heap.size w wr) (fun _ v _ => l.length - (intOf v).toNat)
  case atStart => exact ⟨0, [], Nat.zero_le _, rfl, rfl, (rfl : _ = _), TxQ.empty _ _, (fun x hx => by cases hx), hX, hZ, hB⟩
  case round =>
    clear hX hZ hB
    obtain ⟨k, m, hk, hmk, rfl, hD, hq, hof, hX, hZ, hb⟩ := hrel
    have x2 := hX.cell (i := 2) rfl
    by_cases hlt : k < l.length
    · obtain ⟨x, hx⟩ : ∃ x, l[k]? = some x := ⟨l[k], List.getElem?_eq_getElem hlt⟩
      obtain ⟨b, off, rfl, hbl, y0, y1, y2, y3, y4, y5, y6, y7, y8⟩ := (hA.below hb).cells hx
      have hAt := (hA k x hx).2.below hb
      have hLx := hL x (List.mem_of_getElem? hx)
      have cO := own_new x.d x.ra x.rc x.wa x.wc wr hAt.at_ hAt.nr hAt.nw hLx.1 hLx.2
      have hD2 : Hid (dl m ++ [x.d] = dl (l.take (k + 1))) := by
        have he := (List.getElem?_eq_some_iff.1 hx).2
        show _ = _
        rw [List.take_succ_eq_append_getElem hlt, he, hD.out]
        simp [dl]
      obtain ⟨qa, qc, rfl, hqn, _⟩ := hq.form
      rw [hmk] at hq
      clear hx hD
      go_wp2_with fail
      refine cO.mono ?_
      rintro e w1 ⟨ra, rc, wa, wc, rfl, hO1, hO2, hr, hw, hb1⟩
      have hq1 := hq.below hb1
      have hX1 := hX.below hb1 hX.lt
      have hZ1 := hZ.below hb1 hZ.lt
      have hb2 := hb.trans (hb1.mono hb.size)
      obtain ⟨d, hd⟩ : ∃ q, q = x.d := ⟨_, rfl⟩
      rw [← hd] at hO1 hO2 hD2 ⊢
      have hoffx : TxM.Off ⟨d, ra, rc, wa, wc⟩ (fun j => (Value.slice qa k qc).ownBlock = some j) := off_own hO1 hO2 (fun j hj => (hq.lt j hj).2)
      have hoffy : TxM.Off ⟨d, ra, rc, wa, wc⟩ (fun j => j ≤ w.heap.size + 1) := off_own hO1 hO2 (fun j hj => Nat.lt_of_le_of_lt hj hZ.lt)
      have hx1 : TxM.At ⟨d, ra, rc, wa, wc⟩ w1 := ⟨⟨hO1.at, hO2.at⟩, hr, hw⟩
      clear hb1 cO hO1 hO2 hq hb hX hZ x2 y0 y1 y2 y3 y4 y5 y6 y7 y8 hd hAt
      unfold txV
      have hbx := belowNew w1 (.cells (TxM.c ⟨d, ra, rc, wa, wc⟩).toArray 86)
      have hq2 := hq1.below hbx
      have hx2 := hx1.below hbx
      have hX2 := hX1.below hbx hX1.lt
      have hZ2 := hZ1.below hbx hZ1.lt
      have hb3 := hb2.trans (hbx.mono hb2.size)
      have hnew := new_c w1 ⟨d, ra, rc, wa, wc⟩
      have hrow2 := hq2.row
      rw [hmk] at hrow2
      have hbase : w.heap.size + 1 + 1 ≤ (w1.alloc (.cells (TxM.c ⟨d, ra, rc, wa, wc⟩).toArray 86)).heap.size := hZ2.lt
      clear hq1 hx1 hbx
      go_wp2_with (at_builtin; refine wpList_append_q rfl _ _ 24 rfl (w.heap.size + 1 + 1) 86 i0 _ 9 136 Tryz.underlying24 hi hz0 hz1 hz2 rfl (by decide) _ k (flatX m) rfl hrow2 ⟨w1.heap.size, 0, none⟩ 1 1 (TxM.c ⟨d, ra, rc, wa, wc⟩) rfl (by decide) rfl hnew (c_one _) ?c3 ?c4 hbase ?_)
      case c3 => unfold maxLen; omega
      case c4 => omega
      intro q' w3 hrow hgr hfr
      have hq5 := hq2.push (m := [⟨d, ra, rc, wa, wc⟩]) (by intro x hx; simp at hx; rw [hx]; exact hx2) (by intro x hx; simp at hx; rw [hx]; exact hoffx) (by simp) (by rw [flatX_single, hmk]; exact hrow) hgr (fun g hg => by rw [alloc_size]; exact hfr g hg)
      have hkg := Kept.of_grown hgr
      have hqt : ∀ j, (Value.slice qa k qc).ownBlock = some j → w.heap.size + 1 + 1 ≤ j := fun j hj => (hq2.lt j hj).1
      have hX3 := hX2.kept hkg (fun e => by have := hqt _ e; omega)
      have hZ3 := hZ2.kept hkg (fun e => by have := hqt _ e; omega)
      have hb5 : Below w.heap.size w w3 := hb3.trans (hkg.below hb3.size (fun j hj => by have := hqt j hj; omega))
      have hof2 : ∀ x ∈ m ++ [⟨d, ra, rc, wa, wc⟩], x.Off (fun j => j ≤ w.heap.size + 1) := by
        intro x hx
        rw [List.mem_append, List.mem_singleton] at hx
        rcases hx with hx | rfl
        · exact hof x hx
        · exact hoffy
      have hD3 : Hid (dl (m ++ [⟨d, ra, rc, wa, wc⟩]) = dl (l.take (k + 1))) := by
        show _ = _
        rw [← hD2.out]
        simp [dl]
      obtain ⟨qa2, qc2, rfl, _, _⟩ := QRow.form hrow
      clear hrow hgr hfr hq2 hx2 hb3 hnew hrow2 hX2 hZ2 hkg hqt hX1 hZ1
      go_wp2
      go_roundw
      case rel => exact ⟨k + 1, m ++ [⟨d, ra, rc, wa, wc⟩], by omega, by simp [hmk], by go_num, hD3, hq5, hof2, hX3, hZ3, hb5⟩
      case measure => simp [intOf]; omega
    · obtain rfl : k = l.length := by omega
      have hD2 : Hid (dl m = dl l) := by have := hD.out; rw [List.take_length] at this; exact this
      obtain ⟨qa, qc, rfl, hqn, hqT⟩ := hq.form
      have f2 := hX.frozen 2
      have hX2 := hX.set 2 (.slice qa m.length qc)
      have hZ2 := hZ.other (p := ⟨w.heap.size, 2, none⟩) (by show w.heap.size + 1 ≠ w.heap.size; omega) (.slice qa m.length qc)
      have hb2 := hb.setCell (p := ⟨w.heap.size, 2, none⟩) (Nat.le_refl _) (.slice qa m.length qc)
      have hT2 := hqT.kept (Kept.setCell wr ⟨w.heap.size, 2, none⟩ (.slice qa m.length qc)) (fun b o e hb => by have := (hq.lt b (by rw [e]; rfl)).1; have e' : b = w.heap.size := hb; omega) (fun x hx => (hof x hx).mono (fun j e => by have e' : j = w.heap.size := e; omega))
      obtain ⟨w2, hw2⟩ : ∃ q, wr.setCell ⟨w.heap.size, 2, none⟩ (.slice qa m.length qc) = q := ⟨_, rfl⟩
      rw [hw2] at hX2 hZ2 hb2 hT2
      replace hX2 : Arr w2 w.heap.size 26 [.int .i64 a, .int .i64 n, .slice qa m.length qc] := hX2
      have u0 := hX2.cell (i := 0) rfl
      have u1 := hX2.cell (i := 1) rfl
      have u2 := hX2.cell (i := 2) rfl
      have y0 := hZ2.cell (i := 0) rfl
      have y1 := hZ2.cell (i := 1) rfl
      have y2 := hZ2.cell (i := 2) rfl
      have p0 := hZ2.frozen 0
      have p1 := hZ2.frozen 1
      have p2 := hZ2.frozen 2
      have hZF := hZ2.set3 (.int .i64 a) (.int .i64 n) (.slice qa m.length qc)
      have hBF := below_set3 hb2 (g := w.heap.size + 1) (by omega) (.int .i64 a) (.int .i64 n) (.slice qa m.length qc)
      have hTF := hT2.set3 (g := w.heap.size + 1) (fun b o e hb => by have := (hq.lt b (by rw [e]; rfl)).1; omega) (fun x hx => (hof x hx).mono (fun j e => by have e' : j = w.heap.size + 1 := e; omega)) (.int .i64 a) (.int .i64 n) (.slice qa m.length qc)
      have hft : ∀ b, rowFoot txK qa m b → w.heap.size ≤ b := fun b hb => by
        rcases hb with ⟨_, off, e⟩ | ⟨x, hx, h⟩
        · have := (hq.lt b (by rw [e]; rfl)).1
          omega
        · exact off_new (hof x hx) h
      have hfin : ∀ e, e = .returned (batV a n qa m.length qc) → GotOwnT w ⟨a, n, ao, l, cap⟩ e _ := fun e he => ⟨⟨a, n, qa, m, qc⟩, he, (by show (⟨a, n, dl m⟩ : BatD) = ⟨a, n, dl l⟩; rw [hD2.out]), ⟨hTF.rows, hqn⟩, hft, hBF⟩
      unfold set3 at hZF hfin
      clear hD hTF hBF hT2 hqT hq hX hZ hZ2 hb hb2 hX2 hmk
      go_wp2
      refine bodyPost_ret (v := batV a n qa m.length qc) (results_bat rfl _ _ (w.heap.size + 1) a n qa m.length qc rfl hZF) rfl ?_
      exact hfin _ rfl
end Go.Proofs.YtaoiejgbbmjpkaaGreatDoor

/- A Ref in a new cell; four cells of a block that are written one behind the other. -/
namespace Go.Proofs.YtaoiejgbbmjpkaaGreatDoor
open Go.RowKit
set_option linter.unusedVariables false

theorem rd_append (l m : List RefM) : rd (l ++ m) = rd l ++ rd m := by simp [rd]

theorem new_ref (w : World) (x : RefM) : ∀ j u, (refK.c x)[j]? = some u → (w.alloc (.cells #[.string x.digest, .slice x.ao x.acks.length x.cap] 53)).cell? ((⟨w.heap.size, 0, none⟩ : Addr).add j) = some u := by
  intro j u hu
  rw [Go.WideShapes.add_plain, Nat.zero_add]
  exact (Arr.new w 53 [.string x.digest, .slice x.ao x.acks.length x.cap]).cell hu

/-- Four cells are written anew. -/
def set4 (w : World) (g : Nat) (v0 v1 v2 v3 : Value) : World := (((w.setCell ⟨g, 0, none⟩ v0).setCell ⟨g, 1, none⟩ v1).setCell ⟨g, 2, none⟩ v2).setCell ⟨g, 3, none⟩ v3

theorem Arr.set4 {w : World} {g : Nat} {t : TypeId} {a0 a1 a2 a3 : Value} (h : Arr w g t [a0, a1, a2, a3]) (v0 v1 v2 v3 : Value) : Arr (Proofs.YtaoiejgbbmjpkaaGreatDoor.set4 w g v0 v1 v2 v3) g t [v0, v1, v2, v3] := (((h.set 0 v0).set 1 v1).set 2 v2).set 3 v3

theorem below_set4 {B : Nat} {w w' : World} (h : Below B w w') {g : Nat} (hg : B ≤ g) (v0 v1 v2 v3 : Value) : Below B w (set4 w' g v0 v1 v2 v3) :=
  (((h.setCell (p := ⟨g, 0, none⟩) hg v0).setCell (p := ⟨g, 1, none⟩) hg v1).setCell (p := ⟨g, 2, none⟩) hg v2).setCell (p := ⟨g, 3, none⟩) hg v3

theorem kept_set4 (w : World) (g : Nat) (v0 v1 v2 v3 : Value) : Kept (fun k => k = g) w (set4 w g v0 v1 v2 v3) :=
  ((((Kept.refl (fun k => k = g) w).set (p := ⟨g, 0, none⟩) rfl v0).set (p := ⟨g, 1, none⟩) rfl v1).set (p := ⟨g, 2, none⟩) rfl v2).set (p := ⟨g, 3, none⟩) rfl v3
end Go.Proofs.YtaoiejgbbmjpkaaGreatDoor

/- append(q, xs...) of a row's elements, at a step of a region that draws its order. -/
namespace Go.Proofs.YtaoiejgbbmjpkaaGreatDoor
open Go.RowKit
set_option linter.unusedVariables false

section
variable {α : Type} {K : Kind α}

/-- The same, as an equation of the run. -/
theorem run_copy {P : Program} (w : World) (t ty : TypeId) (base : Nat) (e : TypeId) (i : TypeInfo) (z : Value) (bytes : Nat) (ht : P.underlying t = some (.slice e)) (hi : P.info? e = some i) (hz : i.zero = some z)
    (hsize : i.size = K.n) (hby : i.bytes = bytes) (hzs : z.cells.size = K.n)
    (v : Value) (hown : w.ownsRow base e K.n v 0 []) (ao : Option Addr) (cap : Nat) (l : List α)
    (hS : RowAt K w ao l) (hf : ∀ x ∈ l, ∀ b, K.foot x b → b < base) (hnil : ao = none → cap = 0) (hm : l.length ≤ maxLen) (hlen : l.length * bytes ≤ 140737488355328) (hbase : base ≤ w.heap.size) :
    ∃ ao' cap' w', (Builtin.append_ #[t, t] ty #[v, .slice ao l.length cap]).run P w = .ok (.slice ao' l.length cap') w' ∧ RowAt K w' ao' l ∧ (ao' = none → cap' = 0) ∧ (l ≠ [] → ∀ b off, ao' = some ⟨b, off, none⟩ → base ≤ b) ∧ Below base w w' := by
  cases ao with
  | none =>
    have hc0 := hnil rfl
    subst hc0
    have hss : l = [] := by
      cases l with
      | nil => rfl
      | cons y r => obtain ⟨_, _, e, _⟩ := hS.cell 0 y rfl; cases e
    subst hss
    have hrun := run_append_owned_none (P := P) (w := w) base t ty e i K.n ht hi v 0 [] hown
    rcases hown.2 with ⟨hv, _⟩ | ⟨g, c, cur, hv, _⟩
    · rw [hv] at hrun ⊢
      exact ⟨none, 0, w, hrun, nil_row _ _, fun _ => rfl, fun hne => absurd rfl hne, Below.refl _ _⟩
    · rw [hv] at hrun ⊢
      exact ⟨_, c, w, hrun, nil_row _ _, (fun e => by cases e), fun hne => absurd rfl hne, Below.refl _ _⟩
  | some ad =>
    obtain ⟨v', w', hrun, hown', hgrow, _⟩ := run_append_own (P := P) w base t ty e i z K.n bytes ht hi hz hsize hby hzs K.pos v 0 [] hown ad l.length cap (flatK K l) (flatK_length K l) hS.news (flatK_one K l) (by omega) (by rw [Nat.zero_add]; exact hlen) hbase
    have hb := (Below.refl base w).grown hgrow hbase (fun q hq => (hown.lt q hq).1)
    rw [Nat.zero_add, List.nil_append] at hown'
    have hA : ∀ x ∈ l, K.At w' x := fun x hx => K.keep (hS.at_ x hx) (fun b hb' => hb.block b (hf x hx b hb'))
    have hq := QRow.of_own hown'
    obtain ⟨ao', cap', rfl, _, _⟩ := hq.form
    refine ⟨ao', cap', w', hrun, hq.rowAt rfl hA, ?_, ?_, hb⟩
    · intro he
      rcases hown'.2 with ⟨hv, _⟩ | ⟨g, c, cur, hv, _⟩
      · simp at hv; exact hv.2.2
      · simp at hv; rw [hv.1] at he; cases he
    · intro hne b off he
      exact (hown'.lt b (by rw [he]; rfl)).1

/-- The same, at a step of a region that draws its order. -/
theorem step_copy {P : Program} (w : World) {ops : Array Oper} {o : Oper} {a : Act} {C : Act → World → Prop} {Q : Exit → Act → World → Prop} {E : Prop} (hgd : o.guard = none) (s x : Operand) (t : TypeId)
    (ho : o.op = .call { callee := .builtin .append, args := #[s, x], argTypes := #[t, t] })
    (base : Nat) (e : TypeId) (i : TypeInfo) (z : Value) (bytes : Nat) (ht : P.underlying t = some (.slice e)) (hi : P.info? e = some i) (hz : i.zero = some z)
    (hsize : i.size = K.n) (hby : i.bytes = bytes) (hzs : z.cells.size = K.n)
    (v : Value) (hs : a.eval s = v) (hown : w.ownsRow base e K.n v 0 []) (ao : Option Addr) (cap : Nat) (l : List α) (hx : a.eval x = .slice ao l.length cap)
    (hS : RowAt K w ao l) (hf : ∀ x ∈ l, ∀ b, K.foot x b → b < base) (hnil : ao = none → cap = 0) (hm : l.length ≤ maxLen) (hlen : l.length * bytes ≤ 140737488355328) (hbase : base ≤ w.heap.size)
    (h : ∀ ao' cap' w', RowAt K w' ao' l → (ao' = none → cap' = 0) → (l ≠ [] → ∀ b off, ao' = some ⟨b, off, none⟩ → base ≤ b) → Below base w w' → C (a.put o.dst (.slice ao' l.length cap')) w') : if Region.wanted o (yielded ops a.tmps) = true then Oper.wp P o a w C Q else E := by
  rw [if_pos (by simp [Region.wanted, hgd])]
  obtain ⟨ao', cap', w', hrun, r1, r2, r3, r4⟩ := run_copy (K := K) (P := P) w t o.type base e i z bytes ht hi hz hsize hby hzs v hown ao cap l hS hf hnil hm hlen hbase
  unfold Oper.wp
  simp [execOp, ho, resolve, invoke, builtin, hs, hx, hrun, Result.andThen]
  exact h ao' cap' w' r1 r2 r3 r4
end
end Go.Proofs.YtaoiejgbbmjpkaaGreatDoor

/- What tusklaw06.Own does; nothing old in memory is turned. -/
namespace Go.Proofs.YtaoiejgbbmjpkaaGreatDoor
open Go.RowKit
set_option linter.unusedVariables false

/-- Its lists are no longer than a machine holds. -/
structure HdrM.Lens (x : HdrM) : Prop where
  n : x.refs.length * 40 ≤ 140737488351232
  p : x.parents.length * 16 ≤ 140737488351232
  acks : ∀ r ∈ x.refs, r.acks.length * 24 ≤ 140737488351232

theorem rd_succ (l : List RefM) (k : Nat) (x : RefM) (h : l[k]? = some x) : rd (l.take (k + 1)) = rd (l.take k) ++ [x.d] := by
  have hk := (List.getElem?_eq_some_iff.1 h).1
  have he := (List.getElem?_eq_some_iff.1 h).2
  rw [List.take_succ_eq_append_getElem hk, he]
  simp [rd]

theorem results_hdrO {fn : Func} {p : Tmp} (h : fn.results = #[.cell p 30]) (tmps : Array Value) (w : World) (g : Nat) (x : HdrM)
    (hp : tmps.getD p undef = .pointer (some ⟨g, 0, none⟩)) (hg : Arr w g 30 x.c) :
    (results fn tmps).run Tryz.prog w = .ok x.v w :=
  results_cell_row h tmps w g 30 x.c.toArray (0, 0) _ hp hg Tryz.underlying30 rfl infoHdr6

/-- A header that shares nothing is handed back. -/
def GotOwnH (W : World) (x : HdrM) (e : Ending) (w : World) : Prop :=
  ∃ y : HdrM, e = .returned y.v ∧ y.d = x.d ∧ y.At w ∧ (∀ b, y.foot b → W.heap.size ≤ b) ∧ Below W.heap.size W w

set_option maxRecDepth 100000 in
set_option maxHeartbeats 4000000 in
theorem own6_any (x : HdrM) (w : World) (hA : x.At w) (hL : x.Lens) :
    Calls Tryz.prog 20 #[x.v] w fun e w' => GotOwnH w x e w' := by
  obtain ⟨au, ro, ra, rs, rc, pa, ps, pc⟩ := x
  have hA1 : RowAt refK w ra rs := hA.refs
  have hA2 : RowAt strK w pa ps := hA.ps
  have hnp : pa = none → pc = 0 := hA.np
  have hL1 : rs.length * 40 ≤ 140737488351232 := hL.n
  have hL2 : ps.length * 16 ≤ 140737488351232 := hL.p
  have hL3 : ∀ r ∈ rs, r.acks.length * 24 ≤ 140737488351232 := hL.acks
  obtain ⟨hX, hZ, hB⟩ := two_new w 30 30 [.int .i64 au, .int .i64 ro, .slice ra rs.length rc, .slice pa ps.length pc] [.int .i64 0, .int .i64 0, .slice none 0 0, .slice none 0 0]
  obtain ⟨i0, hi, hz0, hz1, hz2⟩ := info_parts infoRef6
  obtain ⟨i1, hi', hz0', hz1', hz2'⟩ := info_parts infoTag6
  clear hA hL
  unfold HdrM.v
  simp only
  go_enter Tryz.func20, Tryz.ntmps20
  go_wp2
  go_loopw [3, 4] (fun v3 v4 wr => ∃ (k : Nat) (m : List RefM), k ≤ rs.length ∧ m.length = k ∧ v4 = .int .i64 (k : Int) ∧ Hid (rd m = rd (rs.take k)) ∧ KQ refK 53 wr (w.heap.size + 1 + 1) v3 m ∧ (∀ x ∈ m, ∀ b, refK.foot x b → w.heap.size + 1 + 1 ≤ b) ∧ Arr wr w.heap.size 30 [.int .i64 au, .int .i64 ro, .slice ra rs.length rc, .slice pa ps.length pc] ∧ Arr wr (w.heap.size + 1) 30 [.int .i64 0, .int .i64 0, .slice none 0 0, .slice none 0 0] ∧ Below w.heap.size w wr) (fun _ v _ => rs.length - (intOf v).toNat)
  case atStart => exact ⟨0, [], Nat.zero_le _, rfl, rfl, (rfl : _ = _), KQ.empty _ _ _ _, (fun x hx => by cases hx), hX, hZ, hB⟩
  case round =>
    clear hX hZ hB
    obtain ⟨k, m, hk, hmk, rfl, hD, hq, hof, hX, hZ, hb⟩ := hrel
    have x2 := hX.cell (i := 2) rfl
    by_cases hlt : k < rs.length
    · obtain ⟨r, hr⟩ : ∃ r, rs[k]? = some r := ⟨rs[k], List.getElem?_eq_getElem hlt⟩
      obtain ⟨b, off, rfl, hbl, y0, y1⟩ := (hA1.below hb).ref hr
      obtain ⟨hrt, hrn⟩ := (hA1.below hb).at_ r (List.mem_of_getElem? hr)
      have hLr := hL3 r (List.mem_of_getElem? hr)
      have HD : Hid (rd (rs.take (k + 1)) = rd m ++ [r.d]) := by
        show _ = _
        rw [rd_succ rs k r hr, hD.out]
      obtain ⟨qa, qc, rfl, hqn, _⟩ := hq.form
      rw [hmk] at hq
      clear hr hD
      have hwz := hZ.lt
      obtain ⟨we, hwe⟩ : ∃ q, wr.alloc (.cells #[] 23) = q := ⟨_, rfl⟩
      have hbe0 : Below wr.heap.size wr we := by rw [← hwe]; exact belowNew _ _
      have hbe : Below wr.heap.size wr we.drew := Below.drew hbe0
      have hown : we.drew.ownsRow wr.heap.size 23 tagK.n (.slice (some ⟨wr.heap.size, 0, none⟩) 0 0) 0 [] := by rw [← hwe]; exact World.ownsRow_made wr #[] 0 (Nat.le_refl _) (by unfold maxLen; omega) (by simp)
      have hrt1 := hrt.below hbe
      have hz1e : wr.heap.size ≤ we.drew.heap.size := hbe.size
      have x2a := (hX.below hbe0 hX.lt).cell (i := 2) rfl
      have y0a : we.cell? ⟨b, off + k * 2, none⟩ = some (.string r.digest) := (hbe0.cell (p := ⟨b, off + k * 2, none⟩) hbl).trans y0
      have y1a : we.cell? ⟨b, off + k * 2 + 1, none⟩ = some (.slice r.ao r.acks.length r.cap) := (hbe0.cell (p := ⟨b, off + k * 2 + 1, none⟩) hbl).trans y1
      have n1 : r.acks.length ≤ maxLen := by unfold maxLen; omega
      have n2 : r.acks.length * 24 ≤ 140737488355328 := by omega
      have n3 : m.length + 1 ≤ maxLen := by unfold maxLen; omega
      have n4 : (m.length + 1) * 40 ≤ 140737488355328 := by omega
      go_wp2_with fail
      go_region_law (first
        | (refine step_copy (K := tagK) _ (by rfl) _ _ 31 (by rfl) wr.heap.size 23 i1 _ 24 Tryz.underlying31 hi' hz0' hz1' hz2' rfl _ (by rfl) hown r.ao r.cap r.acks (by rfl) hrt1 (fun _ _ _ h => h.elim) hrn n1 n2 hz1e ?_; intro ao3 cap3 w3 hO3 hOn3 hOf3 hb3; have hbA : Below wr.heap.size wr w3 := hbe.trans hb3; have x2b := (hX.below hbA hX.lt).cell (i := 2) rfl; have y0b : w3.cell? ⟨b, off + k * 2, none⟩ = some (.string r.digest) := (hbA.cell (p := ⟨b, off + k * 2, none⟩) hbl).trans y0; have hbx := belowNew w3 (.cells #[.string r.digest, .slice ao3 r.acks.length cap3] 53); have hbB := hbA.trans (hbx.mono hbA.size); have hq5 := hq.below hbB; have hx5 := Kind.below refK (x := ⟨r.digest, r.acks, ao3, cap3⟩) ⟨hO3, hOn3⟩ hbx; have hxf : ∀ b, refK.foot ⟨r.digest, r.acks, ao3, cap3⟩ b → wr.heap.size ≤ b := (fun g hg => by rcases hg with ⟨h1, o, h2⟩ | ⟨_, _, h⟩; exact hOf3 h1 g o h2; exact h.elim); have hxo : ∀ b, refK.foot ⟨r.digest, r.acks, ao3, cap3⟩ b → (Value.slice qa k qc).ownBlock ≠ some b := (fun g hg e => by have := hxf g hg; have := (hq.lt g e).2; omega); have hN := new_ref w3 ⟨r.digest, r.acks, ao3, cap3⟩; have hbs : w.heap.size + 1 + 1 ≤ (w3.alloc (.cells #[.string r.digest, .slice ao3 r.acks.length cap3] 53)).heap.size := Nat.le_trans hwz hbB.size)
        | (refine step_push (K := refK) _ (by rfl) _ _ 27 (by rfl) (w.heap.size + 1 + 1) 53 i0 _ 40 Tryz.underlying27 hi hz0 hz1 hz2 rfl _ m (by rfl) hq5 ⟨r.digest, r.acks, ao3, cap3⟩ hx5 hxo ⟨w3.heap.size, 0, none⟩ 1 (by rfl) hN n3 n4 hbs ?_; intro ao8 cap8 w8 hq8 hk8))
      all_goals
        have hkB := Kept.below hk8 hbs (fun j hj => (hq5.lt j hj).1)
        have hbF : Below (w.heap.size + 1 + 1) wr w8 := (hbB.mono hwz).trans hkB
        have hXF := hX.below hbF (by omega)
        have hZF := hZ.below hbF (by omega)
        have hbG : Below w.heap.size w w8 := hb.trans (hbF.mono (by omega))
        have hofG : ∀ y ∈ m ++ [(⟨r.digest, r.acks, ao3, cap3⟩ : RefM)], ∀ b, refK.foot y b → w.heap.size + 1 + 1 ≤ b := by
          intro y hy b hb
          rw [List.mem_append, List.mem_singleton] at hy
          rcases hy with hy | rfl
          · exact hof y hy b hb
          · have := hxf b hb; omega
        rw [hmk] at hq8
        have HDF : Hid (rd (m ++ [(⟨r.digest, r.acks, ao3, cap3⟩ : RefM)]) = rd (rs.take (k + 1))) := by
          show _ = _
          rw [HD.out, rd_append]
          rfl
        clear hk8 hkB hq5 hN hbs hbx hbB hbA hx5 hxo hO3 hOf3 hb3 x2b y0b hX hZ hb hq hown hrt hrt1 hbe hbe0 x2 y0 y1 x2a y0a y1a HD hwe hbF
        go_wp2
        go_roundw
        case rel => exact ⟨k + 1, m ++ [⟨r.digest, r.acks, ao3, cap3⟩], by omega, by simp [hmk], by go_num, HDF, hq8, hofG, hXF, hZF, hbG⟩
        case measure => simp [intOf]; omega
    · obtain rfl : k = rs.length := by omega
      clear hmk
      have HD : Hid (rd m = rd rs) := by
        have := hD.out
        rw [List.take_length] at this
        exact this
      obtain ⟨qa, qc, rfl, hqn, hqt⟩ := hq.form
      have hqf := hq.foot_ge (B := w.heap.size + 1 + 1) (Nat.le_refl _) hof
      have f2 := hX.frozen 2
      have hX1 := hX.set 2 (.slice qa m.length qc)
      have hZ1 := hZ.other (p := ⟨w.heap.size, 2, none⟩) (by show w.heap.size + 1 ≠ w.heap.size; omega) (.slice qa m.length qc)
      have hb1 := hb.setCell (p := ⟨w.heap.size, 2, none⟩) (Nat.le_refl _) (.slice qa m.length qc)
      have hqt1 := hqt.kept (Kept.setCell wr ⟨w.heap.size, 2, none⟩ (.slice qa m.length qc)) (fun b hb e => by have := hqf b hb; have e' : b = w.heap.size := e; omega)
      obtain ⟨w1, hw1⟩ : ∃ q, wr.setCell ⟨w.heap.size, 2, none⟩ (.slice qa m.length qc) = q := ⟨_, rfl⟩
      rw [hw1] at hX1 hZ1 hb1 hqt1
      obtain ⟨w2, hw2⟩ : ∃ q, w1.alloc (.cells #[] 9) = q := ⟨_, rfl⟩
      have hbe : Below w1.heap.size w1 w2 := by rw [← hw2]; exact belowNew _ _
      have hown : w2.ownsRow w1.heap.size 9 strK.n (.slice (some ⟨w1.heap.size, 0, none⟩) 0 0) 0 [] := by rw [← hw2]; exact World.ownsRow_made w1 #[] 0 (Nat.le_refl _) (by unfold maxLen; omega) (by simp)
      have hX2 := hX1.below hbe hX1.lt
      have hZ2 := hZ1.below hbe hZ1.lt
      have hb2 := hb1.trans (hbe.mono hb1.size)
      have hP2 := hA2.below hb2
      have hqt2 := hqt1.below hbe
      have hqf2 : ∀ b, rowFoot refK qa m b → b < w1.heap.size := fun b hb => hqt1.lt hb
      have x3 := hX2.cell (i := 3) rfl
      have hwl := hZ1.lt
      obtain ⟨j0, hj, hy0, hy1, hy2⟩ := info_parts infoString
      clear hX hZ hb hq hqt hD
      go_wp2_with (at_builtin; refine wpList_copy (K := strK) rfl _ _ 28 rfl w1.heap.size 9 j0 _ 16 Tryz.underlying28 hj hy0 hy1 hy2 rfl _ rfl hown pa pc ps rfl hP2 (fun _ _ _ h => h.elim) hnp ?c1 ?c2 ?c3 ?_)
      case c1 => unfold maxLen; omega
      case c2 => omega
      case c3 => exact hbe.size
      intro oa oc w3 hO3 hOn hOf hb3
      have hX3 := hX2.below hb3 hX1.lt
      have hZ3 := hZ2.below hb3 hZ1.lt
      have hqt3 := hqt2.keep (fun b hb => hb3.block b (hqf2 b hb))
      have hB3 := hb2.trans (hb3.mono hb1.size)
      have hof3 : ∀ b, rowFoot strK oa ps b → w.heap.size + 1 + 1 ≤ b := fun b hb => by
        obtain ⟨hl, off, e⟩ := strs_foot hb
        have := hOf (fun e => by rw [e] at hl; simp at hl) b off e
        omega
      clear hX1 hZ1 hX2 hZ2 hP2 hqt1 hqt2 hb1 hb2 hown hbe hb3 x3 hw2 hw1
      have x3 := hX3.cell (i := 3) rfl
      have f3 := hX3.frozen 3
      have hX4 := hX3.set 3 (.slice oa ps.length oc)
      have hZ4 := hZ3.other (p := ⟨w.heap.size, 3, none⟩) (by show w.heap.size + 1 ≠ w.heap.size; omega) (.slice oa ps.length oc)
      have hB4 := hB3.setCell (p := ⟨w.heap.size, 3, none⟩) (Nat.le_refl _) (.slice oa ps.length oc)
      have hqt4 := hqt3.kept (Kept.setCell w3 ⟨w.heap.size, 3, none⟩ (.slice oa ps.length oc)) (fun b hb e => by have := hqf b hb; have e' : b = w.heap.size := e; omega)
      have hO4 := hO3.kept (Kept.setCell w3 ⟨w.heap.size, 3, none⟩ (.slice oa ps.length oc)) (fun b hb e => by have := hof3 b hb; have e' : b = w.heap.size := e; omega)
      obtain ⟨w4, hw4⟩ : ∃ q, w3.setCell ⟨w.heap.size, 3, none⟩ (.slice oa ps.length oc) = q := ⟨_, rfl⟩
      rw [hw4] at hX4 hZ4 hB4 hqt4 hO4
      have t0 := hX4.cell (i := 0) rfl
      have t1 := hX4.cell (i := 1) rfl
      have t2 := hX4.cell (i := 2) rfl
      have t3 := hX4.cell (i := 3) rfl
      have z0 := hZ4.cell (i := 0) rfl
      have z1 := hZ4.cell (i := 1) rfl
      have z2 := hZ4.cell (i := 2) rfl
      have z3 := hZ4.cell (i := 3) rfl
      have g0 := hZ4.frozen 0
      have g1 := hZ4.frozen 1
      have g2 := hZ4.frozen 2
      have g3 := hZ4.frozen 3
      have kF := kept_set4 w4 (w.heap.size + 1) (.int .i64 au) (.int .i64 ro) (.slice qa m.length qc) (.slice oa ps.length oc)
      have hZF := hZ4.set4 (.int .i64 au) (.int .i64 ro) (.slice qa m.length qc) (.slice oa ps.length oc)
      have hBF := below_set4 hB4 (show w.heap.size ≤ w.heap.size + 1 by omega) (.int .i64 au) (.int .i64 ro) (.slice qa m.length qc) (.slice oa ps.length oc)
      have hqtF := hqt4.kept kF (fun b hb e => by have := hqf b hb; have e' : b = w.heap.size + 1 := e; omega)
      have hOF := hO4.kept kF (fun b hb e => by have := hof3 b hb; have e' : b = w.heap.size + 1 := e; omega)
      have fin : ∀ e : Ending, e = .returned (HdrM.v ⟨au, ro, qa, m, qc, oa, ps, oc⟩) → GotOwnH w ⟨au, ro, ra, rs, rc, pa, ps, pc⟩ e _ :=
        fun e hv => ⟨⟨au, ro, qa, m, qc, oa, ps, oc⟩, hv, by show HdrD.mk _ _ _ _ = HdrD.mk _ _ _ _; rw [HD.out], ⟨hqtF, hqn, hOF, hOn⟩, fun b hb => hb.elim (fun h => by have := hqf b h; omega) (fun h => by have := hof3 b h; omega), hBF⟩
      unfold set4 at hZF fin
      clear hX3 hZ3 hX4 hZ4 hB4 hqt4 hO4 kF hBF hqtF hOF hB3 hqt3 hO3 HD
      go_wp2
      refine bodyPost_ret (v := HdrM.v ⟨au, ro, qa, m, qc, oa, ps, oc⟩) (results_hdrO rfl _ _ (w.heap.size + 1) ⟨au, ro, qa, m, qc, oa, ps, oc⟩ rfl hZF) rfl ?_
      exact fin _ rfl
end Go.Proofs.YtaoiejgbbmjpkaaGreatDoor

/- append(q, xs...) of a row's elements, q an empty row of the call's own: nothing but q's block and new ones is turned. -/
namespace Go.Proofs.YtaoiejgbbmjpkaaGreatDoor
open Go.RowKit
set_option linter.unusedVariables false

section
variable {α : Type} {K : Kind α}

/-- As an equation of the run. -/
theorem run_copyK {P : Program} (w : World) (t ty : TypeId) (base : Nat) (e : TypeId) (i : TypeInfo) (z : Value) (bytes : Nat) (ht : P.underlying t = some (.slice e)) (hi : P.info? e = some i) (hz : i.zero = some z)
    (hsize : i.size = K.n) (hby : i.bytes = bytes) (hzs : z.cells.size = K.n)
    (v : Value) (hown : w.ownsRow base e K.n v 0 []) (ao : Option Addr) (cap : Nat) (l : List α)
    (hS : RowAt K w ao l) (hf : ∀ x b, ¬ K.foot x b) (hnil : ao = none → cap = 0) (hm : l.length ≤ maxLen) (hlen : l.length * bytes ≤ 140737488355328) (hbase : base ≤ w.heap.size) :
    ∃ ao' cap' w', (Builtin.append_ #[t, t] ty #[v, .slice ao l.length cap]).run P w = .ok (.slice ao' l.length cap') w' ∧ KQ K e w' base (.slice ao' l.length cap') l ∧ Kept (fun k => v.ownBlock = some k) w w' := by
  cases ao with
  | none =>
    have hc0 := hnil rfl
    subst hc0
    have hss : l = [] := by
      cases l with
      | nil => rfl
      | cons y r => obtain ⟨_, _, e, _⟩ := hS.cell 0 y rfl; cases e
    subst hss
    have hrun := run_append_owned_none (P := P) (w := w) base t ty e i K.n ht hi v 0 [] hown
    have hq := QRow.of_own hown
    rcases hown.2 with ⟨hv, _⟩ | ⟨g, c, cur, hv, _⟩
    · rw [hv] at hrun ⊢
      exact ⟨none, 0, w, hrun, KQ.empty K e w base, Kept.refl _ _⟩
    · rw [hv] at hrun hq hown ⊢
      exact ⟨_, c, w, hrun, ⟨hq, (fun x hx => by cases hx), (fun x hx => by cases hx), (fun k hk => ⟨(hown.lt k hk).1, (hown.lt k hk).2⟩), (fun n cap e => by cases e)⟩, Kept.refl _ _⟩
  | some ad =>
    obtain ⟨v', w', hrun, hown', hgrow, _⟩ := run_append_own (P := P) w base t ty e i z K.n bytes ht hi hz hsize hby hzs K.pos v 0 [] hown ad l.length cap (flatK K l) (flatK_length K l) hS.news (flatK_one K l) (by omega) (by rw [Nat.zero_add]; exact hlen) hbase
    rw [Nat.zero_add, List.nil_append] at hown'
    have hk := Kept.of_grown hgrow
    have hA : ∀ x ∈ l, K.At w' x := fun x hx => K.kept (hS.at_ x hx) hk (fun b hb' => absurd hb' (hf x b))
    have hq := QRow.of_own hown'
    obtain ⟨ao', cap', rfl, hlc, _⟩ := hq.form
    refine ⟨ao', cap', w', hrun, ⟨hq, hA, fun x hx b hb => absurd hb (hf x b), fun k hk => ⟨(hown'.lt k hk).1, (hown'.lt k hk).2⟩, ?_⟩, hk⟩
    intro n c he
    rcases hown'.2 with ⟨hv, _⟩ | ⟨g, c', cur, hv, _⟩
    · rw [hv] at he
      simp at he
      omega
    · rw [hv] at he
      cases he

/-- The same, at a step of a region that draws its order. -/
theorem step_copyK {P : Program} (w : World) {ops : Array Oper} {o : Oper} {a : Act} {C : Act → World → Prop} {Q : Exit → Act → World → Prop} {E : Prop} (hgd : o.guard = none) (s x : Operand) (t : TypeId)
    (ho : o.op = .call { callee := .builtin .append, args := #[s, x], argTypes := #[t, t] })
    (base : Nat) (e : TypeId) (i : TypeInfo) (z : Value) (bytes : Nat) (ht : P.underlying t = some (.slice e)) (hi : P.info? e = some i) (hz : i.zero = some z)
    (hsize : i.size = K.n) (hby : i.bytes = bytes) (hzs : z.cells.size = K.n)
    (v : Value) (hs : a.eval s = v) (hown : w.ownsRow base e K.n v 0 []) (ao : Option Addr) (cap : Nat) (l : List α) (hx : a.eval x = .slice ao l.length cap)
    (hS : RowAt K w ao l) (hf : ∀ x b, ¬ K.foot x b) (hnil : ao = none → cap = 0) (hm : l.length ≤ maxLen) (hlen : l.length * bytes ≤ 140737488355328) (hbase : base ≤ w.heap.size)
    (h : ∀ ao' cap' w', KQ K e w' base (.slice ao' l.length cap') l → Kept (fun k => v.ownBlock = some k) w w' → C (a.put o.dst (.slice ao' l.length cap')) w') : if Region.wanted o (yielded ops a.tmps) = true then Oper.wp P o a w C Q else E := by
  rw [if_pos (by simp [Region.wanted, hgd])]
  obtain ⟨ao', cap', w', hrun, r1, r2⟩ := run_copyK (K := K) (P := P) w t o.type base e i z bytes ht hi hz hsize hby hzs v hown ao cap l hS hf hnil hm hlen hbase
  unfold Oper.wp
  simp [execOp, ho, resolve, invoke, builtin, hs, hx, hrun, Result.andThen]
  exact h ao' cap' w' r1 r2
end
end Go.Proofs.YtaoiejgbbmjpkaaGreatDoor
