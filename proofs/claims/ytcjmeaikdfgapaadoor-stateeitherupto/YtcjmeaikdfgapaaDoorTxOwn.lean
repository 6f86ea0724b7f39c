/- What tusklaw04.Own, pay and works do; nothing old in memory is turned. -/
import Derived.Test.YtcjmeaikdfgapaaDoorTxNeeds
import Derived.Test.YtcjmeaikdfgapaaDoorStrRows
namespace Go.Proofs.YtcjmeaikdfgapaaDoor
open Go.RowKit
set_option linter.unusedVariables false

theorem infoTx : (Tryd.prog.info? 33).map (·.size) = some 9 := by kernel_rfl

def zeroC : List Value := [.int .i64 0, .string ⟨#[]⟩, .string ⟨#[]⟩, .int .u64 0, .int .u64 0, .string ⟨#[]⟩, .string ⟨#[]⟩, .slice none 0 0, .slice none 0 0]

theorem results_tx {fn : Func} {p : Tmp} (h : fn.results = #[.cell p 33]) (tmps : Array Value) (w : World) (g : Nat) (t : TypeId) (d : TxD) (ra : Option Addr) (rc : Nat) (wa : Option Addr) (wc : Nat)
    (hp : tmps.getD p undef = .pointer (some ⟨g, 0, none⟩)) (hg : Arr w g t (txC d ra rc wa wc)) :
    (results fn tmps).run Tryd.prog w = .ok (txV d ra rc wa wc) w :=
  results_cell_row h tmps w g t (txC d ra rc wa wc).toArray (0, 0) _ hp hg Tryd.underlying33 rfl infoTx

theorem Arr.cells9 {w : World} {g : Nat} {t : TypeId} {a0 a1 a2 a3 a4 a5 a6 a7 a8 : Value} (h : Arr w g t [a0, a1, a2, a3, a4, a5, a6, a7, a8]) :
    w.cell? ⟨g, 0, none⟩ = some a0 ∧ w.cell? ⟨g, 1, none⟩ = some a1 ∧ w.cell? ⟨g, 2, none⟩ = some a2 ∧ w.cell? ⟨g, 3, none⟩ = some a3 ∧ w.cell? ⟨g, 4, none⟩ = some a4 ∧ w.cell? ⟨g, 5, none⟩ = some a5 ∧ w.cell? ⟨g, 6, none⟩ = some a6 ∧ w.cell? ⟨g, 7, none⟩ = some a7 ∧ w.cell? ⟨g, 8, none⟩ = some a8 :=
  ⟨h.cell rfl, h.cell rfl, h.cell rfl, h.cell rfl, h.cell rfl, h.cell rfl, h.cell rfl, h.cell rfl, h.cell rfl⟩

/-- Nine cells are written anew. -/
def set9 (w : World) (g : Nat) (v0 v1 v2 v3 v4 v5 v6 v7 v8 : Value) : World :=
  ((((((((w.setCell ⟨g, 0, none⟩ v0).setCell ⟨g, 1, none⟩ v1).setCell ⟨g, 2, none⟩ v2).setCell ⟨g, 3, none⟩ v3).setCell ⟨g, 4, none⟩ v4).setCell ⟨g, 5, none⟩ v5).setCell ⟨g, 6, none⟩ v6).setCell ⟨g, 7, none⟩ v7).setCell ⟨g, 8, none⟩ v8

theorem Arr.set9 {w : World} {g : Nat} {t : TypeId} {a0 a1 a2 a3 a4 a5 a6 a7 a8 : Value} (h : Arr w g t [a0, a1, a2, a3, a4, a5, a6, a7, a8]) (v0 v1 v2 v3 v4 v5 v6 v7 v8 : Value) :
    Arr (Proofs.YtcjmeaikdfgapaaDoor.set9 w g v0 v1 v2 v3 v4 v5 v6 v7 v8) g t [v0, v1, v2, v3, v4, v5, v6, v7, v8] :=
  ((((((((h.set 0 v0).set 1 v1).set 2 v2).set 3 v3).set 4 v4).set 5 v5).set 6 v6).set 7 v7).set 8 v8

theorem below_set9 {B : Nat} {w w' : World} (h : Below B w w') {g : Nat} (hg : B ≤ g) (v0 v1 v2 v3 v4 v5 v6 v7 v8 : Value) : Below B w (set9 w' g v0 v1 v2 v3 v4 v5 v6 v7 v8) :=
  ((((((((h.setCell (p := ⟨g, 0, none⟩) hg v0).setCell (p := ⟨g, 1, none⟩) hg v1).setCell (p := ⟨g, 2, none⟩) hg v2).setCell (p := ⟨g, 3, none⟩) hg v3).setCell (p := ⟨g, 4, none⟩) hg v4).setCell (p := ⟨g, 5, none⟩) hg v5).setCell (p := ⟨g, 6, none⟩) hg v6).setCell (p := ⟨g, 7, none⟩) hg v7).setCell (p := ⟨g, 8, none⟩) hg v8

theorem OwnStrs.set9 {base : Nat} {w : World} {ao : Option Addr} {ss : List ByteArray} (h : OwnStrs base w ao ss) {g : Nat} (hg : g < base) (v0 v1 v2 v3 v4 v5 v6 v7 v8 : Value) : OwnStrs base (Proofs.YtcjmeaikdfgapaaDoor.set9 w g v0 v1 v2 v3 v4 v5 v6 v7 v8) ao ss :=
  ((((((((h.put (p := ⟨g, 0, none⟩) hg v0).put (p := ⟨g, 1, none⟩) hg v1).put (p := ⟨g, 2, none⟩) hg v2).put (p := ⟨g, 3, none⟩) hg v3).put (p := ⟨g, 4, none⟩) hg v4).put (p := ⟨g, 5, none⟩) hg v5).put (p := ⟨g, 6, none⟩) hg v6).put (p := ⟨g, 7, none⟩) hg v7).put (p := ⟨g, 8, none⟩) hg v8

/-- A transaction is handed back. -/
def GotTx (W : World) (d : TxD) (e : Ending) (w : World) : Prop :=
  ∃ ra rc wa wc, e = .returned (txV d ra rc wa wc) ∧ TxAt w d ra wa ∧ (ra = none → rc = 0) ∧ (wa = none → wc = 0) ∧ Below W.heap.size W w

def payD : TxD := ⟨1, ⟨#[97, 98]⟩, ⟨#[99]⟩, 5, 1, ⟨#[]⟩, ⟨#[]⟩, [], [⟨#[97, 58, 97, 98]⟩, ⟨#[97, 58, 99]⟩]⟩

set_option maxRecDepth 100000 in
set_option maxHeartbeats 1000000 in
theorem own_any (d : TxD) (ra : Option Addr) (rc : Nat) (wa : Option Addr) (wc : Nat) (w : World) (hA : TxAt w d ra wa) (hr : ra = none → rc = 0) (hw : wa = none → wc = 0) (lr : d.rs.length * 16 ≤ 140737488351232) (lw : d.ws.length * 16 ≤ 140737488351232) :
    Calls Tryd.prog 14 #[txV d ra rc wa wc] w fun e w' => GotTx w d e w' := by
  obtain ⟨hX, hZ, hB⟩ := two_new w 33 33 (txC d ra rc wa wc) zeroC
  have hown0 := own_made ((w.alloc (.cells (txC d ra rc wa wc).toArray 33)).alloc (.cells zeroC.toArray 33)) (w.heap.size + 1 + 1) (by rw [alloc_size, alloc_size])
  have hB0 := hB.alloc hB.size (.cells #[] 9)
  have hXa := hX.alloc (.cells #[] 9)
  have hZa := hZ.alloc (.cells #[] 9)
  have hR0 := hA.rd.below hB0
  have hW := hA.wr
  have hs0 : w.heap.size + 1 + 1 ≤ (((w.alloc (.cells (txC d ra rc wa wc).toArray 33)).alloc (.cells zeroC.toArray 33)).alloc (.cells #[] 9)).heap.size := by rw [alloc_size, alloc_size, alloc_size]; omega
  clear hX hZ hB hA
  obtain ⟨kind, frm, to, amt, non, key, val, rs, ws⟩ := d
  replace lr : rs.length * 16 ≤ 140737488351232 := lr
  replace lw : ws.length * 16 ≤ 140737488351232 := lw
  unfold txV
  go_enter Tryd.func14, Tryd.ntmps14
  go_wp2_with (at_builtin; refine wpList_append_strs rfl _ _ rfl (w.heap.size + 1 + 1) _ rfl hown0 ra rc rs rfl hR0 hr (by omega) hs0 ?_)
  intro a1 c1 w1 hS1 hn1 hb1
  have hX1 := hXa.below hb1 (by omega)
  have hZ1 := hZa.below hb1 (by omega)
  have hB1 := hB0.trans (hb1.mono (by omega))
  have hsz1 : w.heap.size + 1 + 1 ≤ w1.heap.size := Nat.le_trans hs0 hb1.size
  clear hb1 hXa hZa hB0 hown0 hs0 hR0
  have hX2 := hX1.set 7 (.slice a1 rs.length c1)
  have hZ2 := hZ1.other (p := ⟨w.heap.size, 7, none⟩) (by show w.heap.size + 1 ≠ w.heap.size; omega) (.slice a1 rs.length c1)
  have hB2 := hB1.setCell (p := ⟨w.heap.size, 7, none⟩) (Nat.le_refl _) (.slice a1 rs.length c1)
  have z7 := hX1.frozen 7
  have k7 := hX1.cell (i := 7) rfl
  have k8 := hX1.cell (i := 8) rfl
  have hs2 : (w1.setCell ⟨w.heap.size, 7, none⟩ (.slice a1 rs.length c1)).heap.size = w1.heap.size := setCell_size _ _ _
  have hown1 := own_made (w1.setCell ⟨w.heap.size, 7, none⟩ (.slice a1 rs.length c1)) w1.heap.size hs2
  have hS2 := hS1.put (p := ⟨w.heap.size, 7, none⟩) (by show w.heap.size < _; omega) (.slice a1 rs.length c1)
  have hB3 := hB2.alloc (by rw [hs2]; omega) (.cells #[] 9)
  have hX3 := hX2.alloc (.cells #[] 9)
  have hZ3 := hZ2.alloc (.cells #[] 9)
  have hW3 := hW.below hB3
  have hS3 := hS2.below (belowNew _ (.cells #[] 9))
  have k8 := hX3.cell (i := 8) rfl
  have hs3 : w1.heap.size ≤ ((w1.setCell ⟨w.heap.size, 7, none⟩ (.slice a1 rs.length c1)).alloc (.cells #[] 9)).heap.size := by rw [alloc_size, hs2]; omega
  go_wp2_with (at_builtin; refine wpList_append_strs rfl _ _ rfl w1.heap.size _ rfl hown1 wa wc ws rfl hW3 hw (by omega) hs3 ?_)
  intro a2 c2 w2 hT2 hn2 hb2
  have hX4 := hX3.below hb2 (by omega)
  have hZ4 := hZ3.below hb2 (by omega)
  have hB4 := hB3.trans (hb2.mono (by omega))
  have hS4 : OwnStrs (w.heap.size + 1 + 1) w2 a1 rs := by
    intro j hj
    obtain ⟨b, off, h1, h2, h3, h4⟩ := hS1 j hj
    obtain ⟨b', off', h1', h2', h3', h4'⟩ := hS3 j hj
    rw [h1] at h1'
    simp at h1'
    obtain ⟨rfl, rfl⟩ := h1'
    exact ⟨b, off, h1, h2, Nat.lt_of_lt_of_le h3' hb2.size, by rw [hb2.cell (p := ⟨b, off + j, none⟩) h3]; exact h4'⟩
  have hsz2 : w.heap.size + 1 + 1 ≤ w2.heap.size := Nat.le_trans (Nat.le_trans hsz1 hs3) hb2.size
  clear hb2 hX3 hZ3 hB3 hW3 hS3 k8 hs3 hS2 hown1 hs2 k7 z7 hX2 hZ2 hB2 hX1 hZ1 hB1 hS1 hW
  have z8 := hX4.frozen 8
  have k8 := hX4.cell (i := 8) rfl
  have hX5 := hX4.set 8 (.slice a2 ws.length c2)
  have hZ5 := hZ4.other (p := ⟨w.heap.size, 8, none⟩) (by show w.heap.size + 1 ≠ w.heap.size; omega) (.slice a2 ws.length c2)
  have hB5 := hB4.setCell (p := ⟨w.heap.size, 8, none⟩) (Nat.le_refl _) (.slice a2 ws.length c2)
  have hS5 := hS4.put (p := ⟨w.heap.size, 8, none⟩) (by show w.heap.size < _; omega) (.slice a2 ws.length c2)
  have hT5 := hT2.put (p := ⟨w.heap.size, 8, none⟩) (by show w.heap.size < _; omega) (.slice a2 ws.length c2)
  replace hX5 : Arr (w2.setCell ⟨w.heap.size, 8, none⟩ (.slice a2 ws.length c2)) w.heap.size 33 (txC ⟨kind, frm, to, amt, non, key, val, rs, ws⟩ a1 c1 a2 c2) := hX5
  clear hX4 hZ4 hB4 hS4 hT2
  obtain ⟨w3, hw3⟩ : ∃ w3, Hid (w3 = w2.setCell ⟨w.heap.size, 8, none⟩ (.slice a2 ws.length c2)) := ⟨_, rfl⟩
  rw [← hw3.out] at hX5 hZ5 hB5 hS5 hT5
  have hw3' : w2.setCell ⟨w.heap.size, 8, none⟩ (.slice a2 ws.length c2) = w3 := hw3.out.symm
  have x0 := hX5.cell (i := 0) rfl
  have x1 := hX5.cell (i := 1) rfl
  have x2 := hX5.cell (i := 2) rfl
  have x3 := hX5.cell (i := 3) rfl
  have x4 := hX5.cell (i := 4) rfl
  have x5 := hX5.cell (i := 5) rfl
  have x6 := hX5.cell (i := 6) rfl
  have x7 := hX5.cell (i := 7) rfl
  have x8 := hX5.cell (i := 8) rfl
  have f0 := hZ5.frozen 0
  have f1 := hZ5.frozen 1
  have f2 := hZ5.frozen 2
  have f3 := hZ5.frozen 3
  have f4 := hZ5.frozen 4
  have f5 := hZ5.frozen 5
  have f6 := hZ5.frozen 6
  have f7 := hZ5.frozen 7
  have f8 := hZ5.frozen 8
  have y0 := hZ5.cell (i := 0) rfl
  have y1 := hZ5.cell (i := 1) rfl
  have y2 := hZ5.cell (i := 2) rfl
  have y3 := hZ5.cell (i := 3) rfl
  have y4 := hZ5.cell (i := 4) rfl
  have y5 := hZ5.cell (i := 5) rfl
  have y6 := hZ5.cell (i := 6) rfl
  have y7 := hZ5.cell (i := 7) rfl
  have y8 := hZ5.cell (i := 8) rfl

  go_wp2
  have hF := hZ5.set9 (.int .i64 kind) (.string frm) (.string to) (.int .u64 (amt : Int)) (.int .u64 (non : Int)) (.string key) (.string val) (.slice a1 rs.length c1) (.slice a2 ws.length c2)
  have hBF := below_set9 hB5 (g := w.heap.size + 1) (by omega) (.int .i64 kind) (.string frm) (.string to) (.int .u64 (amt : Int)) (.int .u64 (non : Int)) (.string key) (.string val) (.slice a1 rs.length c1) (.slice a2 ws.length c2)
  have hSF := hS5.set9 (g := w.heap.size + 1) (by omega) (.int .i64 kind) (.string frm) (.string to) (.int .u64 (amt : Int)) (.int .u64 (non : Int)) (.string key) (.string val) (.slice a1 rs.length c1) (.slice a2 ws.length c2)
  have hTF := hT5.set9 (g := w.heap.size + 1) (by omega) (.int .i64 kind) (.string frm) (.string to) (.int .u64 (amt : Int)) (.int .u64 (non : Int)) (.string key) (.string val) (.slice a1 rs.length c1) (.slice a2 ws.length c2)
  unfold set9 at hF hBF hSF hTF
  refine bodyPost_ret (v := txV ⟨kind, frm, to, amt, non, key, val, rs, ws⟩ a1 c1 a2 c2) ?r1 ?r2 ?r3
  case r1 => exact results_tx rfl _ _ (w.heap.size + 1) 33 ⟨kind, frm, to, amt, non, key, val, rs, ws⟩ _ _ _ _ rfl hF
  case r2 => rfl
  refine ⟨a1, c1, a2, c2, rfl, ⟨?_, ?_⟩, hn1, hn2, ?_⟩
  · with_reducible exact hSF.at
  · with_reducible exact hTF.at
  · with_reducible exact hBF
end Go.Proofs.YtcjmeaikdfgapaaDoor
