/- What tusklaw04.Own does: a transaction that shares nothing. -/
import Derived.Test.YtkgidmifgfoeiaaAccTx
import Derived.Laws.Rows
import Derived.Laws.ResultCell
namespace Go.Proofs.Ytkgidmifgfoeiaa
open Go Go.RowKit
set_option linter.unusedVariables false

theorem infoTxA : (Try.prog.info? 38).map (·.size) = some 9 := by kernel_rfl

def zeroTxC : List Value := [.int .i64 0, .string ⟨#[]⟩, .string ⟨#[]⟩, .int .u64 0, .int .u64 0, .string ⟨#[]⟩, .string ⟨#[]⟩, .slice none 0 0, .slice none 0 0]

theorem results_txA {fn : Func} {p : Tmp} (h : fn.results = #[.cell p 38]) (tmps : Array Value) (w : World) (g : Nat) (t : TypeId) (x : TxA)
    (hp : tmps.getD p undef = .pointer (some ⟨g, 0, none⟩)) (hg : Arr w g t x.c) :
    (results fn tmps).run Try.prog w = .ok x.v w :=
  results_cell_row h tmps w g t x.c.toArray (0, 0) _ hp hg Try.underlying38 rfl infoTxA

/-- Nine cells are written anew. -/
def set9A (w : World) (g : Nat) (v0 v1 v2 v3 v4 v5 v6 v7 v8 : Value) : World :=
  ((((((((w.setCell ⟨g, 0, none⟩ v0).setCell ⟨g, 1, none⟩ v1).setCell ⟨g, 2, none⟩ v2).setCell ⟨g, 3, none⟩ v3).setCell ⟨g, 4, none⟩ v4).setCell ⟨g, 5, none⟩ v5).setCell ⟨g, 6, none⟩ v6).setCell ⟨g, 7, none⟩ v7).setCell ⟨g, 8, none⟩ v8

theorem Arr.set9A {w : World} {g : Nat} {t : TypeId} {a0 a1 a2 a3 a4 a5 a6 a7 a8 : Value} (h : Arr w g t [a0, a1, a2, a3, a4, a5, a6, a7, a8]) (v0 v1 v2 v3 v4 v5 v6 v7 v8 : Value) :
    Arr (Proofs.Ytkgidmifgfoeiaa.set9A w g v0 v1 v2 v3 v4 v5 v6 v7 v8) g t [v0, v1, v2, v3, v4, v5, v6, v7, v8] :=
  ((((((((h.set 0 v0).set 1 v1).set 2 v2).set 3 v3).set 4 v4).set 5 v5).set 6 v6).set 7 v7).set 8 v8

theorem kept_set9A (w : World) (g : Nat) (v0 v1 v2 v3 v4 v5 v6 v7 v8 : Value) : Kept (fun k => k = g) w (set9A w g v0 v1 v2 v3 v4 v5 v6 v7 v8) := by
  have h0 : Kept (fun k => k = g) w (w.setCell ⟨g, 0, none⟩ v0) := Kept.setCell w ⟨g, 0, none⟩ v0
  have h1 := h0.set (p := ⟨g, 1, none⟩) (Eq.refl g) v1
  have h2 := h1.set (p := ⟨g, 2, none⟩) (Eq.refl g) v2
  have h3 := h2.set (p := ⟨g, 3, none⟩) (Eq.refl g) v3
  have h4 := h3.set (p := ⟨g, 4, none⟩) (Eq.refl g) v4
  have h5 := h4.set (p := ⟨g, 5, none⟩) (Eq.refl g) v5
  have h6 := h5.set (p := ⟨g, 6, none⟩) (Eq.refl g) v6
  have h7 := h6.set (p := ⟨g, 7, none⟩) (Eq.refl g) v7
  exact h7.set (p := ⟨g, 8, none⟩) (Eq.refl g) v8

/-- A transaction of the call's own is handed back. -/
def GotOwnA (W : World) (x : TxA) (e : Ending) (w : World) : Prop :=
  ∃ y : TxA, e = .returned y.v ∧ y.rs = x.rs ∧ y.ws = x.ws ∧ TxA.At w y ∧ KQ textK 9 w W.heap.size (.slice y.wa y.ws.length y.wc) y.ws ∧ (∀ b, txA.foot y b → W.heap.size ≤ b) ∧ Below W.heap.size W w

set_option maxRecDepth 100000 in
set_option maxHeartbeats 1000000 in
theorem ownA_any (x : TxA) (w : World) (hA : TxA.At w x) (lr : x.rs.length ≤ 1000000) (lw : x.ws.length ≤ 1000000) :
    Calls Try.prog 20 #[x.v] w fun e w' => GotOwnA w x e w' := by
  obtain ⟨hX, hZ, hB⟩ := two_new w 38 38 x.c zeroTxC
  obtain ⟨is, zs, hi0, hz0, hz1, hz2, hz3⟩ := strInfoT
  obtain ⟨hrd, hwr, hnr, hnw, hzr, hzw⟩ := hA
  obtain ⟨kind, frm, dst, amt, non, key, val, rs, ws, ra, rc, wa, wc⟩ := x
  replace lr : rs.length ≤ 1000000 := lr
  replace lw : ws.length ≤ 1000000 := lw
  replace hrd : RowAt textK w ra rs := hrd
  replace hwr : RowAt textK w wa ws := hwr
  have hQ0 : KQ textK 9 (((w.alloc (.cells (TxA.c ⟨kind, frm, dst, amt, non, key, val, rs, ws, ra, rc, wa, wc⟩).toArray 38)).alloc (.cells zeroTxC.toArray 38)).alloc (.cells #[] 9)) w.heap.size (.slice (some ⟨w.heap.size + 1 + 1, 0, none⟩) 0 0) [] := by
    have := KQ.madeA (K := textK) (T := 9) ((w.alloc (.cells (TxA.c ⟨kind, frm, dst, amt, non, key, val, rs, ws, ra, rc, wa, wc⟩).toArray 38)).alloc (.cells zeroTxC.toArray 38)) w.heap.size (by rw [alloc_size, alloc_size]; omega)
    rw [alloc_size, alloc_size] at this
    exact this
  have hB0 := hB.alloc hB.size (.cells #[] 9)
  have hXa := hX.alloc (.cells #[] 9)
  have hZa := hZ.alloc (.cells #[] 9)
  have hR0 := hrd.below hB0
  have hs0 : w.heap.size ≤ (((w.alloc (.cells (TxA.c ⟨kind, frm, dst, amt, non, key, val, rs, ws, ra, rc, wa, wc⟩).toArray 38)).alloc (.cells zeroTxC.toArray 38)).alloc (.cells #[] 9)).heap.size := hB0.size
  have m1 : ([] : List ByteArray).length + rs.length ≤ maxLen := by unfold maxLen; simp; omega
  have m2 : (([] : List ByteArray).length + rs.length) * 16 ≤ 140737488355328 := by simp; omega
  have m3 : ([] : List ByteArray).length + ws.length ≤ maxLen := by unfold maxLen; simp; omega
  have m4 : (([] : List ByteArray).length + ws.length) * 16 ≤ 140737488355328 := by simp; omega
  clear hX hZ hB
  unfold TxA.v
  go_enter Try.func20, Try.ntmps20
  go_wp2_with (at_builtin; refine wpList_joins (K := textK) rfl _ _ 36 rfl w.heap.size 9 is _ 16 Try.underlying36 hi0 hz0 hz1 hz2 hz3 _ [] rs rfl hQ0 (fun _ _ h => h.elim) ra rc rfl hR0 m1 m2 hs0 ?_)
  intro a1 c1 w1 hQ1 hk1 hf1
  have hne1 : ∀ k, (Value.slice (some ⟨w.heap.size + 1 + 1, 0, none⟩) 0 0).ownBlock = some k → w.heap.size + 1 + 1 ≤ k := fun k e => by
    simp only [Value.ownBlock, Option.some.injEq] at e
    omega
  have hX1 := hXa.kept hk1 (fun e => by have := hne1 _ e; omega)
  have hZ1 := hZa.kept hk1 (fun e => by have := hne1 _ e; omega)
  have hB1 := hB0.trans (hk1.below hs0 (fun k e => by have := hne1 k e; omega))
  have hlo1 : Hid (∀ k, (Value.slice a1 rs.length c1).ownBlock = some k → w.heap.size + 1 + 1 ≤ k) := fun k e => by
    rcases hf1 k e with h | h
    · exact hne1 k h
    · rw [alloc_size, alloc_size, alloc_size] at h
      omega
  clear hk1 hf1 hXa hZa hB0 hR0 hs0 hQ0 hne1
  have z7 := hX1.frozen 7
  have k7 := hX1.cell (i := 7) rfl
  have k8 := hX1.cell (i := 8) rfl
  have hX2 := hX1.set 7 (.slice a1 rs.length c1)
  have hZ2 := hZ1.other (p := ⟨w.heap.size, 7, none⟩) (by show w.heap.size + 1 ≠ w.heap.size; omega) (.slice a1 rs.length c1)
  have hB2 := hB1.setCell (p := ⟨w.heap.size, 7, none⟩) (Nat.le_refl _) (.slice a1 rs.length c1)
  have hQ2 := hQ1.kept (Kept.setCell w1 ⟨w.heap.size, 7, none⟩ (.slice a1 rs.length c1)) (fun k e e2 => by have := hlo1.out k e; have e3 : k = w.heap.size := e2; omega) (fun _ _ _ h => h.elim)
  obtain ⟨w2, hw2⟩ : ∃ q, w1.setCell ⟨w.heap.size, 7, none⟩ (.slice a1 rs.length c1) = q := ⟨_, rfl⟩
  rw [hw2] at hX2 hZ2 hB2 hQ2
  have hQb := KQ.madeA (K := textK) (T := 9) w2 w.heap.size hB2.size
  have hbn := belowNew w2 (.cells #[] 9)
  have hX3 := hX2.alloc (.cells #[] 9)
  have hZ3 := hZ2.alloc (.cells #[] 9)
  have hB3 := hB2.alloc hB2.size (.cells #[] 9)
  have hQ3 := hQ2.below hbn
  have hW3 := hwr.below hB3
  have k8 := hX3.cell (i := 8) rfl
  have hs3 := hB3.size
  have hgt : w.heap.size + 1 < w2.heap.size := hZ2.lt
  go_wp2_with (at_builtin; refine wpList_joins (K := textK) rfl _ _ 36 rfl w.heap.size 9 is _ 16 Try.underlying36 hi0 hz0 hz1 hz2 hz3 _ [] ws rfl hQb (fun _ _ h => h.elim) wa wc rfl hW3 m3 m4 hs3 ?_)
  intro a2 c2 w3 hQ4 hk4 hf4
  have hne4 : ∀ k, (Value.slice (some ⟨w2.heap.size, 0, none⟩) 0 0).ownBlock = some k → k = w2.heap.size := fun k e => by
    simp only [Value.ownBlock, Option.some.injEq] at e
    omega
  have hX4 := hX3.kept hk4 (fun e => by have := hne4 _ e; omega)
  have hZ4 := hZ3.kept hk4 (fun e => by have := hne4 _ e; omega)
  have hB4 := hB3.trans (hk4.below hs3 (fun k e => by have := hne4 k e; omega))
  have hQ5 := hQ3.kept hk4 (fun k e e2 => by have := (hQ2.lt k e).2; have := hne4 k e2; omega) (fun _ _ _ h => h.elim)
  have hlo4 : Hid (∀ k, (Value.slice a2 ws.length c2).ownBlock = some k → w2.heap.size ≤ k) := fun k e => by
    rcases hf4 k e with h | h
    · have := hne4 k h; omega
    · rw [alloc_size] at h
      omega
  clear hk4 hf4 hX3 hZ3 hB3 hQ3 hW3 hs3 hQb hbn hne4 hX2 hZ2 hB2 hQ2 hX1 hZ1 hB1 hQ1 z7 k7 k8 hrd hwr hw2 m1 m2 m3 m4 lr lw
  have z8 := hX4.frozen 8
  have k8 := hX4.cell (i := 8) rfl
  have hX5 := hX4.set 8 (.slice a2 ws.length c2)
  have hZ5 := hZ4.other (p := ⟨w.heap.size, 8, none⟩) (by show w.heap.size + 1 ≠ w.heap.size; omega) (.slice a2 ws.length c2)
  have hB5 := hB4.setCell (p := ⟨w.heap.size, 8, none⟩) (Nat.le_refl _) (.slice a2 ws.length c2)
  have hQ6 := hQ5.kept (Kept.setCell w3 ⟨w.heap.size, 8, none⟩ (.slice a2 ws.length c2)) (fun k e e2 => by have := hlo1.out k e; have e3 : k = w.heap.size := e2; omega) (fun _ _ _ h => h.elim)
  have hQ7 := hQ4.kept (Kept.setCell w3 ⟨w.heap.size, 8, none⟩ (.slice a2 ws.length c2)) (fun k e e2 => by have := hlo4.out k e; have e3 : k = w.heap.size := e2; omega) (fun _ _ _ h => h.elim)
  replace hX5 : Arr (w3.setCell ⟨w.heap.size, 8, none⟩ (.slice a2 ws.length c2)) w.heap.size 38 (TxA.c ⟨kind, frm, dst, amt, non, key, val, rs, ws, a1, c1, a2, c2⟩) := hX5
  clear hX4 hZ4 hB4 hQ5 hQ4
  obtain ⟨w4, hw4⟩ : ∃ q, w3.setCell ⟨w.heap.size, 8, none⟩ (.slice a2 ws.length c2) = q := ⟨_, rfl⟩
  rw [hw4] at hX5 hZ5 hB5 hQ6 hQ7
  have x0 := hX5.cell (i := 0) rfl
  have x1 := hX5.cell (i := 1) rfl
  have x2 := hX5.cell (i := 2) rfl
  have x3 := hX5.cell (i := 3) rfl
  have x4 := hX5.cell (i := 4) rfl
  have x5 := hX5.cell (i := 5) rfl
  have x6 := hX5.cell (i := 6) rfl
  have x7 := hX5.cell (i := 7) rfl
  have x8 := hX5.cell (i := 8) rfl
  have f0 := hZ5.frozen 0
  have f1 := hZ5.frozen 1
  have f2 := hZ5.frozen 2
  have f3 := hZ5.frozen 3
  have f4 := hZ5.frozen 4
  have f5 := hZ5.frozen 5
  have f6 := hZ5.frozen 6
  have f7 := hZ5.frozen 7
  have f8 := hZ5.frozen 8
  have y0 := hZ5.cell (i := 0) rfl
  have y1 := hZ5.cell (i := 1) rfl
  have y2 := hZ5.cell (i := 2) rfl
  have y3 := hZ5.cell (i := 3) rfl
  have y4 := hZ5.cell (i := 4) rfl
  have y5 := hZ5.cell (i := 5) rfl
  have y6 := hZ5.cell (i := 6) rfl
  have y7 := hZ5.cell (i := 7) rfl
  have y8 := hZ5.cell (i := 8) rfl
  go_wp2
  have hF := hZ5.set9A (.int .i64 kind) (.string frm) (.string dst) (.int .u64 amt) (.int .u64 non) (.string key) (.string val) (.slice a1 rs.length c1) (.slice a2 ws.length c2)
  have hKF := kept_set9A w4 (w.heap.size + 1) (.int .i64 kind) (.string frm) (.string dst) (.int .u64 amt) (.int .u64 non) (.string key) (.string val) (.slice a1 rs.length c1) (.slice a2 ws.length c2)
  have hBF := hB5.trans (hKF.below hB5.size (fun k e => by have e3 : k = w.heap.size + 1 := e; omega))
  have hQ8 := hQ6.kept hKF (fun k e e2 => by have := hlo1.out k e; have e3 : k = w.heap.size + 1 := e2; omega) (fun _ _ _ h => h.elim)
  have hQ9 := hQ7.kept hKF (fun k e e2 => by have := hlo4.out k e; have e3 : k = w.heap.size + 1 := e2; omega) (fun _ _ _ h => h.elim)
  unfold set9A at hF hBF hQ8 hQ9
  refine bodyPost_ret (v := TxA.v ⟨kind, frm, dst, amt, non, key, val, rs, ws, a1, c1, a2, c2⟩) ?r1 ?r2 ?r3
  case r1 => exact results_txA rfl _ _ (w.heap.size + 1) 38 ⟨kind, frm, dst, amt, non, key, val, rs, ws, a1, c1, a2, c2⟩ rfl hF
  case r2 => rfl
  refine ⟨⟨kind, frm, dst, amt, non, key, val, rs, ws, a1, c1, a2, c2⟩, rfl, rfl, rfl, ⟨hQ8.rowOf.1, hQ9.rowOf.1, fun e => hQ8.nil rs.length c1 (by rw [show a1 = none from e]), fun e => hQ9.nil ws.length c2 (by rw [show a2 = none from e]), hzr, hzw⟩, hQ9, fun b hb => ?_, hBF⟩
  rcases hb with hb | hb
  · exact hQ8.foot_ge (Nat.le_refl _) (fun _ _ _ h => h.elim) b hb
  · exact hQ9.foot_ge (Nat.le_refl _) (fun _ _ _ h => h.elim) b hb
end Go.Proofs.Ytkgidmifgfoeiaa
