/- Texts as one: AccOwn, AccUnion, AccLeast, MapStr, AccClash, AccGroups, AccLast, AccOwnL. -/
import Derived.Test.YtajpfkenhchafaaDoorEd05
import Derived.Laws.Rows
import Derived.Laws.ResultCell
import Derived.Test.YtajpfkenhchafaaDoorEd02
import Derived.Laws.OwnMore
import Derived.Test.YtajpfkenhchafaaDoorEd04
import Derived.Maps.OwnSet
import Derived.Maps.OwnOps
import Derived.StringKeys
/- What tusklaw04.Own does: a transaction that shares nothing. -/
namespace Go.Proofs.YtajpfkenhchafaaDoor
open Go Go.RowKit
set_option linter.unusedVariables false

theorem infoTxA : (Tryd.prog.info? 50).map (·.size) = some 9 := by kernel_rfl

def zeroTxC : List Value := [.int .i64 0, .string ⟨#[]⟩, .string ⟨#[]⟩, .int .u64 0, .int .u64 0, .string ⟨#[]⟩, .string ⟨#[]⟩, .slice none 0 0, .slice none 0 0]

theorem results_txA {fn : Func} {p : Tmp} (h : fn.results = #[.cell p 50]) (tmps : Array Value) (w : World) (g : Nat) (t : TypeId) (x : TxA)
    (hp : tmps.getD p undef = .pointer (some ⟨g, 0, none⟩)) (hg : Arr w g t x.c) :
    (results fn tmps).run Tryd.prog w = .ok x.v w :=
  results_cell_row h tmps w g t x.c.toArray (0, 0) _ hp hg Tryd.underlying50 rfl infoTxA

/-- Nine cells are written anew. -/
def set9A (w : World) (g : Nat) (v0 v1 v2 v3 v4 v5 v6 v7 v8 : Value) : World :=
  ((((((((w.setCell ⟨g, 0, none⟩ v0).setCell ⟨g, 1, none⟩ v1).setCell ⟨g, 2, none⟩ v2).setCell ⟨g, 3, none⟩ v3).setCell ⟨g, 4, none⟩ v4).setCell ⟨g, 5, none⟩ v5).setCell ⟨g, 6, none⟩ v6).setCell ⟨g, 7, none⟩ v7).setCell ⟨g, 8, none⟩ v8

theorem Arr.set9A {w : World} {g : Nat} {t : TypeId} {a0 a1 a2 a3 a4 a5 a6 a7 a8 : Value} (h : Arr w g t [a0, a1, a2, a3, a4, a5, a6, a7, a8]) (v0 v1 v2 v3 v4 v5 v6 v7 v8 : Value) :
    Arr (Proofs.YtajpfkenhchafaaDoor.set9A w g v0 v1 v2 v3 v4 v5 v6 v7 v8) g t [v0, v1, v2, v3, v4, v5, v6, v7, v8] :=
  ((((((((h.set 0 v0).set 1 v1).set 2 v2).set 3 v3).set 4 v4).set 5 v5).set 6 v6).set 7 v7).set 8 v8

theorem kept_set9A (w : World) (g : Nat) (v0 v1 v2 v3 v4 v5 v6 v7 v8 : Value) : Kept (fun k => k = g) w (set9A w g v0 v1 v2 v3 v4 v5 v6 v7 v8) := by
  have h0 : Kept (fun k => k = g) w (w.setCell ⟨g, 0, none⟩ v0) := Kept.setCell w ⟨g, 0, none⟩ v0
  have h1 := h0.set (p := ⟨g, 1, none⟩) (Eq.refl g) v1
  have h2 := h1.set (p := ⟨g, 2, none⟩) (Eq.refl g) v2
  have h3 := h2.set (p := ⟨g, 3, none⟩) (Eq.refl g) v3
  have h4 := h3.set (p := ⟨g, 4, none⟩) (Eq.refl g) v4
  have h5 := h4.set (p := ⟨g, 5, none⟩) (Eq.refl g) v5
  have h6 := h5.set (p := ⟨g, 6, none⟩) (Eq.refl g) v6
  have h7 := h6.set (p := ⟨g, 7, none⟩) (Eq.refl g) v7
  exact h7.set (p := ⟨g, 8, none⟩) (Eq.refl g) v8

/-- The same, wherever its lists lie. -/
structure TxA.Like (y x : TxA) : Prop where
  kind : y.kind = x.kind
  frm : y.frm = x.frm
  dst : y.dst = x.dst
  amt : y.amt = x.amt
  non : y.non = x.non
  key : y.key = x.key
  val : y.val = x.val
  rs : y.rs = x.rs
  ws : y.ws = x.ws

/-- A transaction of the call's own is handed back, the same in all. -/
def GotOwnF (W : World) (x : TxA) (e : Ending) (w : World) : Prop :=
  ∃ y : TxA, e = .returned y.v ∧ y.Like x ∧ TxA.At w y ∧ KQ textK 9 w W.heap.size (.slice y.wa y.ws.length y.wc) y.ws ∧ (∀ b, txA.foot y b → W.heap.size ≤ b) ∧ Below W.heap.size W w

/-- A transaction of the call's own is handed back. -/
def GotOwnA (W : World) (x : TxA) (e : Ending) (w : World) : Prop :=
  ∃ y : TxA, e = .returned y.v ∧ y.rs = x.rs ∧ y.ws = x.ws ∧ TxA.At w y ∧ KQ textK 9 w W.heap.size (.slice y.wa y.ws.length y.wc) y.ws ∧ (∀ b, txA.foot y b → W.heap.size ≤ b) ∧ Below W.heap.size W w

set_option maxRecDepth 100000 in
set_option maxHeartbeats 1000000 in
theorem ownA_full (x : TxA) (w : World) (hA : TxA.At w x) (lr : x.rs.length ≤ 1000000) (lw : x.ws.length ≤ 1000000) :
    Calls Tryd.prog 26 #[x.v] w fun e w' => GotOwnF w x e w' := by
  obtain ⟨hX, hZ, hB⟩ := two_new w 50 50 x.c zeroTxC
  obtain ⟨is, zs, hi0, hz0, hz1, hz2, hz3⟩ := strInfoT
  obtain ⟨hrd, hwr, hnr, hnw, hzr, hzw⟩ := hA
  obtain ⟨kind, frm, dst, amt, non, key, val, rs, ws, ra, rc, wa, wc⟩ := x
  replace lr : rs.length ≤ 1000000 := lr
  replace lw : ws.length ≤ 1000000 := lw
  replace hrd : RowAt textK w ra rs := hrd
  replace hwr : RowAt textK w wa ws := hwr
  have hQ0 : KQ textK 9 (((w.alloc (.cells (TxA.c ⟨kind, frm, dst, amt, non, key, val, rs, ws, ra, rc, wa, wc⟩).toArray 50)).alloc (.cells zeroTxC.toArray 50)).alloc (.cells #[] 9)) w.heap.size (.slice (some ⟨w.heap.size + 1 + 1, 0, none⟩) 0 0) [] := by
    have := KQ.madeA (K := textK) (T := 9) ((w.alloc (.cells (TxA.c ⟨kind, frm, dst, amt, non, key, val, rs, ws, ra, rc, wa, wc⟩).toArray 50)).alloc (.cells zeroTxC.toArray 50)) w.heap.size (by rw [alloc_size, alloc_size]; omega)
    rw [alloc_size, alloc_size] at this
    exact this
  have hB0 := hB.alloc hB.size (.cells #[] 9)
  have hXa := hX.alloc (.cells #[] 9)
  have hZa := hZ.alloc (.cells #[] 9)
  have hR0 := hrd.below hB0
  have hs0 : w.heap.size ≤ (((w.alloc (.cells (TxA.c ⟨kind, frm, dst, amt, non, key, val, rs, ws, ra, rc, wa, wc⟩).toArray 50)).alloc (.cells zeroTxC.toArray 50)).alloc (.cells #[] 9)).heap.size := hB0.size
  have m1 : ([] : List ByteArray).length + rs.length ≤ maxLen := by unfold maxLen; simp; omega
  have m2 : (([] : List ByteArray).length + rs.length) * 16 ≤ 140737488355328 := by simp; omega
  have m3 : ([] : List ByteArray).length + ws.length ≤ maxLen := by unfold maxLen; simp; omega
  have m4 : (([] : List ByteArray).length + ws.length) * 16 ≤ 140737488355328 := by simp; omega
  clear hX hZ hB
  unfold TxA.v
  go_enter Tryd.func26, Tryd.ntmps26
  go_wp2_with (at_builtin; refine wpList_joins (K := textK) rfl _ _ 22 rfl w.heap.size 9 is _ 16 Tryd.underlying22 hi0 hz0 hz1 hz2 hz3 _ [] rs rfl hQ0 (fun _ _ h => h.elim) ra rc rfl hR0 m1 m2 hs0 ?_)
  intro a1 c1 w1 hQ1 hk1 hf1
  have hne1 : ∀ k, (Value.slice (some ⟨w.heap.size + 1 + 1, 0, none⟩) 0 0).ownBlock = some k → w.heap.size + 1 + 1 ≤ k := fun k e => by
    simp only [Value.ownBlock, Option.some.injEq] at e
    omega
  have hX1 := hXa.kept hk1 (fun e => by have := hne1 _ e; omega)
  have hZ1 := hZa.kept hk1 (fun e => by have := hne1 _ e; omega)
  have hB1 := hB0.trans (hk1.below hs0 (fun k e => by have := hne1 k e; omega))
  have hlo1 : Hid (∀ k, (Value.slice a1 rs.length c1).ownBlock = some k → w.heap.size + 1 + 1 ≤ k) := fun k e => by
    rcases hf1 k e with h | h
    · exact hne1 k h
    · rw [alloc_size, alloc_size, alloc_size] at h
      omega
  clear hk1 hf1 hXa hZa hB0 hR0 hs0 hQ0 hne1
  have z7 := hX1.frozen 7
  have k7 := hX1.cell (i := 7) rfl
  have k8 := hX1.cell (i := 8) rfl
  have hX2 := hX1.set 7 (.slice a1 rs.length c1)
  have hZ2 := hZ1.other (p := ⟨w.heap.size, 7, none⟩) (by show w.heap.size + 1 ≠ w.heap.size; omega) (.slice a1 rs.length c1)
  have hB2 := hB1.setCell (p := ⟨w.heap.size, 7, none⟩) (Nat.le_refl _) (.slice a1 rs.length c1)
  have hQ2 := hQ1.kept (Kept.setCell w1 ⟨w.heap.size, 7, none⟩ (.slice a1 rs.length c1)) (fun k e e2 => by have := hlo1.out k e; have e3 : k = w.heap.size := e2; omega) (fun _ _ _ h => h.elim)
  obtain ⟨w2, hw2⟩ : ∃ q, w1.setCell ⟨w.heap.size, 7, none⟩ (.slice a1 rs.length c1) = q := ⟨_, rfl⟩
  rw [hw2] at hX2 hZ2 hB2 hQ2
  have hQb := KQ.madeA (K := textK) (T := 9) w2 w.heap.size hB2.size
  have hbn := belowNew w2 (.cells #[] 9)
  have hX3 := hX2.alloc (.cells #[] 9)
  have hZ3 := hZ2.alloc (.cells #[] 9)
  have hB3 := hB2.alloc hB2.size (.cells #[] 9)
  have hQ3 := hQ2.below hbn
  have hW3 := hwr.below hB3
  have k8 := hX3.cell (i := 8) rfl
  have hs3 := hB3.size
  have hgt : w.heap.size + 1 < w2.heap.size := hZ2.lt
  go_wp2_with (at_builtin; refine wpList_joins (K := textK) rfl _ _ 22 rfl w.heap.size 9 is _ 16 Tryd.underlying22 hi0 hz0 hz1 hz2 hz3 _ [] ws rfl hQb (fun _ _ h => h.elim) wa wc rfl hW3 m3 m4 hs3 ?_)
  intro a2 c2 w3 hQ4 hk4 hf4
  have hne4 : ∀ k, (Value.slice (some ⟨w2.heap.size, 0, none⟩) 0 0).ownBlock = some k → k = w2.heap.size := fun k e => by
    simp only [Value.ownBlock, Option.some.injEq] at e
    omega
  have hX4 := hX3.kept hk4 (fun e => by have := hne4 _ e; omega)
  have hZ4 := hZ3.kept hk4 (fun e => by have := hne4 _ e; omega)
  have hB4 := hB3.trans (hk4.below hs3 (fun k e => by have := hne4 k e; omega))
  have hQ5 := hQ3.kept hk4 (fun k e e2 => by have := (hQ2.lt k e).2; have := hne4 k e2; omega) (fun _ _ _ h => h.elim)
  have hlo4 : Hid (∀ k, (Value.slice a2 ws.length c2).ownBlock = some k → w2.heap.size ≤ k) := fun k e => by
    rcases hf4 k e with h | h
    · have := hne4 k h; omega
    · rw [alloc_size] at h
      omega
  clear hk4 hf4 hX3 hZ3 hB3 hQ3 hW3 hs3 hQb hbn hne4 hX2 hZ2 hB2 hQ2 hX1 hZ1 hB1 hQ1 z7 k7 k8 hrd hwr hw2 m1 m2 m3 m4 lr lw
  have z8 := hX4.frozen 8
  have k8 := hX4.cell (i := 8) rfl
  have hX5 := hX4.set 8 (.slice a2 ws.length c2)
  have hZ5 := hZ4.other (p := ⟨w.heap.size, 8, none⟩) (by show w.heap.size + 1 ≠ w.heap.size; omega) (.slice a2 ws.length c2)
  have hB5 := hB4.setCell (p := ⟨w.heap.size, 8, none⟩) (Nat.le_refl _) (.slice a2 ws.length c2)
  have hQ6 := hQ5.kept (Kept.setCell w3 ⟨w.heap.size, 8, none⟩ (.slice a2 ws.length c2)) (fun k e e2 => by have := hlo1.out k e; have e3 : k = w.heap.size := e2; omega) (fun _ _ _ h => h.elim)
  have hQ7 := hQ4.kept (Kept.setCell w3 ⟨w.heap.size, 8, none⟩ (.slice a2 ws.length c2)) (fun k e e2 => by have := hlo4.out k e; have e3 : k = w.heap.size := e2; omega) (fun _ _ _ h => h.elim)
  replace hX5 : Arr (w3.setCell ⟨w.heap.size, 8, none⟩ (.slice a2 ws.length c2)) w.heap.size 50 (TxA.c ⟨kind, frm, dst, amt, non, key, val, rs, ws, a1, c1, a2, c2⟩) := hX5
  clear hX4 hZ4 hB4 hQ5 hQ4
  obtain ⟨w4, hw4⟩ : ∃ q, w3.setCell ⟨w.heap.size, 8, none⟩ (.slice a2 ws.length c2) = q := ⟨_, rfl⟩
  rw [hw4] at hX5 hZ5 hB5 hQ6 hQ7
  have x0 := hX5.cell (i := 0) rfl
  have x1 := hX5.cell (i := 1) rfl
  have x2 := hX5.cell (i := 2) rfl
  have x3 := hX5.cell (i := 3) rfl
  have x4 := hX5.cell (i := 4) rfl
  have x5 := hX5.cell (i := 5) rfl
  have x6 := hX5.cell (i := 6) rfl
  have x7 := hX5.cell (i := 7) rfl
  have x8 := hX5.cell (i := 8) rfl
  have f0 := hZ5.frozen 0
  have f1 := hZ5.frozen 1
  have f2 := hZ5.frozen 2
  have f3 := hZ5.frozen 3
  have f4 := hZ5.frozen 4
  have f5 := hZ5.frozen 5
  have f6 := hZ5.frozen 6
  have f7 := hZ5.frozen 7
  have f8 := hZ5.frozen 8
  have y0 := hZ5.cell (i := 0) rfl
  have y1 := hZ5.cell (i := 1) rfl
  have y2 := hZ5.cell (i := 2) rfl
  have y3 := hZ5.cell (i := 3) rfl
  have y4 := hZ5.cell (i := 4) rfl
  have y5 := hZ5.cell (i := 5) rfl
  have y6 := hZ5.cell (i := 6) rfl
  have y7 := hZ5.cell (i := 7) rfl
  have y8 := hZ5.cell (i := 8) rfl
  go_wp2
  have hF := hZ5.set9A (.int .i64 kind) (.string frm) (.string dst) (.int .u64 amt) (.int .u64 non) (.string key) (.string val) (.slice a1 rs.length c1) (.slice a2 ws.length c2)
  have hKF := kept_set9A w4 (w.heap.size + 1) (.int .i64 kind) (.string frm) (.string dst) (.int .u64 amt) (.int .u64 non) (.string key) (.string val) (.slice a1 rs.length c1) (.slice a2 ws.length c2)
  have hBF := hB5.trans (hKF.below hB5.size (fun k e => by have e3 : k = w.heap.size + 1 := e; omega))
  have hQ8 := hQ6.kept hKF (fun k e e2 => by have := hlo1.out k e; have e3 : k = w.heap.size + 1 := e2; omega) (fun _ _ _ h => h.elim)
  have hQ9 := hQ7.kept hKF (fun k e e2 => by have := hlo4.out k e; have e3 : k = w.heap.size + 1 := e2; omega) (fun _ _ _ h => h.elim)
  unfold set9A at hF hBF hQ8 hQ9
  refine bodyPost_ret (v := TxA.v ⟨kind, frm, dst, amt, non, key, val, rs, ws, a1, c1, a2, c2⟩) ?r1 ?r2 ?r3
  case r1 => exact results_txA rfl _ _ (w.heap.size + 1) 50 ⟨kind, frm, dst, amt, non, key, val, rs, ws, a1, c1, a2, c2⟩ rfl hF
  case r2 => rfl
  refine ⟨⟨kind, frm, dst, amt, non, key, val, rs, ws, a1, c1, a2, c2⟩, rfl, ⟨rfl, rfl, rfl, rfl, rfl, rfl, rfl, rfl, rfl⟩, ⟨hQ8.rowOf.1, hQ9.rowOf.1, fun e => hQ8.nil rs.length c1 (by rw [show a1 = none from e]), fun e => hQ9.nil ws.length c2 (by rw [show a2 = none from e]), hzr, hzw⟩, hQ9, fun b hb => ?_, hBF⟩
  rcases hb with hb | hb
  · exact hQ8.foot_ge (Nat.le_refl _) (fun _ _ _ h => h.elim) b hb
  · exact hQ9.foot_ge (Nat.le_refl _) (fun _ _ _ h => h.elim) b hb

theorem ownA_any (x : TxA) (w : World) (hA : TxA.At w x) (lr : x.rs.length ≤ 1000000) (lw : x.ws.length ≤ 1000000) :
    Calls Tryd.prog 26 #[x.v] w fun e w' => GotOwnA w x e w' := by
  refine (ownA_full x w hA lr lw).mono ?_
  rintro e w' ⟨y, rfl, h, h1, h2, h3, h4⟩
  exact ⟨y, rfl, h.rs, h.ws, h1, h2, h3, h4⟩
end Go.Proofs.YtajpfkenhchafaaDoor

/- Layer 20's mathematics: members that point to lesser ones of their group, and what is joined. -/
namespace Go.Proofs.YtajpfkenhchafaaDoor
open Go.RowKit
set_option linter.unusedVariables false

/-- Where member i points to. -/
def up (g : List Nat) (i : Nat) : Nat := g.getD i i

theorem up_lt {g : List Nat} {i : Nat} (h : i < g.length) : up g i = g.getD i 0 := by
  unfold up
  simp only [List.getD_eq_getElem?_getD, List.getElem?_eq_getElem h]
  rfl

theorem up_get {g : List Nat} {i v : Nat} (h : g[i]? = some v) : up g i = v := by
  unfold up
  rw [List.getD_eq_getElem?_getD, h]
  rfl

theorem up_set {g : List Nat} {i : Nat} (h : i < g.length) (v x : Nat) : up (g.set i v) x = if x = i then v else up g x := by
  unfold up
  simp only [List.getD_eq_getElem?_getD, List.getElem?_set]
  by_cases hx : x = i
  · subst hx; simp [h]
  · rw [if_neg (fun e => hx e.symm), if_neg hx]

/-- The one that points to itself, at the end of the way. -/
inductive Root (g : List Nat) : Nat → Nat → Prop
  | top {r : Nat} : up g r = r → Root g r r
  | step {i r : Nat} : up g i ≠ i → Root g (up g i) r → Root g i r

def Dn (g : List Nat) : Prop := ∀ i, up g i ≤ i

theorem Root.ex {g : List Nat} (hd : Dn g) (i : Nat) : ∃ r, Root g i r := by
  induction i using Nat.strongRecOn with
  | ind i ih =>
    by_cases h : up g i = i
    · exact ⟨i, .top h⟩
    · have := hd i
      obtain ⟨r, hr⟩ := ih (up g i) (by omega)
      exact ⟨r, .step h hr⟩

theorem Root.fix {g : List Nat} {i r : Nat} (h : Root g i r) : up g r = r := by
  induction h with
  | top h => exact h
  | step _ _ ih => exact ih

theorem Root.uniq {g : List Nat} {i r s : Nat} (h : Root g i r) (k : Root g i s) : r = s := by
  induction h with
  | top h =>
    cases k with
    | top => rfl
    | step n _ => exact absurd h n
  | step n _ ih =>
    cases k with
    | top h => exact absurd h n
    | step _ k => exact ih k

theorem Root.le {g : List Nat} (hd : Dn g) {i r : Nat} (h : Root g i r) : r ≤ i := by
  induction h with
  | top => exact Nat.le_refl _
  | step _ _ ih => exact Nat.le_trans ih (hd _)

theorem Root.of_up {g : List Nat} {i r : Nat} (h : Root g i r) : Root g (up g i) r := by
  cases h with
  | top h => rw [h]; exact .top h
  | step _ h => exact h

theorem Root.at_up {g : List Nat} {i r : Nat} (h : Root g (up g i) r) : Root g i r := by
  by_cases e : up g i = i
  · rw [e] at h; exact h
  · exact .step e h

/-- A member that points to another one of its way: the ends stay. -/
theorem Root.short {g : List Nat} (hd : Dn g) {i v r0 : Nat} (hi : i < g.length) (h1 : Root g i r0) (h2 : Root g v r0) (hv : v < i ∨ (v = i ∧ up g i = i)) : ∀ x r, Root g x r → Root (g.set i v) x r := by
  intro x
  induction x using Nat.strongRecOn with
  | ind x ih =>
    intro r h
    by_cases hx : x = i
    · subst hx
      rcases hv with hv | ⟨rfl, hv⟩
      · refine .step ?_ ?_
        · rw [up_set hi, if_pos rfl]; omega
        · rw [up_set hi, if_pos rfl]
          obtain rfl := h1.uniq h
          exact ih v hv r0 h2
      · have e : up (g.set v v) v = v := by rw [up_set hi, if_pos rfl]
        have : r = v := h.uniq (.top hv)
        rw [this]
        exact .top e
    · have e : up (g.set i v) x = up g x := by rw [up_set hi, if_neg hx]
      cases h with
      | top h => exact .top (by rw [e]; exact h)
      | step n h =>
        refine .step (by rw [e]; exact n) ?_
        rw [e]
        have := hd x
        exact ih _ (by omega) r h

/-- Two ends are joined. -/
theorem Root.join {g : List Nat} (hd : Dn g) {a b : Nat} (hb : b < g.length) (hab : a < b) (ha1 : up g a = a) (hb1 : up g b = b) : ∀ x r, Root g x r → Root (g.set b a) x (if r = b then a else r) := by
  intro x
  induction x using Nat.strongRecOn with
  | ind x ih =>
    intro r h
    by_cases hx : x = b
    · subst hx
      obtain rfl := (Root.top hb1).uniq h
      rw [if_pos rfl]
      refine .step ?_ ?_
      · rw [up_set hb, if_pos rfl]; omega
      · rw [up_set hb, if_pos rfl]
        refine .top ?_
        rw [up_set hb, if_neg (by omega)]
        exact ha1
    · have e : up (g.set b a) x = up g x := by rw [up_set hb, if_neg hx]
      cases h with
      | top h =>
        rw [if_neg hx]
        exact .top (by rw [e]; exact h)
      | step n h =>
        refine .step (by rw [e]; exact n) ?_
        rw [e]
        have := hd x
        exact ih _ (by omega) r h

/-- Two have one end. -/
def Same2 (g : List Nat) (x y : Nat) : Prop := ∃ r, Root g x r ∧ Root g y r

theorem Same2.symm {g : List Nat} {x y : Nat} (h : Same2 g x y) : Same2 g y x := by
  obtain ⟨r, h1, h2⟩ := h
  exact ⟨r, h2, h1⟩

theorem Same2.trans {g : List Nat} {x y z : Nat} (h : Same2 g x y) (k : Same2 g y z) : Same2 g x z := by
  obtain ⟨r, h1, h2⟩ := h
  obtain ⟨s, k1, k2⟩ := k
  obtain rfl := h2.uniq k1
  exact ⟨r, h1, k2⟩

/-- Members that point to lesser ones of their group. -/
structure UF (l : List RwD) (g : List Nat) : Prop where
  snd : Snd l g
  dn : Dn g

theorem UF.upc {l : List RwD} {g : List Nat} (h : UF l g) {i : Nat} (hi : i < l.length) : Conn l i (up g i) := by
  rw [up_lt (by rw [h.snd.1]; exact hi)]
  exact h.snd.2 i hi

theorem UF.set {l : List RwD} {g : List Nat} (h : UF l g) {i v : Nat} (hi : i < l.length) (hv : v ≤ i) (hc : Conn l i v) : UF l (g.set i v) := by
  have hl : i < g.length := by rw [h.snd.1]; exact hi
  refine ⟨⟨by rw [List.length_set]; exact h.snd.1, fun x hx => ?_⟩, fun x => ?_⟩
  · rw [← up_lt (by rw [List.length_set, h.snd.1]; exact hx), up_set hl]
    split
    · rename_i e
      rw [e]; exact hc
    · exact h.upc hx
  · rw [up_set hl]
    split
    · rename_i e
      rw [e]; exact hv
    · exact h.dn x

theorem UF.start (l : List RwD) : UF l (List.range l.length) := by
  refine ⟨snd_start, fun i => ?_⟩
  unfold up
  rw [List.getD_eq_getElem?_getD]
  by_cases h : i < l.length
  · rw [List.getElem?_range h]; exact Nat.le_refl _
  · rw [List.getElem?_eq_none (by rw [List.length_range]; omega)]; exact Nat.le_refl _

theorem Root.conn {l : List RwD} {g : List Nat} (h : UF l g) {i r : Nat} (hr : Root g i r) (hi : i < l.length) : Conn l i r := by
  induction hr with
  | top => exact Conn.refl
  | step n _ ih =>
    have hc := h.upc hi
    exact hc.trans (ih (hc.lt hi))

/-- A step of the way is made shorter. -/
theorem UF.halve {l : List RwD} {g : List Nat} (h : UF l g) {i : Nat} (hi : i < l.length) (hne : up g i ≠ i) : UF l (g.set i (up g (up g i))) ∧ ∀ x r, Root g x r → Root (g.set i (up g (up g i))) x r := by
  have hc := h.upc hi
  have h1 := h.dn i
  have h2 := h.dn (up g i)
  obtain ⟨r, hr⟩ := Root.ex h.dn i
  refine ⟨h.set hi (by omega) (hc.trans (h.upc (hc.lt hi))), Root.short h.dn (by rw [h.snd.1]; exact hi) hr hr.of_up.of_up (Or.inl (by omega))⟩

/-- A member points to its end. -/
theorem UF.point {l : List RwD} {g : List Nat} (h : UF l g) {i r : Nat} (hi : i < l.length) (hr : Root g i r) : UF l (g.set i r) ∧ ∀ x s, Root g x s → Root (g.set i r) x s := by
  have hl := hr.le h.dn
  refine ⟨h.set hi hl (hr.conn h hi), Root.short h.dn (by rw [h.snd.1]; exact hi) hr (.top hr.fix) ?_⟩
  rcases Nat.lt_or_ge r i with e | e
  · exact Or.inl e
  · obtain rfl : r = i := by omega
    exact Or.inr ⟨rfl, hr.fix⟩

/-- Two ends become one. -/
theorem UF.join {l : List RwD} {g : List Nat} (h : UF l g) {a b : Nat} (ha : a < l.length) (hb : b < l.length) (hc : Conn l a b) (ha1 : up g a = a) (hb1 : up g b = b) :
    UF l (g.set (max a b) (min a b)) ∧ (∀ x y, Same2 g x y → Same2 (g.set (max a b) (min a b)) x y) ∧ Same2 (g.set (max a b) (min a b)) a b := by
  have key : ∀ a b : Nat, a < l.length → b < l.length → Conn l a b → up g a = a → up g b = b → a ≤ b → UF l (g.set b a) ∧ (∀ x y, Same2 g x y → Same2 (g.set b a) x y) ∧ Same2 (g.set b a) a b := by
    intro a b ha hb hc ha1 hb1 hab
    have hbl : b < g.length := by rw [h.snd.1]; exact hb
    refine ⟨h.set hb hab hc.symm, ?_⟩
    rcases Nat.lt_or_ge a b with hlt | hge
    · have hj := Root.join h.dn hbl hlt ha1 hb1
      refine ⟨fun x y ⟨r, h1, h2⟩ => ⟨_, hj x r h1, hj y r h2⟩, ?_⟩
      have q1 := hj a a (.top ha1)
      have q2 := hj b b (.top hb1)
      rw [if_neg (by omega)] at q1
      rw [if_pos rfl] at q2
      exact ⟨a, q1, q2⟩
    · obtain rfl : a = b := by omega
      have hs := Root.short h.dn hbl (.top ha1) (.top ha1) (Or.inr ⟨rfl, ha1⟩)
      exact ⟨fun x y ⟨r, h1, h2⟩ => ⟨r, hs x r h1, hs y r h2⟩, a, hs a a (.top ha1), hs a a (.top ha1)⟩
  rcases Nat.le_total a b with hab | hab
  · rw [Nat.max_eq_right hab, Nat.min_eq_left hab]
    exact key a b ha hb hc ha1 hb1 hab
  · rw [Nat.max_eq_left hab, Nat.min_eq_right hab]
    obtain ⟨q1, q2, q3⟩ := key b a hb ha hc.symm hb1 ha1 hab
    exact ⟨q1, q2, q3.symm⟩

/-- The last of the first so many that writes a key. -/
def lastN (l : List RwD) (key : ByteArray) : Nat → Option Nat
  | 0 => none
  | m + 1 => match l[m]? with | some t => if inK t.ws key = true then some m else lastN l key m | none => lastN l key m

theorem lastN_some {l : List RwD} {key : ByteArray} : ∀ {m w : Nat}, lastN l key m = some w → w < m ∧ ∃ t, l[w]? = some t ∧ key ∈ t.ws
  | 0, w, h => by cases h
  | m + 1, w, h => by
    unfold lastN at h
    cases hm : l[m]? with
    | none =>
      rw [hm] at h
      obtain ⟨h1, h2⟩ := lastN_some h
      exact ⟨by omega, h2⟩
    | some t =>
      rw [hm] at h
      simp only at h
      split at h
      · rename_i hk
        simp only [Option.some.injEq] at h
        subst h
        exact ⟨by omega, t, hm, inK_iff.1 hk⟩
      · obtain ⟨h1, h2⟩ := lastN_some h
        exact ⟨by omega, h2⟩

theorem lastN_ex {l : List RwD} {key : ByteArray} : ∀ {m i : Nat} {t : RwD}, i < m → l[i]? = some t → key ∈ t.ws → ∃ w, lastN l key m = some w
  | 0, i, t, h, _, _ => by omega
  | m + 1, i, t, h, h1, h2 => by
    unfold lastN
    cases hm : l[m]? with
    | none =>
      by_cases e : i = m
      · rw [e, hm] at h1; cases h1
      · exact lastN_ex (by omega) h1 h2
    | some u =>
      simp only
      by_cases hk : inK u.ws key = true
      · rw [if_pos hk]; exact ⟨m, rfl⟩
      · rw [if_neg hk]
        by_cases e : i = m
        · rw [e, hm] at h1
          simp only [Option.some.injEq] at h1
          subst h1
          exact absurd (inK_iff.2 h2) hk
        · exact lastN_ex (by omega) h1 h2

/-- What the first so many declare is joined with the last writers. -/
def Jn (l : List RwD) (g : List Nat) (m : Nat) : Prop := ∀ i t, i < m → l[i]? = some t → ∀ key, (key ∈ t.rs ∨ key ∈ t.ws) → ∀ w, lastN l key l.length = some w → Same2 g i w

theorem Jn.mono {l : List RwD} {g g' : List Nat} {m : Nat} (h : Jn l g m) (hs : ∀ x y, Same2 g x y → Same2 g' x y) : Jn l g' m := fun i t hi ht key hk w hw => hs _ _ (h i t hi ht key hk w hw)

theorem last_conn {l : List RwD} {i w : Nat} {t : RwD} {key : ByteArray} (ht : l[i]? = some t) (hk : key ∈ t.rs ∨ key ∈ t.ws) (hw : lastN l key l.length = some w) : Conn l i w := by
  obtain ⟨h1, u, hu, hk2⟩ := lastN_some hw
  refine Conn.one ?_
  rw [adjB_some ht hu, clashB_iff]
  rcases hk with hk | hk
  · exact Or.inr ⟨key, hk2, hk⟩
  · exact Or.inl ⟨key, hk, Or.inl hk2⟩

theorem Jn.same {l : List RwD} {g : List Nat} (h : Jn l g l.length) (hu : UF l g) {i j : Nat} (hc : Conn l i j) : Same2 g i j := by
  induction hc with
  | refl =>
    obtain ⟨r, hr⟩ := Root.ex hu.dn i
    exact ⟨r, hr, hr⟩
  | step hc ha ih =>
    rename_i j k
    refine ih.trans ?_
    obtain ⟨hj, hk⟩ := adjB_lt ha
    have ej := List.getElem?_eq_getElem hj
    have ek := List.getElem?_eq_getElem hk
    rw [adjB_some ej ek, clashB_iff] at ha
    have fin : ∀ key, (key ∈ l[j].rs ∨ key ∈ l[j].ws) → (key ∈ l[k].rs ∨ key ∈ l[k].ws) → (key ∈ l[j].ws ∨ key ∈ l[k].ws) → Same2 g j k := by
      intro key h1 h2 h3
      obtain ⟨w, hw⟩ : ∃ w, lastN l key l.length = some w := by
        rcases h3 with h3 | h3
        · exact lastN_ex hj ej h3
        · exact lastN_ex hk ek h3
      exact (h j _ hj ej key h1 w hw).trans (h k _ hk ek key h2 w hw).symm
    rcases ha with ⟨key, h1, h2 | h2⟩ | ⟨key, h1, h2⟩
    · exact fin key (Or.inr h1) (Or.inr h2) (Or.inl h1)
    · exact fin key (Or.inr h1) (Or.inl h2) (Or.inl h1)
    · exact fin key (Or.inl h2) (Or.inr h1) (Or.inr h1)

/-- The program's groups are right. -/
theorem UF.groups {l : List RwD} {g : List Nat} (h : UF l g) (hj : Jn l g l.length) (hr : ∀ i, i < l.length → Root g i (up g i)) : GSpec l g := by
  refine ⟨h.snd.1, h.snd.2, fun i j hi hc => ?_⟩
  have hl := hc.lt hi
  obtain ⟨r, h1, h2⟩ := hj.same h hc
  have e1 := (hr i hi).uniq h1
  have e2 := (hr j hl).uniq h2
  rw [← up_lt (by rw [h.snd.1]; exact hi), e1, ← e2]
  exact h.dn j
end Go.Proofs.YtajpfkenhchafaaDoor

/- What (access.groups).least and join do. -/
namespace Go.Proofs.YtajpfkenhchafaaDoor
open Go Go.RowKit
set_option linter.unusedVariables false

/-- A number of a row of the call's own, and how it is written. -/
theorem KQ.natSet {T : TypeId} {w : World} {B g off n cap : Nat} {l : List Nat} (h : KQ natK T w B (.slice (some ⟨g, off, none⟩) n cap) l) {i x : Nat} (hx : l[i]? = some x) :
    w.cell? ⟨g, off + i, none⟩ = some (.int .i64 (x : Int)) ∧ w.frozen? ⟨g, off + i, none⟩ = false ∧ B ≤ g ∧ g < w.heap.size ∧ ∀ v : Nat, KQ natK T (w.setCell ⟨g, off + i, none⟩ (.int .i64 (v : Int))) B (.slice (some ⟨g, off, none⟩) n cap) (l.set i v) := by
  obtain ⟨g', off', e', q2, q3, q4, q5, q6⟩ := h.set hx
  simp only [Option.some.injEq, Addr.mk.injEq, and_true] at e'
  obtain ⟨rfl, rfl⟩ := e'
  have e : off + i * natK.n + 0 = off + i := by show off + i * 1 + 0 = _; omega
  refine ⟨?_, q5 _, q2, q3, fun v => ?_⟩
  · have := q4 0 _ rfl
    rw [e] at this
    exact this
  · have := q6 v 0 (.int .i64 (v : Int)) (by show 0 < 1; decide) rfl trivial (fun _ h => h)
    rw [e] at this
    exact this

theorem KQ.natAt {T : TypeId} {w : World} {B n cap : Nat} {ao : Option Addr} {l : List Nat} (h : KQ natK T w B (.slice ao n cap) l) (hl : 0 < l.length) : ∃ g off, ao = some ⟨g, off, none⟩ := by
  obtain ⟨g, off, e, _⟩ := h.spot hl
  exact ⟨g, off, e⟩

/-- What points to an end stays as it is. -/
def Stay (g g' : List Nat) : Prop := ∀ x, up g (up g x) = up g x → up g' x = up g x

theorem Stay.refl (g : List Nat) : Stay g g := fun _ _ => rfl

theorem Stay.trans {g g' g'' : List Nat} (h : Stay g g') (k : Stay g' g'') : Stay g g'' := by
  intro x hx
  have h1 := h x hx
  have h2 := h (up g x) (by rw [hx, hx])
  rw [hx] at h2
  have h3 := k x (by rw [h1]; exact h2)
  rw [h3, h1]

theorem stay_halve {g : List Nat} {j : Nat} (hj : j < g.length) : Stay g (g.set j (up g (up g j))) := by
  intro x hx
  rw [up_set hj]
  split
  · rename_i e
    rw [e] at hx ⊢
    exact hx
  · rfl

/-- The least one of a group is told. -/
def GotLeast (l : List RwD) (W : World) (B g : Nat) (q : Value) (gl : List Nat) (i : Nat) (e : Ending) (w : World) : Prop :=
  ∃ r gl', e = .returned (.int .i64 ((r : Nat) : Int)) ∧ Root gl i r ∧ KQ natK 3 w B q gl' ∧ UF l gl' ∧ (∀ x s, Root gl x s → Root gl' x s) ∧ Stay gl gl' ∧ Kept (fun k => k = g) W w

/-- Two groups are joined. -/
def GotJoin (l : List RwD) (W : World) (B g : Nat) (q : Value) (gl : List Nat) (i k : Nat) (e : Ending) (w : World) : Prop :=
  e = .returned (.tuple #[]) ∧ ∃ gl', KQ natK 3 w B q gl' ∧ UF l gl' ∧ (∀ x y, Same2 gl x y → Same2 gl' x y) ∧ Same2 gl' i k ∧ Kept (fun k => k = g) W w
end Go.Proofs.YtajpfkenhchafaaDoor

/- A map of texts to whatever values: what is in by each text; how it is looked up in, written, and struck from. -/
namespace Go.Proofs.YtajpfkenhchafaaDoor
open Go Go.RowKit Go.Maps
set_option linter.unusedVariables false

/-- Values as they are. -/
def heldElem (v : Value) : Option (DataW Value × List MemPlace) := some (.held v, [])

/-- A text as a key. -/
def keyS (id : ByteArray) : Lit := .string id.data.toList

theorem keyS_inj {a b : ByteArray} (h : keyS a = keyS b) : a = b := by
  unfold keyS at h
  simp only [Lit.string.injEq] at h
  cases a
  cases b
  simpa using h

theorem keyS_ok (id : ByteArray) : WideAt.IsKeyLit (keyS id) := trivial

theorem lawStr : Keyed Tryd.prog 9 := string_keyed Tryd.underlying9

theorem keyS_of {id : ByteArray} (h : id.size ≤ maxLen) : keyOf Tryd.prog 9 (.string id) = some (keyS id) := Go.WideMaps.keyOf_string_mk Tryd.underlying9 h

/-- Block b is a map that holds by each text what f tells, n things in all. -/
def SMap (w : World) (b : Nat) (f : ByteArray → Option Value) (n : Nat) : Prop :=
  ∃ D : DataW Value, w.ownsMap Tryd.prog 9 heldElem b n D ∧ Maps.size D = n ∧ (∀ id, Maps.has D (keyS id) = (f id).isSome) ∧ ∀ id z, D.atKey (keyS id) z = match f id with | some v => .held v | none => z

theorem owns_tight {k : TypeId} {R : Value → Option (DataW Value × List MemPlace)} {w : World} {b n : Nat} {D : DataW Value} (h : w.ownsMap Tryd.prog k R b n D) : w.ownsMap Tryd.prog k R b (Maps.size D) D := by
  obtain ⟨es, clock, hb, F, hs, rfl⟩ := h
  refine ⟨es, clock, hb, F, ?_, rfl⟩
  rw [Maps.size_eq, length_read]
  exact Nat.le_refl _

theorem SMap.lt {w : World} {b : Nat} {f : ByteArray → Option Value} {n : Nat} (h : SMap w b f n) : b < w.heap.size := by
  obtain ⟨D, h1, _⟩ := h
  exact h1.lt

theorem SMap.keep {w w' : World} {b : Nat} {f : ByteArray → Option Value} {n : Nat} (h : SMap w b f n) (hk : w'.heap[b]? = w.heap[b]?) : SMap w' b f n := by
  obtain ⟨D, ⟨es, clock, hb, F, hs, hD⟩, h2⟩ := h
  exact ⟨D, ⟨es, clock, hk.trans hb, F, hs, hD⟩, h2⟩

theorem SMap.kept {S : Nat → Prop} {w w' : World} {b : Nat} {f : ByteArray → Option Value} {n : Nat} (h : SMap w b f n) (hk : Kept S w w') (hb : ¬ S b) : SMap w' b f n := h.keep (hk.block b h.lt hb)

theorem SMap.below {w w' : World} {b : Nat} {f : ByteArray → Option Value} {n : Nat} (h : SMap w b f n) (hb : Below w.heap.size w w') : SMap w' b f n := h.keep (hb.block b h.lt)

theorem SMap.congr {w : World} {b : Nat} {f g : ByteArray → Option Value} {n : Nat} (h : SMap w b f n) (e : ∀ id, g id = f id) : SMap w b g n := by
  obtain rfl : g = f := funext e
  exact h

theorem SMap.new (w : World) : SMap (w.alloc (.map #[] 0)) w.heap.size (fun _ => none) 0 :=
  ⟨.map [], World.ownsMap_made w _ _ _, rfl, fun _ => rfl, fun _ _ => rfl⟩

/-- How many there are behind it. -/
def putN (f : ByteArray → Option Value) (id : ByteArray) (n : Nat) : Nat := if (f id).isSome = true then n else n + 1
def delN (f : ByteArray → Option Value) (id : ByteArray) (n : Nat) : Nat := if (f id).isSome = true then n - 1 else n

/-- What is put in. -/
def putF (f : ByteArray → Option Value) (id : ByteArray) (v : Value) (i : ByteArray) : Option Value := if i = id then some v else f i
def delF (f : ByteArray → Option Value) (id : ByteArray) (i : ByteArray) : Option Value := if i = id then none else f i

theorem SMap.puts {w w' : World} {b : Nat} {f : ByteArray → Option Value} {n m : Nat} {D : DataW Value} {id : ByteArray} {v : Value} (ho : w.ownsMap Tryd.prog 9 heldElem b n D) (h1 : Maps.size D = n) (h2 : ∀ id, Maps.has D (keyS id) = (f id).isSome) (h3 : ∀ id z, D.atKey (keyS id) z = match f id with | some v => .held v | none => z)
    (h : w'.ownsMap Tryd.prog 9 heldElem b m (D.put (keyS id) (.held v))) : SMap w' b (putF f id v) (putN f id n) := by
  have hT := ho.tidy lawStr
  have hsz : Maps.size (D.put (keyS id) (.held v)) = putN f id n := by
    unfold putN
    rw [size_put hT, h2, h1]
  refine ⟨_, by rw [← hsz]; exact owns_tight h, hsz, fun i => ?_, fun i z => ?_⟩
  · unfold putF
    by_cases e : i = id
    · subst e
      rw [if_pos rfl]
      exact has_put_same hT.isMap (keyS_ok _) _
    · rw [if_neg e, has_put_other (fun e' => e (keyS_inj e'))]
      exact h2 i
  · unfold putF
    by_cases e : i = id
    · subst e
      rw [if_pos rfl]
      exact atKey_put_same hT.isMap (keyS_ok _) _ _
    · rw [if_neg e, atKey_put_other (fun e' => e (keyS_inj e'))]
      exact h3 i z

theorem SMap.dels {w w' : World} {b : Nat} {f : ByteArray → Option Value} {n m : Nat} {D : DataW Value} {id : ByteArray} (ho : w.ownsMap Tryd.prog 9 heldElem b n D) (h1 : Maps.size D = n) (h2 : ∀ id, Maps.has D (keyS id) = (f id).isSome) (h3 : ∀ id z, D.atKey (keyS id) z = match f id with | some v => .held v | none => z)
    (h : w'.ownsMap Tryd.prog 9 heldElem b m (D.del (keyS id))) : SMap w' b (delF f id) (delN f id n) := by
  have hT := ho.tidy lawStr
  have hsz : Maps.size (D.del (keyS id)) = delN f id n := by
    unfold delN
    have := size_del (k := keyS id) hT
    rw [h2, h1] at this
    cases hc : (f id).isSome <;> rw [hc] at this <;> simp at this ⊢ <;> omega
  refine ⟨_, by rw [← hsz]; exact owns_tight h, hsz, fun i => ?_, fun i z => ?_⟩
  · unfold delF
    by_cases e : i = id
    · subst e
      rw [if_pos rfl]
      exact has_del_same
    · rw [if_neg e, has_del_other (fun e' => e (keyS_inj e'))]
      exact h2 i
  · unfold delF
    by_cases e : i = id
    · subst e
      rw [if_pos rfl]
      exact atKey_del_same _
    · rw [if_neg e, atKey_del_other (fun e' => e (keyS_inj e'))]
      exact h3 i z

section
variable {w : World} {ops : Array Oper} {rest : List Oper} {o : Oper} {a : Act} {Q : Exit → Act → World → Prop}

/-- 'v, ok := m[id]'. -/
theorem smap_look_ok (hw : Region.wanted o (yielded ops a.tmps) = true) (m x : Operand) (t : TypeId) (hop : o.op = Op.lookup t m x true) (e : TypeId) (ht : Tryd.prog.underlying t = some (.map 9 e)) (z : Value) (hz : (zeroValue e).run Tryd.prog w = .ok z w)
    (b : Nat) (f : ByteArray → Option Value) (n : Nat) (hm : a.eval m = .map (some b)) (h : SMap w b f n) (id : ByteArray) (hid : id.size ≤ maxLen) (hx : a.eval x = .string id)
    (hK : wpList Tryd.prog ops Q rest (a.put o.dst (.tuple #[(f id).getD z, .bool (f id).isSome])) w) : wpList Tryd.prog ops Q (o :: rest) a w := by
  obtain ⟨D, ho, h1, h2, h3⟩ := h
  refine wpList_step fun K' hK' => ?_
  rw [if_pos hw]
  obtain ⟨v, ps, hrun, hv⟩ := ho.look_ok lawStr ht hz (zd := .held z) (zp := []) rfl (keyS_of hid)
  have e1 : v = (f id).getD z := by
    have := h3 id (.held z)
    unfold heldElem at hv
    simp only [Option.some.injEq, Prod.mk.injEq] at hv
    rw [this] at hv
    cases hf : f id with
    | none => rw [hf] at hv; simpa using hv.1
    | some u => rw [hf] at hv; simpa using hv.1
  subst e1
  rw [h2] at hrun
  unfold Oper.wp
  simp [execOp, hop, hm, hx, hrun, Result.andThen]
  exact hK' _ _ hK

/-- 'm[id]'. -/
theorem smap_look (hw : Region.wanted o (yielded ops a.tmps) = true) (m x : Operand) (t : TypeId) (hop : o.op = Op.lookup t m x false) (e : TypeId) (ht : Tryd.prog.underlying t = some (.map 9 e)) (z : Value) (hz : (zeroValue e).run Tryd.prog w = .ok z w)
    (b : Nat) (f : ByteArray → Option Value) (n : Nat) (hm : a.eval m = .map (some b)) (h : SMap w b f n) (id : ByteArray) (hid : id.size ≤ maxLen) (hx : a.eval x = .string id)
    (hK : wpList Tryd.prog ops Q rest (a.put o.dst ((f id).getD z)) w) : wpList Tryd.prog ops Q (o :: rest) a w := by
  obtain ⟨D, ho, h1, h2, h3⟩ := h
  refine wpList_step fun K' hK' => ?_
  rw [if_pos hw]
  obtain ⟨v, ps, hrun, hv⟩ := ho.lookup lawStr ht hz (zd := .held z) (zp := []) rfl (keyS_of hid)
  have e1 : v = (f id).getD z := by
    have := h3 id (.held z)
    unfold heldElem at hv
    simp only [Option.some.injEq, Prod.mk.injEq] at hv
    rw [this] at hv
    cases hf : f id with
    | none => rw [hf] at hv; simpa using hv.1
    | some u => rw [hf] at hv; simpa using hv.1
  subst e1
  unfold Oper.wp
  simp [execOp, hop, hm, hx, hrun, Result.andThen]
  exact hK' _ _ hK

/-- 'm[id] = v'. -/
theorem smap_put (hg : o.guard = none) (m x v : Operand) (t : TypeId) (hop : o.op = Op.mapUpdate t m x v) (e : TypeId) (ht : Tryd.prog.underlying t = some (.map 9 e))
    (b : Nat) (f : ByteArray → Option Value) (n : Nat) (hm : a.eval m = .map (some b)) (h : SMap w b f n) (hn : n < maxLen) (id : ByteArray) (hid : id.size ≤ maxLen) (hx : a.eval x = .string id) (u : Value) (hv : a.eval v = u)
    (hK : ∀ w', SMap w' b (putF f id u) (putN f id n) → Kept (fun k => k = b) w w' → wpList Tryd.prog ops Q rest (a.put o.dst undef) w') : wpList Tryd.prog ops Q (o :: rest) a w := by
  obtain ⟨D, ho, h1, h2, h3⟩ := h
  refine wpList_mapUpdate_own w hg m x v t hop 9 e lawStr ht heldElem b n D hm ho hn _ _ _ hx hv (keyS_of hid) (.held u) [] rfl ?_
  intro w' ho' hg'
  refine hK w' (SMap.puts ho h1 h2 h3 ho') ((Kept.of_grown hg').mono (fun k _ e => by simpa using e.symm))

/-- 'delete(m, id)'. -/
theorem smap_del (hg : o.guard = none) (m x : Operand) (t : TypeId) (hop : o.op = Op.call { callee := Callee.builtin Builtin.delete, args := #[m, x], argTypes := #[t, 9] }) (e : TypeId) (ht : Tryd.prog.underlying t = some (.map 9 e))
    (b : Nat) (f : ByteArray → Option Value) (n : Nat) (hm : a.eval m = .map (some b)) (h : SMap w b f n) (id : ByteArray) (hid : id.size ≤ maxLen) (hx : a.eval x = .string id)
    (hK : ∀ w', SMap w' b (delF f id) (delN f id n) → Kept (fun k => k = b) w w' → wpList Tryd.prog ops Q rest (a.put o.dst (.tuple #[])) w') : wpList Tryd.prog ops Q (o :: rest) a w := by
  obtain ⟨D, ho, h1, h2, h3⟩ := h
  refine wpList_delete_own w hg m x t 9 hop e lawStr ht heldElem b n D hm ho _ _ hx (keyS_of hid) ?_
  intro w' ho' ht'
  refine hK w' (SMap.dels ho h1 h2 h3 ho') ((Kept.of_grown ht'.grown).mono (fun k _ e => by simpa using e.symm))

/-- 'len(m)'. -/
theorem smap_len (hw : Region.wanted o (yielded ops a.tmps) = true) (m : Operand) (t : TypeId) (hop : o.op = Op.call { callee := Callee.builtin Builtin.len, args := #[m], argTypes := #[t] }) (e : TypeId) (ht : Tryd.prog.underlying t = some (.map 9 e))
    (b : Nat) (f : ByteArray → Option Value) (n : Nat) (hm : a.eval m = .map (some b)) (h : SMap w b f n) (hK : wpList Tryd.prog ops Q rest (a.put o.dst (.int .i64 (n : Int))) w) : wpList Tryd.prog ops Q (o :: rest) a w := by
  obtain ⟨D, ho, h1, h2, h3⟩ := h
  refine wpList_step fun K' hK' => ?_
  rw [if_pos hw]
  have hl := ho.len ht o.type
  rw [h1] at hl
  unfold Oper.wp
  simp [execOp, hop, resolve, invoke, builtin, hm, hl, Result.andThen]
  exact hK' _ _ hK
end
end Go.Proofs.YtajpfkenhchafaaDoor

/- What access.Clash does. -/
namespace Go.Proofs.YtajpfkenhchafaaDoor
open Go Go.RowKit
set_option linter.unusedVariables false

/-- What is declared of a key. -/
def usesF (rs ws : List ByteArray) (k : ByteArray) : Option Value := if inK ws k = true then some (.int .i64 2) else if inK rs k = true then some (.int .i64 1) else none

theorem inK_snoc (l : List ByteArray) (x k : ByteArray) : inK (l ++ [x]) k = (inK l k || decide (x = k)) := by
  unfold inK
  rw [List.any_append]
  simp

theorem usesF_read {rs : List ByteArray} {i : Nat} {x : ByteArray} (hx : rs[i]? = some x) (k : ByteArray) : usesF (rs.take (i + 1)) [] k = putF (usesF (rs.take i) []) x (.int .i64 1) k := by
  rw [List.take_add_one, hx]
  unfold usesF putF
  show _ = if k = x then _ else _
  have e0 : inK [] k = false := rfl
  simp only [e0, Option.toList_some, inK_snoc]
  by_cases h : k = x
  · subst h; simp
  · rw [if_neg h]
    have : decide (x = k) = false := decide_eq_false (fun e => h e.symm)
    rw [this, Bool.or_false]

theorem usesF_write {rs ws : List ByteArray} {i : Nat} {x : ByteArray} (hx : ws[i]? = some x) (k : ByteArray) : usesF rs (ws.take (i + 1)) k = putF (usesF rs (ws.take i)) x (.int .i64 2) k := by
  rw [List.take_add_one, hx]
  unfold usesF putF
  simp only [Option.toList_some, inK_snoc]
  by_cases h : k = x
  · subst h; simp
  · rw [if_neg h]
    have : decide (x = k) = false := decide_eq_false (fun e => h e.symm)
    rw [this, Bool.or_false]

theorem putN_le (f : ByteArray → Option Value) (id : ByteArray) (n : Nat) : putN f id n ≤ n + 1 := by
  unfold putN
  split <;> omega

def GotUses (W : World) (x : TxA) (e : Ending) (w : World) : Prop :=
  ∃ b n, e = .returned (.map (some b)) ∧ SMap w b (usesF x.rs x.ws) n ∧ W.heap.size ≤ b ∧ Below W.heap.size W w

set_option maxRecDepth 100000 in
theorem zeroIntA (w : World) : (zeroValue 3).run Tryd.prog w = .ok (.int .i64 0) w := by rfl

theorem clash_uses (a b : RwD) : clashB a b = (b.ws.any (fun y => inK a.ws y || inK a.rs y) || b.rs.any (fun y => inK a.ws y)) := by
  rw [Bool.eq_iff_iff, clashB_iff]
  simp only [Bool.or_eq_true, List.any_eq_true, inK_iff]
  constructor
  · rintro (⟨k, h1, h2 | h2⟩ | ⟨k, h1, h2⟩)
    · exact Or.inl ⟨k, h2, Or.inl h1⟩
    · exact Or.inr ⟨k, h2, h1⟩
    · exact Or.inl ⟨k, h1, Or.inr h2⟩
  · rintro (⟨k, h1, h2 | h2⟩ | ⟨k, h1, h2⟩)
    · exact Or.inl ⟨k, h2, Or.inl h1⟩
    · exact Or.inr ⟨k, h1, h2⟩
    · exact Or.inl ⟨k, h2, Or.inr h1⟩

theorem two_newA (w : World) (x y : TxA) : ∃ w2, w2 = (w.alloc (.cells x.c.toArray 50)).alloc (.cells y.c.toArray 50) ∧ Arr w2 w.heap.size 50 x.c ∧ Arr w2 (w.heap.size + 1) 50 y.c ∧ Below w.heap.size w w2 := by
  obtain ⟨h1, h2, h3⟩ := two_new w 50 50 x.c y.c
  exact ⟨_, rfl, h1, h2, h3⟩

theorem take_any {α : Type} {l : List α} {p : α → Bool} {i : Nat} {x : α} (hx : l[i]? = some x) (h : (l.take i).any p = false) (hp : p x = false) : (l.take (i + 1)).any p = false := by
  rw [List.take_add_one, hx, List.any_append, h]
  simp [hp]

theorem any_hit {α : Type} {l : List α} {p : α → Bool} {i : Nat} {x : α} (hx : l[i]? = some x) (hp : p x = true) : l.any p = true := List.any_eq_true.2 ⟨x, List.mem_of_getElem? hx, hp⟩
end Go.Proofs.YtajpfkenhchafaaDoor

/- What (access.groups).joinBy, access.lastWriters and access.Groups do. -/
namespace Go.Proofs.YtajpfkenhchafaaDoor
open Go Go.RowKit
set_option linter.unusedVariables false

/-- The last writers, as a map tells them. -/
def lastF (l : List RwD) (key : ByteArray) : Option Value := (lastN l key l.length).map (fun w => .int .i64 ((w : Nat) : Int))

/-- All these keys' last writers are joined with member i. -/
def JnK (l : List RwD) (g : List Nat) (i : Nat) (ks : List ByteArray) : Prop := ∀ key ∈ ks, ∀ w, lastN l key l.length = some w → Same2 g i w

theorem JnK.mono {l : List RwD} {g g' : List Nat} {i : Nat} {ks : List ByteArray} (h : JnK l g i ks) (hs : ∀ x y, Same2 g x y → Same2 g' x y) : JnK l g' i ks := fun key hk w hw => hs _ _ (h key hk w hw)

theorem JnK.more {l : List RwD} {g : List Nat} {i j : Nat} {ks : List ByteArray} {y : ByteArray} (hy : ks[j]? = some y) (h : JnK l g i (ks.take j)) (hn : ∀ w, lastN l y l.length = some w → Same2 g i w) : JnK l g i (ks.take (j + 1)) := by
  intro key hk w hw
  rw [List.take_add_one, hy, List.mem_append] at hk
  rcases hk with hk | hk
  · exact h key hk w hw
  · simp only [Option.toList_some, List.mem_singleton] at hk
    subst hk
    exact hn w hw

/-- A member is joined with the last writers of its keys. -/
def GotJoinBy (l : List RwD) (W : World) (B g : Nat) (q : Value) (gl : List Nat) (i : Nat) (ks : List ByteArray) (e : Ending) (w : World) : Prop :=
  e = .returned (.tuple #[]) ∧ ∃ gl', KQ natK 3 w B q gl' ∧ UF l gl' ∧ (∀ x y, Same2 gl x y → Same2 gl' x y) ∧ JnK l gl' i ks ∧ Kept (fun k => k = g) W w
end Go.Proofs.YtajpfkenhchafaaDoor

/- What access.lastWriters does. -/
namespace Go.Proofs.YtajpfkenhchafaaDoor
open Go Go.RowKit
set_option linter.unusedVariables false

/-- Transactions are few, and their keys. -/
def Few (l : List TxA) : Prop := l.length ≤ 1000 ∧ ∀ x ∈ l, x.rs.length ≤ 1000 ∧ x.ws.length ≤ 1000

/-- The last writers among the first i members, and of member i's first keys. -/
def lastP (l : List RwD) (i : Nat) (ks : List ByteArray) (key : ByteArray) : Option Value :=
  if inK ks key = true then some (.int .i64 ((i : Nat) : Int)) else (lastN l key i).map (fun w => .int .i64 ((w : Nat) : Int))

theorem lastP_put {l : List RwD} {i j : Nat} {ks : List ByteArray} {y : ByteArray} (hy : ks[j]? = some y) (k : ByteArray) : lastP l i (ks.take (j + 1)) k = putF (lastP l i (ks.take j)) y (.int .i64 ((i : Nat) : Int)) k := by
  rw [List.take_add_one, hy]
  unfold lastP putF
  simp only [Option.toList_some, inK_snoc]
  by_cases h : k = y
  · subst h; simp
  · rw [if_neg h]
    have : decide (y = k) = false := decide_eq_false (fun e => h e.symm)
    rw [this, Bool.or_false]

theorem lastP_end {l : List RwD} {i : Nat} {t : RwD} (ht : l[i]? = some t) (k : ByteArray) : lastP l (i + 1) [] k = lastP l i t.ws k := by
  have h1 : lastN l k (i + 1) = match l[i]? with | some t => if inK t.ws k = true then some i else lastN l k i | none => lastN l k i := rfl
  unfold lastP
  have e0 : inK [] k = false := rfl
  rw [e0, h1, ht]
  simp only [Bool.false_eq_true, if_false]
  by_cases h : inK t.ws k = true
  · rw [if_pos h, if_pos h]; rfl
  · rw [if_neg h, if_neg h]

theorem lastP_start (l : List RwD) (k : ByteArray) : lastP l 0 [] k = none := rfl

def GotLast (W : World) (l : List RwD) (e : Ending) (w : World) : Prop :=
  ∃ b n, e = .returned (.map (some b)) ∧ SMap w b (lastF l) n ∧ W.heap.size ≤ b ∧ Below W.heap.size W w
end Go.Proofs.YtajpfkenhchafaaDoor

/- What tusklaw20.Own does. -/
namespace Go.Proofs.YtajpfkenhchafaaDoor
open Go Go.RowKit
set_option linter.unusedVariables false

def GotOwnL (W : World) (l : List TxA) (e : Ending) (w : World) : Prop :=
  ∃ ao cap m, e = .returned (.slice ao m.length cap) ∧ m.length = l.length ∧ RowAt txA w ao m ∧ rwL m = rwL l ∧ Below W.heap.size W w

theorem few_same {l m : List TxA} (h : Few l) (e : rwL m = rwL l) : Few m := by
  have hl : m.length = l.length := by rw [← rwL_length m, e, rwL_length]
  refine ⟨by rw [hl]; exact h.1, fun x hx => ?_⟩
  have h1 : x.rw ∈ rwL l := by rw [← e]; exact List.mem_map.2 ⟨x, hx, rfl⟩
  obtain ⟨y, hy, hxy⟩ := List.mem_map.1 h1
  have := h.2 y hy
  have e1 : y.rs = x.rs := congrArg RwD.rs hxy
  have e2 : y.ws = x.ws := congrArg RwD.ws hxy
  rw [← e1, ← e2]
  exact this

theorem new_tx (w : World) (x : TxA) : ∀ j u, (txA.c x)[j]? = some u → (w.alloc (.cells x.c.toArray 50)).cell? ((⟨w.heap.size, 0, none⟩ : Addr).add j) = some u := by
  intro j u hu
  rw [Go.WideShapes.add_plain, Nat.zero_add]
  exact (Arr.new w 50 x.c).cell hu

set_option maxRecDepth 100000 in
set_option maxHeartbeats 2000000 in
theorem ownL_any (l : List TxA) (ao : Option Addr) (cp : Nat) (w : World) (hl : RowAt txA w ao l) (hf : Few l) :
    Calls Tryd.prog 12 #[.slice ao l.length cp] w fun e w' => GotOwnL w l e w' := by
  have hl1 := hf.1
  obtain ⟨i0, z0, hi0, hz0, hs0, hb0, hzs0⟩ := txInfoA
  have hQ0 := KQ.empty txA 50 w w.heap.size
  go_enter Tryd.func12, Tryd.ntmps12
  go_wp2_with fail
  go_loopw [3, 4] (fun v3 v4 wr => ∃ (i : Nat) (pa : Option Addr) (pc : Nat) (m : List TxA), i ≤ l.length ∧ v3 = .slice pa m.length pc ∧ v4 = .int .i64 (i : Int) ∧ KQ txA 50 wr w.heap.size (.slice pa m.length pc) m ∧ Hid (rwL m = rwL (l.take i)) ∧ Hid (m.length = i) ∧ Below w.heap.size w wr) (fun _ v _ => l.length - (intOf v).toNat)
  case atStart => exact ⟨0, none, 0, [], Nat.zero_le _, rfl, rfl, hQ0, rfl, rfl, Below.refl _ _⟩
  case round =>
    obtain ⟨i, pa, pc, m, hi, rfl, rfl, hq, hm, hml, hb⟩ := hrel
    clear hQ0
    by_cases hil : i < l.length
    · have g1 : (i : Int) < (l.length : Int) := by omega
      obtain ⟨x, hx⟩ : ∃ p, l[i]? = some p := ⟨_, List.getElem?_eq_getElem hil⟩
      obtain ⟨b, off, rfl, hbl, x0, x1, x2, x3, x4, x5, x6, x7, x8, hA⟩ := (hl.below hb).tx hx
      obtain ⟨hxr, hxw⟩ := hf.2 x (List.mem_of_getElem? hx)
      have cO := ownA_any x wr hA (by omega) (by omega)
      have hnx : Hid (∀ y : TxA, y.rs = x.rs → y.ws = x.ws → rwL (m ++ [y]) = rwL (l.take (i + 1))) := fun y e1 e2 => by
        rw [List.take_add_one, hx, Option.toList_some]
        show (m ++ [y]).map TxA.rw = (l.take i ++ [x]).map TxA.rw
        rw [List.map_append, List.map_append]
        have := hm.out
        unfold rwL at this
        rw [this]
        simp [TxA.rw, e1, e2]
      have hql : Hid (∀ b, (Value.slice pa m.length pc).ownBlock = some b → w.heap.size ≤ b ∧ b < wr.heap.size) := fun b e => hq.lt b e
      have hml2 : m.length ≤ 1000 := by rw [hml.out]; omega
      have m1 : m.length + 1 ≤ maxLen := by unfold maxLen; omega
      have m2 : (m.length + 1) * 136 ≤ 140737488355328 := by omega
      have hx' : Hid _ := hx
      clear hA hx hm
      obtain ⟨kind, frm, dst, amt, non, key, val, rs, ws, ra, rc, wa, wc⟩ := x
      unfold TxA.v at cO
      go_wp2_with fail
      refine cO.mono ?_
      rintro _ w3 ⟨y, rfl, hy1, hy2, hyA, hyQ, hyf, hb3⟩
      have hnew := belowNew w3 (.cells y.c.toArray 50)
      have hNW := new_tx w3 y
      have hq3 := (hq.below hb3).below hnew
      have hyA3 := hyA.below hnew
      have hb4 := (hb.trans (hb3.mono hb.size)).trans (hnew.mono (by have := hb.size; have := hb3.size; omega))
      have hbs := hb4.size
      have hyo : ∀ b, txA.foot y b → (Value.slice pa m.length pc).ownBlock ≠ some b := fun b hb e => by
        have h1 := hyf b hb
        have h2 := (hql.out b e).2
        omega
      have hnx2 : Hid (rwL (m ++ [y]) = rwL (l.take (i + 1))) := hnx.out y hy1 hy2
      clear cO hnx hyA hyQ hyf hq hy1 hy2
      obtain ⟨Y, hY⟩ : ∃ Y, Y = y := ⟨_, rfl⟩
      rw [← hY] at hNW hq3 hyA3 hb4 hbs hyo hnx2
      have hYc : w3.alloc (.cells y.c.toArray 50) = w3.alloc (.cells Y.c.toArray 50) := by rw [hY]
      obtain ⟨w4, hw4⟩ : ∃ q, w3.alloc (.cells Y.c.toArray 50) = q := ⟨_, rfl⟩
      rw [hw4] at hNW hq3 hyA3 hb4 hbs hYc
      replace hY : Hid _ := hY
      clear hnew hw4
      obtain ⟨kind', frm', dst', amt', non', key', val', rs', ws', ra', rc', wa', wc'⟩ := y
      replace hYc : w3.alloc (.cells #[.int .i64 kind', .string frm', .string dst', .int .u64 amt', .int .u64 non', .string key', .string val', .slice ra' rs'.length rc', .slice wa' ws'.length wc'] 50) = w4 := hYc
      unfold TxA.v
      go_wp2_with (at_builtin; refine wpList_pushN (K := txA) rfl _ _ 24 rfl w.heap.size 50 i0 _ 136 Tryd.underlying24 hi0 hz0 hs0 hb0 hzs0 _ m rfl hq3 Y hyA3 hyo ⟨w3.heap.size, 0, none⟩ 1 rfl hNW m1 m2 hbs ?_; intro ao3 cap3 w6 hQ6 hk6 hf6)
      have hb8 := hb4.trans (hk6.below hb4.size (fun b e => (hql.out b e).1))
      have hln : Hid ((m ++ [Y]).length = i + 1) := by unfold Hid; rw [List.length_append, List.length_singleton, hml.out]
      have hle : (m ++ [Y]).length = m.length + 1 := by simp
      have hQ7 : KQ txA 50 w6 w.heap.size (.slice ao3 (m ++ [Y]).length cap3) (m ++ [Y]) := by first | exact hQ6 | (rw [hle]; exact hQ6)
      clear hq3 hk6 hf6 hQ6 hYc hNW hyA3 hb4 hyo
      replace hle : Hid _ := hle
      go_roundw
      case rel => exact ⟨i + 1, ao3, cap3, m ++ [Y], by omega, by rw [hle.out], by go_num, hQ7, hnx2, hln, hb8⟩
      case measure => simp [intOf]; omega
    · have g1 : ¬ (i : Int) < (l.length : Int) := by omega
      have hir : i = l.length := by omega
      have hm2 : rwL m = rwL l := by rw [hm.out, hir, List.take_length]
      have hfin : GotOwnL w l (.returned (.slice pa m.length pc)) wr := ⟨pa, pc, m, rfl, by rw [hml.out, hir], hq.rowOf.1, hm2, hb⟩
      clear hir hm2 hq hm
      go_wp2
      go_ret
      exact hfin
end Go.Proofs.YtajpfkenhchafaaDoor
