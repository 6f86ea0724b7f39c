/- Texts as one: TxRowsOpen, BatFrame, TxRead, TxDecode, BatDecode, BatOwn, BatOwnN, HdrSets. -/
import Derived.Test.YtaoiejgbbmjpkaaGreatDoorWk05
import Derived.Test.YtaoiejgbbmjpkaaGreatDoorWk13
import Derived.Defers
import Derived.Recover
import Derived.RegionTactic
import Derived.Test.YtaoiejgbbmjpkaaGreatDoorWk06
import Derived.Test.YtaoiejgbbmjpkaaGreatDoorWk03
/- How a row of transactions that came in is opened. (Laid only where the dump has []api.Tx: not yet built.) -/
namespace Go.Proofs.YtaoiejgbbmjpkaaGreatDoor
open Go.ChangeShapes Go.WideShapes Go.ChangeAt Go.RowKit Go.Joins Go.Deep
set_option linter.unusedVariables false

/-- How a row of transactions reads. -/
def TxsDatum {H : Type} (d : DataW H) (l : List TxM) : Prop :=
  (d = .nil ∧ l = []) ∨ ∃ (ds rest : List (DataW H)), d = .slice ds rest ∧ ds.length = l.length ∧ ∀ (i : Nat) (y : DataW H) (x : TxM), ds[i]? = some y → l[i]? = some x → TxDatum y x.d

set_option maxRecDepth 100000 in
/-- A row of transactions that came in. -/
theorem open_txs {H : Type} {enc : TypeId × Value → H} {W : World} {fuel : Nat} {a : Option Addr} {len cap : Nat} {y : DataW H × List MemPlace}
    (hf : DataW.trod enc Tryz.prog W 0 (fun _ => true) true fuel 24 [.slice a len cap] = some y) :
    ∃ l : List TxM, l.length = len ∧ TxsAt W a l ∧ (∀ x ∈ l, TxSizes x.d) ∧ (a = none → cap = 0) ∧ len ≤ maxLen ∧ TxsDatum y.1 l := by
  rcases open_slice Tryz.underlying24 hf with ⟨hcs, hx⟩ | ⟨x, l, c, m, n, D, Pl, hcs, _, hl, hm, hmm, hx, hc⟩
  · simp at hcs
    obtain ⟨rfl, rfl, rfl⟩ := hcs
    exact ⟨[], rfl, nil_txs _ _, by simp, fun _ => rfl, Nat.zero_le _, Or.inl ⟨by rw [hx], rfl⟩⟩
  · simp at hcs
    obtain ⟨rfl, rfl, rfl⟩ := hcs
    simp at hmm
    subst hmm
    have hall : ∀ i : Nat, ∃ q : TxM, i < len → (∀ j v, q.c[j]? = some v → W.cell? (x.add (i * 9 + j)) = some v) ∧ q.At W ∧ TxSizes q.d ∧ TxDatum (D i) q.d := by
      intro i
      by_cases hi : i < len
      · obtain ⟨cs', h1, h2⟩ := hc i (by omega)
        rw [cellsTx] at h1
        obtain ⟨_, hlen, hcell⟩ := World.cells?_some h1
        obtain ⟨q, rfl, q2, q3, q4⟩ := open_tx_cells h2
        refine ⟨q, fun _ => ⟨fun j v hv => ?_, q2, q3, q4⟩⟩
        have hj : j < q.c.length := (List.getElem?_eq_some_iff.1 hv).1
        have := hcell j (by rw [TxM.c_length] at hj; exact hj)
        rw [add_add] at this
        rw [this, hv]
      · exact ⟨⟨.none, none, 0, none, 0⟩, fun h => absurd h hi⟩
    obtain ⟨Y, hY⟩ := Classical.axiomOfChoice hall
    refine ⟨(List.range len).map Y, by simp, ?_, ?_, (fun h => by cases h), by omega, Or.inr ⟨_, _, by rw [hx], by simp, ?_⟩⟩
    · intro i q hq
      have hi : i < len := by
        by_cases hi : i < len
        · exact hi
        · rw [List.getElem?_eq_none (by simp; omega)] at hq
          cases hq
      obtain rfl : Y i = q := by simpa [hi] using hq
      obtain ⟨c0, q2, _, _⟩ := hY i hi
      obtain ⟨b, off, spot⟩ := x
      have hz := (hY 0 (by omega)).1 0 _ rfl
      have hspot : spot = none := by simpa [Addr.add] using World.cell?_spot hz
      subst hspot
      have hb0 := c0 0 _ rfl
      rw [Go.WideShapes.add_plain] at hb0
      refine ⟨⟨b, off, rfl, World.block_lt_of_cell? W _ hb0, fun j v hv => ?_⟩, q2⟩
      have := c0 j v hv
      rw [Go.WideShapes.add_plain] at this
      rw [← this, Nat.add_assoc]
    · intro q hq
      obtain ⟨i, hi, rfl⟩ := List.mem_map.1 hq
      exact (hY i (by simpa using hi)).2.2.1
    · intro i y' q hy hq
      have hi : i < len := by
        by_cases hi : i < len
        · exact hi
        · rw [List.getElem?_eq_none (by simp; omega)] at hq
          cases hq
      obtain rfl : Y i = q := by simpa [hi] using hq
      obtain rfl : D i = y' := by simpa [hi] using hy
      exact (hY i hi).2.2.2
end Go.Proofs.YtaoiejgbbmjpkaaGreatDoor

/- How a batch, and a row of operations, that came in are opened; their sizes. -/
namespace Go.Proofs.YtaoiejgbbmjpkaaGreatDoor
open Go.ChangeShapes Go.WideShapes Go.ChangeAt Go.RowKit Go.Joins Go.Deep
set_option linter.unusedVariables false

theorem weightsAll_mem {H : Type} {P : Program} {e : TypeId} : ∀ {l : List (DataW H)} {d : DataW H}, d ∈ l → ∀ n ∈ d.weights P e, n ∈ DataW.weightsAll P e l
  | [], d, h, _, _ => by cases h
  | x :: r, d, h, n, hn => by
    rw [List.mem_cons] at h
    rw [DataW.weightsAll, List.mem_append]
    rcases h with rfl | h
    · exact Or.inl hn
    · exact Or.inr (weightsAll_mem h n hn)

/-- Its lists are no longer than a machine holds. -/
def TxLens (D : TxD) : Prop := D.rs.length * 16 ≤ 140737488351232 ∧ D.ws.length * 16 ≤ 140737488351232

set_option maxRecDepth 100000 in
theorem tx_fit {H : Type} {d : DataW H} {D : TxD} (h : ∀ n ∈ d.weights Tryz.prog 86, n ≤ reachBytes) (hs : TxDatum d D) : TxLens D :=
  tx_sized (ts := [86]) (ds := [d]) (by rw [List.all_eq_true]; intro n hn; simp [DataW.weightsEach] at hn; simpa using h n hn) (j := 0) rfl rfl hs

theorem txs_fit {H : Type} {d : DataW H} {l : List TxM} (h : ∀ n ∈ d.weights Tryz.prog 24, n ≤ reachBytes) (hs : TxsDatum d l) : ∀ x ∈ l, TxLens x.d := by
  rcases hs with ⟨rfl, rfl⟩ | ⟨ds, rest, rfl, hl, hq⟩
  · simp
  · intro x hx
    obtain ⟨i, hi⟩ := List.getElem?_of_mem hx
    have hi' : i < ds.length := by have := (List.getElem?_eq_some_iff.1 hi).1; omega
    refine tx_fit (fun n hn => h n ?_) (hq i ds[i] x (List.getElem?_eq_getElem hi') hi)
    rw [DataW.weights, Tryz.underlying24]
    simp only [List.mem_cons, List.mem_append]
    exact Or.inr (Or.inl (weightsAll_mem (List.getElem_mem hi') n hn))

theorem list3 {α : Type} {l : List α} (h : l.length = 3) : ∃ c0 c1 c2, l = [c0, c1, c2] := by
  match l, h with
  | [c0, c1, c2], _ => exact ⟨c0, c1, c2, rfl⟩

theorem cellsBat : Tryz.prog.cellsOf 26 = 3 := by kernel_rfl

/-- How a batch reads. -/
def BatDatum {H : Type} (d : DataW H) (l : List TxM) : Prop := ∃ y0 y1 y2, d = .agg [y0, y1, y2] ∧ TxsDatum y2 l

set_option maxRecDepth 100000 in
theorem bat_fit {H : Type} {d : DataW H} {l : List TxM} (h : ∀ n ∈ d.weights Tryz.prog 26, n ≤ reachBytes) (hs : BatDatum d l) : ∀ x ∈ l, TxLens x.d := by
  obtain ⟨y0, y1, y2, rfl, hq⟩ := hs
  refine txs_fit (fun n hn => h n ?_) hq
  rw [DataW.weights, Tryz.underlying26]
  exact DataW.weights_mem_each (ts := [3, 3, 24]) (j := 2) rfl rfl n hn
end Go.Proofs.YtaoiejgbbmjpkaaGreatDoor

/- What the reader's tx does: the transaction that the bytes are, or the first error, thrown. -/
namespace Go.Proofs.YtaoiejgbbmjpkaaGreatDoor
open Go.RowKit
set_option linter.unusedVariables false

/-- What the reader's tx hands back, or throws. -/
def Read (W : World) (rb : Nat) (r : TxD × Nat) (e : Ending) (w : World) : Prop :=
  (r.2 = 0 ∧ ∃ ra rc wa wc, e = .returned (txV r.1 ra rc wa wc) ∧ OwnStrs (rb + 1) w ra r.1.rs ∧ OwnStrs (rb + 1) w wa r.1.ws ∧ (ra = none → rc = 0) ∧ (wa = none → wc = 0) ∧ Below rb W w) ∨ (r.2 ≠ 0 ∧ e = .panicked (thrown r.2) ∧ Below rb W w)
end Go.Proofs.YtaoiejgbbmjpkaaGreatDoor

/- What Decode does: the transaction of bytes, or the first error, caught; nothing old in memory is turned. -/
namespace Go.Proofs.YtaoiejgbbmjpkaaGreatDoor
open Go.RowKit
set_option linter.unusedVariables false

/-- Decode hands back a transaction and an error. -/
def GotDec (W : World) (r : TxD × Nat) (e : Ending) (w : World) : Prop :=
  ∃ ra rc wa wc, e = .returned (.tuple #[txV r.1 ra rc wa wc, .int .i64 (r.2 : Int)]) ∧ TxAt w r.1 ra wa ∧ (ra = none → rc = 0) ∧ (wa = none → wc = 0) ∧ Below W.heap.size W w

/-- The same, and its lists lie in new memory. -/
def GotDecO (W : World) (r : TxD × Nat) (e : Ending) (w : World) : Prop :=
  ∃ ra rc wa wc, e = .returned (.tuple #[txV r.1 ra rc wa wc, .int .i64 (r.2 : Int)]) ∧ OwnStrs W.heap.size w ra r.1.rs ∧ OwnStrs W.heap.size w wa r.1.ws ∧ (ra = none → rc = 0) ∧ (wa = none → wc = 0) ∧ Below W.heap.size W w
end Go.Proofs.YtaoiejgbbmjpkaaGreatDoor

/- What decodeAll and batch.Decode do; nothing old in memory is turned. -/
namespace Go.Proofs.YtaoiejgbbmjpkaaGreatDoor
open Go.RowKit
set_option linter.unusedVariables false

/-- decodeAll hands back a row and an error. -/
def GotAll (W : World) (r : Except Nat (List TxD)) (e : Ending) (w : World) : Prop :=
  ∃ ao cap l er, e = .returned (.tuple #[.slice ao (l : List TxM).length cap, .int .i64 ((er : Nat) : Int)]) ∧ TxsAt w ao l ∧ (ao = none → cap = 0) ∧ ((er = 0 ∧ r = .ok (dl l)) ∨ (er ≠ 0 ∧ r = .error er ∧ l = [])) ∧ (∀ b o, ao = some ⟨b, o, none⟩ → W.heap.size ≤ b) ∧ (∀ x ∈ l, x.Off (fun k => k < W.heap.size)) ∧ Below W.heap.size W w

/-- Decode hands back a batch and an error. -/
def GotBat (W : World) (r : Except Nat BatD) (e : Ending) (w : World) : Prop :=
  ∃ (a n : Int) (ao : Option Addr) (l : List TxM) (cap er : Nat), e = .returned (.tuple #[batV a n ao l.length cap, .int .i64 (er : Int)]) ∧ TxsAt w ao l ∧ (ao = none → cap = 0) ∧ ((er = 0 ∧ r = .ok ⟨a, n, dl l⟩) ∨ (er ≠ 0 ∧ r = .error er ∧ a = 0 ∧ n = 0 ∧ l = [])) ∧ Below W.heap.size W w

/-- Decode hands back a batch, all of it new, and an error. -/
def GotBatN (W : World) (r : Except Nat BatD) (e : Ending) (w : World) : Prop :=
  ∃ (a n : Int) (ao : Option Addr) (l : List TxM) (cap er : Nat), e = .returned (.tuple #[batV a n ao l.length cap, .int .i64 (er : Int)]) ∧ TxsAt w ao l ∧ (ao = none → cap = 0) ∧ ((er = 0 ∧ r = .ok ⟨a, n, dl l⟩) ∨ (er ≠ 0 ∧ r = .error er ∧ a = 0 ∧ n = 0 ∧ l = [])) ∧
    (∀ b o, ao = some ⟨b, o, none⟩ → W.heap.size ≤ b) ∧ (∀ x ∈ l, x.Off (fun k => k < W.heap.size)) ∧ Below W.heap.size W w
end Go.Proofs.YtaoiejgbbmjpkaaGreatDoor

/- What tusklaw04.Own and tusklaw05.Own do: what is handed back reads the same, in new memory. -/
namespace Go.Proofs.YtaoiejgbbmjpkaaGreatDoor
open Go.RowKit
set_option linter.unusedVariables false

/-- A transaction is handed back, its lists in new memory. -/
def GotTxO (W : World) (d : TxD) (e : Ending) (w : World) : Prop :=
  ∃ ra rc wa wc, e = .returned (txV d ra rc wa wc) ∧ OwnStrs W.heap.size w ra d.rs ∧ OwnStrs W.heap.size w wa d.ws ∧ (ra = none → rc = 0) ∧ (wa = none → wc = 0) ∧ Below W.heap.size W w

set_option maxRecDepth 100000 in
set_option maxHeartbeats 1000000 in
theorem own_new (d : TxD) (ra : Option Addr) (rc : Nat) (wa : Option Addr) (wc : Nat) (w : World) (hA : TxAt w d ra wa) (hr : ra = none → rc = 0) (hw : wa = none → wc = 0) (lr : d.rs.length * 16 ≤ 140737488351232) (lw : d.ws.length * 16 ≤ 140737488351232) :
    Calls Tryz.prog 42 #[txV d ra rc wa wc] w fun e w' => GotTxO w d e w' := by
  obtain ⟨hX, hZ, hB⟩ := two_new w 86 86 (txC d ra rc wa wc) zeroC
  have hown0 := own_made ((w.alloc (.cells (txC d ra rc wa wc).toArray 86)).alloc (.cells zeroC.toArray 86)) (w.heap.size + 1 + 1) (by rw [alloc_size, alloc_size])
  have hB0 := hB.alloc hB.size (.cells #[] 9)
  have hXa := hX.alloc (.cells #[] 9)
  have hZa := hZ.alloc (.cells #[] 9)
  have hR0 := hA.rd.below hB0
  have hW := hA.wr
  have hs0 : w.heap.size + 1 + 1 ≤ (((w.alloc (.cells (txC d ra rc wa wc).toArray 86)).alloc (.cells zeroC.toArray 86)).alloc (.cells #[] 9)).heap.size := by rw [alloc_size, alloc_size, alloc_size]; omega
  clear hX hZ hB hA
  obtain ⟨kind, frm, to, amt, non, key, val, rs, ws⟩ := d
  replace lr : rs.length * 16 ≤ 140737488351232 := lr
  replace lw : ws.length * 16 ≤ 140737488351232 := lw
  unfold txV
  go_enter Tryz.func42, Tryz.ntmps42
  go_wp2_with (at_builtin; refine wpList_append_strs rfl _ _ rfl (w.heap.size + 1 + 1) _ rfl hown0 ra rc rs rfl hR0 hr (by omega) hs0 ?_)
  intro a1 c1 w1 hS1 hn1 hb1
  have hX1 := hXa.below hb1 (by omega)
  have hZ1 := hZa.below hb1 (by omega)
  have hB1 := hB0.trans (hb1.mono (by omega))
  have hsz1 : w.heap.size + 1 + 1 ≤ w1.heap.size := Nat.le_trans hs0 hb1.size
  clear hb1 hXa hZa hB0 hown0 hs0 hR0
  have hX2 := hX1.set 7 (.slice a1 rs.length c1)
  have hZ2 := hZ1.other (p := ⟨w.heap.size, 7, none⟩) (by show w.heap.size + 1 ≠ w.heap.size; omega) (.slice a1 rs.length c1)
  have hB2 := hB1.setCell (p := ⟨w.heap.size, 7, none⟩) (Nat.le_refl _) (.slice a1 rs.length c1)
  have z7 := hX1.frozen 7
  have k7 := hX1.cell (i := 7) rfl
  have k8 := hX1.cell (i := 8) rfl
  have hs2 : (w1.setCell ⟨w.heap.size, 7, none⟩ (.slice a1 rs.length c1)).heap.size = w1.heap.size := setCell_size _ _ _
  have hown1 := own_made (w1.setCell ⟨w.heap.size, 7, none⟩ (.slice a1 rs.length c1)) w1.heap.size hs2
  have hS2 := hS1.put (p := ⟨w.heap.size, 7, none⟩) (by show w.heap.size < _; omega) (.slice a1 rs.length c1)
  have hB3 := hB2.alloc (by rw [hs2]; omega) (.cells #[] 9)
  have hX3 := hX2.alloc (.cells #[] 9)
  have hZ3 := hZ2.alloc (.cells #[] 9)
  have hW3 := hW.below hB3
  have hS3 := hS2.below (belowNew _ (.cells #[] 9))
  have k8 := hX3.cell (i := 8) rfl
  have hs3 : w1.heap.size ≤ ((w1.setCell ⟨w.heap.size, 7, none⟩ (.slice a1 rs.length c1)).alloc (.cells #[] 9)).heap.size := by rw [alloc_size, hs2]; omega
  go_wp2_with (at_builtin; refine wpList_append_strs rfl _ _ rfl w1.heap.size _ rfl hown1 wa wc ws rfl hW3 hw (by omega) hs3 ?_)
  intro a2 c2 w2 hT2 hn2 hb2
  have hX4 := hX3.below hb2 (by omega)
  have hZ4 := hZ3.below hb2 (by omega)
  have hB4 := hB3.trans (hb2.mono (by omega))
  have hS4 : OwnStrs (w.heap.size + 1 + 1) w2 a1 rs := by
    intro j hj
    obtain ⟨b, off, h1, h2, h3, h4⟩ := hS1 j hj
    obtain ⟨b', off', h1', h2', h3', h4'⟩ := hS3 j hj
    rw [h1] at h1'
    simp at h1'
    obtain ⟨rfl, rfl⟩ := h1'
    exact ⟨b, off, h1, h2, Nat.lt_of_lt_of_le h3' hb2.size, by rw [hb2.cell (p := ⟨b, off + j, none⟩) h3]; exact h4'⟩
  have hsz2 : w.heap.size + 1 + 1 ≤ w2.heap.size := Nat.le_trans (Nat.le_trans hsz1 hs3) hb2.size
  clear hb2 hX3 hZ3 hB3 hW3 hS3 k8 hs3 hS2 hown1 hs2 k7 z7 hX2 hZ2 hB2 hX1 hZ1 hB1 hS1 hW
  have z8 := hX4.frozen 8
  have k8 := hX4.cell (i := 8) rfl
  have hX5 := hX4.set 8 (.slice a2 ws.length c2)
  have hZ5 := hZ4.other (p := ⟨w.heap.size, 8, none⟩) (by show w.heap.size + 1 ≠ w.heap.size; omega) (.slice a2 ws.length c2)
  have hB5 := hB4.setCell (p := ⟨w.heap.size, 8, none⟩) (Nat.le_refl _) (.slice a2 ws.length c2)
  have hS5 := hS4.put (p := ⟨w.heap.size, 8, none⟩) (by show w.heap.size < _; omega) (.slice a2 ws.length c2)
  have hT5 := hT2.put (p := ⟨w.heap.size, 8, none⟩) (by show w.heap.size < _; omega) (.slice a2 ws.length c2)
  replace hX5 : Arr (w2.setCell ⟨w.heap.size, 8, none⟩ (.slice a2 ws.length c2)) w.heap.size 86 (txC ⟨kind, frm, to, amt, non, key, val, rs, ws⟩ a1 c1 a2 c2) := hX5
  clear hX4 hZ4 hB4 hS4 hT2
  obtain ⟨w3, hw3⟩ : ∃ w3, Hid (w3 = w2.setCell ⟨w.heap.size, 8, none⟩ (.slice a2 ws.length c2)) := ⟨_, rfl⟩
  rw [← hw3.out] at hX5 hZ5 hB5 hS5 hT5
  have hw3' : w2.setCell ⟨w.heap.size, 8, none⟩ (.slice a2 ws.length c2) = w3 := hw3.out.symm
  have x0 := hX5.cell (i := 0) rfl
  have x1 := hX5.cell (i := 1) rfl
  have x2 := hX5.cell (i := 2) rfl
  have x3 := hX5.cell (i := 3) rfl
  have x4 := hX5.cell (i := 4) rfl
  have x5 := hX5.cell (i := 5) rfl
  have x6 := hX5.cell (i := 6) rfl
  have x7 := hX5.cell (i := 7) rfl
  have x8 := hX5.cell (i := 8) rfl
  have f0 := hZ5.frozen 0
  have f1 := hZ5.frozen 1
  have f2 := hZ5.frozen 2
  have f3 := hZ5.frozen 3
  have f4 := hZ5.frozen 4
  have f5 := hZ5.frozen 5
  have f6 := hZ5.frozen 6
  have f7 := hZ5.frozen 7
  have f8 := hZ5.frozen 8
  have y0 := hZ5.cell (i := 0) rfl
  have y1 := hZ5.cell (i := 1) rfl
  have y2 := hZ5.cell (i := 2) rfl
  have y3 := hZ5.cell (i := 3) rfl
  have y4 := hZ5.cell (i := 4) rfl
  have y5 := hZ5.cell (i := 5) rfl
  have y6 := hZ5.cell (i := 6) rfl
  have y7 := hZ5.cell (i := 7) rfl
  have y8 := hZ5.cell (i := 8) rfl

  go_wp2
  have hF := hZ5.set9 (.int .i64 kind) (.string frm) (.string to) (.int .u64 (amt : Int)) (.int .u64 (non : Int)) (.string key) (.string val) (.slice a1 rs.length c1) (.slice a2 ws.length c2)
  have hBF := below_set9 hB5 (g := w.heap.size + 1) (by omega) (.int .i64 kind) (.string frm) (.string to) (.int .u64 (amt : Int)) (.int .u64 (non : Int)) (.string key) (.string val) (.slice a1 rs.length c1) (.slice a2 ws.length c2)
  have hSF := hS5.set9 (g := w.heap.size + 1) (by omega) (.int .i64 kind) (.string frm) (.string to) (.int .u64 (amt : Int)) (.int .u64 (non : Int)) (.string key) (.string val) (.slice a1 rs.length c1) (.slice a2 ws.length c2)
  have hTF := hT5.set9 (g := w.heap.size + 1) (by omega) (.int .i64 kind) (.string frm) (.string to) (.int .u64 (amt : Int)) (.int .u64 (non : Int)) (.string key) (.string val) (.slice a1 rs.length c1) (.slice a2 ws.length c2)
  unfold set9 at hF hBF hSF hTF
  refine bodyPost_ret (v := txV ⟨kind, frm, to, amt, non, key, val, rs, ws⟩ a1 c1 a2 c2) ?r1 ?r2 ?r3
  case r1 => exact results_tx rfl _ _ (w.heap.size + 1) 86 ⟨kind, frm, to, amt, non, key, val, rs, ws⟩ _ _ _ _ rfl hF
  case r2 => rfl
  refine ⟨a1, c1, a2, c2, rfl, ?_, ?_, hn1, hn2, ?_⟩
  · refine OwnStrs.mono (b2 := w.heap.size + 1 + 1) ?_ (by omega)
    with_reducible exact hSF
  · refine OwnStrs.mono (b2 := w1.heap.size) ?_ (by omega)
    with_reducible exact hTF
  · with_reducible exact hBF

theorem results_bat {fn : Func} {p : Tmp} (h : fn.results = #[.cell p 26]) (tmps : Array Value) (w : World) (g : Nat) (a n : Int) (ao : Option Addr) (len cap : Nat)
    (hp : tmps.getD p undef = .pointer (some ⟨g, 0, none⟩)) (hg : Arr w g 26 (batC a n ao len cap)) :
    (results fn tmps).run Tryz.prog w = .ok (batV a n ao len cap) w :=
  results_cell_row h tmps w g 26 (batC a n ao len cap).toArray (0, 0) _ hp hg Tryz.underlying26 rfl infoBat

/-- A batch is handed back, in new memory. -/
def GotOwn (W : World) (a n : Int) (l : List TxM) (e : Ending) (w : World) : Prop :=
  ∃ ao cap m, e = .returned (batV a n ao (m : List TxM).length cap) ∧ dl m = dl l ∧ TxsAt w ao m ∧ (ao = none → cap = 0) ∧ Below W.heap.size W w
end Go.Proofs.YtaoiejgbbmjpkaaGreatDoor

/- What tusklaw05.Own does, once more: a batch that shares nothing, and all of it lies in new memory. -/
namespace Go.Proofs.YtaoiejgbbmjpkaaGreatDoor
open Go.RowKit
set_option linter.unusedVariables false

/-- A batch that shares nothing is handed back. -/
def GotOwnT (W : World) (x : BatM) (e : Ending) (w : World) : Prop :=
  ∃ y : BatM, e = .returned y.v ∧ y.d = x.d ∧ y.At w ∧ (∀ b, rowFoot txK y.ta y.txs b → W.heap.size ≤ b) ∧ Below W.heap.size W w

theorem off_new {x : TxM} {n b : Nat} (h : x.Off (fun j => j ≤ n + 1)) (hf : txK.foot x b) : n ≤ b := by
  rcases hf with hf | hf
  · rcases hf with ⟨hne, off, e⟩ | ⟨_, _, h'⟩
    · have := h.r b off e (List.length_pos_iff.2 hne)
      omega
    · exact h'.elim
  · rcases hf with ⟨hne, off, e⟩ | ⟨_, _, h'⟩
    · have := h.w b off e (List.length_pos_iff.2 hne)
      omega
    · exact h'.elim

set_option maxRecDepth 100000 in
set_option maxHeartbeats 4000000 in
theorem own05n_any (a n : Int) (ao : Option Addr) (l : List TxM) (cap : Nat) (w : World) (hA : TxsAt w ao l) (hL : ∀ x ∈ l, TxLens x.d) (hn : l.length ≤ 100) :
    Calls Tryz.prog 19 #[batV a n ao l.length cap] w fun e w' => GotOwnT w ⟨a, n, ao, l, cap⟩ e w' := by
  obtain ⟨hX, hZ, hB⟩ := two_new w 26 26 [.int .i64 a, .int .i64 n, .slice ao l.length cap] [.int .i64 0, .int .i64 0, .slice none 0 0]
  obtain ⟨i0, hi, hz0, hz1, hz2⟩ := info_parts infoTx4
  unfold batV
  go_enter Tryz.func19, Tryz.ntmps19
  go_wp2
  go_loopw [3, 4] (fun v3 v4 wr => ∃ (k : Nat) (m : List TxM), k ≤ l.length ∧ m.length = k ∧ v4 = .int .i64 (k : Int) ∧ Hid (dl m = dl (l.take k)) ∧ TxQ wr (w.heap.size + 1 + 1) v3 m ∧ (∀ x ∈ m, x.Off (fun j => j ≤ w.heap.size + 1)) ∧ Arr wr w.heap.size 26 [.int .i64 a, .int .i64 n, .slice ao l.length cap] ∧ Arr wr (w.heap.size + 1) 26 [.int .i64 0, .int .i64 0, .slice none 0 0] ∧ Below w.heap.size w wr) (fun _ v _ => l.length - (intOf v).toNat)
  case atStart => exact ⟨0, [], Nat.zero_le _, rfl, rfl, (rfl : _ = _), TxQ.empty _ _, (fun x hx => by cases hx), hX, hZ, hB⟩
  case round =>
    clear hX hZ hB
    obtain ⟨k, m, hk, hmk, rfl, hD, hq, hof, hX, hZ, hb⟩ := hrel
    have x2 := hX.cell (i := 2) rfl
    by_cases hlt : k < l.length
    · obtain ⟨x, hx⟩ : ∃ x, l[k]? = some x := ⟨l[k], List.getElem?_eq_getElem hlt⟩
      obtain ⟨b, off, rfl, hbl, y0, y1, y2, y3, y4, y5, y6, y7, y8⟩ := (hA.below hb).cells hx
      have hAt := (hA k x hx).2.below hb
      have hLx := hL x (List.mem_of_getElem? hx)
      have cO := own_new x.d x.ra x.rc x.wa x.wc wr hAt.at_ hAt.nr hAt.nw hLx.1 hLx.2
      have hD2 : Hid (dl m ++ [x.d] = dl (l.take (k + 1))) := by
        have he := (List.getElem?_eq_some_iff.1 hx).2
        show _ = _
        rw [List.take_succ_eq_append_getElem hlt, he, hD.out]
        simp [dl]
      obtain ⟨qa, qc, rfl, hqn, _⟩ := hq.form
      rw [hmk] at hq
      clear hx hD
      go_wp2_with fail
      refine cO.mono ?_
      rintro e w1 ⟨ra, rc, wa, wc, rfl, hO1, hO2, hr, hw, hb1⟩
      have hq1 := hq.below hb1
      have hX1 := hX.below hb1 hX.lt
      have hZ1 := hZ.below hb1 hZ.lt
      have hb2 := hb.trans (hb1.mono hb.size)
      obtain ⟨d, hd⟩ : ∃ q, q = x.d := ⟨_, rfl⟩
      rw [← hd] at hO1 hO2 hD2 ⊢
      have hoffx : TxM.Off ⟨d, ra, rc, wa, wc⟩ (fun j => (Value.slice qa k qc).ownBlock = some j) := off_own hO1 hO2 (fun j hj => (hq.lt j hj).2)
      have hoffy : TxM.Off ⟨d, ra, rc, wa, wc⟩ (fun j => j ≤ w.heap.size + 1) := off_own hO1 hO2 (fun j hj => Nat.lt_of_le_of_lt hj hZ.lt)
      have hx1 : TxM.At ⟨d, ra, rc, wa, wc⟩ w1 := ⟨⟨hO1.at, hO2.at⟩, hr, hw⟩
      clear hb1 cO hO1 hO2 hq hb hX hZ x2 y0 y1 y2 y3 y4 y5 y6 y7 y8 hd hAt
      unfold txV
      have hbx := belowNew w1 (.cells (TxM.c ⟨d, ra, rc, wa, wc⟩).toArray 86)
      have hq2 := hq1.below hbx
      have hx2 := hx1.below hbx
      have hX2 := hX1.below hbx hX1.lt
      have hZ2 := hZ1.below hbx hZ1.lt
      have hb3 := hb2.trans (hbx.mono hb2.size)
      have hnew := new_c w1 ⟨d, ra, rc, wa, wc⟩
      have hrow2 := hq2.row
      rw [hmk] at hrow2
      have hbase : w.heap.size + 1 + 1 ≤ (w1.alloc (.cells (TxM.c ⟨d, ra, rc, wa, wc⟩).toArray 86)).heap.size := hZ2.lt
      clear hq1 hx1 hbx
      go_wp2_with (at_builtin; refine wpList_append_q rfl _ _ 24 rfl (w.heap.size + 1 + 1) 86 i0 _ 9 136 Tryz.underlying24 hi hz0 hz1 hz2 rfl (by decide) _ k (flatX m) rfl hrow2 ⟨w1.heap.size, 0, none⟩ 1 1 (TxM.c ⟨d, ra, rc, wa, wc⟩) rfl (by decide) rfl hnew (c_one _) ?c3 ?c4 hbase ?_)
      case c3 => unfold maxLen; omega
      case c4 => omega
      intro q' w3 hrow hgr hfr
      have hq5 := hq2.push (m := [⟨d, ra, rc, wa, wc⟩]) (by intro x hx; simp at hx; rw [hx]; exact hx2) (by intro x hx; simp at hx; rw [hx]; exact hoffx) (by simp) (by rw [flatX_single, hmk]; exact hrow) hgr (fun g hg => by rw [alloc_size]; exact hfr g hg)
      have hkg := Kept.of_grown hgr
      have hqt : ∀ j, (Value.slice qa k qc).ownBlock = some j → w.heap.size + 1 + 1 ≤ j := fun j hj => (hq2.lt j hj).1
      have hX3 := hX2.kept hkg (fun e => by have := hqt _ e; omega)
      have hZ3 := hZ2.kept hkg (fun e => by have := hqt _ e; omega)
      have hb5 : Below w.heap.size w w3 := hb3.trans (hkg.below hb3.size (fun j hj => by have := hqt j hj; omega))
      have hof2 : ∀ x ∈ m ++ [⟨d, ra, rc, wa, wc⟩], x.Off (fun j => j ≤ w.heap.size + 1) := by
        intro x hx
        rw [List.mem_append, List.mem_singleton] at hx
        rcases hx with hx | rfl
        · exact hof x hx
        · exact hoffy
      have hD3 : Hid (dl (m ++ [⟨d, ra, rc, wa, wc⟩]) = dl (l.take (k + 1))) := by
        show _ = _
        rw [← hD2.out]
        simp [dl]
      obtain ⟨qa2, qc2, rfl, _, _⟩ := QRow.form hrow
      clear hrow hgr hfr hq2 hx2 hb3 hnew hrow2 hX2 hZ2 hkg hqt hX1 hZ1
      go_wp2
      go_roundw
      case rel => exact ⟨k + 1, m ++ [⟨d, ra, rc, wa, wc⟩], by omega, by simp [hmk], by go_num, hD3, hq5, hof2, hX3, hZ3, hb5⟩
      case measure => simp [intOf]; omega
    · obtain rfl : k = l.length := by omega
      have hD2 : Hid (dl m = dl l) := by have := hD.out; rw [List.take_length] at this; exact this
      obtain ⟨qa, qc, rfl, hqn, hqT⟩ := hq.form
      have f2 := hX.frozen 2
      have hX2 := hX.set 2 (.slice qa m.length qc)
      have hZ2 := hZ.other (p := ⟨w.heap.size, 2, none⟩) (by show w.heap.size + 1 ≠ w.heap.size; omega) (.slice qa m.length qc)
      have hb2 := hb.setCell (p := ⟨w.heap.size, 2, none⟩) (Nat.le_refl _) (.slice qa m.length qc)
      have hT2 := hqT.kept (Kept.setCell wr ⟨w.heap.size, 2, none⟩ (.slice qa m.length qc)) (fun b o e hb => by have := (hq.lt b (by rw [e]; rfl)).1; have e' : b = w.heap.size := hb; omega) (fun x hx => (hof x hx).mono (fun j e => by have e' : j = w.heap.size := e; omega))
      obtain ⟨w2, hw2⟩ : ∃ q, wr.setCell ⟨w.heap.size, 2, none⟩ (.slice qa m.length qc) = q := ⟨_, rfl⟩
      rw [hw2] at hX2 hZ2 hb2 hT2
      replace hX2 : Arr w2 w.heap.size 26 [.int .i64 a, .int .i64 n, .slice qa m.length qc] := hX2
      have u0 := hX2.cell (i := 0) rfl
      have u1 := hX2.cell (i := 1) rfl
      have u2 := hX2.cell (i := 2) rfl
      have y0 := hZ2.cell (i := 0) rfl
      have y1 := hZ2.cell (i := 1) rfl
      have y2 := hZ2.cell (i := 2) rfl
      have p0 := hZ2.frozen 0
      have p1 := hZ2.frozen 1
      have p2 := hZ2.frozen 2
      have hZF := hZ2.set3 (.int .i64 a) (.int .i64 n) (.slice qa m.length qc)
      have hBF := below_set3 hb2 (g := w.heap.size + 1) (by omega) (.int .i64 a) (.int .i64 n) (.slice qa m.length qc)
      have hTF := hT2.set3 (g := w.heap.size + 1) (fun b o e hb => by have := (hq.lt b (by rw [e]; rfl)).1; omega) (fun x hx => (hof x hx).mono (fun j e => by have e' : j = w.heap.size + 1 := e; omega)) (.int .i64 a) (.int .i64 n) (.slice qa m.length qc)
      have hft : ∀ b, rowFoot txK qa m b → w.heap.size ≤ b := fun b hb => by
        rcases hb with ⟨_, off, e⟩ | ⟨x, hx, h⟩
        · have := (hq.lt b (by rw [e]; rfl)).1
          omega
        · exact off_new (hof x hx) h
      have hfin : ∀ e, e = .returned (batV a n qa m.length qc) → GotOwnT w ⟨a, n, ao, l, cap⟩ e _ := fun e he => ⟨⟨a, n, qa, m, qc⟩, he, (by show (⟨a, n, dl m⟩ : BatD) = ⟨a, n, dl l⟩; rw [hD2.out]), ⟨hTF.rows, hqn⟩, hft, hBF⟩
      unfold set3 at hZF hfin
      clear hD hTF hBF hT2 hqT hq hX hZ hZ2 hb hb2 hX2 hmk
      go_wp2
      refine bodyPost_ret (v := batV a n qa m.length qc) (results_bat rfl _ _ (w.heap.size + 1) a n qa m.length qc rfl hZF) rfl ?_
      exact hfin _ rfl
end Go.Proofs.YtaoiejgbbmjpkaaGreatDoor

/- A Ref in a new cell; four cells of a block that are written one behind the other. -/
namespace Go.Proofs.YtaoiejgbbmjpkaaGreatDoor
open Go.RowKit
set_option linter.unusedVariables false

theorem rd_append (l m : List RefM) : rd (l ++ m) = rd l ++ rd m := by simp [rd]

theorem new_ref (w : World) (x : RefM) : ∀ j u, (refK.c x)[j]? = some u → (w.alloc (.cells #[.string x.digest, .slice x.ao x.acks.length x.cap] 53)).cell? ((⟨w.heap.size, 0, none⟩ : Addr).add j) = some u := by
  intro j u hu
  rw [Go.WideShapes.add_plain, Nat.zero_add]
  exact (Arr.new w 53 [.string x.digest, .slice x.ao x.acks.length x.cap]).cell hu

/-- Four cells are written anew. -/
def set4 (w : World) (g : Nat) (v0 v1 v2 v3 : Value) : World := (((w.setCell ⟨g, 0, none⟩ v0).setCell ⟨g, 1, none⟩ v1).setCell ⟨g, 2, none⟩ v2).setCell ⟨g, 3, none⟩ v3

theorem Arr.set4 {w : World} {g : Nat} {t : TypeId} {a0 a1 a2 a3 : Value} (h : Arr w g t [a0, a1, a2, a3]) (v0 v1 v2 v3 : Value) : Arr (Proofs.YtaoiejgbbmjpkaaGreatDoor.set4 w g v0 v1 v2 v3) g t [v0, v1, v2, v3] := (((h.set 0 v0).set 1 v1).set 2 v2).set 3 v3

theorem below_set4 {B : Nat} {w w' : World} (h : Below B w w') {g : Nat} (hg : B ≤ g) (v0 v1 v2 v3 : Value) : Below B w (set4 w' g v0 v1 v2 v3) :=
  (((h.setCell (p := ⟨g, 0, none⟩) hg v0).setCell (p := ⟨g, 1, none⟩) hg v1).setCell (p := ⟨g, 2, none⟩) hg v2).setCell (p := ⟨g, 3, none⟩) hg v3

theorem kept_set4 (w : World) (g : Nat) (v0 v1 v2 v3 : Value) : Kept (fun k => k = g) w (set4 w g v0 v1 v2 v3) :=
  ((((Kept.refl (fun k => k = g) w).set (p := ⟨g, 0, none⟩) rfl v0).set (p := ⟨g, 1, none⟩) rfl v1).set (p := ⟨g, 2, none⟩) rfl v2).set (p := ⟨g, 3, none⟩) rfl v3
end Go.Proofs.YtaoiejgbbmjpkaaGreatDoor
