/- Texts as one: TxOwn, TxRows, QueueStep, Kinds, StrKind, TxKind. -/
import Derived.Test.YtcjmeaikdfgapaaDoorSd05
import Derived.Test.YtcjmeaikdfgapaaDoorSd04
import Derived.Deep.Slices
import Derived.Deep.AppendLies
import Derived.Deep.RegionLaw
/- What tusklaw04.Own, pay and works do; nothing old in memory is turned. -/
namespace Go.Proofs.YtcjmeaikdfgapaaDoor
open Go.RowKit
set_option linter.unusedVariables false

theorem infoTx : (Tryd.prog.info? 33).map (·.size) = some 9 := by kernel_rfl

def zeroC : List Value := [.int .i64 0, .string ⟨#[]⟩, .string ⟨#[]⟩, .int .u64 0, .int .u64 0, .string ⟨#[]⟩, .string ⟨#[]⟩, .slice none 0 0, .slice none 0 0]

theorem results_tx {fn : Func} {p : Tmp} (h : fn.results = #[.cell p 33]) (tmps : Array Value) (w : World) (g : Nat) (t : TypeId) (d : TxD) (ra : Option Addr) (rc : Nat) (wa : Option Addr) (wc : Nat)
    (hp : tmps.getD p undef = .pointer (some ⟨g, 0, none⟩)) (hg : Arr w g t (txC d ra rc wa wc)) :
    (results fn tmps).run Tryd.prog w = .ok (txV d ra rc wa wc) w :=
  results_cell_row h tmps w g t (txC d ra rc wa wc).toArray (0, 0) _ hp hg Tryd.underlying33 rfl infoTx

theorem Arr.cells9 {w : World} {g : Nat} {t : TypeId} {a0 a1 a2 a3 a4 a5 a6 a7 a8 : Value} (h : Arr w g t [a0, a1, a2, a3, a4, a5, a6, a7, a8]) :
    w.cell? ⟨g, 0, none⟩ = some a0 ∧ w.cell? ⟨g, 1, none⟩ = some a1 ∧ w.cell? ⟨g, 2, none⟩ = some a2 ∧ w.cell? ⟨g, 3, none⟩ = some a3 ∧ w.cell? ⟨g, 4, none⟩ = some a4 ∧ w.cell? ⟨g, 5, none⟩ = some a5 ∧ w.cell? ⟨g, 6, none⟩ = some a6 ∧ w.cell? ⟨g, 7, none⟩ = some a7 ∧ w.cell? ⟨g, 8, none⟩ = some a8 :=
  ⟨h.cell rfl, h.cell rfl, h.cell rfl, h.cell rfl, h.cell rfl, h.cell rfl, h.cell rfl, h.cell rfl, h.cell rfl⟩

/-- Nine cells are written anew. -/
def set9 (w : World) (g : Nat) (v0 v1 v2 v3 v4 v5 v6 v7 v8 : Value) : World :=
  ((((((((w.setCell ⟨g, 0, none⟩ v0).setCell ⟨g, 1, none⟩ v1).setCell ⟨g, 2, none⟩ v2).setCell ⟨g, 3, none⟩ v3).setCell ⟨g, 4, none⟩ v4).setCell ⟨g, 5, none⟩ v5).setCell ⟨g, 6, none⟩ v6).setCell ⟨g, 7, none⟩ v7).setCell ⟨g, 8, none⟩ v8

theorem Arr.set9 {w : World} {g : Nat} {t : TypeId} {a0 a1 a2 a3 a4 a5 a6 a7 a8 : Value} (h : Arr w g t [a0, a1, a2, a3, a4, a5, a6, a7, a8]) (v0 v1 v2 v3 v4 v5 v6 v7 v8 : Value) :
    Arr (Proofs.YtcjmeaikdfgapaaDoor.set9 w g v0 v1 v2 v3 v4 v5 v6 v7 v8) g t [v0, v1, v2, v3, v4, v5, v6, v7, v8] :=
  ((((((((h.set 0 v0).set 1 v1).set 2 v2).set 3 v3).set 4 v4).set 5 v5).set 6 v6).set 7 v7).set 8 v8

theorem below_set9 {B : Nat} {w w' : World} (h : Below B w w') {g : Nat} (hg : B ≤ g) (v0 v1 v2 v3 v4 v5 v6 v7 v8 : Value) : Below B w (set9 w' g v0 v1 v2 v3 v4 v5 v6 v7 v8) :=
  ((((((((h.setCell (p := ⟨g, 0, none⟩) hg v0).setCell (p := ⟨g, 1, none⟩) hg v1).setCell (p := ⟨g, 2, none⟩) hg v2).setCell (p := ⟨g, 3, none⟩) hg v3).setCell (p := ⟨g, 4, none⟩) hg v4).setCell (p := ⟨g, 5, none⟩) hg v5).setCell (p := ⟨g, 6, none⟩) hg v6).setCell (p := ⟨g, 7, none⟩) hg v7).setCell (p := ⟨g, 8, none⟩) hg v8

theorem OwnStrs.set9 {base : Nat} {w : World} {ao : Option Addr} {ss : List ByteArray} (h : OwnStrs base w ao ss) {g : Nat} (hg : g < base) (v0 v1 v2 v3 v4 v5 v6 v7 v8 : Value) : OwnStrs base (Proofs.YtcjmeaikdfgapaaDoor.set9 w g v0 v1 v2 v3 v4 v5 v6 v7 v8) ao ss :=
  ((((((((h.put (p := ⟨g, 0, none⟩) hg v0).put (p := ⟨g, 1, none⟩) hg v1).put (p := ⟨g, 2, none⟩) hg v2).put (p := ⟨g, 3, none⟩) hg v3).put (p := ⟨g, 4, none⟩) hg v4).put (p := ⟨g, 5, none⟩) hg v5).put (p := ⟨g, 6, none⟩) hg v6).put (p := ⟨g, 7, none⟩) hg v7).put (p := ⟨g, 8, none⟩) hg v8

/-- A transaction is handed back. -/
def GotTx (W : World) (d : TxD) (e : Ending) (w : World) : Prop :=
  ∃ ra rc wa wc, e = .returned (txV d ra rc wa wc) ∧ TxAt w d ra wa ∧ (ra = none → rc = 0) ∧ (wa = none → wc = 0) ∧ Below W.heap.size W w

def payD : TxD := ⟨1, ⟨#[97, 98]⟩, ⟨#[99]⟩, 5, 1, ⟨#[]⟩, ⟨#[]⟩, [], [⟨#[97, 58, 97, 98]⟩, ⟨#[97, 58, 99]⟩]⟩

set_option maxRecDepth 100000 in
set_option maxHeartbeats 1000000 in
theorem own_any (d : TxD) (ra : Option Addr) (rc : Nat) (wa : Option Addr) (wc : Nat) (w : World) (hA : TxAt w d ra wa) (hr : ra = none → rc = 0) (hw : wa = none → wc = 0) (lr : d.rs.length * 16 ≤ 140737488351232) (lw : d.ws.length * 16 ≤ 140737488351232) :
    Calls Tryd.prog 14 #[txV d ra rc wa wc] w fun e w' => GotTx w d e w' := by
  obtain ⟨hX, hZ, hB⟩ := two_new w 33 33 (txC d ra rc wa wc) zeroC
  have hown0 := own_made ((w.alloc (.cells (txC d ra rc wa wc).toArray 33)).alloc (.cells zeroC.toArray 33)) (w.heap.size + 1 + 1) (by rw [alloc_size, alloc_size])
  have hB0 := hB.alloc hB.size (.cells #[] 9)
  have hXa := hX.alloc (.cells #[] 9)
  have hZa := hZ.alloc (.cells #[] 9)
  have hR0 := hA.rd.below hB0
  have hW := hA.wr
  have hs0 : w.heap.size + 1 + 1 ≤ (((w.alloc (.cells (txC d ra rc wa wc).toArray 33)).alloc (.cells zeroC.toArray 33)).alloc (.cells #[] 9)).heap.size := by rw [alloc_size, alloc_size, alloc_size]; omega
  clear hX hZ hB hA
  obtain ⟨kind, frm, to, amt, non, key, val, rs, ws⟩ := d
  replace lr : rs.length * 16 ≤ 140737488351232 := lr
  replace lw : ws.length * 16 ≤ 140737488351232 := lw
  unfold txV
  go_enter Tryd.func14, Tryd.ntmps14
  go_wp2_with (at_builtin; refine wpList_append_strs rfl _ _ rfl (w.heap.size + 1 + 1) _ rfl hown0 ra rc rs rfl hR0 hr (by omega) hs0 ?_)
  intro a1 c1 w1 hS1 hn1 hb1
  have hX1 := hXa.below hb1 (by omega)
  have hZ1 := hZa.below hb1 (by omega)
  have hB1 := hB0.trans (hb1.mono (by omega))
  have hsz1 : w.heap.size + 1 + 1 ≤ w1.heap.size := Nat.le_trans hs0 hb1.size
  clear hb1 hXa hZa hB0 hown0 hs0 hR0
  have hX2 := hX1.set 7 (.slice a1 rs.length c1)
  have hZ2 := hZ1.other (p := ⟨w.heap.size, 7, none⟩) (by show w.heap.size + 1 ≠ w.heap.size; omega) (.slice a1 rs.length c1)
  have hB2 := hB1.setCell (p := ⟨w.heap.size, 7, none⟩) (Nat.le_refl _) (.slice a1 rs.length c1)
  have z7 := hX1.frozen 7
  have k7 := hX1.cell (i := 7) rfl
  have k8 := hX1.cell (i := 8) rfl
  have hs2 : (w1.setCell ⟨w.heap.size, 7, none⟩ (.slice a1 rs.length c1)).heap.size = w1.heap.size := setCell_size _ _ _
  have hown1 := own_made (w1.setCell ⟨w.heap.size, 7, none⟩ (.slice a1 rs.length c1)) w1.heap.size hs2
  have hS2 := hS1.put (p := ⟨w.heap.size, 7, none⟩) (by show w.heap.size < _; omega) (.slice a1 rs.length c1)
  have hB3 := hB2.alloc (by rw [hs2]; omega) (.cells #[] 9)
  have hX3 := hX2.alloc (.cells #[] 9)
  have hZ3 := hZ2.alloc (.cells #[] 9)
  have hW3 := hW.below hB3
  have hS3 := hS2.below (belowNew _ (.cells #[] 9))
  have k8 := hX3.cell (i := 8) rfl
  have hs3 : w1.heap.size ≤ ((w1.setCell ⟨w.heap.size, 7, none⟩ (.slice a1 rs.length c1)).alloc (.cells #[] 9)).heap.size := by rw [alloc_size, hs2]; omega
  go_wp2_with (at_builtin; refine wpList_append_strs rfl _ _ rfl w1.heap.size _ rfl hown1 wa wc ws rfl hW3 hw (by omega) hs3 ?_)
  intro a2 c2 w2 hT2 hn2 hb2
  have hX4 := hX3.below hb2 (by omega)
  have hZ4 := hZ3.below hb2 (by omega)
  have hB4 := hB3.trans (hb2.mono (by omega))
  have hS4 : OwnStrs (w.heap.size + 1 + 1) w2 a1 rs := by
    intro j hj
    obtain ⟨b, off, h1, h2, h3, h4⟩ := hS1 j hj
    obtain ⟨b', off', h1', h2', h3', h4'⟩ := hS3 j hj
    rw [h1] at h1'
    simp at h1'
    obtain ⟨rfl, rfl⟩ := h1'
    exact ⟨b, off, h1, h2, Nat.lt_of_lt_of_le h3' hb2.size, by rw [hb2.cell (p := ⟨b, off + j, none⟩) h3]; exact h4'⟩
  have hsz2 : w.heap.size + 1 + 1 ≤ w2.heap.size := Nat.le_trans (Nat.le_trans hsz1 hs3) hb2.size
  clear hb2 hX3 hZ3 hB3 hW3 hS3 k8 hs3 hS2 hown1 hs2 k7 z7 hX2 hZ2 hB2 hX1 hZ1 hB1 hS1 hW
  have z8 := hX4.frozen 8
  have k8 := hX4.cell (i := 8) rfl
  have hX5 := hX4.set 8 (.slice a2 ws.length c2)
  have hZ5 := hZ4.other (p := ⟨w.heap.size, 8, none⟩) (by show w.heap.size + 1 ≠ w.heap.size; omega) (.slice a2 ws.length c2)
  have hB5 := hB4.setCell (p := ⟨w.heap.size, 8, none⟩) (Nat.le_refl _) (.slice a2 ws.length c2)
  have hS5 := hS4.put (p := ⟨w.heap.size, 8, none⟩) (by show w.heap.size < _; omega) (.slice a2 ws.length c2)
  have hT5 := hT2.put (p := ⟨w.heap.size, 8, none⟩) (by show w.heap.size < _; omega) (.slice a2 ws.length c2)
  replace hX5 : Arr (w2.setCell ⟨w.heap.size, 8, none⟩ (.slice a2 ws.length c2)) w.heap.size 33 (txC ⟨kind, frm, to, amt, non, key, val, rs, ws⟩ a1 c1 a2 c2) := hX5
  clear hX4 hZ4 hB4 hS4 hT2
  obtain ⟨w3, hw3⟩ : ∃ w3, Hid (w3 = w2.setCell ⟨w.heap.size, 8, none⟩ (.slice a2 ws.length c2)) := ⟨_, rfl⟩
  rw [← hw3.out] at hX5 hZ5 hB5 hS5 hT5
  have hw3' : w2.setCell ⟨w.heap.size, 8, none⟩ (.slice a2 ws.length c2) = w3 := hw3.out.symm
  have x0 := hX5.cell (i := 0) rfl
  have x1 := hX5.cell (i := 1) rfl
  have x2 := hX5.cell (i := 2) rfl
  have x3 := hX5.cell (i := 3) rfl
  have x4 := hX5.cell (i := 4) rfl
  have x5 := hX5.cell (i := 5) rfl
  have x6 := hX5.cell (i := 6) rfl
  have x7 := hX5.cell (i := 7) rfl
  have x8 := hX5.cell (i := 8) rfl
  have f0 := hZ5.frozen 0
  have f1 := hZ5.frozen 1
  have f2 := hZ5.frozen 2
  have f3 := hZ5.frozen 3
  have f4 := hZ5.frozen 4
  have f5 := hZ5.frozen 5
  have f6 := hZ5.frozen 6
  have f7 := hZ5.frozen 7
  have f8 := hZ5.frozen 8
  have y0 := hZ5.cell (i := 0) rfl
  have y1 := hZ5.cell (i := 1) rfl
  have y2 := hZ5.cell (i := 2) rfl
  have y3 := hZ5.cell (i := 3) rfl
  have y4 := hZ5.cell (i := 4) rfl
  have y5 := hZ5.cell (i := 5) rfl
  have y6 := hZ5.cell (i := 6) rfl
  have y7 := hZ5.cell (i := 7) rfl
  have y8 := hZ5.cell (i := 8) rfl

  go_wp2
  have hF := hZ5.set9 (.int .i64 kind) (.string frm) (.string to) (.int .u64 (amt : Int)) (.int .u64 (non : Int)) (.string key) (.string val) (.slice a1 rs.length c1) (.slice a2 ws.length c2)
  have hBF := below_set9 hB5 (g := w.heap.size + 1) (by omega) (.int .i64 kind) (.string frm) (.string to) (.int .u64 (amt : Int)) (.int .u64 (non : Int)) (.string key) (.string val) (.slice a1 rs.length c1) (.slice a2 ws.length c2)
  have hSF := hS5.set9 (g := w.heap.size + 1) (by omega) (.int .i64 kind) (.string frm) (.string to) (.int .u64 (amt : Int)) (.int .u64 (non : Int)) (.string key) (.string val) (.slice a1 rs.length c1) (.slice a2 ws.length c2)
  have hTF := hT5.set9 (g := w.heap.size + 1) (by omega) (.int .i64 kind) (.string frm) (.string to) (.int .u64 (amt : Int)) (.int .u64 (non : Int)) (.string key) (.string val) (.slice a1 rs.length c1) (.slice a2 ws.length c2)
  unfold set9 at hF hBF hSF hTF
  refine bodyPost_ret (v := txV ⟨kind, frm, to, amt, non, key, val, rs, ws⟩ a1 c1 a2 c2) ?r1 ?r2 ?r3
  case r1 => exact results_tx rfl _ _ (w.heap.size + 1) 33 ⟨kind, frm, to, amt, non, key, val, rs, ws⟩ _ _ _ _ rfl hF
  case r2 => rfl
  refine ⟨a1, c1, a2, c2, rfl, ⟨?_, ?_⟩, hn1, hn2, ?_⟩
  · with_reducible exact hSF.at
  · with_reducible exact hTF.at
  · with_reducible exact hBF
end Go.Proofs.YtcjmeaikdfgapaaDoor

/- Rows of transactions in memory; how one that came in is opened. -/
namespace Go.Proofs.YtcjmeaikdfgapaaDoor
open Go.ChangeShapes Go.WideShapes Go.ChangeAt Go.RowKit Go.Joins Go.Deep
set_option linter.unusedVariables false

/-- A transaction as it lies in memory: its data, and where its lists lie. -/
structure TxM where
  d : TxD
  ra : Option Addr
  rc : Nat
  wa : Option Addr
  wc : Nat

def TxM.c (x : TxM) : List Value := txC x.d x.ra x.rc x.wa x.wc
def TxM.v (x : TxM) : Value := txV x.d x.ra x.rc x.wa x.wc

theorem TxM.c_length (x : TxM) : x.c.length = 9 := rfl

/-- Its lists lie in memory, and nil is nil. -/
structure TxM.At (x : TxM) (w : World) : Prop where
  at_ : TxAt w x.d x.ra x.wa
  nr : x.ra = none → x.rc = 0
  nw : x.wa = none → x.wc = 0

theorem TxM.At.below {x : TxM} {w w' : World} (h : x.At w) (hb : Below w.heap.size w w') : x.At w' := ⟨h.at_.below hb, h.nr, h.nw⟩

def flatX (l : List TxM) : List Value := l.flatMap TxM.c

theorem flatX_length (l : List TxM) : (flatX l).length = l.length * 9 := by
  induction l with
  | nil => rfl
  | cons x r ih => simp only [flatX, List.flatMap_cons, List.length_append, TxM.c_length, List.length_cons] at ih ⊢; omega

theorem flatX_append (l m : List TxM) : flatX (l ++ m) = flatX l ++ flatX m := by simp [flatX]

theorem flatX_get : ∀ (l : List TxM) (i : Nat) (x : TxM), l[i]? = some x → ∀ j, j < 9 → (flatX l)[i * 9 + j]? = x.c[j]?
  | [], _, _, h, _, _ => by simp at h
  | y :: r, 0, x, h, j, hj => by
    simp at h
    subst h
    have e : flatX (y :: r) = y.c ++ flatX r := by simp [flatX]
    rw [e, List.getElem?_append_left (by rw [TxM.c_length]; omega), Nat.zero_mul, Nat.zero_add]
  | y :: r, i + 1, x, h, j, hj => by
    have h' : r[i]? = some x := by simpa using h
    have ih := flatX_get r i x h' j hj
    have e : flatX (y :: r) = y.c ++ flatX r := by simp [flatX]
    rw [e, List.getElem?_append_right (by rw [TxM.c_length]; omega), TxM.c_length]
    have : (i + 1) * 9 + j - 9 = i * 9 + j := by omega
    rw [this]
    exact ih

theorem flatX_one (l : List TxM) : ∀ u ∈ flatX l, u.oneCell' = true := by
  intro u hu
  obtain ⟨x, _, hx⟩ := List.mem_flatMap.1 hu
  simp only [TxM.c, txC, List.mem_cons, List.not_mem_nil, or_false] at hx
  rcases hx with rfl | rfl | rfl | rfl | rfl | rfl | rfl | rfl | rfl <;> rfl

/-- A row of transactions lies at an address. -/
def TxsAt (w : World) (ao : Option Addr) (l : List TxM) : Prop :=
  ∀ i x, l[i]? = some x → (∃ b off, ao = some ⟨b, off, none⟩ ∧ b < w.heap.size ∧ ∀ j v, x.c[j]? = some v → w.cell? ⟨b, off + i * 9 + j, none⟩ = some v) ∧ x.At w

theorem TxsAt.below {w w' : World} {ao : Option Addr} {l : List TxM} (h : TxsAt w ao l) (hb : Below w.heap.size w w') : TxsAt w' ao l := by
  intro i x hx
  obtain ⟨⟨b, off, h1, h2, h3⟩, h4⟩ := h i x hx
  exact ⟨⟨b, off, h1, Nat.lt_of_lt_of_le h2 hb.size, fun j v hv => by rw [hb.cell (p := ⟨b, off + i * 9 + j, none⟩) h2]; exact h3 j v hv⟩, h4.below hb⟩

/-- The nine cells of one of them. -/
theorem TxsAt.cells {w : World} {ao : Option Addr} {l : List TxM} (h : TxsAt w ao l) {i : Nat} {x : TxM} (hx : l[i]? = some x) :
    ∃ b off, ao = some ⟨b, off, none⟩ ∧ b < w.heap.size ∧ w.cell? ⟨b, off + i * 9, none⟩ = some (.int .i64 x.d.kind) ∧ w.cell? ⟨b, off + i * 9 + 1, none⟩ = some (.string x.d.frm) ∧ w.cell? ⟨b, off + i * 9 + 2, none⟩ = some (.string x.d.to) ∧ w.cell? ⟨b, off + i * 9 + 3, none⟩ = some (.int .u64 (x.d.amt : Int)) ∧ w.cell? ⟨b, off + i * 9 + 4, none⟩ = some (.int .u64 (x.d.non : Int)) ∧
      w.cell? ⟨b, off + i * 9 + 5, none⟩ = some (.string x.d.key) ∧ w.cell? ⟨b, off + i * 9 + 6, none⟩ = some (.string x.d.val) ∧ w.cell? ⟨b, off + i * 9 + 7, none⟩ = some (.slice x.ra x.d.rs.length x.rc) ∧ w.cell? ⟨b, off + i * 9 + 8, none⟩ = some (.slice x.wa x.d.ws.length x.wc) := by
  obtain ⟨⟨b, off, h1, h2, h3⟩, _⟩ := h i x hx
  exact ⟨b, off, h1, h2, h3 0 _ rfl, h3 1 _ rfl, h3 2 _ rfl, h3 3 _ rfl, h3 4 _ rfl, h3 5 _ rfl, h3 6 _ rfl, h3 7 _ rfl, h3 8 _ rfl⟩

theorem nil_txs (w : World) (ao : Option Addr) : TxsAt w ao [] := fun i x hx => by simp at hx

set_option maxRecDepth 100000 in
/-- A transaction's nine cells, opened. -/
theorem open_tx_cells {H : Type} {enc : TypeId × Value → H} {W : World} {fuel : Nat} {cs : List Value} {y : DataW H × List MemPlace}
    (hf : DataW.trod enc Tryd.prog W 0 (fun _ => true) true fuel 33 cs = some y) :
    ∃ x : TxM, cs = x.c ∧ x.At W ∧ TxSizes x.d ∧ TxDatum y.1 x.d := by
  obtain ⟨xs, n, _, hx, hcl, hl, hg⟩ := DataW.trod_struct Tryd.underlying33 hf
  obtain ⟨c0, c1, c2, c3, c4, c5, c6, c7, c8, rfl⟩ := list9 (hcl.trans cellsTx)
  obtain ⟨y0, y1, y2, y3, y4, y5, y6, y7, y8, rfl⟩ := list9 hl
  have g0 := hg 0 _ rfl
  have g1 := hg 1 _ rfl
  have g2 := hg 2 _ rfl
  have g3 := hg 3 _ rfl
  have g4 := hg 4 _ rfl
  have g5 := hg 5 _ rfl
  have g6 := hg 6 _ rfl
  have g7 := hg 7 _ rfl
  have g8 := hg 8 _ rfl
  have kI : Tryd.prog.cellsOf 3 = 1 := by kernel_rfl
  have kU : Tryd.prog.cellsOf 23 = 1 := by kernel_rfl
  have kS : Tryd.prog.cellsOf 22 = 1 := by kernel_rfl
  simp [cellsString, kI, kU, kS] at g0 g1 g2 g3 g4 g5 g6 g7 g8
  obtain ⟨a0, e0, _, _⟩ := DataW.trod_int Tryd.underlying3 g0
  obtain ⟨a1, e1, _, s1⟩ := DataW.trod_string Tryd.underlying9 g1
  obtain ⟨a2, e2, _, s2⟩ := DataW.trod_string Tryd.underlying9 g2
  obtain ⟨a3, e3, _, u3⟩ := DataW.trod_int Tryd.underlying23 g3
  obtain ⟨a4, e4, _, u4⟩ := DataW.trod_int Tryd.underlying23 g4
  obtain ⟨a5, e5, _, s5⟩ := DataW.trod_string Tryd.underlying9 g5
  obtain ⟨a6, e6, _, s6⟩ := DataW.trod_string Tryd.underlying9 g6
  obtain ⟨ra, rl, rc, e7⟩ := slice_form Tryd.underlying22 g7
  obtain ⟨wa, wl, wc, e8⟩ := slice_form Tryd.underlying22 g8
  simp at e0 e1 e2 e3 e4 e5 e6 e7 e8
  subst e0 e1 e2 e3 e4 e5 e6 e7 e8
  have t7 : DataW.Trod enc Tryd.prog W 0 (fun _ => true) true 22 (.slice ra rl rc) y7.1 y7.2 := ⟨n, by simpa [Value.cells] using g7⟩
  have t8 : DataW.Trod enc Tryd.prog W 0 (fun _ => true) true 22 (.slice wa wl wc) y8.1 y8.2 := ⟨n, by simpa [Value.cells] using g8⟩
  obtain ⟨rs, rfl, r1, r2, r3⟩ := strs_open t7
  obtain ⟨ws, rfl, w1, w2, w3⟩ := strs_open t8
  obtain ⟨m3, rfl⟩ := Int.eq_ofNat_of_zero_le (wf_u64 u3).1
  obtain ⟨m4, rfl⟩ := Int.eq_ofNat_of_zero_le (wf_u64 u4).1
  refine ⟨⟨⟨a0, a1, a2, m3, m4, a5, a6, rs, ws⟩, ra, rc, wa, wc⟩, rfl, ⟨⟨r1, w1⟩, strs_cap t7, strs_cap t8⟩, ⟨s1, s2, s5, s6, r2, w2⟩, y0.1, y1.1, y2.1, y3.1, y4.1, y5.1, y6.1, y7.1, y8.1, ?_, r3, w3⟩
  have := congrArg Prod.fst hx
  simpa using this

theorem StrsAt.kept {S : Nat → Prop} {w w' : World} {ao : Option Addr} {ss : List ByteArray} (h : StrsAt w ao ss) (hk : Kept S w w') (hn : ∀ b off, ao = some ⟨b, off, none⟩ → 0 < ss.length → ¬ S b) : StrsAt w' ao ss := by
  intro j hj
  obtain ⟨b, off, h1, h2, h3⟩ := h j hj
  exact ⟨b, off, h1, Nat.lt_of_lt_of_le h2 hk.size, by rw [hk.cell (p := ⟨b, off + j, none⟩) h2 (hn b off h1 (by omega))]; exact h3⟩

/-- Its lists lie outside the blocks of S. -/
structure TxM.Off (x : TxM) (S : Nat → Prop) : Prop where
  r : ∀ b off, x.ra = some ⟨b, off, none⟩ → 0 < x.d.rs.length → ¬ S b
  w : ∀ b off, x.wa = some ⟨b, off, none⟩ → 0 < x.d.ws.length → ¬ S b

theorem TxM.At.kept {x : TxM} {S : Nat → Prop} {w w' : World} (h : x.At w) (hk : Kept S w w') (ho : x.Off S) : x.At w' :=
  ⟨⟨h.at_.rd.kept hk ho.r, h.at_.wr.kept hk ho.w⟩, h.nr, h.nw⟩

/-- What is new is apart from what was there. -/
theorem TxM.At.off_new {x : TxM} {w : World} (h : x.At w) {g : Nat} (hg : w.heap.size ≤ g) : x.Off (fun k => k = g) := by
  refine ⟨fun b off e hl => ?_, fun b off e hl => ?_⟩
  · obtain ⟨b', off', e', h2, _⟩ := h.at_.rd 0 hl
    rw [e] at e'
    simp at e'
    omega
  · obtain ⟨b', off', e', h2, _⟩ := h.at_.wr 0 hl
    rw [e] at e'
    simp at e'
    omega

theorem TxM.Off.or {x : TxM} {S T : Nat → Prop} (h1 : x.Off S) (h2 : x.Off T) : x.Off (fun k => S k ∨ T k) :=
  ⟨fun b off e hl hs => hs.elim (h1.r b off e hl) (h2.r b off e hl), fun b off e hl hs => hs.elim (h1.w b off e hl) (h2.w b off e hl)⟩

theorem TxM.Off.mono {x : TxM} {S T : Nat → Prop} (h : x.Off T) (hs : ∀ k, S k → T k) : x.Off S :=
  ⟨fun b off e hl hk => h.r b off e hl (hs b hk), fun b off e hl hk => h.w b off e hl (hs b hk)⟩

/-- A row of the call's own that holds transactions. -/
theorem QRow.txs {w : World} {base : Nat} {ao : Option Addr} {n cap : Nat} {l : List TxM} (h : QRow w base 33 9 (.slice ao n cap) n (flatX l)) (hn : n = l.length) (hA : ∀ x ∈ l, x.At w) : TxsAt w ao l := by
  intro i x hx
  have hi := (List.getElem?_eq_some_iff.1 hx).1
  refine ⟨?_, hA x (List.mem_of_getElem? hx)⟩
  obtain ⟨g, off, cap', hv, hb, hlt, hc⟩ := h.cells (by omega)
  simp only [Value.slice.injEq, true_and] at hv
  refine ⟨g, off, hv.1, hlt, fun j v hj => ?_⟩
  have hj9 : j < 9 := by
    have := (List.getElem?_eq_some_iff.1 hj).1
    rw [TxM.c_length] at this
    exact this
  have := hc (i * 9 + j) v (by rw [flatX_get l i x hx j hj9]; exact hj)
  rw [← Nat.add_assoc] at this
  exact this
end Go.Proofs.YtcjmeaikdfgapaaDoor

/- append onto a row that is cut in front: at a step of a region that draws its order. -/
namespace Go.Proofs.YtcjmeaikdfgapaaDoor
open Go.RowKit
set_option linter.unusedVariables false

theorem run_append_q {P : Program} (w : World) (t ty e : TypeId) (i : TypeInfo) (z : Value) (size bytes : Nat) (ht : P.underlying t = some (.slice e)) (hi : P.info? e = some i) (hz : i.zero = some z)
    (hsize : i.size = size) (hby : i.bytes = bytes) (hzs : z.cells.size = size) (hsz : 0 < size) (base : Nat) (v : Value) (n : Nat) (xs : List Value) (hq : QRow w base e size v n xs)
    (ad : Addr) (m c : Nat) (news : List Value) (hm : 0 < m) (hl : news.length = m * size) (hnews : ∀ j u, news[j]? = some u → w.cell? (ad.add j) = some u) (h1 : ∀ u ∈ news, u.oneCell' = true)
    (h63 : n + m ≤ maxLen) (hbytes : (n + m) * bytes ≤ 140737488355328) (hbase : base ≤ w.heap.size) :
    ∃ v' w', (Builtin.append_ #[t, t] ty #[v, .slice (some ad) m c]).run P w = .ok v' w' ∧ QRow w' base e size v' (n + m) (xs ++ news) ∧ w.grownBy w' v.ownBlock ∧ (∀ g, v'.ownBlock = some g → v.ownBlock = some g ∨ w.heap.size ≤ g) := by
  have hmono : ∀ {w' : World} {v' : Value}, w'.ownsRow w.heap.size e size v' (n + m) (xs ++ news) → QRow w' base e size v' (n + m) (xs ++ news) := by
    intro w' v' ho'
    refine QRow.of_own ⟨ho'.1, ho'.2.imp id fun ⟨g, cap, cur, q1, q2, q3⟩ => ⟨g, cap, cur, q1, Nat.le_trans hbase q2, q3⟩⟩
  have hfresh : ∀ {w' : World} {v' : Value}, w'.ownsRow w.heap.size e size v' (n + m) (xs ++ news) → ∀ g, v'.ownBlock = some g → v.ownBlock = some g ∨ w.heap.size ≤ g := by
    intro w' v' ho' g hg
    exact Or.inr (ho'.lt g hg).1
  have hgr : ∀ {w' : World} (r : Option Nat), w.grownBy w' none → w.grownBy w' r := fun r hg => ⟨hg.os, hg.tape, hg.output, hg.size, fun k hk _ => hg.block k hk (by simp)⟩
  rcases hq.2 with ⟨ao, rfl, rfl⟩ | ⟨g, pre, post, cap, rfl, hb, hg, hnc, hcm, hpl⟩
  · have hxs : xs = [] := List.eq_nil_of_length_eq_zero (by simpa using hq.1)
    subst hxs
    cases ao with
    | some b =>
      obtain ⟨v', w', hrun, r1, r2⟩ := run_append_arg_grows (P := P) w t ty e i z size bytes ht hi hz hsize hby hzs hsz b 0 0 [] (by simp) (fun j u hu => by simp at hu) ad m c news hl hnews (by omega) h63 hbytes
      exact ⟨v', w', hrun, hmono r1, hgr _ r2, hfresh r1⟩
    | none =>
      obtain ⟨v', w', hrun, r1, r2, _⟩ := run_append_own (P := P) w w.heap.size t ty e i z size bytes ht hi hz hsize hby hzs hsz (.slice none 0 0) 0 [] (World.ownsRow_nil w _ e size) ad m c news hl hnews h1 h63 hbytes (Nat.le_refl _)
      exact ⟨v', w', hrun, hmono r1, r2, hfresh r1⟩
  · have hcell : ∀ j u, xs[j]? = some u → w.cell? ⟨g, pre.length + j, none⟩ = some u := by
      intro j u hu
      refine hg.cell ?_
      have hj := (List.getElem?_eq_some_iff.1 hu).1
      rw [List.getElem?_append_left (by rw [List.length_append]; omega), List.getElem?_append_right (by omega), Nat.add_sub_cancel_left]
      exact hu
    by_cases hroom : n + m ≤ cap
    · have h2 : m * size ≤ (cap - n) * size := Nat.mul_le_mul_right _ (by omega)
      have hsp : ∀ j, j < news.length → (w.cell? ⟨g, pre.length + n * size + j, none⟩).isSome = true ∧ w.frozen? ⟨g, pre.length + n * size + j, none⟩ = false := by
        intro j hj
        have hlt : pre.length + n * size + j < (pre ++ xs ++ post).length := by
          rw [List.length_append, List.length_append, hq.1, hpl]
          omega
        exact ⟨by rw [hg.cell (List.getElem?_eq_getElem hlt)]; rfl, hg.frozen _⟩
      subst hsize
      have hrun := run_append_room_cells (P := P) w t ty e i ht hi g pre.length n cap ad m c news hl hnews h1 hroom (fun j hj => (hsp j hj).1) (fun j hj => (hsp j hj).2)
      have hA : Arr w g e ((pre ++ xs) ++ post.take news.length ++ post.drop news.length) := by
        rw [List.append_assoc (pre ++ xs), List.take_append_drop]
        exact hg
      have hA2 := Arr.setCells news w (pre ++ xs) (post.take news.length) (post.drop news.length) (by rw [List.length_take]; omega) hA
      have e1 : (pre ++ xs).length = pre.length + n * i.size := by rw [List.length_append, hq.1]
      rw [e1] at hA2
      refine ⟨_, _, hrun, ⟨by rw [List.length_append, hq.1, hl, Nat.add_mul], Or.inr ⟨g, pre, post.drop news.length, cap, rfl, hb, ?_, hroom, hcm, ?_⟩⟩, grown_setCells g news _ w, fun g' hg' => Or.inl hg'⟩
      · rw [← List.append_assoc pre]
        exact hA2
      · rw [List.length_drop, hpl, hl, ← Nat.sub_mul]
        congr 1
        omega
    · obtain ⟨v', w', hrun, r1, r2⟩ := run_append_arg_grows (P := P) w t ty e i z size bytes ht hi hz hsize hby hzs hsz ⟨g, pre.length, none⟩ n cap xs hq.1 (fun j u hj => by rw [Addr.add_lit]; exact hcell j u hj) ad m c news hl hnews (by omega) h63 hbytes
      exact ⟨v', w', hrun, hmono r1, hgr _ r2, hfresh r1⟩

theorem step_append_q {P : Program} (w : World) {ops : Array Oper} {o : Oper} {a : Act} {K : Act → World → Prop} {Q : Exit → Act → World → Prop} {E : Prop} (hgd : o.guard = none) (s x : Operand) (t : TypeId)
    (ho : o.op = .call { callee := .builtin .append, args := #[s, x], argTypes := #[t, t] })
    (e : TypeId) (i : TypeInfo) (z : Value) (size bytes : Nat) (ht : P.underlying t = some (.slice e)) (hi : P.info? e = some i) (hz : i.zero = some z)
    (hsize : i.size = size) (hby : i.bytes = bytes) (hzs : z.cells.size = size) (hsz : 0 < size)
    (base : Nat) (v : Value) (n : Nat) (xs : List Value) (hs : a.eval s = v) (hq : QRow w base e size v n xs)
    (ad : Addr) (m c : Nat) (news : List Value) (hx : a.eval x = .slice (some ad) m c) (hm : 0 < m) (hl : news.length = m * size) (hnews : ∀ j u, news[j]? = some u → w.cell? (ad.add j) = some u) (h1 : ∀ u ∈ news, u.oneCell' = true)
    (h63 : n + m ≤ maxLen) (hbytes : (n + m) * bytes ≤ 140737488355328) (hbase : base ≤ w.heap.size)
    (h : ∀ v' w', QRow w' base e size v' (n + m) (xs ++ news) → w.grownBy w' v.ownBlock → (∀ g, v'.ownBlock = some g → v.ownBlock = some g ∨ w.heap.size ≤ g) → K (a.put o.dst v') w') : if Region.wanted o (yielded ops a.tmps) = true then Oper.wp P o a w K Q else E := by
  rw [if_pos (by simp [Region.wanted, hgd])]
  obtain ⟨v', w', hrun, r1, r2, r3⟩ := run_append_q (P := P) w t o.type e i z size bytes ht hi hz hsize hby hzs hsz base v n xs hq ad m c news hm hl hnews h1 h63 hbytes hbase
  unfold Oper.wp
  simp [execOp, ho, resolve, invoke, builtin, hs, hx, hrun, Result.andThen]
  exact h v' w' r1 r2 r3
end Go.Proofs.YtcjmeaikdfgapaaDoor

/- Rows of whatever elements in memory: where they lie, what they reach, how they are appended to. -/
namespace Go.Proofs.YtcjmeaikdfgapaaDoor
open Go.RowKit
set_option linter.unusedVariables false

/-- A kind of elements: their cells, the blocks that they reach besides, and that all of it lies there. -/
structure Kind (α : Type) where
  n : Nat
  c : α → List Value
  foot : α → Nat → Prop
  At : World → α → Prop
  pos : 0 < n
  len : ∀ x, (c x).length = n
  one : ∀ x, ∀ u ∈ c x, u.oneCell' = true
  lt : ∀ {w x b}, At w x → foot x b → b < w.heap.size
  keep : ∀ {w w' x}, At w x → (∀ b, foot x b → w'.heap[b]? = w.heap[b]?) → At w' x

theorem cell_same {w w' : World} {b : Nat} (h : w'.heap[b]? = w.heap[b]?) (o : Nat) : w'.cell? ⟨b, o, none⟩ = w.cell? ⟨b, o, none⟩ := by
  simp only [World.cell?, h]

theorem lt_same {w w' : World} {b : Nat} (h : w'.heap[b]? = w.heap[b]?) (hb : b < w.heap.size) : b < w'.heap.size := by
  rw [Array.getElem?_eq_getElem hb] at h
  exact (Array.getElem?_eq_some_iff.1 h).1

section
variable {α : Type} (K : Kind α)

/-- Its cells, one element behind the other. -/
def flatK (l : List α) : List Value := l.flatMap K.c

theorem flatK_length (l : List α) : (flatK K l).length = l.length * K.n := by
  induction l with
  | nil => simp [flatK]
  | cons x r ih => simp only [flatK, List.flatMap_cons, List.length_append, K.len, List.length_cons] at ih ⊢; rw [ih, Nat.add_mul]; omega

theorem flatK_append (l m : List α) : flatK K (l ++ m) = flatK K l ++ flatK K m := by simp [flatK]

theorem flatK_single (x : α) : flatK K [x] = K.c x := by simp [flatK]

theorem flatK_get : ∀ (l : List α) (i : Nat) (x : α), l[i]? = some x → ∀ j, j < K.n → (flatK K l)[i * K.n + j]? = (K.c x)[j]?
  | [], _, _, h, _, _ => by simp at h
  | y :: r, 0, x, h, j, hj => by
    simp at h
    subst h
    have e : flatK K (y :: r) = K.c y ++ flatK K r := by simp [flatK]
    rw [e, List.getElem?_append_left (by rw [K.len]; omega), Nat.zero_mul, Nat.zero_add]
  | y :: r, i + 1, x, h, j, hj => by
    have h' : r[i]? = some x := by simpa using h
    have ih := flatK_get r i x h' j hj
    have e : flatK K (y :: r) = K.c y ++ flatK K r := by simp [flatK]
    rw [e, List.getElem?_append_right (by rw [K.len, Nat.add_mul]; omega), K.len]
    have : (i + 1) * K.n + j - K.n = i * K.n + j := by rw [Nat.add_mul]; omega
    rw [this]
    exact ih

theorem flatK_one (l : List α) : ∀ u ∈ flatK K l, u.oneCell' = true := by
  intro u hu
  obtain ⟨x, _, hx⟩ := List.mem_flatMap.1 hu
  exact K.one x u hx

/-- A row of elements lies at an address (of none: whatever the address). -/
structure RowAt (w : World) (ao : Option Addr) (l : List α) : Prop where
  cell : ∀ i x, l[i]? = some x → ∃ b off, ao = some ⟨b, off, none⟩ ∧ b < w.heap.size ∧ ∀ j v, (K.c x)[j]? = some v → w.cell? ⟨b, off + i * K.n + j, none⟩ = some v
  at_ : ∀ x ∈ l, K.At w x

/-- The blocks that a row reaches. -/
def rowFoot (ao : Option Addr) (l : List α) (b : Nat) : Prop := (l ≠ [] ∧ ∃ off, ao = some ⟨b, off, none⟩) ∨ ∃ x ∈ l, K.foot x b

variable {K}

theorem nil_row (w : World) (ao : Option Addr) : RowAt K w ao [] := ⟨fun i x hx => by simp at hx, fun x hx => by cases hx⟩

theorem nil_foot {ao : Option Addr} {b : Nat} (h : rowFoot K ao [] b) : False := by
  rcases h with ⟨h, _⟩ | ⟨x, hx, _⟩
  · exact h rfl
  · cases hx

theorem RowAt.lt {w : World} {ao : Option Addr} {l : List α} (h : RowAt K w ao l) {b : Nat} (hf : rowFoot K ao l b) : b < w.heap.size := by
  rcases hf with ⟨hl, off, rfl⟩ | ⟨x, hx, hf⟩
  · obtain ⟨x, r, rfl⟩ := List.exists_cons_of_ne_nil hl
    obtain ⟨b', off', e, hb, _⟩ := h.cell 0 x rfl
    simp at e
    omega
  · exact K.lt (h.at_ x hx) hf

theorem RowAt.keep {w w' : World} {ao : Option Addr} {l : List α} (h : RowAt K w ao l) (hk : ∀ b, rowFoot K ao l b → w'.heap[b]? = w.heap[b]?) : RowAt K w' ao l := by
  refine ⟨fun i x hx => ?_, fun x hx => K.keep (h.at_ x hx) (fun b hb => hk b (Or.inr ⟨x, hx, hb⟩))⟩
  obtain ⟨b, off, rfl, hb, hc⟩ := h.cell i x hx
  have e := hk b (Or.inl ⟨fun e => by rw [e] at hx; simp at hx, off, rfl⟩)
  exact ⟨b, off, rfl, lt_same e hb, fun j v hv => by rw [cell_same e]; exact hc j v hv⟩

theorem RowAt.below {w w' : World} {ao : Option Addr} {l : List α} (h : RowAt K w ao l) (hb : Below w.heap.size w w') : RowAt K w' ao l :=
  h.keep (fun b hf => hb.block b (h.lt hf))

theorem RowAt.kept {S : Nat → Prop} {w w' : World} {ao : Option Addr} {l : List α} (h : RowAt K w ao l) (hk : Kept S w w') (hn : ∀ b, rowFoot K ao l b → ¬ S b) : RowAt K w' ao l :=
  h.keep (fun b hf => hk.block b (h.lt hf) (hn b hf))

theorem Kind.below (K : Kind α) {w w' : World} {x : α} (h : K.At w x) (hb : Below w.heap.size w w') : K.At w' x := K.keep h (fun b hf => hb.block b (K.lt h hf))
theorem Kind.kept (K : Kind α) {S : Nat → Prop} {w w' : World} {x : α} (h : K.At w x) (hk : Kept S w w') (hn : ∀ b, K.foot x b → ¬ S b) : K.At w' x := K.keep h (fun b hf => hk.block b (K.lt h hf) (hn b hf))

theorem RowAt.take {w : World} {ao : Option Addr} {l : List α} (h : RowAt K w ao l) (n : Nat) : RowAt K w ao (l.take n) := by
  refine ⟨fun i x hx => h.cell i x ?_, fun x hx => h.at_ x (List.mem_of_mem_take hx)⟩
  rw [List.getElem?_take] at hx
  split at hx
  · exact hx
  · cases hx

theorem take_foot {ao : Option Addr} {l : List α} {n b : Nat} (h : rowFoot K ao (l.take n) b) : rowFoot K ao l b := by
  rcases h with ⟨hl, o⟩ | ⟨x, hx, hf⟩
  · exact Or.inl ⟨fun e => hl (by rw [e]; simp), o⟩
  · exact Or.inr ⟨x, List.mem_of_mem_take hx, hf⟩

/-- q is a row of the call's own that holds l. -/
structure KQ (K : Kind α) (T : TypeId) (w : World) (base : Nat) (q : Value) (l : List α) : Prop where
  row : QRow w base T K.n q l.length (flatK K l)
  at_ : ∀ x ∈ l, K.At w x
  off : ∀ x ∈ l, ∀ b, K.foot x b → q.ownBlock ≠ some b
  lt : ∀ k, q.ownBlock = some k → base ≤ k ∧ k < w.heap.size
  nil : ∀ n cap, q = .slice none n cap → cap = 0

theorem KQ.empty (K : Kind α) (T : TypeId) (w : World) (base : Nat) : KQ K T w base (.slice none 0 0) [] :=
  ⟨QRow.nil _ _ _ _ _, (fun x hx => by cases hx), (fun x hx => by cases hx), (fun k hk => by simp [Value.ownBlock] at hk), fun n cap e => by simp at e; exact e.2.symm⟩

theorem KQ.kept {T : TypeId} {S : Nat → Prop} {w w' : World} {base : Nat} {q : Value} {l : List α} (h : KQ K T w base q l) (hk : Kept S w w') (hq : ∀ k, q.ownBlock = some k → ¬ S k) (ho : ∀ x ∈ l, ∀ b, K.foot x b → ¬ S b) : KQ K T w' base q l :=
  ⟨h.row.kept hk hq, fun x hx => K.kept (h.at_ x hx) hk (ho x hx), h.off, fun k hq => ⟨(h.lt k hq).1, Nat.lt_of_lt_of_le (h.lt k hq).2 hk.size⟩, h.nil⟩

theorem KQ.below {T : TypeId} {w w' : World} {base : Nat} {q : Value} {l : List α} (h : KQ K T w base q l) (hb : Below w.heap.size w w') : KQ K T w' base q l :=
  h.kept (Kept.of_below (S := fun _ => False) hb) (fun _ _ h => h) (fun x _ _ _ h => h)

theorem QRow.rowAt {T : TypeId} {w : World} {base : Nat} {ao : Option Addr} {n cap : Nat} {l : List α} (h : QRow w base T K.n (.slice ao n cap) n (flatK K l)) (hn : n = l.length) (hA : ∀ x ∈ l, K.At w x) : RowAt K w ao l := by
  refine ⟨fun i x hx => ?_, hA⟩
  have hi := (List.getElem?_eq_some_iff.1 hx).1
  obtain ⟨g, off, cap', hv, hb, hlt, hc⟩ := h.cells (by omega)
  simp only [Value.slice.injEq, true_and] at hv
  refine ⟨g, off, hv.1, hlt, fun j v hj => ?_⟩
  have hj9 : j < K.n := by
    have := (List.getElem?_eq_some_iff.1 hj).1
    rw [K.len] at this
    exact this
  have := hc (i * K.n + j) v (by rw [flatK_get K l i x hx j hj9]; exact hj)
  rw [← Nat.add_assoc] at this
  exact this

theorem KQ.form {T : TypeId} {w : World} {base : Nat} {q : Value} {l : List α} (h : KQ K T w base q l) : ∃ ao cap, q = .slice ao l.length cap ∧ (ao = none → cap = 0) ∧ RowAt K w ao l := by
  obtain ⟨ao, cap, rfl, _, _⟩ := h.row.form
  exact ⟨ao, cap, rfl, fun e => h.nil _ _ (by rw [e]), h.row.rowAt rfl h.at_⟩

/-- Where a row of the call's own reaches. -/
theorem KQ.foot_ge {T : TypeId} {w : World} {base B : Nat} {ao : Option Addr} {n cap : Nat} {l : List α} (h : KQ K T w base (.slice ao n cap) l) (hB : B ≤ base) (hf : ∀ x ∈ l, ∀ b, K.foot x b → B ≤ b) : ∀ b, rowFoot K ao l b → B ≤ b := by
  intro b hb
  rcases hb with ⟨hl, off, rfl⟩ | ⟨x, hx, hf'⟩
  · have := (h.lt b rfl).1
    omega
  · exact hf x hx b hf'

/-- More is appended. -/
theorem KQ.push {T : TypeId} {w w' : World} {base : Nat} {q q' : Value} {l m : List α} (h : KQ K T w base q l) (hm : ∀ x ∈ m, K.At w x) (hmo : ∀ x ∈ m, ∀ b, K.foot x b → q.ownBlock ≠ some b) (h0 : 0 < m.length)
    (hrow : QRow w' base T K.n q' (l.length + m.length) (flatK K l ++ flatK K m)) (hgr : w.grownBy w' q.ownBlock) (hfr : ∀ g, q'.ownBlock = some g → q.ownBlock = some g ∨ w.heap.size ≤ g) : KQ K T w' base q' (l ++ m) := by
  have k6 := Kept.of_grown hgr
  have hoff : ∀ x, K.At w x → (∀ b, K.foot x b → q.ownBlock ≠ some b) → ∀ b, K.foot x b → q'.ownBlock ≠ some b := by
    intro x hx ho b hf e
    rcases hfr b e with h1 | h1
    · exact ho b hf h1
    · have := K.lt hx hf
      omega
  refine ⟨by rw [List.length_append, flatK_append]; exact hrow, ?_, ?_, ?_, ?_⟩
  · intro x hx
    rw [List.mem_append] at hx
    rcases hx with hx | hx
    · exact K.kept (h.at_ x hx) k6 (fun b hf e => h.off x hx b hf e)
    · exact K.kept (hm x hx) k6 (fun b hf e => hmo x hx b hf e)
  · intro x hx
    rw [List.mem_append] at hx
    rcases hx with hx | hx
    · exact hoff x (h.at_ x hx) (h.off x hx)
    · exact hoff x (hm x hx) (hmo x hx)
  · intro k hk
    rcases hrow.lt with hl | ⟨g, hg, hb, hl⟩
    · omega
    · rw [hk] at hg
      simp at hg
      subst hg
      exact ⟨hb, hl⟩
  · intro n cap e
    rcases hrow.2 with ⟨ao, hv, hn⟩ | ⟨g, pre, post, c, hv, _⟩
    · omega
    · rw [hv] at e
      cases e

/-- append(q, y). -/
theorem wpList_push {P : Program} {w : World} {ops : Array Oper} {rest : List Oper} {o : Oper} {a : Act} {Q : Exit → Act → World → Prop} (hgd : o.guard = none) (s x : Operand) (t : TypeId)
    (ho : o.op = .call { callee := .builtin .append, args := #[s, x], argTypes := #[t, t] })
    (base : Nat) (e : TypeId) (i : TypeInfo) (z : Value) (bytes : Nat) (ht : P.underlying t = some (.slice e)) (hi : P.info? e = some i) (hz : i.zero = some z)
    (hsize : i.size = K.n) (hby : i.bytes = bytes) (hzs : z.cells.size = K.n)
    (q : Value) (l : List α) (hs : a.eval s = q) (hq : KQ K e w base q l) (y : α) (hy : K.At w y) (hyo : ∀ b, K.foot y b → q.ownBlock ≠ some b)
    (ad : Addr) (c : Nat) (hx : a.eval x = .slice (some ad) 1 c) (hnews : ∀ j u, (K.c y)[j]? = some u → w.cell? (ad.add j) = some u)
    (h63 : l.length + 1 ≤ maxLen) (hbytes : (l.length + 1) * bytes ≤ 140737488355328) (hbase : base ≤ w.heap.size)
    (h : ∀ ao' cap' w', KQ K e w' base (.slice ao' (l.length + 1) cap') (l ++ [y]) → Kept (fun k => q.ownBlock = some k) w w' → wpList P ops Q rest (a.put o.dst (.slice ao' (l.length + 1) cap')) w') : wpList P ops Q (o :: rest) a w := by
  refine wpList_append_q hgd s x t ho base e i z K.n bytes ht hi hz hsize hby hzs K.pos q l.length (flatK K l) hs hq.row ad 1 c (K.c y) hx (by decide) (by rw [K.len]; omega) hnews (K.one y) h63 hbytes hbase ?_
  intro v' w' hrow hgr hfr
  obtain ⟨ao', cap', rfl, _, _⟩ := hrow.form
  refine h ao' cap' w' (hq.push (m := [y]) ?_ ?_ (by simp) (by rw [flatK_single]; exact hrow) hgr hfr) (Kept.of_grown hgr)
  · intro x hx; simp at hx; rw [hx]; exact hy
  · intro x hx; simp at hx; rw [hx]; exact hyo

/-- append(q, y), at a step of a region that draws its order. -/
theorem step_push {P : Program} (w : World) {ops : Array Oper} {o : Oper} {a : Act} {C : Act → World → Prop} {Q : Exit → Act → World → Prop} {E : Prop} (hgd : o.guard = none) (s x : Operand) (t : TypeId)
    (ho : o.op = .call { callee := .builtin .append, args := #[s, x], argTypes := #[t, t] })
    (base : Nat) (e : TypeId) (i : TypeInfo) (z : Value) (bytes : Nat) (ht : P.underlying t = some (.slice e)) (hi : P.info? e = some i) (hz : i.zero = some z)
    (hsize : i.size = K.n) (hby : i.bytes = bytes) (hzs : z.cells.size = K.n)
    (q : Value) (l : List α) (hs : a.eval s = q) (hq : KQ K e w base q l) (y : α) (hy : K.At w y) (hyo : ∀ b, K.foot y b → q.ownBlock ≠ some b)
    (ad : Addr) (c : Nat) (hx : a.eval x = .slice (some ad) 1 c) (hnews : ∀ j u, (K.c y)[j]? = some u → w.cell? (ad.add j) = some u)
    (h63 : l.length + 1 ≤ maxLen) (hbytes : (l.length + 1) * bytes ≤ 140737488355328) (hbase : base ≤ w.heap.size)
    (h : ∀ ao' cap' w', KQ K e w' base (.slice ao' (l.length + 1) cap') (l ++ [y]) → Kept (fun k => q.ownBlock = some k) w w' → C (a.put o.dst (.slice ao' (l.length + 1) cap')) w') : if Region.wanted o (yielded ops a.tmps) = true then Oper.wp P o a w C Q else E := by
  refine step_append_q w hgd s x t ho e i z K.n bytes ht hi hz hsize hby hzs K.pos base q l.length (flatK K l) hs hq.row ad 1 c (K.c y) hx (by decide) (by rw [K.len]; omega) hnews (K.one y) h63 hbytes hbase ?_
  intro v' w' hrow hgr hfr
  obtain ⟨ao', cap', rfl, _, _⟩ := hrow.form
  refine h ao' cap' w' (hq.push (m := [y]) ?_ ?_ (by simp) (by rw [flatK_single]; exact hrow) hgr hfr) (Kept.of_grown hgr)
  · intro x hx; simp at hx; rw [hx]; exact hy
  · intro x hx; simp at hx; rw [hx]; exact hyo

/-- The cells of a row that is copied. -/
theorem RowAt.news {w : World} {ad : Addr} {l : List α} (h : RowAt K w (some ad) l) : ∀ j u, (flatK K l)[j]? = some u → w.cell? (ad.add j) = some u := by
  intro j u hu
  have hj := (List.getElem?_eq_some_iff.1 hu).1
  rw [flatK_length] at hj
  have hi : j / K.n < l.length := (Nat.div_lt_iff_lt_mul K.pos).2 hj
  have hx : l[j / K.n]? = some l[j / K.n] := List.getElem?_eq_getElem hi
  obtain ⟨b, off, e, hb, hc⟩ := h.cell _ _ hx
  simp at e
  subst e
  have hg := flatK_get K l _ _ hx (j % K.n) (Nat.mod_lt _ K.pos)
  have e2 : j / K.n * K.n + j % K.n = j := Nat.div_add_mod' j K.n
  rw [e2, hu] at hg
  have := hc (j % K.n) u hg.symm
  rw [Go.WideShapes.add_plain]
  rw [Nat.add_assoc, e2] at this
  exact this

/-- append(q, xs...), q an empty row of the call's own: a row of the same elements, the call's own. -/
theorem wpList_copy {P : Program} {w : World} {ops : Array Oper} {rest : List Oper} {o : Oper} {a : Act} {Q : Exit → Act → World → Prop} (hgd : o.guard = none) (s x : Operand) (t : TypeId)
    (ho : o.op = .call { callee := .builtin .append, args := #[s, x], argTypes := #[t, t] })
    (base : Nat) (e : TypeId) (i : TypeInfo) (z : Value) (bytes : Nat) (ht : P.underlying t = some (.slice e)) (hi : P.info? e = some i) (hz : i.zero = some z)
    (hsize : i.size = K.n) (hby : i.bytes = bytes) (hzs : z.cells.size = K.n)
    (v : Value) (hs : a.eval s = v) (hown : w.ownsRow base e K.n v 0 []) (ao : Option Addr) (cap : Nat) (l : List α) (hx : a.eval x = .slice ao l.length cap)
    (hS : RowAt K w ao l) (hf : ∀ x ∈ l, ∀ b, K.foot x b → b < base) (hnil : ao = none → cap = 0) (hm : l.length ≤ maxLen) (hlen : l.length * bytes ≤ 140737488355328) (hbase : base ≤ w.heap.size)
    (h : ∀ ao' cap' w', RowAt K w' ao' l → (ao' = none → cap' = 0) → (l ≠ [] → ∀ b off, ao' = some ⟨b, off, none⟩ → base ≤ b) → Below base w w' → wpList P ops Q rest (a.put o.dst (.slice ao' l.length cap')) w') : wpList P ops Q (o :: rest) a w := by
  cases ao with
  | none =>
    have hc0 := hnil rfl
    subst hc0
    have hss : l = [] := by
      cases l with
      | nil => rfl
      | cons y r => obtain ⟨_, _, e, _⟩ := hS.cell 0 y rfl; cases e
    subst hss
    refine wpList_append_own_none hgd s x t ho base e i K.n ht hi v 0 [] hs hown hx ?_
    rcases hown.2 with ⟨hv, _⟩ | ⟨g, c, cur, hv, _⟩
    · rw [hv]
      exact h none 0 w (nil_row _ _) (fun _ => rfl) (fun hne => absurd rfl hne) (Below.refl _ _)
    · rw [hv]
      exact h _ c w (nil_row _ _) (fun e => by cases e) (fun hne => absurd rfl hne) (Below.refl _ _)
  | some ad =>
    refine wpList_append_own w hgd s x t ho base e i z K.n bytes ht hi hz hsize hby hzs K.pos v 0 [] hs hown ad l.length cap (flatK K l) hx (flatK_length K l) hS.news (flatK_one K l) (by omega) (by rw [Nat.zero_add]; exact hlen) hbase ?_
    intro v' w' hown' hgrow _
    have hb := (Below.refl base w).grown hgrow hbase (fun q hq => (hown.lt q hq).1)
    rw [Nat.zero_add, List.nil_append] at hown'
    have hA : ∀ x ∈ l, K.At w' x := fun x hx => K.keep (hS.at_ x hx) (fun b hb' => hb.block b (hf x hx b hb'))
    have hq := QRow.of_own hown'
    obtain ⟨ao', cap', rfl, _, _⟩ := hq.form
    refine h ao' cap' w' (hq.rowAt rfl hA) ?_ ?_ hb
    · intro he
      rcases hown'.2 with ⟨hv, _⟩ | ⟨g, c, cur, hv, _⟩
      · simp at hv; exact hv.2.2
      · simp at hv; rw [hv.1] at he; cases he
    · intro hne b off he
      exact (hown'.lt b (by rw [he]; rfl)).1
end
end Go.Proofs.YtcjmeaikdfgapaaDoor

/- Texts as a kind of record. -/
namespace Go.Proofs.YtcjmeaikdfgapaaDoor
open Go.RowKit
set_option linter.unusedVariables false

/-- Texts. -/
def strK : Kind ByteArray where
  n := 1
  c s := [.string s]
  foot _ _ := False
  At _ _ := True
  pos := by decide
  len _ := rfl
  one x u hu := by
    simp only [List.mem_cons, List.not_mem_nil, or_false] at hu
    rcases hu with rfl; rfl
  lt _ h := h.elim
  keep _ _ := trivial

theorem RowAt.strs {w : World} {ao : Option Addr} {l : List ByteArray} (h : RowAt strK w ao l) : StrsAt w ao l := by
  intro j hj
  obtain ⟨b, off, h1, h2, h3⟩ := h.cell j l[j] (List.getElem?_eq_getElem hj)
  refine ⟨b, off, h1, h2, ?_⟩
  have := h3 0 (.string l[j]) rfl
  have e : off + j * strK.n + 0 = off + j := by show off + j * 1 + 0 = _; omega
  rw [e] at this
  exact this

theorem StrsAt.row {w : World} {ao : Option Addr} {l : List ByteArray} (h : StrsAt w ao l) : RowAt strK w ao l := by
  refine ⟨fun j x hx => ?_, fun _ _ => trivial⟩
  obtain ⟨hj, rfl⟩ := List.getElem?_eq_some_iff.1 hx
  obtain ⟨b, off, h1, h2, h3⟩ := h j hj
  refine ⟨b, off, h1, h2, fun i v hv => ?_⟩
  match i, hv with
  | 0, hv =>
    simp [strK] at hv
    subst hv
    have e : off + j * strK.n + 0 = off + j := by show off + j * 1 + 0 = _; omega
    rw [e]
    exact h3

theorem strs_foot {ao : Option Addr} {l : List ByteArray} {b : Nat} (h : rowFoot strK ao l b) : 0 < l.length ∧ ∃ off, ao = some ⟨b, off, none⟩ := by
  rcases h with ⟨hl, h⟩ | ⟨_, _, h⟩
  · exact ⟨List.length_pos_iff.2 hl, h⟩
  · exact h.elim

theorem OwnStrs.foot {base : Nat} {w : World} {ao : Option Addr} {l : List ByteArray} (h : OwnStrs base w ao l) {b : Nat} (hf : rowFoot strK ao l b) : base ≤ b := by
  obtain ⟨hl, off, e⟩ := strs_foot hf
  obtain ⟨b', off', e', hb, _⟩ := h 0 hl
  rw [e] at e'
  simp at e'
  omega
end Go.Proofs.YtcjmeaikdfgapaaDoor

/- Transactions as a kind of record, and as layer 20's texts have them. -/
namespace Go.Proofs.YtcjmeaikdfgapaaDoor
open Go.RowKit
set_option linter.unusedVariables false

/-- Transactions. -/
def txK : Kind TxM where
  n := 9
  c := TxM.c
  foot x b := rowFoot strK x.ra x.d.rs b ∨ rowFoot strK x.wa x.d.ws b
  At w x := x.At w
  pos := by decide
  len _ := rfl
  one x u hu := by
    simp only [TxM.c, txC, List.mem_cons, List.not_mem_nil, or_false] at hu
    rcases hu with rfl | rfl | rfl | rfl | rfl | rfl | rfl | rfl | rfl <;> rfl
  lt h hf := hf.elim h.at_.rd.row.lt h.at_.wr.row.lt
  keep h hk := ⟨⟨(h.at_.rd.row.keep (fun b hb => hk b (Or.inl hb))).strs, (h.at_.wr.row.keep (fun b hb => hk b (Or.inr hb))).strs⟩, h.nr, h.nw⟩

theorem RowAt.txs {w : World} {ao : Option Addr} {l : List TxM} (h : RowAt txK w ao l) : TxsAt w ao l :=
  fun i x hx => ⟨h.cell i x hx, h.at_ x (List.mem_of_getElem? hx)⟩

theorem TxsAt.rows {w : World} {ao : Option Addr} {l : List TxM} (h : TxsAt w ao l) : RowAt txK w ao l :=
  ⟨fun i x hx => (h i x hx).1, fun x hx => by
    obtain ⟨i, hi⟩ := List.getElem?_of_mem hx
    exact (h i x hi).2⟩
end Go.Proofs.YtcjmeaikdfgapaaDoor
