/- Rows of transactions in memory; how one that came in is opened. -/
import Derived.Test.YtcjmeaikdfgapaaDoorTxFrame
import Derived.Test.YtcjmeaikdfgapaaDoorTxOwn
import Derived.Test.YtcjmeaikdfgapaaDoorQueue
import Derived.Deep.Slices
namespace Go.Proofs.YtcjmeaikdfgapaaDoor
open Go.ChangeShapes Go.WideShapes Go.ChangeAt Go.RowKit Go.Joins Go.Deep
set_option linter.unusedVariables false

/-- A transaction as it lies in memory: its data, and where its lists lie. -/
structure TxM where
  d : TxD
  ra : Option Addr
  rc : Nat
  wa : Option Addr
  wc : Nat

def TxM.c (x : TxM) : List Value := txC x.d x.ra x.rc x.wa x.wc
def TxM.v (x : TxM) : Value := txV x.d x.ra x.rc x.wa x.wc

theorem TxM.c_length (x : TxM) : x.c.length = 9 := rfl

/-- Its lists lie in memory, and nil is nil. -/
structure TxM.At (x : TxM) (w : World) : Prop where
  at_ : TxAt w x.d x.ra x.wa
  nr : x.ra = none → x.rc = 0
  nw : x.wa = none → x.wc = 0

theorem TxM.At.below {x : TxM} {w w' : World} (h : x.At w) (hb : Below w.heap.size w w') : x.At w' := ⟨h.at_.below hb, h.nr, h.nw⟩

def flatX (l : List TxM) : List Value := l.flatMap TxM.c

theorem flatX_length (l : List TxM) : (flatX l).length = l.length * 9 := by
  induction l with
  | nil => rfl
  | cons x r ih => simp only [flatX, List.flatMap_cons, List.length_append, TxM.c_length, List.length_cons] at ih ⊢; omega

theorem flatX_append (l m : List TxM) : flatX (l ++ m) = flatX l ++ flatX m := by simp [flatX]

theorem flatX_get : ∀ (l : List TxM) (i : Nat) (x : TxM), l[i]? = some x → ∀ j, j < 9 → (flatX l)[i * 9 + j]? = x.c[j]?
  | [], _, _, h, _, _ => by simp at h
  | y :: r, 0, x, h, j, hj => by
    simp at h
    subst h
    have e : flatX (y :: r) = y.c ++ flatX r := by simp [flatX]
    rw [e, List.getElem?_append_left (by rw [TxM.c_length]; omega), Nat.zero_mul, Nat.zero_add]
  | y :: r, i + 1, x, h, j, hj => by
    have h' : r[i]? = some x := by simpa using h
    have ih := flatX_get r i x h' j hj
    have e : flatX (y :: r) = y.c ++ flatX r := by simp [flatX]
    rw [e, List.getElem?_append_right (by rw [TxM.c_length]; omega), TxM.c_length]
    have : (i + 1) * 9 + j - 9 = i * 9 + j := by omega
    rw [this]
    exact ih

theorem flatX_one (l : List TxM) : ∀ u ∈ flatX l, u.oneCell' = true := by
  intro u hu
  obtain ⟨x, _, hx⟩ := List.mem_flatMap.1 hu
  simp only [TxM.c, txC, List.mem_cons, List.not_mem_nil, or_false] at hx
  rcases hx with rfl | rfl | rfl | rfl | rfl | rfl | rfl | rfl | rfl <;> rfl

/-- A row of transactions lies at an address. -/
def TxsAt (w : World) (ao : Option Addr) (l : List TxM) : Prop :=
  ∀ i x, l[i]? = some x → (∃ b off, ao = some ⟨b, off, none⟩ ∧ b < w.heap.size ∧ ∀ j v, x.c[j]? = some v → w.cell? ⟨b, off + i * 9 + j, none⟩ = some v) ∧ x.At w

theorem TxsAt.below {w w' : World} {ao : Option Addr} {l : List TxM} (h : TxsAt w ao l) (hb : Below w.heap.size w w') : TxsAt w' ao l := by
  intro i x hx
  obtain ⟨⟨b, off, h1, h2, h3⟩, h4⟩ := h i x hx
  exact ⟨⟨b, off, h1, Nat.lt_of_lt_of_le h2 hb.size, fun j v hv => by rw [hb.cell (p := ⟨b, off + i * 9 + j, none⟩) h2]; exact h3 j v hv⟩, h4.below hb⟩

/-- The nine cells of one of them. -/
theorem TxsAt.cells {w : World} {ao : Option Addr} {l : List TxM} (h : TxsAt w ao l) {i : Nat} {x : TxM} (hx : l[i]? = some x) :
    ∃ b off, ao = some ⟨b, off, none⟩ ∧ b < w.heap.size ∧ w.cell? ⟨b, off + i * 9, none⟩ = some (.int .i64 x.d.kind) ∧ w.cell? ⟨b, off + i * 9 + 1, none⟩ = some (.string x.d.frm) ∧ w.cell? ⟨b, off + i * 9 + 2, none⟩ = some (.string x.d.to) ∧ w.cell? ⟨b, off + i * 9 + 3, none⟩ = some (.int .u64 (x.d.amt : Int)) ∧ w.cell? ⟨b, off + i * 9 + 4, none⟩ = some (.int .u64 (x.d.non : Int)) ∧
      w.cell? ⟨b, off + i * 9 + 5, none⟩ = some (.string x.d.key) ∧ w.cell? ⟨b, off + i * 9 + 6, none⟩ = some (.string x.d.val) ∧ w.cell? ⟨b, off + i * 9 + 7, none⟩ = some (.slice x.ra x.d.rs.length x.rc) ∧ w.cell? ⟨b, off + i * 9 + 8, none⟩ = some (.slice x.wa x.d.ws.length x.wc) := by
  obtain ⟨⟨b, off, h1, h2, h3⟩, _⟩ := h i x hx
  exact ⟨b, off, h1, h2, h3 0 _ rfl, h3 1 _ rfl, h3 2 _ rfl, h3 3 _ rfl, h3 4 _ rfl, h3 5 _ rfl, h3 6 _ rfl, h3 7 _ rfl, h3 8 _ rfl⟩

theorem nil_txs (w : World) (ao : Option Addr) : TxsAt w ao [] := fun i x hx => by simp at hx

set_option maxRecDepth 100000 in
/-- A transaction's nine cells, opened. -/
theorem open_tx_cells {H : Type} {enc : TypeId × Value → H} {W : World} {fuel : Nat} {cs : List Value} {y : DataW H × List MemPlace}
    (hf : DataW.trod enc Tryd.prog W 0 (fun _ => true) true fuel 33 cs = some y) :
    ∃ x : TxM, cs = x.c ∧ x.At W ∧ TxSizes x.d ∧ TxDatum y.1 x.d := by
  obtain ⟨xs, n, _, hx, hcl, hl, hg⟩ := DataW.trod_struct Tryd.underlying33 hf
  obtain ⟨c0, c1, c2, c3, c4, c5, c6, c7, c8, rfl⟩ := list9 (hcl.trans cellsTx)
  obtain ⟨y0, y1, y2, y3, y4, y5, y6, y7, y8, rfl⟩ := list9 hl
  have g0 := hg 0 _ rfl
  have g1 := hg 1 _ rfl
  have g2 := hg 2 _ rfl
  have g3 := hg 3 _ rfl
  have g4 := hg 4 _ rfl
  have g5 := hg 5 _ rfl
  have g6 := hg 6 _ rfl
  have g7 := hg 7 _ rfl
  have g8 := hg 8 _ rfl
  have kI : Tryd.prog.cellsOf 3 = 1 := by kernel_rfl
  have kU : Tryd.prog.cellsOf 23 = 1 := by kernel_rfl
  have kS : Tryd.prog.cellsOf 22 = 1 := by kernel_rfl
  simp [cellsString, kI, kU, kS] at g0 g1 g2 g3 g4 g5 g6 g7 g8
  obtain ⟨a0, e0, _, _⟩ := DataW.trod_int Tryd.underlying3 g0
  obtain ⟨a1, e1, _, s1⟩ := DataW.trod_string Tryd.underlying9 g1
  obtain ⟨a2, e2, _, s2⟩ := DataW.trod_string Tryd.underlying9 g2
  obtain ⟨a3, e3, _, u3⟩ := DataW.trod_int Tryd.underlying23 g3
  obtain ⟨a4, e4, _, u4⟩ := DataW.trod_int Tryd.underlying23 g4
  obtain ⟨a5, e5, _, s5⟩ := DataW.trod_string Tryd.underlying9 g5
  obtain ⟨a6, e6, _, s6⟩ := DataW.trod_string Tryd.underlying9 g6
  obtain ⟨ra, rl, rc, e7⟩ := slice_form Tryd.underlying22 g7
  obtain ⟨wa, wl, wc, e8⟩ := slice_form Tryd.underlying22 g8
  simp at e0 e1 e2 e3 e4 e5 e6 e7 e8
  subst e0 e1 e2 e3 e4 e5 e6 e7 e8
  have t7 : DataW.Trod enc Tryd.prog W 0 (fun _ => true) true 22 (.slice ra rl rc) y7.1 y7.2 := ⟨n, by simpa [Value.cells] using g7⟩
  have t8 : DataW.Trod enc Tryd.prog W 0 (fun _ => true) true 22 (.slice wa wl wc) y8.1 y8.2 := ⟨n, by simpa [Value.cells] using g8⟩
  obtain ⟨rs, rfl, r1, r2, r3⟩ := strs_open t7
  obtain ⟨ws, rfl, w1, w2, w3⟩ := strs_open t8
  obtain ⟨m3, rfl⟩ := Int.eq_ofNat_of_zero_le (wf_u64 u3).1
  obtain ⟨m4, rfl⟩ := Int.eq_ofNat_of_zero_le (wf_u64 u4).1
  refine ⟨⟨⟨a0, a1, a2, m3, m4, a5, a6, rs, ws⟩, ra, rc, wa, wc⟩, rfl, ⟨⟨r1, w1⟩, strs_cap t7, strs_cap t8⟩, ⟨s1, s2, s5, s6, r2, w2⟩, y0.1, y1.1, y2.1, y3.1, y4.1, y5.1, y6.1, y7.1, y8.1, ?_, r3, w3⟩
  have := congrArg Prod.fst hx
  simpa using this

theorem StrsAt.kept {S : Nat → Prop} {w w' : World} {ao : Option Addr} {ss : List ByteArray} (h : StrsAt w ao ss) (hk : Kept S w w') (hn : ∀ b off, ao = some ⟨b, off, none⟩ → 0 < ss.length → ¬ S b) : StrsAt w' ao ss := by
  intro j hj
  obtain ⟨b, off, h1, h2, h3⟩ := h j hj
  exact ⟨b, off, h1, Nat.lt_of_lt_of_le h2 hk.size, by rw [hk.cell (p := ⟨b, off + j, none⟩) h2 (hn b off h1 (by omega))]; exact h3⟩

/-- Its lists lie outside the blocks of S. -/
structure TxM.Off (x : TxM) (S : Nat → Prop) : Prop where
  r : ∀ b off, x.ra = some ⟨b, off, none⟩ → 0 < x.d.rs.length → ¬ S b
  w : ∀ b off, x.wa = some ⟨b, off, none⟩ → 0 < x.d.ws.length → ¬ S b

theorem TxM.At.kept {x : TxM} {S : Nat → Prop} {w w' : World} (h : x.At w) (hk : Kept S w w') (ho : x.Off S) : x.At w' :=
  ⟨⟨h.at_.rd.kept hk ho.r, h.at_.wr.kept hk ho.w⟩, h.nr, h.nw⟩

/-- What is new is apart from what was there. -/
theorem TxM.At.off_new {x : TxM} {w : World} (h : x.At w) {g : Nat} (hg : w.heap.size ≤ g) : x.Off (fun k => k = g) := by
  refine ⟨fun b off e hl => ?_, fun b off e hl => ?_⟩
  · obtain ⟨b', off', e', h2, _⟩ := h.at_.rd 0 hl
    rw [e] at e'
    simp at e'
    omega
  · obtain ⟨b', off', e', h2, _⟩ := h.at_.wr 0 hl
    rw [e] at e'
    simp at e'
    omega

theorem TxM.Off.or {x : TxM} {S T : Nat → Prop} (h1 : x.Off S) (h2 : x.Off T) : x.Off (fun k => S k ∨ T k) :=
  ⟨fun b off e hl hs => hs.elim (h1.r b off e hl) (h2.r b off e hl), fun b off e hl hs => hs.elim (h1.w b off e hl) (h2.w b off e hl)⟩

theorem TxM.Off.mono {x : TxM} {S T : Nat → Prop} (h : x.Off T) (hs : ∀ k, S k → T k) : x.Off S :=
  ⟨fun b off e hl hk => h.r b off e hl (hs b hk), fun b off e hl hk => h.w b off e hl (hs b hk)⟩

/-- A row of the call's own that holds transactions. -/
theorem QRow.txs {w : World} {base : Nat} {ao : Option Addr} {n cap : Nat} {l : List TxM} (h : QRow w base 33 9 (.slice ao n cap) n (flatX l)) (hn : n = l.length) (hA : ∀ x ∈ l, x.At w) : TxsAt w ao l := by
  intro i x hx
  have hi := (List.getElem?_eq_some_iff.1 hx).1
  refine ⟨?_, hA x (List.mem_of_getElem? hx)⟩
  obtain ⟨g, off, cap', hv, hb, hlt, hc⟩ := h.cells (by omega)
  simp only [Value.slice.injEq, true_and] at hv
  refine ⟨g, off, hv.1, hlt, fun j v hj => ?_⟩
  have hj9 : j < 9 := by
    have := (List.getElem?_eq_some_iff.1 hj).1
    rw [TxM.c_length] at this
    exact this
  have := hc (i * 9 + j) v (by rw [flatX_get l i x hx j hj9]; exact hj)
  rw [← Nat.add_assoc] at this
  exact this
end Go.Proofs.YtcjmeaikdfgapaaDoor
