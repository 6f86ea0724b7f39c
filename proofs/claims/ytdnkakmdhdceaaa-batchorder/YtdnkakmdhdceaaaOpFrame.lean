/- How a row of operations that came in is opened; its sizes. -/
import Derived.Test.YtdnkakmdhdceaaaBatFrame
namespace Go.Proofs.Ytdnkakmdhdceaaa
open Go.ChangeShapes Go.WideShapes Go.ChangeAt Go.RowKit Go.Joins Go.Deep
set_option linter.unusedVariables false

/-- An operation: a tick, or a transaction that is added. -/
structure OpM where
  tick : Bool
  x : TxM

def OpM.c (o : OpM) : List Value := .bool o.tick :: o.x.c

theorem OpM.c_length (o : OpM) : o.c.length = 10 := rfl

theorem cellsOp : Try.prog.cellsOf 42 = 10 := by kernel_rfl

/-- A row of operations lies at an address. -/
def OpsAt (w : World) (ao : Option Addr) (l : List OpM) : Prop :=
  ∀ i o, l[i]? = some o → (∃ b off, ao = some ⟨b, off, none⟩ ∧ b < w.heap.size ∧ ∀ j v, o.c[j]? = some v → w.cell? ⟨b, off + i * 10 + j, none⟩ = some v) ∧ o.x.At w

theorem OpsAt.below {w w' : World} {ao : Option Addr} {l : List OpM} {B : Nat} (h : OpsAt w ao l) (hb : Below w.heap.size w w') : OpsAt w' ao l := by
  intro i o ho
  obtain ⟨⟨b, off, h1, h2, h3⟩, h4⟩ := h i o ho
  exact ⟨⟨b, off, h1, Nat.lt_of_lt_of_le h2 hb.size, fun j v hv => by rw [hb.cell (p := ⟨b, off + i * 10 + j, none⟩) h2]; exact h3 j v hv⟩, h4.below hb⟩

/-- The ten cells of one of them. -/
theorem OpsAt.cells {w : World} {ao : Option Addr} {l : List OpM} (h : OpsAt w ao l) {i : Nat} {o : OpM} (hx : l[i]? = some o) :
    ∃ b off, ao = some ⟨b, off, none⟩ ∧ b < w.heap.size ∧ w.cell? ⟨b, off + i * 10, none⟩ = some (.bool o.tick) ∧ w.cell? ⟨b, off + i * 10 + 1, none⟩ = some (.int .i64 o.x.d.kind) ∧ w.cell? ⟨b, off + i * 10 + 2, none⟩ = some (.string o.x.d.frm) ∧ w.cell? ⟨b, off + i * 10 + 3, none⟩ = some (.string o.x.d.to) ∧ w.cell? ⟨b, off + i * 10 + 4, none⟩ = some (.int .u64 (o.x.d.amt : Int)) ∧ w.cell? ⟨b, off + i * 10 + 5, none⟩ = some (.int .u64 (o.x.d.non : Int)) ∧
      w.cell? ⟨b, off + i * 10 + 6, none⟩ = some (.string o.x.d.key) ∧ w.cell? ⟨b, off + i * 10 + 7, none⟩ = some (.string o.x.d.val) ∧ w.cell? ⟨b, off + i * 10 + 8, none⟩ = some (.slice o.x.ra o.x.d.rs.length o.x.rc) ∧ w.cell? ⟨b, off + i * 10 + 9, none⟩ = some (.slice o.x.wa o.x.d.ws.length o.x.wc) := by
  obtain ⟨⟨b, off, h1, h2, h3⟩, _⟩ := h i o hx
  exact ⟨b, off, h1, h2, h3 0 _ rfl, h3 1 _ rfl, h3 2 _ rfl, h3 3 _ rfl, h3 4 _ rfl, h3 5 _ rfl, h3 6 _ rfl, h3 7 _ rfl, h3 8 _ rfl, h3 9 _ rfl⟩

/-- How an operation reads. -/
def OpDatum {H : Type} (d : DataW H) (o : OpM) : Prop := ∃ y0 y1, d = .agg [y0, y1] ∧ TxDatum y1 o.x.d

set_option maxRecDepth 100000 in
theorem open_op_cells {H : Type} {enc : TypeId × Value → H} {W : World} {fuel : Nat} {cs : List Value} {y : DataW H × List MemPlace}
    (hf : DataW.trod enc Try.prog W 0 (fun _ => true) true fuel 42 cs = some y) :
    ∃ o : OpM, cs = o.c ∧ o.x.At W ∧ TxSizes o.x.d ∧ OpDatum y.1 o := by
  obtain ⟨xs, n, _, hx, hcl, hl, hg⟩ := DataW.trod_struct Try.underlying42 hf
  obtain ⟨y0, y1, rfl⟩ := list2 hl
  rw [cellsOp] at hcl
  have g0 := hg 0 _ rfl
  have g1 := hg 1 _ rfl
  have kB : Try.prog.cellsOf 4 = 1 := by kernel_rfl
  match cs, hcl with
  | c0 :: r, hr =>
    simp [kB, cellsTx] at g0 g1
    obtain ⟨b, e0, _⟩ := DataW.trod_bool Try.underlying4 g0
    simp at e0
    subst e0
    have hr9 : r.take 9 = r := List.take_of_length_le (by simp at hr; omega)
    rw [hr9] at g1
    obtain ⟨x, rfl, x1, x2, x3⟩ := open_tx_cells g1
    refine ⟨⟨b, x⟩, rfl, x1, x2, y0.1, y1.1, ?_, x3⟩
    have := congrArg Prod.fst hx
    simpa using this

/-- How a row of operations reads. -/
def OpsDatum {H : Type} (d : DataW H) (l : List OpM) : Prop :=
  (d = .nil ∧ l = []) ∨ ∃ (ds rest : List (DataW H)), d = .slice ds rest ∧ ds.length = l.length ∧ ∀ (i : Nat) (y : DataW H) (o : OpM), ds[i]? = some y → l[i]? = some o → OpDatum y o

theorem nil_ops (w : World) (ao : Option Addr) : OpsAt w ao [] := fun i x hx => by simp at hx

set_option maxRecDepth 100000 in
/-- A row of operations that came in. -/
theorem open_ops {H : Type} {enc : TypeId × Value → H} {W : World} {a : Option Addr} {len cap : Nat} {d : DataW H} {p : List MemPlace}
    (h : DataW.Trod enc Try.prog W 0 (fun _ => true) true 30 (.slice a len cap) d p) :
    ∃ l : List OpM, l.length = len ∧ OpsAt W a l ∧ (∀ o ∈ l, TxSizes o.x.d) ∧ len ≤ maxLen ∧ OpsDatum d l := by
  obtain ⟨fuel, hf⟩ := h
  rcases open_slice Try.underlying30 hf with ⟨hcs, hx⟩ | ⟨x, l, c, m, n, D, Pl, hcs, _, hl, hm, hmm, hx, hc⟩
  · simp [Value.cells] at hcs
    obtain ⟨rfl, rfl, rfl⟩ := hcs
    exact ⟨[], rfl, nil_ops _ _, by simp, Nat.zero_le _, Or.inl ⟨(Prod.mk.inj hx).1, rfl⟩⟩
  · simp [Value.cells] at hcs
    obtain ⟨rfl, rfl, rfl⟩ := hcs
    simp at hmm
    subst hmm
    have hall : ∀ i : Nat, ∃ q : OpM, i < len → (∀ j v, q.c[j]? = some v → W.cell? (x.add (i * 10 + j)) = some v) ∧ q.x.At W ∧ TxSizes q.x.d ∧ OpDatum (D i) q := by
      intro i
      by_cases hi : i < len
      · obtain ⟨cs', h1, h2⟩ := hc i (by omega)
        rw [cellsOp] at h1
        obtain ⟨_, hlen, hcell⟩ := World.cells?_some h1
        obtain ⟨q, rfl, q2, q3, q4⟩ := open_op_cells h2
        refine ⟨q, fun _ => ⟨fun j v hv => ?_, q2, q3, q4⟩⟩
        have hj : j < q.c.length := (List.getElem?_eq_some_iff.1 hv).1
        have := hcell j (by rw [OpM.c_length] at hj; exact hj)
        rw [add_add] at this
        rw [this, hv]
      · exact ⟨⟨false, ⟨.none, none, 0, none, 0⟩⟩, fun h => absurd h hi⟩
    obtain ⟨Y, hY⟩ := Classical.axiomOfChoice hall
    refine ⟨(List.range len).map Y, by simp, ?_, ?_, by omega, Or.inr ⟨_, _, (Prod.mk.inj hx).1, by simp, ?_⟩⟩
    · intro i q hq
      have hi : i < len := by
        by_cases hi : i < len
        · exact hi
        · rw [List.getElem?_eq_none (by simp; omega)] at hq
          cases hq
      obtain rfl : Y i = q := by simpa [hi] using hq
      obtain ⟨c0, q2, _, _⟩ := hY i hi
      obtain ⟨b, off, spot⟩ := x
      have hz := (hY 0 (by omega)).1 0 _ rfl
      have hspot : spot = none := by simpa [Addr.add] using World.cell?_spot hz
      subst hspot
      have hb0 := c0 0 _ rfl
      rw [Go.WideShapes.add_plain] at hb0
      refine ⟨⟨b, off, rfl, World.block_lt_of_cell? W _ hb0, fun j v hv => ?_⟩, q2⟩
      have := c0 j v hv
      rw [Go.WideShapes.add_plain] at this
      rw [← this, Nat.add_assoc]
    · intro q hq
      obtain ⟨i, hi, rfl⟩ := List.mem_map.1 hq
      exact (hY i (by simpa using hi)).2.2.1
    · intro i y' q hy hq
      have hi : i < len := by
        by_cases hi : i < len
        · exact hi
        · rw [List.getElem?_eq_none (by simp; omega)] at hq
          cases hq
      obtain rfl : Y i = q := by simpa [hi] using hq
      obtain rfl : D i = y' := by simpa [hi] using hy
      exact (hY i hi).2.2.2

set_option maxRecDepth 100000 in
theorem ops_fit {H : Type} {d : DataW H} {l : List OpM} (h : ∀ n ∈ d.weights Try.prog 30, n ≤ reachBytes) (hs : OpsDatum d l) : ∀ o ∈ l, TxLens o.x.d := by
  rcases hs with ⟨rfl, rfl⟩ | ⟨ds, rest, rfl, hl, hq⟩
  · simp
  · intro x hx
    obtain ⟨i, hi⟩ := List.getElem?_of_mem hx
    have hi' : i < ds.length := by have := (List.getElem?_eq_some_iff.1 hi).1; omega
    obtain ⟨y0, y1, e, ht⟩ := hq i ds[i] x (List.getElem?_eq_getElem hi') hi
    refine tx_fit (fun n hn => h n ?_) ht
    rw [DataW.weights, Try.underlying30]
    simp only [List.mem_cons, List.mem_append]
    refine Or.inr (Or.inl (weightsAll_mem (List.getElem_mem hi') n ?_))
    rw [e, DataW.weights, Try.underlying42]
    exact DataW.weights_mem_each (ts := [4, 40]) (j := 1) rfl rfl n hn

theorem ops_sized {H : Type} {ts : List TypeId} {ds : List (DataW H)} (h : (DataW.weightsEach Try.prog ts ds).all (· ≤ reachBytes) = true) {j : Nat} {d : DataW H} {l : List OpM} (ht : ts[j]? = some 30) (hd : ds[j]? = some d) (hs : OpsDatum d l) : ∀ o ∈ l, TxLens o.x.d := ops_fit (all_of_weights h ht hd) hs
end Go.Proofs.Ytdnkakmdhdceaaa
