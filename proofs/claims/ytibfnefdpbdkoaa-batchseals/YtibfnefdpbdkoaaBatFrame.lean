/- How a batch, and a row of operations, that came in are opened; their sizes. -/
import Derived.Test.YtibfnefdpbdkoaaTxRowsOpen
import Derived.Test.YtibfnefdpbdkoaaSealRows
namespace Go.Proofs.Ytibfnefdpbdkoaa
open Go.ChangeShapes Go.WideShapes Go.ChangeAt Go.RowKit Go.Joins Go.Deep
set_option linter.unusedVariables false

theorem weightsAll_mem {H : Type} {P : Program} {e : TypeId} : ∀ {l : List (DataW H)} {d : DataW H}, d ∈ l → ∀ n ∈ d.weights P e, n ∈ DataW.weightsAll P e l
  | [], d, h, _, _ => by cases h
  | x :: r, d, h, n, hn => by
    rw [List.mem_cons] at h
    rw [DataW.weightsAll, List.mem_append]
    rcases h with rfl | h
    · exact Or.inl hn
    · exact Or.inr (weightsAll_mem h n hn)

theorem all_of_weights {H : Type} {P : Program} {ts : List TypeId} {ds : List (DataW H)} (h : (DataW.weightsEach P ts ds).all (· ≤ reachBytes) = true) {j : Nat} {t : TypeId} {d : DataW H} (ht : ts[j]? = some t) (hd : ds[j]? = some d) : ∀ n ∈ d.weights P t, n ≤ reachBytes :=
  fun n hn => by simpa using List.all_eq_true.1 h n (DataW.weights_mem_each ht hd n hn)

/-- Its lists are no longer than a machine holds. -/
def TxLens (D : TxD) : Prop := D.rs.length * 16 ≤ 140737488351232 ∧ D.ws.length * 16 ≤ 140737488351232

set_option maxRecDepth 100000 in
theorem tx_fit {H : Type} {d : DataW H} {D : TxD} (h : ∀ n ∈ d.weights Try.prog 33, n ≤ reachBytes) (hs : TxDatum d D) : TxLens D :=
  tx_sized (ts := [33]) (ds := [d]) (by rw [List.all_eq_true]; intro n hn; simp [DataW.weightsEach] at hn; simpa using h n hn) (j := 0) rfl rfl hs

theorem txs_fit {H : Type} {d : DataW H} {l : List TxM} (h : ∀ n ∈ d.weights Try.prog 38, n ≤ reachBytes) (hs : TxsDatum d l) : ∀ x ∈ l, TxLens x.d := by
  rcases hs with ⟨rfl, rfl⟩ | ⟨ds, rest, rfl, hl, hq⟩
  · simp
  · intro x hx
    obtain ⟨i, hi⟩ := List.getElem?_of_mem hx
    have hi' : i < ds.length := by have := (List.getElem?_eq_some_iff.1 hi).1; omega
    refine tx_fit (fun n hn => h n ?_) (hq i ds[i] x (List.getElem?_eq_getElem hi') hi)
    rw [DataW.weights, Try.underlying38]
    simp only [List.mem_cons, List.mem_append]
    exact Or.inr (Or.inl (weightsAll_mem (List.getElem_mem hi') n hn))

theorem array3 {α : Type} {cs : Array α} (h : cs.size = 3) : ∃ c0 c1 c2, cs = #[c0, c1, c2] := by
  obtain ⟨l⟩ := cs
  match l, h with
  | [c0, c1, c2], _ => exact ⟨c0, c1, c2, rfl⟩

theorem list3 {α : Type} {l : List α} (h : l.length = 3) : ∃ c0 c1 c2, l = [c0, c1, c2] := by
  match l, h with
  | [c0, c1, c2], _ => exact ⟨c0, c1, c2, rfl⟩

theorem list2 {α : Type} {l : List α} (h : l.length = 2) : ∃ c0 c1, l = [c0, c1] := by
  match l, h with
  | [c0, c1], _ => exact ⟨c0, c1, rfl⟩

theorem cellsBat : Try.prog.cellsOf 40 = 3 := by kernel_rfl

/-- How a batch reads. -/
def BatDatum {H : Type} (d : DataW H) (l : List TxM) : Prop := ∃ y0 y1 y2, d = .agg [y0, y1, y2] ∧ TxsDatum y2 l

set_option maxRecDepth 100000 in
theorem open_bat {H : Type} {enc : TypeId × Value → H} {W : World} {r : Reach} {b0 : Nat} {v : Value} {d : DataW H} {p : List MemPlace} (hv : Value.okWide Try.prog W r b0 40 v)
    (h : DataW.Trod enc Try.prog W 0 (fun _ => true) true 40 v d p) :
    ∃ (a n : Int) (ao : Option Addr) (l : List TxM) (cap : Nat), v = batV a n ao l.length cap ∧ TxsAt W ao l ∧ (∀ x ∈ l, TxSizes x.d) ∧ (ao = none → cap = 0) ∧ l.length ≤ maxLen ∧ (Lit.int .i64 a).wf = true ∧ (Lit.int .i64 n).wf = true ∧ BatDatum d l := by
  obtain ⟨cs, rfl, hsz⟩ := okWide_struct Try.underlying40 hv
  obtain ⟨c0, c1, c2, rfl⟩ := array3 (hsz.trans cellsBat)
  obtain ⟨fuel, hf⟩ := h
  obtain ⟨xs, n, _, hx, _, hl, hg⟩ := DataW.trod_struct Try.underlying40 hf
  obtain ⟨y0, y1, y2, rfl⟩ := list3 hl
  have g0 := hg 0 _ rfl
  have g1 := hg 1 _ rfl
  have g2 := hg 2 _ rfl
  have kI : Try.prog.cellsOf 3 = 1 := by kernel_rfl
  have kS : Try.prog.cellsOf 38 = 1 := by kernel_rfl
  simp [Value.cells, kI, kS] at g0 g1 g2
  obtain ⟨a0, e0, _, w0⟩ := DataW.trod_int Try.underlying3 g0
  obtain ⟨a1, e1, _, w1⟩ := DataW.trod_int Try.underlying3 g1
  obtain ⟨ao, len, cap, e2⟩ := slice_form Try.underlying38 g2
  simp at e0 e1 e2
  subst e0 e1 e2
  obtain ⟨l, rfl, l1, l2, l3, l4, l5⟩ := open_txs g2
  refine ⟨a0, a1, ao, l, cap, rfl, l1, l2, l3, l4, w0, w1, y0.1, y1.1, y2.1, ?_, l5⟩
  have := (Prod.mk.inj hx).1
  simpa using this

set_option maxRecDepth 100000 in
theorem bat_fit {H : Type} {d : DataW H} {l : List TxM} (h : ∀ n ∈ d.weights Try.prog 40, n ≤ reachBytes) (hs : BatDatum d l) : ∀ x ∈ l, TxLens x.d := by
  obtain ⟨y0, y1, y2, rfl, hq⟩ := hs
  refine txs_fit (fun n hn => h n ?_) hq
  rw [DataW.weights, Try.underlying40]
  exact DataW.weights_mem_each (ts := [3, 3, 38]) (j := 2) rfl rfl n hn

/-- A batch that came in: in sizes that a machine holds. -/
theorem bat_sized {H : Type} {ts : List TypeId} {ds : List (DataW H)} (h : (DataW.weightsEach Try.prog ts ds).all (· ≤ reachBytes) = true) {j : Nat} {d : DataW H} {l : List TxM} (ht : ts[j]? = some 40) (hd : ds[j]? = some d) (hs : BatDatum d l) : ∀ x ∈ l, TxLens x.d := bat_fit (all_of_weights h ht hd) hs
end Go.Proofs.Ytibfnefdpbdkoaa
