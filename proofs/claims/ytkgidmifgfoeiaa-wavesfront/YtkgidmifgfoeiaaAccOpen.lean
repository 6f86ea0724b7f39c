/- How transactions, and rows of them, that came in are opened. -/
import Derived.Test.YtkgidmifgfoeiaaAccGreat
import Derived.Test.YtkgidmifgfoeiaaKindsOpen
import Derived.Test.YtkgidmifgfoeiaaFrameSlim
import Derived.Lib.SmallJoins
namespace Go.Proofs.Ytkgidmifgfoeiaa
open Go Go.ChangeShapes Go.WideShapes Go.ChangeAt Go.RowKit Go.Joins Go.Deep
set_option linter.unusedVariables false

/-- Texts that a machine has. -/
def textzK : Kind ByteArray where
  n := 1
  c v := [.string v]
  foot _ _ := False
  At _ v := v.size ≤ maxLen
  pos := by decide
  len _ := rfl
  one x u hu := by
    simp only [List.mem_cons, List.not_mem_nil, or_false] at hu
    rcases hu with rfl; rfl
  lt _ h := h.elim
  keep h _ := h

theorem RowAt.textz {w : World} {ao : Option Addr} {l : List ByteArray} (h : RowAt textzK w ao l) : RowAt textK w ao l ∧ ∀ s ∈ l, s.size ≤ maxLen :=
  ⟨⟨fun i x hx => h.cell i x hx, fun _ _ => trivial⟩, fun s hs => h.at_ s hs⟩

def Any20 {H α : Type} (d : DataW H) (x : α) : Prop := True

theorem cellsStr20 : Try.prog.cellsOf 9 = 1 := by kernel_rfl
theorem cellsInt20 : Try.prog.cellsOf 3 = 1 := by kernel_rfl
theorem cellsU20 : Try.prog.cellsOf 34 = 1 := by kernel_rfl
theorem cellsStrs20 : Try.prog.cellsOf 36 = 1 := by kernel_rfl
theorem cellsTx20 : Try.prog.cellsOf 38 = 9 := by kernel_rfl
theorem bytesStr20 : Try.prog.bytesOf 9 = 16 := by kernel_rfl
theorem bytesTx20 : Try.prog.bytesOf 38 = 136 := by kernel_rfl

theorem open_strz {H : Type} {enc : TypeId × Value → H} {W : World} {fuel : Nat} {cs : List Value} {y : DataW H × List MemPlace}
    (hf : DataW.trod enc Try.prog W 0 (fun _ => true) true fuel 9 cs = some y) : ∃ x : ByteArray, cs = textzK.c x ∧ textzK.At W x ∧ Any20 y.1 x := by
  obtain ⟨a, e, hy, s⟩ := DataW.trod_string Try.underlying9 hf
  exact ⟨a, e, s, trivial⟩

theorem RowD.strs20 {H : Type} {d : DataW H} {l : List ByteArray} (hs : RowD Any20 d l) (h : ∀ n ∈ d.weights Try.prog 36, n ≤ reachBytes) : l.length ≤ 17592186044416 := by
  rcases hs with ⟨rfl, rfl⟩ | ⟨es, rest, rfl, hl, _⟩
  · simp
  · have := h ((es.length + rest.length) * Try.prog.bytesOf 9) (by simp [DataW.weights, Try.underlying36])
    rw [bytesStr20] at this
    simp [reachBytes] at this
    omega

/-- What a transaction weighs: its rows are no greater than a machine has. -/
def TxQ {H : Type} (d : DataW H) (x : TxA) : Prop := (∀ n ∈ d.weights Try.prog 38, n ≤ reachBytes) → x.rs.length ≤ 17592186044416 ∧ x.ws.length ≤ 17592186044416

theorem list9a {α : Type} {l : List α} (h : l.length = 9) : ∃ c0 c1 c2 c3 c4 c5 c6 c7 c8, l = [c0, c1, c2, c3, c4, c5, c6, c7, c8] := by
  match l, h with
  | [c0, c1, c2, c3, c4, c5, c6, c7, c8], _ => exact ⟨c0, c1, c2, c3, c4, c5, c6, c7, c8, rfl⟩

set_option maxRecDepth 100000 in
theorem open_txa_cells {H : Type} {enc : TypeId × Value → H} {W : World} {fuel : Nat} {cs : List Value} {y : DataW H × List MemPlace}
    (hf : DataW.trod enc Try.prog W 0 (fun _ => true) true fuel 38 cs = some y) : ∃ x : TxA, cs = txA.c x ∧ txA.At W x ∧ TxQ y.1 x := by
  obtain ⟨xs, n, _, hx, hcl, hl, hg⟩ := DataW.trod_struct Try.underlying38 hf
  obtain ⟨c0, c1, c2, c3, c4, c5, c6, c7, c8, rfl⟩ := list9a (hcl.trans cellsTx20)
  obtain ⟨y0, y1, y2, y3, y4, y5, y6, y7, y8, rfl⟩ := list9a hl
  have g0 := hg 0 _ rfl
  have g1 := hg 1 _ rfl
  have g2 := hg 2 _ rfl
  have g3 := hg 3 _ rfl
  have g4 := hg 4 _ rfl
  have g5 := hg 5 _ rfl
  have g6 := hg 6 _ rfl
  have g7 := hg 7 _ rfl
  have g8 := hg 8 _ rfl
  simp [cellsInt20, cellsU20, cellsStr20, cellsStrs20] at g0 g1 g2 g3 g4 g5 g6 g7 g8
  obtain ⟨a0, e0, _, _⟩ := DataW.trod_int Try.underlying3 g0
  obtain ⟨a1, e1, _, s1⟩ := DataW.trod_string Try.underlying9 g1
  obtain ⟨a2, e2, _, s2⟩ := DataW.trod_string Try.underlying9 g2
  obtain ⟨a3, e3, _, u3⟩ := DataW.trod_int Try.underlying34 g3
  obtain ⟨a4, e4, _, u4⟩ := DataW.trod_int Try.underlying34 g4
  obtain ⟨a5, e5, _, s5⟩ := DataW.trod_string Try.underlying9 g5
  obtain ⟨a6, e6, _, s6⟩ := DataW.trod_string Try.underlying9 g6
  have sl : ∀ {c : Value} {fu : Nat} {y : DataW H × List MemPlace}, DataW.trod enc Try.prog W 0 (fun _ => true) true fu 36 [c] = some y → ∃ a len cap, c = .slice a len cap := by
    intro c fu y g
    rcases open_slice Try.underlying36 g with ⟨hcs, _⟩ | ⟨x, l, c, m, n, D, Pl, hcs, _⟩
    · exact ⟨none, 0, 0, by simpa using hcs⟩
    · exact ⟨some x, _, _, by simpa using hcs⟩
  obtain ⟨a7, len7, cap7, rfl⟩ := sl g7
  obtain ⟨a8, len8, cap8, rfl⟩ := sl g8
  obtain ⟨l7, hl7, hr7, hn7, hm7, hd7⟩ := open_row textzK Any20 Try.underlying36 cellsStr20 open_strz g7
  obtain ⟨l8, hl8, hr8, hn8, hm8, hd8⟩ := open_row textzK Any20 Try.underlying36 cellsStr20 open_strz g8
  simp at e0 e1 e2 e3 e4 e5 e6
  subst e0 e1 e2 e3 e4 e5 e6 hl7 hl8
  refine ⟨⟨a0, a1, a2, a3, a4, a5, a6, l7, l8, a7, cap7, a8, cap8⟩, rfl, ⟨hr7.textz.1, hr8.textz.1, hn7, hn8, hr7.textz.2, hr8.textz.2⟩, fun hw => ?_⟩
  have e : DataW.weights Try.prog 38 y.1 = DataW.weightsEach Try.prog [3, 9, 9, 34, 34, 9, 9, 36, 36] [y0.1, y1.1, y2.1, y3.1, y4.1, y5.1, y6.1, y7.1, y8.1] := by
    rw [hx]
    show DataW.weights Try.prog 38 (.agg [y0.1, y1.1, y2.1, y3.1, y4.1, y5.1, y6.1, y7.1, y8.1]) = _
    simp only [DataW.weights, Try.underlying38]
    rfl
  refine ⟨hd7.strs20 (fun k hk => hw k ?_), hd8.strs20 (fun k hk => hw k ?_)⟩
  · rw [e]
    exact DataW.weights_mem_each (j := 7) rfl rfl k hk
  · rw [e]
    exact DataW.weights_mem_each (j := 8) rfl rfl k hk

theorem open_txs20 {H : Type} {enc : TypeId × Value → H} {W : World} {a : Option Addr} {len cap : Nat} {d : DataW H} {p : List MemPlace}
    (h : DataW.Trod enc Try.prog W 0 (fun _ => true) true 22 (.slice a len cap) d p) :
    ∃ l : List TxA, l.length = len ∧ RowAt txA W a l ∧ len ≤ maxLen ∧ RowD TxQ d l := by
  obtain ⟨fuel, hf⟩ := h
  obtain ⟨l, h1, h2, _, h4, h5⟩ := open_row txA TxQ Try.underlying22 cellsTx20 open_txa_cells hf
  exact ⟨l, h1, h2, h4, h5⟩

/-- The same, and that its length is within what it has room for. -/
theorem open_txs20c {H : Type} {enc : TypeId × Value → H} {W : World} {a : Option Addr} {len cap : Nat} {d : DataW H} {p : List MemPlace}
    (h : DataW.Trod enc Try.prog W 0 (fun _ => true) true 22 (.slice a len cap) d p) :
    ∃ l : List TxA, l.length = len ∧ RowAt txA W a l ∧ len ≤ cap ∧ RowD TxQ d l := by
  obtain ⟨l, h1, h2, _, h4⟩ := open_txs20 h
  refine ⟨l, h1, h2, ?_, h4⟩
  obtain ⟨fuel, hf⟩ := h
  rcases open_slice Try.underlying22 hf with ⟨hcs, _⟩ | ⟨x, l, c, m, n, D, Pl, hcs, _, hl, _⟩
  · have : Value.slice a len cap = .slice none 0 0 := by simpa [Value.cells] using hcs
    simp only [Value.slice.injEq] at this
    omega
  · have : Value.slice a len cap = .slice (some x) l c := by simpa [Value.cells] using hcs
    simp only [Value.slice.injEq] at this
    omega

theorem weights_mem_all20 {H : Type} {P : Program} {e : TypeId} : ∀ {ds : List (DataW H)} {d : DataW H}, d ∈ ds → ∀ n ∈ d.weights P e, n ∈ DataW.weightsAll P e ds
  | [], _, h, _, _ => by cases h
  | d0 :: ds, d, h, n, hn => by
    simp only [DataW.weightsAll, List.mem_append]
    rcases List.mem_cons.1 h with rfl | h
    · exact Or.inl hn
    · exact Or.inr (weights_mem_all20 h n hn)

theorem txs20_sized {H : Type} {ts : List TypeId} {ds : List (DataW H)} (h : (DataW.weightsEach Try.prog ts ds).all (· ≤ reachBytes) = true) {j : Nat} {d : DataW H} {l : List TxA} (ht : ts[j]? = some 22) (hd : ds[j]? = some d) (hs : RowD TxQ d l) : Wide l := by
  rcases hs with ⟨rfl, rfl⟩ | ⟨es, rest, rfl, hl, ha⟩
  · exact ⟨Nat.zero_le _, fun x hx => by cases hx⟩
  · refine ⟨?_, fun x hx => ?_⟩
    · have := sized_slice h ht hd Try.underlying22
      rw [bytesTx20] at this
      simp [reachBytes] at this
      omega
    · obtain ⟨i, hi⟩ := List.getElem?_of_mem hx
      have hil := (List.getElem?_eq_some_iff.1 hi).1
      refine ha i _ x (List.getElem?_eq_getElem (by omega)) hi (fun n hn => ?_)
      have h1 : n ∈ DataW.weights Try.prog 22 (.slice es rest) := by
        simp only [DataW.weights, Try.underlying22]
        exact List.mem_cons_of_mem _ (List.mem_append.2 (Or.inl (weights_mem_all20 (List.getElem_mem _) n hn)))
      have := List.all_eq_true.1 h _ (DataW.weights_mem_each ht hd n h1)
      simpa using this

set_option maxRecDepth 100000 in
theorem open_txa {H : Type} {enc : TypeId × Value → H} {W : World} {r : Reach} {b0 : Nat} {v : Value} {d : DataW H} {p : List MemPlace} (hv : Value.okWide Try.prog W r b0 38 v)
    (h : DataW.Trod enc Try.prog W 0 (fun _ => true) true 38 v d p) : ∃ x : TxA, v = x.v ∧ TxA.At W x ∧ TxQ d x := by
  obtain ⟨cs, rfl, hsz⟩ := okWide_struct Try.underlying38 hv
  obtain ⟨fuel, hf⟩ := h
  obtain ⟨x, hx, h2, h3⟩ := open_txa_cells hf
  refine ⟨x, ?_, h2, h3⟩
  have e : cs.toList = x.c := hx
  show Value.agg cs = Value.agg x.c.toArray
  rw [← e]

theorem txa_sized {H : Type} {ts : List TypeId} {ds : List (DataW H)} (h : (DataW.weightsEach Try.prog ts ds).all (· ≤ reachBytes) = true) {j : Nat} {d : DataW H} {x : TxA} (ht : ts[j]? = some 38) (hd : ds[j]? = some d) (hs : TxQ d x) : x.rs.length ≤ 17592186044416 ∧ x.ws.length ≤ 17592186044416 :=
  hs (fun n hn => by
    have := List.all_eq_true.1 h _ (DataW.weights_mem_each ht hd n hn)
    simpa using this)
end Go.Proofs.Ytkgidmifgfoeiaa
