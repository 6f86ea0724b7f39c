/- How a row of acts on a desk that came in is opened. -/
import Derived.Test.YtblpkfnhfdkacaaFetOpen
import Derived.Test.YtblpkfnhfdkacaaFrameSlim
namespace Go.Proofs.Ytblpkfnhfdkacaa
open Go Go.ChangeShapes Go.WideShapes Go.ChangeAt Go.RowKit Go.Joins Go.Deep
set_option linter.unusedVariables false

theorem list3f {α : Type} {l : List α} (h : l.length = 3) : ∃ c0 c1 c2, l = [c0, c1, c2] := by
  match l, h with
  | [c0, c1, c2], _ => exact ⟨c0, c1, c2, rfl⟩

/-- An act, as it lies. -/
structure OpF where
  kind : Int
  id : ByteArray
  fr : List Int
  fa : Option Addr
  fc : Nat

instance : Inhabited OpF := ⟨⟨0, ⟨#[]⟩, [], none, 0⟩⟩

structure OpF.At (w : World) (x : OpF) : Prop where
  row : RowAt intK w x.fa x.fr
  len : x.fr.length ≤ maxLen

def opF : Kind OpF where
  n := 3
  c x := [.int .i64 x.kind, .string x.id, .slice x.fa x.fr.length x.fc]
  foot x b := rowFoot intK x.fa x.fr b
  At w x := x.At w
  pos := by decide
  len _ := rfl
  one x u hu := by
    simp only [List.mem_cons, List.not_mem_nil, or_false] at hu
    rcases hu with rfl | rfl | rfl <;> rfl
  lt h hf := h.row.lt hf
  keep h hk := ⟨h.row.keep hk, h.len⟩

theorem cellsOp19 : Try.prog.cellsOf 32 = 3 := by kernel_rfl
theorem cellsInts19 : Try.prog.cellsOf 30 = 1 := by kernel_rfl
theorem fieldsOp19 : (Try.prog.underlying 32).map (fun d => match d with | .struct fs => fs.toList.map (·.type) | _ => []) = some [3, 9, 30] := by kernel_rfl

/-- What an act weighs: its own row is no greater than a machine has. -/
def OpQ {H : Type} (d : DataW H) (x : OpF) : Prop := (∀ n ∈ d.weights Try.prog 32, n ≤ reachBytes) → x.fr.length * 8 ≤ 140737488351232

theorem RowD.ints {H : Type} {d : DataW H} {l : List Int} (hs : RowD Any19 d l) (h : ∀ n ∈ d.weights Try.prog 30, n ≤ reachBytes) : l.length * 8 ≤ 140737488351232 := by
  rcases hs with ⟨rfl, rfl⟩ | ⟨es, rest, rfl, hl, _⟩
  · simp
  · have := h ((es.length + rest.length) * Try.prog.bytesOf 3) (by simp [DataW.weights, Try.underlying30])
    rw [bytesInt19] at this
    simp [reachBytes] at this
    omega

set_option maxRecDepth 100000 in
theorem open_op19_cells {H : Type} {enc : TypeId × Value → H} {W : World} {fuel : Nat} {cs : List Value} {y : DataW H × List MemPlace}
    (hf : DataW.trod enc Try.prog W 0 (fun _ => true) true fuel 32 cs = some y) : ∃ x : OpF, cs = opF.c x ∧ opF.At W x ∧ OpQ y.1 x := by
  obtain ⟨xs, n, _, hx, hcl, hl, hg⟩ := DataW.trod_struct Try.underlying32 hf
  obtain ⟨c0, c1, c2, rfl⟩ := list3f (hcl.trans cellsOp19)
  obtain ⟨y0, y1, y2, rfl⟩ := list3f hl
  have g0 := hg 0 _ rfl
  have g1 := hg 1 _ rfl
  have g2 := hg 2 _ rfl
  simp [cellsInt19, cellsStr19, cellsInts19] at g0 g1 g2
  obtain ⟨a0, e0, _, _⟩ := DataW.trod_int Try.underlying3 g0
  obtain ⟨a1, e1, _, s1⟩ := DataW.trod_string Try.underlying9 g1
  have e2 : ∃ a len cap, c2 = .slice a len cap := by
    rcases open_slice Try.underlying30 g2 with ⟨hcs, _⟩ | ⟨x, l, c, m, n, D, Pl, hcs, _⟩
    · exact ⟨none, 0, 0, by simpa using hcs⟩
    · exact ⟨some x, _, _, by simpa using hcs⟩
  obtain ⟨a2, len2, cap2, rfl⟩ := e2
  obtain ⟨l2, hl2, hr2, hn2, hm2, hd2⟩ := open_row intwK Any19 Try.underlying30 cellsInt19 open_int19c g2
  simp at e0 e1
  subst e0 e1 hl2
  refine ⟨⟨a0, a1, l2, a2, cap2⟩, rfl, ⟨hr2.ints, hm2⟩, fun hw => ?_⟩
  refine hd2.ints (fun k hk => hw k ?_)
  rw [hx]
  show k ∈ DataW.weights Try.prog 32 (.agg [y0.1, y1.1, y2.1])
  have e : DataW.weights Try.prog 32 (.agg [y0.1, y1.1, y2.1]) = DataW.weightsEach Try.prog [3, 9, 30] [y0.1, y1.1, y2.1] := by
    simp only [DataW.weights, Try.underlying32]
    rfl
  rw [e]
  exact DataW.weights_mem_each (j := 2) rfl rfl k hk

theorem open_ops19 {H : Type} {enc : TypeId × Value → H} {W : World} {a : Option Addr} {len cap : Nat} {d : DataW H} {p : List MemPlace}
    (h : DataW.Trod enc Try.prog W 0 (fun _ => true) true 22 (.slice a len cap) d p) :
    ∃ l : List OpF, l.length = len ∧ RowAt opF W a l ∧ len ≤ maxLen ∧ RowD OpQ d l := by
  obtain ⟨fuel, hf⟩ := h
  obtain ⟨l, h1, h2, _, h4, h5⟩ := open_row opF OpQ Try.underlying22 cellsOp19 open_op19_cells hf
  exact ⟨l, h1, h2, h4, h5⟩

theorem weights_mem_all {H : Type} {P : Program} {e : TypeId} : ∀ {ds : List (DataW H)} {d : DataW H}, d ∈ ds → ∀ n ∈ d.weights P e, n ∈ DataW.weightsAll P e ds
  | [], _, h, _, _ => by cases h
  | d0 :: ds, d, h, n, hn => by
    simp only [DataW.weightsAll, List.mem_append]
    rcases List.mem_cons.1 h with rfl | h
    · exact Or.inl hn
    · exact Or.inr (weights_mem_all h n hn)

theorem ops19_sized {H : Type} {ts : List TypeId} {ds : List (DataW H)} (h : (DataW.weightsEach Try.prog ts ds).all (· ≤ reachBytes) = true) {j : Nat} {d : DataW H} {l : List OpF} (ht : ts[j]? = some 22) (hd : ds[j]? = some d) (hs : RowD OpQ d l) :
    ∀ x ∈ l, x.fr.length * 8 ≤ 140737488351232 := by
  intro x hx
  rcases hs with ⟨rfl, rfl⟩ | ⟨es, rest, rfl, hl, ha⟩
  · cases hx
  · obtain ⟨i, hi⟩ := List.getElem?_of_mem hx
    have hil := (List.getElem?_eq_some_iff.1 hi).1
    refine ha i _ x (List.getElem?_eq_getElem (by omega)) hi (fun n hn => ?_)
    have h1 : n ∈ DataW.weights Try.prog 22 (.slice es rest) := by
      simp only [DataW.weights, Try.underlying22]
      exact List.mem_cons_of_mem _ (List.mem_append.2 (Or.inl (weights_mem_all (List.getElem_mem _) n hn)))
    have := List.all_eq_true.1 h _ (DataW.weights_mem_each ht hd n h1)
    simpa using this

theorem RowAt.op19 {w : World} {ao : Option Addr} {l : List OpF} (h : RowAt opF w ao l) {i : Nat} {x : OpF} (hx : l[i]? = some x) :
    ∃ g off, ao = some ⟨g, off, none⟩ ∧ g < w.heap.size ∧ w.cell? ⟨g, off + i * 3, none⟩ = some (.int .i64 x.kind) ∧ w.cell? ⟨g, off + i * 3 + 1, none⟩ = some (.string x.id) ∧ w.cell? ⟨g, off + i * 3 + 2, none⟩ = some (.slice x.fa x.fr.length x.fc) ∧ x.At w := by
  obtain ⟨g, off, h1, h2, h3⟩ := h.cell i x hx
  exact ⟨g, off, h1, h2, h3 0 _ rfl, h3 1 _ rfl, h3 2 _ rfl, h.at_ x (List.mem_of_getElem? hx)⟩
end Go.Proofs.Ytblpkfnhfdkacaa
