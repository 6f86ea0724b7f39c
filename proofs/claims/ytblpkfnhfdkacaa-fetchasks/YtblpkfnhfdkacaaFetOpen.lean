/- How rows of texts, of truths and of numbers that came in are opened. -/
import Derived.Test.YtblpkfnhfdkacaaKindsOpen
import Derived.Test.YtblpkfnhfdkacaaRowsMore
import Derived.Test.YtblpkfnhfdkacaaInts
namespace Go.Proofs.Ytblpkfnhfdkacaa
open Go Go.ChangeShapes Go.WideShapes Go.ChangeAt Go.RowKit Go.Joins Go.Deep
set_option linter.unusedVariables false

/-- Truths. -/
def boolK : Kind Bool where
  n := 1
  c v := [.bool v]
  foot _ _ := False
  At _ _ := True
  pos := by decide
  len _ := rfl
  one x u hu := by
    simp only [List.mem_cons, List.not_mem_nil, or_false] at hu
    rcases hu with rfl; rfl
  lt _ h := h.elim
  keep _ _ := trivial

theorem RowAt.bool {w : World} {ao : Option Addr} {l : List Bool} (h : RowAt boolK w ao l) {i : Nat} {v : Bool} (hv : l[i]? = some v) :
    ∃ b off, ao = some ⟨b, off, none⟩ ∧ b < w.heap.size ∧ w.cell? ⟨b, off + i, none⟩ = some (.bool v) := by
  obtain ⟨b, off, h1, h2, h3⟩ := h.cell i v hv
  refine ⟨b, off, h1, h2, ?_⟩
  have := h3 0 _ rfl
  have e : off + i * boolK.n + 0 = off + i := by show off + i * 1 + 0 = _; omega
  rw [e] at this
  exact this

theorem RowAt.text19 {w : World} {ao : Option Addr} {l : List ByteArray} (h : RowAt textK w ao l) {i : Nat} {v : ByteArray} (hv : l[i]? = some v) :
    ∃ b off, ao = some ⟨b, off, none⟩ ∧ b < w.heap.size ∧ w.cell? ⟨b, off + i, none⟩ = some (.string v) := by
  obtain ⟨b, off, h1, h2, h3⟩ := h.cell i v hv
  refine ⟨b, off, h1, h2, ?_⟩
  have := h3 0 _ rfl
  have e : off + i * textK.n + 0 = off + i := by show off + i * 1 + 0 = _; omega
  rw [e] at this
  exact this

/-- Numbers that a machine has. -/
def intwK : Kind Int where
  n := 1
  c v := [.int .i64 v]
  foot _ _ := False
  At _ v := (Lit.int .i64 v).wf = true
  pos := by decide
  len _ := rfl
  one x u hu := by
    simp only [List.mem_cons, List.not_mem_nil, or_false] at hu
    rcases hu with rfl; rfl
  lt _ h := h.elim
  keep h _ := h

theorem RowAt.ints {w : World} {ao : Option Addr} {l : List Int} (h : RowAt intwK w ao l) : RowAt intK w ao l :=
  ⟨fun i x hx => h.cell i x hx, fun _ _ => trivial⟩

def Any19 {H α : Type} (d : DataW H) (x : α) : Prop := True

theorem cellsInt19 : Try.prog.cellsOf 3 = 1 := by kernel_rfl
theorem cellsStr19 : Try.prog.cellsOf 9 = 1 := by kernel_rfl
theorem cellsBool19 : Try.prog.cellsOf 4 = 1 := by kernel_rfl

theorem open_str19c {H : Type} {enc : TypeId × Value → H} {W : World} {fuel : Nat} {cs : List Value} {y : DataW H × List MemPlace}
    (hf : DataW.trod enc Try.prog W 0 (fun _ => true) true fuel 9 cs = some y) : ∃ x : ByteArray, cs = textK.c x ∧ textK.At W x ∧ Any19 y.1 x := by
  obtain ⟨a, e, hy, s⟩ := DataW.trod_string Try.underlying9 hf
  exact ⟨a, e, trivial, trivial⟩

theorem open_bool19c {H : Type} {enc : TypeId × Value → H} {W : World} {fuel : Nat} {cs : List Value} {y : DataW H × List MemPlace}
    (hf : DataW.trod enc Try.prog W 0 (fun _ => true) true fuel 4 cs = some y) : ∃ x : Bool, cs = boolK.c x ∧ boolK.At W x ∧ Any19 y.1 x := by
  obtain ⟨a, e, _⟩ := DataW.trod_bool Try.underlying4 hf
  exact ⟨a, e, trivial, trivial⟩

theorem open_int19c {H : Type} {enc : TypeId × Value → H} {W : World} {fuel : Nat} {cs : List Value} {y : DataW H × List MemPlace}
    (hf : DataW.trod enc Try.prog W 0 (fun _ => true) true fuel 3 cs = some y) : ∃ x : Int, cs = intwK.c x ∧ intwK.At W x ∧ Any19 y.1 x := by
  obtain ⟨a, e, h1, h2⟩ := DataW.trod_int Try.underlying3 hf
  exact ⟨a, e, h2, trivial⟩

theorem open_texts19 {H : Type} {enc : TypeId × Value → H} {W : World} {a : Option Addr} {len cap : Nat} {d : DataW H} {p : List MemPlace}
    (h : DataW.Trod enc Try.prog W 0 (fun _ => true) true 43 (.slice a len cap) d p) :
    ∃ l : List ByteArray, l.length = len ∧ RowAt textK W a l ∧ len ≤ maxLen := by
  obtain ⟨fuel, hf⟩ := h
  obtain ⟨l, h1, h2, _, h4, _⟩ := open_row textK Any19 Try.underlying43 cellsStr19 open_str19c hf
  exact ⟨l, h1, h2, h4⟩

theorem open_bools19 {H : Type} {enc : TypeId × Value → H} {W : World} {a : Option Addr} {len cap : Nat} {d : DataW H} {p : List MemPlace}
    (h : DataW.Trod enc Try.prog W 0 (fun _ => true) true 50 (.slice a len cap) d p) :
    ∃ l : List Bool, l.length = len ∧ RowAt boolK W a l ∧ len ≤ maxLen := by
  obtain ⟨fuel, hf⟩ := h
  obtain ⟨l, h1, h2, _, h4, _⟩ := open_row boolK Any19 Try.underlying50 cellsBool19 open_bool19c hf
  exact ⟨l, h1, h2, h4⟩

theorem open_ints19 {H : Type} {enc : TypeId × Value → H} {W : World} {a : Option Addr} {len cap : Nat} {d : DataW H} {p : List MemPlace}
    (h : DataW.Trod enc Try.prog W 0 (fun _ => true) true 30 (.slice a len cap) d p) :
    ∃ l : List Int, l.length = len ∧ RowAt intwK W a l ∧ len ≤ maxLen ∧ RowD Any19 d l := by
  obtain ⟨fuel, hf⟩ := h
  obtain ⟨l, h1, h2, _, h4, h5⟩ := open_row intwK Any19 Try.underlying30 cellsInt19 open_int19c hf
  exact ⟨l, h1, h2, h4, h5⟩

theorem bytesInt19 : Try.prog.bytesOf 3 = 8 := by kernel_rfl

theorem ints19_sized {H : Type} {ts : List TypeId} {ds : List (DataW H)} (h : (DataW.weightsEach Try.prog ts ds).all (· ≤ reachBytes) = true) {j : Nat} {d : DataW H} {l : List Int} (ht : ts[j]? = some 30) (hd : ds[j]? = some d) (hs : RowD Any19 d l) :
    l.length * 8 ≤ 140737488351232 := by
  rcases hs with ⟨rfl, rfl⟩ | ⟨es, rest, rfl, hl, _⟩
  · simp
  · have := sized_slice h ht hd Try.underlying30
    rw [bytesInt19] at this
    simp [reachBytes] at this
    omega
end Go.Proofs.Ytblpkfnhfdkacaa
