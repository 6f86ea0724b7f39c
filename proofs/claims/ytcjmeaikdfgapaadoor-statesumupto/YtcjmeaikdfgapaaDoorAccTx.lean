/- Transactions as they lie in memory, and rows of them; pairs of numbers; numbers from 0 on. -/
import Derived.Test.YtcjmeaikdfgapaaDoorAccMath
import Derived.Test.YtcjmeaikdfgapaaDoorRowsMore
import Derived.Test.YtcjmeaikdfgapaaDoorWalkRows
namespace Go.Proofs.YtcjmeaikdfgapaaDoor
open Go Go.RowKit
set_option linter.unusedVariables false

/-- A transaction as it lies. -/
structure TxA where
  kind : Int
  frm : ByteArray
  dst : ByteArray
  amt : Int
  non : Int
  key : ByteArray
  val : ByteArray
  rs : List ByteArray
  ws : List ByteArray
  ra : Option Addr
  rc : Nat
  wa : Option Addr
  wc : Nat

instance : Inhabited TxA := ⟨⟨0, ⟨#[]⟩, ⟨#[]⟩, 0, 0, ⟨#[]⟩, ⟨#[]⟩, [], [], none, 0, none, 0⟩⟩

def TxA.rw (x : TxA) : RwD := ⟨x.rs, x.ws⟩

def TxA.c (x : TxA) : List Value := [.int .i64 x.kind, .string x.frm, .string x.dst, .int .u64 x.amt, .int .u64 x.non, .string x.key, .string x.val, .slice x.ra x.rs.length x.rc, .slice x.wa x.ws.length x.wc]

def TxA.v (x : TxA) : Value := .agg #[.int .i64 x.kind, .string x.frm, .string x.dst, .int .u64 x.amt, .int .u64 x.non, .string x.key, .string x.val, .slice x.ra x.rs.length x.rc, .slice x.wa x.ws.length x.wc]

/-- Its lists lie in memory, nil is nil, and its keys are texts that a machine has. -/
structure TxA.At (w : World) (x : TxA) : Prop where
  rd : RowAt textK w x.ra x.rs
  wr : RowAt textK w x.wa x.ws
  nr : x.ra = none → x.rc = 0
  nw : x.wa = none → x.wc = 0
  zr : ∀ s ∈ x.rs, s.size ≤ maxLen
  zw : ∀ s ∈ x.ws, s.size ≤ maxLen

def txA : Kind TxA where
  n := 9
  c := TxA.c
  foot x b := rowFoot textK x.ra x.rs b ∨ rowFoot textK x.wa x.ws b
  At := TxA.At
  pos := by decide
  len _ := rfl
  one x u hu := by
    simp only [TxA.c, List.mem_cons, List.not_mem_nil, or_false] at hu
    rcases hu with rfl | rfl | rfl | rfl | rfl | rfl | rfl | rfl | rfl <;> rfl
  lt h hf := hf.elim h.rd.lt h.wr.lt
  keep h hk := ⟨h.rd.keep (fun b hb => hk b (Or.inl hb)), h.wr.keep (fun b hb => hk b (Or.inr hb)), h.nr, h.nw, h.zr, h.zw⟩

theorem TxA.At.below {w w' : World} {x : TxA} (h : TxA.At w x) (hb : Below w.heap.size w w') : TxA.At w' x := txA.below h hb

/-- The nine cells of one of a row. -/
theorem RowAt.tx {w : World} {ao : Option Addr} {l : List TxA} (h : RowAt txA w ao l) {i : Nat} {x : TxA} (hx : l[i]? = some x) :
    ∃ b off, ao = some ⟨b, off, none⟩ ∧ b < w.heap.size ∧ w.cell? ⟨b, off + i * 9, none⟩ = some (.int .i64 x.kind) ∧ w.cell? ⟨b, off + i * 9 + 1, none⟩ = some (.string x.frm) ∧ w.cell? ⟨b, off + i * 9 + 2, none⟩ = some (.string x.dst) ∧ w.cell? ⟨b, off + i * 9 + 3, none⟩ = some (.int .u64 x.amt) ∧ w.cell? ⟨b, off + i * 9 + 4, none⟩ = some (.int .u64 x.non) ∧
      w.cell? ⟨b, off + i * 9 + 5, none⟩ = some (.string x.key) ∧ w.cell? ⟨b, off + i * 9 + 6, none⟩ = some (.string x.val) ∧ w.cell? ⟨b, off + i * 9 + 7, none⟩ = some (.slice x.ra x.rs.length x.rc) ∧ w.cell? ⟨b, off + i * 9 + 8, none⟩ = some (.slice x.wa x.ws.length x.wc) ∧ TxA.At w x := by
  obtain ⟨b, off, h1, h2, h3⟩ := h.cell i x hx
  exact ⟨b, off, h1, h2, h3 0 _ rfl, h3 1 _ rfl, h3 2 _ rfl, h3 3 _ rfl, h3 4 _ rfl, h3 5 _ rfl, h3 6 _ rfl, h3 7 _ rfl, h3 8 _ rfl, h.at_ x (List.mem_of_getElem? hx)⟩

theorem RowAt.txt {w : World} {ao : Option Addr} {l : List ByteArray} (h : RowAt textK w ao l) {i : Nat} {v : ByteArray} (hv : l[i]? = some v) :
    ∃ b off, ao = some ⟨b, off, none⟩ ∧ b < w.heap.size ∧ w.cell? ⟨b, off + i, none⟩ = some (.string v) := by
  obtain ⟨b, off, h1, h2, h3⟩ := h.cell i v hv
  refine ⟨b, off, h1, h2, ?_⟩
  have := h3 0 _ rfl
  have e : off + i * textK.n + 0 = off + i := by show off + i * 1 + 0 = _; omega
  rw [e] at this
  exact this

/-- Numbers from 0 on. -/
def natK : Kind Nat where
  n := 1
  c v := [.int .i64 (v : Int)]
  foot _ _ := False
  At _ _ := True
  pos := by decide
  len _ := rfl
  one x u hu := by
    simp only [List.mem_cons, List.not_mem_nil, or_false] at hu
    rcases hu with rfl; rfl
  lt _ h := h.elim
  keep _ _ := trivial

theorem RowAt.nat {w : World} {ao : Option Addr} {l : List Nat} (h : RowAt natK w ao l) {i : Nat} {v : Nat} (hv : l[i]? = some v) :
    ∃ b off, ao = some ⟨b, off, none⟩ ∧ b < w.heap.size ∧ w.cell? ⟨b, off + i, none⟩ = some (.int .i64 (v : Int)) := by
  obtain ⟨b, off, h1, h2, h3⟩ := h.cell i v hv
  refine ⟨b, off, h1, h2, ?_⟩
  have := h3 0 _ rfl
  have e : off + i * natK.n + 0 = off + i := by show off + i * 1 + 0 = _; omega
  rw [e] at this
  exact this

/-- Pairs of numbers. -/
def pairK : Kind (Nat × Nat) where
  n := 2
  c v := [.int .i64 (v.1 : Int), .int .i64 (v.2 : Int)]
  foot _ _ := False
  At _ _ := True
  pos := by decide
  len _ := rfl
  one x u hu := by
    simp only [List.mem_cons, List.not_mem_nil, or_false] at hu
    rcases hu with rfl | rfl <;> rfl
  lt _ h := h.elim
  keep _ _ := trivial

theorem RowAt.pair {w : World} {ao : Option Addr} {l : List (Nat × Nat)} (h : RowAt pairK w ao l) {i : Nat} {v : Nat × Nat} (hv : l[i]? = some v) :
    ∃ b off, ao = some ⟨b, off, none⟩ ∧ b < w.heap.size ∧ w.cell? ⟨b, off + i * 2, none⟩ = some (.int .i64 (v.1 : Int)) ∧ w.cell? ⟨b, off + i * 2 + 1, none⟩ = some (.int .i64 (v.2 : Int)) := by
  obtain ⟨b, off, h1, h2, h3⟩ := h.cell i v hv
  exact ⟨b, off, h1, h2, h3 0 _ rfl, h3 1 _ rfl⟩

theorem infoParts {t : TypeId} {k b : Nat} (h : (Tryd.prog.info? t).any (fun i => i.size == k && i.bytes == b && (match i.zero with | some z => z.cells.size == k | none => false)) = true) : ∃ i z, Tryd.prog.info? t = some i ∧ i.zero = some z ∧ i.size = k ∧ i.bytes = b ∧ z.cells.size = k := by
  cases hi : Tryd.prog.info? t with
  | none => rw [hi] at h; cases h
  | some i =>
    rw [hi] at h
    simp only [Option.any_some, Bool.and_eq_true, beq_iff_eq] at h
    cases hz : i.zero with
    | none => rw [hz] at h; simp at h
    | some z =>
      rw [hz] at h
      exact ⟨i, z, rfl, hz, h.1.1, h.1.2, by simpa using h.2⟩

theorem intInfoA : ∃ i z, Tryd.prog.info? 3 = some i ∧ i.zero = some z ∧ i.size = 1 ∧ i.bytes = 8 ∧ z.cells.size = 1 := infoParts (by kernel_rfl)

theorem txInfoA : ∃ i z, Tryd.prog.info? 33 = some i ∧ i.zero = some z ∧ i.size = 9 ∧ i.bytes = 136 ∧ z.cells.size = 9 := infoParts (by kernel_rfl)

/-- A row of nothing that is new. -/
theorem KQ.madeA {α : Type} {K : Kind α} {T : TypeId} (w : World) (B : Nat) (hB : B ≤ w.heap.size) : KQ K T (w.alloc (.cells #[] T)) B (.slice (some ⟨w.heap.size, 0, none⟩) 0 0) [] :=
  ⟨⟨by simp [flatK], Or.inl ⟨_, rfl, rfl⟩⟩, fun x hx => (by cases hx), fun x hx => (by cases hx), fun k hk => by
    simp only [Value.ownBlock, Option.some.injEq] at hk
    rw [alloc_size]
    omega, fun n cap e => by simp at e⟩

/-- What the transactions declare. -/
def rwL (l : List TxA) : List RwD := l.map TxA.rw

theorem rwL_length (l : List TxA) : (rwL l).length = l.length := by simp [rwL]

theorem rwL_get {l : List TxA} {i : Nat} {x : TxA} (h : l[i]? = some x) : (rwL l)[i]? = some x.rw := by
  unfold rwL
  rw [List.getElem?_map, h]
  rfl
end Go.Proofs.YtcjmeaikdfgapaaDoor
