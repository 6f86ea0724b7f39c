/- Tags, Refs and headers as they lie in memory. -/
import Derived.Test.YthhildeocedpiaaDoorHeaderMath
import Derived.Test.YthhildeocedpiaaDoorKinds
import Derived.Test.YthhildeocedpiaaDoorStrKind
namespace Go.Proofs.YthhildeocedpiaaDoor
open Go.RowKit
set_option linter.unusedVariables false

/-- Tags. -/
def tagK : Kind TagD where
  n := 2
  c t := [.int .i64 t.who, .string t.mac]
  foot _ _ := False
  At _ _ := True
  pos := by decide
  len _ := rfl
  one x u hu := by
    simp only [List.mem_cons, List.not_mem_nil, or_false] at hu
    rcases hu with rfl | rfl <;> rfl
  lt _ h := h.elim
  keep _ _ := trivial

/-- A Ref as it lies in memory. -/
structure RefM where
  digest : ByteArray
  acks : List TagD
  ao : Option Addr
  cap : Nat

def RefM.d (x : RefM) : RefD := ⟨x.digest, x.acks⟩

def refK : Kind RefM where
  n := 2
  c x := [.string x.digest, .slice x.ao x.acks.length x.cap]
  foot x := rowFoot tagK x.ao x.acks
  At w x := RowAt tagK w x.ao x.acks ∧ (x.ao = none → x.cap = 0)
  pos := by decide
  len _ := rfl
  one x u hu := by
    simp only [List.mem_cons, List.not_mem_nil, or_false] at hu
    rcases hu with rfl | rfl <;> rfl
  lt h hf := h.1.lt hf
  keep h hk := ⟨h.1.keep hk, h.2⟩

/-- The data of Refs. -/
def rd (l : List RefM) : List RefD := l.map RefM.d

theorem rd_length (l : List RefM) : (rd l).length = l.length := by simp [rd]

/-- A header as it lies in memory. -/
structure HdrM where
  author : Int
  round : Int
  ra : Option Addr
  refs : List RefM
  rc : Nat
  pa : Option Addr
  parents : List ByteArray
  pc : Nat

def HdrM.d (h : HdrM) : HdrD := ⟨h.author, h.round, rd h.refs, h.parents⟩
def HdrM.c (h : HdrM) : List Value := [.int .i64 h.author, .int .i64 h.round, .slice h.ra h.refs.length h.rc, .slice h.pa h.parents.length h.pc]
def HdrM.v (h : HdrM) : Value := .agg #[.int .i64 h.author, .int .i64 h.round, .slice h.ra h.refs.length h.rc, .slice h.pa h.parents.length h.pc]

/-- Its lists lie in memory, and nil is nil. -/
structure HdrM.At (w : World) (h : HdrM) : Prop where
  refs : RowAt refK w h.ra h.refs
  nr : h.ra = none → h.rc = 0
  ps : RowAt strK w h.pa h.parents
  np : h.pa = none → h.pc = 0

def HdrM.foot (h : HdrM) (b : Nat) : Prop := rowFoot refK h.ra h.refs b ∨ rowFoot strK h.pa h.parents b

def hdrK : Kind HdrM where
  n := 4
  c := HdrM.c
  foot := HdrM.foot
  At := HdrM.At
  pos := by decide
  len _ := rfl
  one x u hu := by
    simp only [HdrM.c, List.mem_cons, List.not_mem_nil, or_false] at hu
    rcases hu with rfl | rfl | rfl | rfl <;> rfl
  lt h hf := hf.elim h.refs.lt h.ps.lt
  keep h hk := ⟨h.refs.keep (fun b hb => hk b (Or.inl hb)), h.nr, h.ps.keep (fun b hb => hk b (Or.inr hb)), h.np⟩

theorem HdrM.At.below {w w' : World} {h : HdrM} (ha : h.At w) (hb : Below w.heap.size w w') : h.At w' := Kind.below hdrK ha hb

/-- The two cells of a tag in a row. -/
theorem RowAt.tag {w : World} {ao : Option Addr} {l : List TagD} (h : RowAt tagK w ao l) {i : Nat} {t : TagD} (ht : l[i]? = some t) :
    ∃ b off, ao = some ⟨b, off, none⟩ ∧ b < w.heap.size ∧ w.cell? ⟨b, off + i * 2, none⟩ = some (.int .i64 t.who) ∧ w.cell? ⟨b, off + i * 2 + 1, none⟩ = some (.string t.mac) := by
  obtain ⟨b, off, h1, h2, h3⟩ := h.cell i t ht
  exact ⟨b, off, h1, h2, h3 0 _ rfl, h3 1 _ rfl⟩

/-- The two cells of a Ref in a row. -/
theorem RowAt.ref {w : World} {ao : Option Addr} {l : List RefM} (h : RowAt refK w ao l) {i : Nat} {x : RefM} (hx : l[i]? = some x) :
    ∃ b off, ao = some ⟨b, off, none⟩ ∧ b < w.heap.size ∧ w.cell? ⟨b, off + i * 2, none⟩ = some (.string x.digest) ∧ w.cell? ⟨b, off + i * 2 + 1, none⟩ = some (.slice x.ao x.acks.length x.cap) := by
  obtain ⟨b, off, h1, h2, h3⟩ := h.cell i x hx
  exact ⟨b, off, h1, h2, h3 0 _ rfl, h3 1 _ rfl⟩

theorem infoTag6 : (Tryd.prog.info? 123).map (fun i => (i.zero, i.size, i.bytes)) = some (some (.agg #[.int .i64 0, .string ⟨#[]⟩]), 2, 24) := by kernel_rfl

theorem infoRef6 : (Tryd.prog.info? 74).map (fun i => (i.zero, i.size, i.bytes)) = some (some (.agg #[.string ⟨#[]⟩, .slice none 0 0]), 2, 40) := by kernel_rfl

theorem infoHdr6 : (Tryd.prog.info? 25).map (·.size) = some 4 := by kernel_rfl
end Go.Proofs.YthhildeocedpiaaDoor
