/- Quorums' certificates and blocks as they lie in memory. -/
import Derived.Test.YthhildeocedpiaaDoorHdrRows
import Derived.Test.YthhildeocedpiaaDoorCertMath
import Derived.Test.YthhildeocedpiaaDoorSets
namespace Go.Proofs.YthhildeocedpiaaDoor
open Go.RowKit
set_option linter.unusedVariables false

/-- A quorum's certificate as it lies in memory. -/
structure QcM where
  view : Int
  block : ByteArray
  va : Option Addr
  votes : List TagD
  vc : Nat

def QcM.d (x : QcM) : QcD := ⟨x.view, x.block, x.votes⟩
def QcM.c (x : QcM) : List Value := [.int .i64 x.view, .string x.block, .slice x.va x.votes.length x.vc]
def QcM.v (x : QcM) : Value := .agg #[.int .i64 x.view, .string x.block, .slice x.va x.votes.length x.vc]

/-- Its votes lie in memory, and nil is nil. -/
structure QcM.At (w : World) (x : QcM) : Prop where
  votes : RowAt tagK w x.va x.votes
  nv : x.va = none → x.vc = 0

def QcM.foot (x : QcM) (b : Nat) : Prop := rowFoot tagK x.va x.votes b

def qcK : Kind QcM where
  n := 3
  c := QcM.c
  foot := QcM.foot
  At := QcM.At
  pos := by decide
  len _ := rfl
  one x u hu := by
    simp only [QcM.c, List.mem_cons, List.not_mem_nil, or_false] at hu
    rcases hu with rfl | rfl | rfl <;> rfl
  lt h hf := h.votes.lt hf
  keep h hk := ⟨h.votes.keep hk, h.nv⟩

theorem QcM.At.below {w w' : World} {x : QcM} (ha : x.At w) (hb : Below w.heap.size w w') : x.At w' := Kind.below qcK ha hb

/-- No quorum's certificate. -/
def qc0 : QcM := ⟨0, ⟨#[]⟩, none, [], 0⟩

theorem qc0_at (w : World) : qc0.At w := ⟨nil_row _ _, fun _ => rfl⟩

theorem infoQc8 : (Tryd.prog.info? 37).map (·.size) = some 3 := by kernel_rfl

/-- A block as it lies in memory. -/
structure BlkM where
  view : Int
  qc : QcM
  ca : Option Addr
  certs : List ByteArray
  cc : Nat

def BlkM.d (x : BlkM) : BlkD := ⟨x.view, x.qc.d, x.certs⟩
def BlkM.c (x : BlkM) : List Value := [.int .i64 x.view, .int .i64 x.qc.view, .string x.qc.block, .slice x.qc.va x.qc.votes.length x.qc.vc, .slice x.ca x.certs.length x.cc]
def BlkM.v (x : BlkM) : Value := .agg #[.int .i64 x.view, .int .i64 x.qc.view, .string x.qc.block, .slice x.qc.va x.qc.votes.length x.qc.vc, .slice x.ca x.certs.length x.cc]

/-- Its lists lie in memory, and nil is nil. -/
structure BlkM.At (w : World) (x : BlkM) : Prop where
  qc : x.qc.At w
  certs : RowAt strK w x.ca x.certs
  nc : x.ca = none → x.cc = 0

def BlkM.foot (x : BlkM) (b : Nat) : Prop := x.qc.foot b ∨ rowFoot strK x.ca x.certs b

def blkK : Kind BlkM where
  n := 5
  c := BlkM.c
  foot := BlkM.foot
  At := BlkM.At
  pos := by decide
  len _ := rfl
  one x u hu := by
    simp only [BlkM.c, List.mem_cons, List.not_mem_nil, or_false] at hu
    rcases hu with rfl | rfl | rfl | rfl | rfl <;> rfl
  lt h hf := hf.elim (fun q => Kind.lt qcK h.qc q) h.certs.lt
  keep h hk := ⟨Kind.keep qcK h.qc (fun b hb => hk b (Or.inl hb)), h.certs.keep (fun b hb => hk b (Or.inr hb)), h.nc⟩

theorem BlkM.At.below {w w' : World} {x : BlkM} (ha : x.At w) (hb : Below w.heap.size w w') : x.At w' := Kind.below blkK ha hb

/-- No block. -/
def blk0 : BlkM := ⟨0, qc0, none, [], 0⟩

theorem blk0_at (w : World) : blk0.At w := ⟨qc0_at w, nil_row _ _, fun _ => rfl⟩

theorem infoBlk8 : (Tryd.prog.info? 39).map (·.size) = some 5 := by kernel_rfl
end Go.Proofs.YthhildeocedpiaaDoor
