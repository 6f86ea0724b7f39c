/- Texts as one: CertRows. -/
import Derived.Test.YtmjkbdgcnoenbaaGreatDoorDz02
/- Certificates as they lie in memory. -/
namespace Go.Proofs.YtmjkbdgcnoenbaaGreatDoor
open Go.RowKit
set_option linter.unusedVariables false

/-- A certificate as it lies in memory. -/
structure CertM where
  hdr : HdrM
  va : Option Addr
  votes : List TagD
  vc : Nat

def CertM.d (x : CertM) : CertD := ⟨x.hdr.d, x.votes⟩
def CertM.c (x : CertM) : List Value := [.int .i64 x.hdr.author, .int .i64 x.hdr.round, .slice x.hdr.ra x.hdr.refs.length x.hdr.rc, .slice x.hdr.pa x.hdr.parents.length x.hdr.pc, .slice x.va x.votes.length x.vc]
def CertM.v (x : CertM) : Value := .agg #[.int .i64 x.hdr.author, .int .i64 x.hdr.round, .slice x.hdr.ra x.hdr.refs.length x.hdr.rc, .slice x.hdr.pa x.hdr.parents.length x.hdr.pc, .slice x.va x.votes.length x.vc]

/-- Its lists lie in memory, and nil is nil. -/
structure CertM.At (w : World) (x : CertM) : Prop where
  hdr : x.hdr.At w
  votes : RowAt tagK w x.va x.votes
  nv : x.va = none → x.vc = 0

def CertM.foot (x : CertM) (b : Nat) : Prop := x.hdr.foot b ∨ rowFoot tagK x.va x.votes b

def certK : Kind CertM where
  n := 5
  c := CertM.c
  foot := CertM.foot
  At := CertM.At
  pos := by decide
  len _ := rfl
  one x u hu := by
    simp only [CertM.c, List.mem_cons, List.not_mem_nil, or_false] at hu
    rcases hu with rfl | rfl | rfl | rfl | rfl <;> rfl
  lt h hf := hf.elim (fun q => Kind.lt hdrK h.hdr q) h.votes.lt
  keep h hk := ⟨Kind.keep hdrK h.hdr (fun b hb => hk b (Or.inl hb)), h.votes.keep (fun b hb => hk b (Or.inr hb)), h.nv⟩

theorem CertM.At.below {w w' : World} {x : CertM} (ha : x.At w) (hb : Below w.heap.size w w') : x.At w' := Kind.below certK ha hb

/-- No certificate. -/
def cert0 : CertM := ⟨⟨0, 0, none, [], 0, none, [], 0⟩, none, [], 0⟩

theorem cert0_at (w : World) : cert0.At w := ⟨⟨nil_row _ _, fun _ => rfl, nil_row _ _, fun _ => rfl⟩, nil_row _ _, fun _ => rfl⟩

theorem infoCert7 : (Tryz.prog.info? 48).map (·.size) = some 5 := by kernel_rfl
end Go.Proofs.YtmjkbdgcnoenbaaGreatDoor
