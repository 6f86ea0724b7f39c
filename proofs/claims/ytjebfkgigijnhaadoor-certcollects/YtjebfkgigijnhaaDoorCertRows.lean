/- Certificates as they lie in memory. -/
import Derived.Test.YtjebfkgigijnhaaDoorHdrRows
import Derived.Test.YtjebfkgigijnhaaDoorCertMath
namespace Go.Proofs.YtjebfkgigijnhaaDoor
open Go.RowKit
set_option linter.unusedVariables false

/-- A certificate as it lies in memory. -/
structure CertM where
  hdr : HdrM
  va : Option Addr
  votes : List TagD
  vc : Nat

def CertM.d (x : CertM) : CertD := ⟨x.hdr.d, x.votes⟩
def CertM.c (x : CertM) : List Value := [.int .i64 x.hdr.author, .int .i64 x.hdr.round, .slice x.hdr.ra x.hdr.refs.length x.hdr.rc, .slice x.hdr.pa x.hdr.parents.length x.hdr.pc, .slice x.va x.votes.length x.vc]
def CertM.v (x : CertM) : Value := .agg #[.int .i64 x.hdr.author, .int .i64 x.hdr.round, .slice x.hdr.ra x.hdr.refs.length x.hdr.rc, .slice x.hdr.pa x.hdr.parents.length x.hdr.pc, .slice x.va x.votes.length x.vc]

/-- Its lists lie in memory, and nil is nil. -/
structure CertM.At (w : World) (x : CertM) : Prop where
  hdr : x.hdr.At w
  votes : RowAt tagK w x.va x.votes
  nv : x.va = none → x.vc = 0

def CertM.foot (x : CertM) (b : Nat) : Prop := x.hdr.foot b ∨ rowFoot tagK x.va x.votes b

def certK : Kind CertM where
  n := 5
  c := CertM.c
  foot := CertM.foot
  At := CertM.At
  pos := by decide
  len _ := rfl
  one x u hu := by
    simp only [CertM.c, List.mem_cons, List.not_mem_nil, or_false] at hu
    rcases hu with rfl | rfl | rfl | rfl | rfl <;> rfl
  lt h hf := hf.elim (fun q => Kind.lt hdrK h.hdr q) h.votes.lt
  keep h hk := ⟨Kind.keep hdrK h.hdr (fun b hb => hk b (Or.inl hb)), h.votes.keep (fun b hb => hk b (Or.inr hb)), h.nv⟩

theorem CertM.At.below {w w' : World} {x : CertM} (ha : x.At w) (hb : Below w.heap.size w w') : x.At w' := Kind.below certK ha hb

/-- No certificate. -/
def cert0 : CertM := ⟨⟨0, 0, none, [], 0, none, [], 0⟩, none, [], 0⟩

theorem cert0_at (w : World) : cert0.At w := ⟨⟨nil_row _ _, fun _ => rfl, nil_row _ _, fun _ => rfl⟩, nil_row _ _, fun _ => rfl⟩

theorem infoCert7 : (Tryd.prog.info? 28).map (·.size) = some 5 := by kernel_rfl

/-- Five cells of a block are written. -/
def set5 (w : World) (g : Nat) (v0 v1 v2 v3 v4 : Value) : World := ((((w.setCell ⟨g, 0, none⟩ v0).setCell ⟨g, 1, none⟩ v1).setCell ⟨g, 2, none⟩ v2).setCell ⟨g, 3, none⟩ v3).setCell ⟨g, 4, none⟩ v4

theorem Arr.set5 {w : World} {g : Nat} {t : TypeId} {a0 a1 a2 a3 a4 : Value} (h : Arr w g t [a0, a1, a2, a3, a4]) (v0 v1 v2 v3 v4 : Value) : Arr (Proofs.YtjebfkgigijnhaaDoor.set5 w g v0 v1 v2 v3 v4) g t [v0, v1, v2, v3, v4] := ((((h.set 0 v0).set 1 v1).set 2 v2).set 3 v3).set 4 v4

theorem below_set5 {B : Nat} {w w' : World} (h : Below B w w') {g : Nat} (hg : B ≤ g) (v0 v1 v2 v3 v4 : Value) : Below B w (set5 w' g v0 v1 v2 v3 v4) :=
  ((((h.setCell (p := ⟨g, 0, none⟩) hg v0).setCell (p := ⟨g, 1, none⟩) hg v1).setCell (p := ⟨g, 2, none⟩) hg v2).setCell (p := ⟨g, 3, none⟩) hg v3).setCell (p := ⟨g, 4, none⟩) hg v4

theorem kept_set5 (w : World) (g : Nat) (v0 v1 v2 v3 v4 : Value) : Kept (fun k => k = g) w (set5 w g v0 v1 v2 v3 v4) :=
  (((((Kept.refl (fun k => k = g) w).set (p := ⟨g, 0, none⟩) rfl v0).set (p := ⟨g, 1, none⟩) rfl v1).set (p := ⟨g, 2, none⟩) rfl v2).set (p := ⟨g, 3, none⟩) rfl v3).set (p := ⟨g, 4, none⟩) rfl v4
end Go.Proofs.YtjebfkgigijnhaaDoor
