/- Cells of a block that are written one behind the other. -/
import Derived.Test.YthhildeocedpiaaDoorTxArr
import Derived.Test.YthhildeocedpiaaDoorQueue
namespace Go.Proofs.YthhildeocedpiaaDoor
open Go.RowKit
set_option linter.unusedVariables false

/-- Three cells of a block are written. -/
def set3 (w : World) (g : Nat) (v0 v1 v2 : Value) : World := ((w.setCell ⟨g, 0, none⟩ v0).setCell ⟨g, 1, none⟩ v1).setCell ⟨g, 2, none⟩ v2

theorem Arr.set3 {w : World} {g : Nat} {t : TypeId} {a0 a1 a2 : Value} (h : Arr w g t [a0, a1, a2]) (v0 v1 v2 : Value) : Arr (Proofs.YthhildeocedpiaaDoor.set3 w g v0 v1 v2) g t [v0, v1, v2] := ((h.set 0 v0).set 1 v1).set 2 v2

theorem below_set3 {B : Nat} {w w' : World} (h : Below B w w') {g : Nat} (hg : B ≤ g) (v0 v1 v2 : Value) : Below B w (set3 w' g v0 v1 v2) :=
  ((h.setCell (p := ⟨g, 0, none⟩) hg v0).setCell (p := ⟨g, 1, none⟩) hg v1).setCell (p := ⟨g, 2, none⟩) hg v2

theorem kept_set3 (w : World) (g : Nat) (v0 v1 v2 : Value) : Kept (fun k => k = g) w (set3 w g v0 v1 v2) :=
  (((Kept.refl (fun k => k = g) w).set (p := ⟨g, 0, none⟩) rfl v0).set (p := ⟨g, 1, none⟩) rfl v1).set (p := ⟨g, 2, none⟩) rfl v2

/-- Five cells of a block are written. -/
def set5 (w : World) (g : Nat) (v0 v1 v2 v3 v4 : Value) : World := ((((w.setCell ⟨g, 0, none⟩ v0).setCell ⟨g, 1, none⟩ v1).setCell ⟨g, 2, none⟩ v2).setCell ⟨g, 3, none⟩ v3).setCell ⟨g, 4, none⟩ v4

theorem Arr.set5 {w : World} {g : Nat} {t : TypeId} {a0 a1 a2 a3 a4 : Value} (h : Arr w g t [a0, a1, a2, a3, a4]) (v0 v1 v2 v3 v4 : Value) : Arr (Proofs.YthhildeocedpiaaDoor.set5 w g v0 v1 v2 v3 v4) g t [v0, v1, v2, v3, v4] := ((((h.set 0 v0).set 1 v1).set 2 v2).set 3 v3).set 4 v4

theorem below_set5 {B : Nat} {w w' : World} (h : Below B w w') {g : Nat} (hg : B ≤ g) (v0 v1 v2 v3 v4 : Value) : Below B w (set5 w' g v0 v1 v2 v3 v4) :=
  ((((h.setCell (p := ⟨g, 0, none⟩) hg v0).setCell (p := ⟨g, 1, none⟩) hg v1).setCell (p := ⟨g, 2, none⟩) hg v2).setCell (p := ⟨g, 3, none⟩) hg v3).setCell (p := ⟨g, 4, none⟩) hg v4

theorem kept_set5 (w : World) (g : Nat) (v0 v1 v2 v3 v4 : Value) : Kept (fun k => k = g) w (set5 w g v0 v1 v2 v3 v4) :=
  (((((Kept.refl (fun k => k = g) w).set (p := ⟨g, 0, none⟩) rfl v0).set (p := ⟨g, 1, none⟩) rfl v1).set (p := ⟨g, 2, none⟩) rfl v2).set (p := ⟨g, 3, none⟩) rfl v3).set (p := ⟨g, 4, none⟩) rfl v4
end Go.Proofs.YthhildeocedpiaaDoor
