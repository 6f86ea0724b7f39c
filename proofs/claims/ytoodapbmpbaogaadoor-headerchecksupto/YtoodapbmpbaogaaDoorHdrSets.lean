/- A Ref in a new cell; four cells of a block that are written one behind the other. -/
import Derived.Test.YtoodapbmpbaogaaDoorHdrRows
namespace Go.Proofs.YtoodapbmpbaogaaDoor
open Go.RowKit
set_option linter.unusedVariables false

theorem rd_append (l m : List RefM) : rd (l ++ m) = rd l ++ rd m := by simp [rd]

theorem new_ref (w : World) (x : RefM) : ∀ j u, (refK.c x)[j]? = some u → (w.alloc (.cells #[.string x.digest, .slice x.ao x.acks.length x.cap] 106)).cell? ((⟨w.heap.size, 0, none⟩ : Addr).add j) = some u := by
  intro j u hu
  rw [Go.WideShapes.add_plain, Nat.zero_add]
  exact (Arr.new w 106 [.string x.digest, .slice x.ao x.acks.length x.cap]).cell hu

/-- Four cells are written anew. -/
def set4 (w : World) (g : Nat) (v0 v1 v2 v3 : Value) : World := (((w.setCell ⟨g, 0, none⟩ v0).setCell ⟨g, 1, none⟩ v1).setCell ⟨g, 2, none⟩ v2).setCell ⟨g, 3, none⟩ v3

theorem Arr.set4 {w : World} {g : Nat} {t : TypeId} {a0 a1 a2 a3 : Value} (h : Arr w g t [a0, a1, a2, a3]) (v0 v1 v2 v3 : Value) : Arr (Proofs.YtoodapbmpbaogaaDoor.set4 w g v0 v1 v2 v3) g t [v0, v1, v2, v3] := (((h.set 0 v0).set 1 v1).set 2 v2).set 3 v3

theorem below_set4 {B : Nat} {w w' : World} (h : Below B w w') {g : Nat} (hg : B ≤ g) (v0 v1 v2 v3 : Value) : Below B w (set4 w' g v0 v1 v2 v3) :=
  (((h.setCell (p := ⟨g, 0, none⟩) hg v0).setCell (p := ⟨g, 1, none⟩) hg v1).setCell (p := ⟨g, 2, none⟩) hg v2).setCell (p := ⟨g, 3, none⟩) hg v3

theorem kept_set4 (w : World) (g : Nat) (v0 v1 v2 v3 : Value) : Kept (fun k => k = g) w (set4 w g v0 v1 v2 v3) :=
  ((((Kept.refl (fun k => k = g) w).set (p := ⟨g, 0, none⟩) rfl v0).set (p := ⟨g, 1, none⟩) rfl v1).set (p := ⟨g, 2, none⟩) rfl v2).set (p := ⟨g, 3, none⟩) rfl v3
end Go.Proofs.YtoodapbmpbaogaaDoor
