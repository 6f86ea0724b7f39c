/- Behind an error nothing more is read. -/
import Derived.Test.YtoodapbmpbaogaaDoorReadBase
import Derived.Test.YtoodapbmpbaogaaDoorQueue
namespace Go.Proofs.YtoodapbmpbaogaaDoor
open Go.RowKit
set_option linter.unusedVariables false

/-- Behind an error nothing more is read. -/
def runX {α : Type} (E : Nat) (r : Except Nat α) : Except Nat α := if E ≠ 0 then .error E else r

theorem runX_zero {α : Type} (r : Except Nat α) : runX 0 r = r := rfl
theorem runX_err {α : Type} {E : Nat} (h : E ≠ 0) (r : Except Nat α) : runX E r = .error E := if_pos h

end Go.Proofs.YtoodapbmpbaogaaDoor
