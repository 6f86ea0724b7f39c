/- Texts as one: ExeDuoRef. -/
import Derived.Test.YtajpfkenhchafaaGreatDoorEz15
import Derived.Test.YtajpfkenhchafaaGreatDoorEz26
/- The document's executor and state, side by side with others. -/
namespace Go.Proofs.YtajpfkenhchafaaGreatDoor
open Go Go.RowKit
set_option linter.unusedVariables false

theorem lies_RX : Lies RX := ⟨fun h => h.kept, fun h => h.lt⟩

def RSX : LieK := fun w x S s N _ _ => RS w x S s N

theorem lies_RSX : Lies RSX := ⟨fun h hk hd => RS.kept h hk hd, fun h => RS.lt h⟩
end Go.Proofs.YtajpfkenhchafaaGreatDoor
