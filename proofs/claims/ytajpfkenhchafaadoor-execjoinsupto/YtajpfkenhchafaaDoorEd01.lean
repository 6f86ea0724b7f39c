/- Texts as one: SlimBase. -/
import Derived.Test.YtajpfkenhchafaaDoorRows
import Derived.WalkKit
import Derived.WalkSpells
import Derived.WalkLawsBesides
import Derived.ScopeJumps
import Derived.WalkMore
import Derived.RegionTactic
import Derived.Deep.QuietTactic
import Derived.BigQuiet
import Derived.Laws.AppendOwnNone
/- What the base texts import where package wire is not there. -/
namespace Go.Proofs.YtajpfkenhchafaaDoor
open Go.RowKit
end Go.Proofs.YtajpfkenhchafaaDoor
