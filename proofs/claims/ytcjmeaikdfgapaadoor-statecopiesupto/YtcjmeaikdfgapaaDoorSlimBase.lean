/- What the base texts import where package wire is not there. -/
import Derived.Test.YtcjmeaikdfgapaaDoorRows
import Derived.WalkKit
import Derived.WalkSpells
import Derived.WalkLawsBesides
import Derived.ScopeJumps
import Derived.WalkMore
import Derived.RegionTactic
import Derived.Deep.QuietTactic
import Derived.BigQuiet
import Derived.Laws.AppendOwnNone
namespace Go.Proofs.YtcjmeaikdfgapaaDoor
open Go.RowKit
end Go.Proofs.YtcjmeaikdfgapaaDoor
