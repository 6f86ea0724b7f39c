/- Layer 6's mathematics: tags' bytes and a header's, both ways round; when a header is right. -/
import Derived.Test.YtbikabjogacfkaaDoorSlimBase
namespace Go.Proofs.YtbikabjogacfkaaDoor
open Go.RowKit
set_option linter.unusedVariables false

/-- A tag. -/
structure TagD where
  who : Int
  mac : ByteArray
end Go.Proofs.YtbikabjogacfkaaDoor
