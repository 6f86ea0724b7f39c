/- What tuskref01.List and tuskref01.GetList do. -/
import Derived.Test.YtolliiodfhdfiaaRefSame
import Derived.Test.YtolliiodfhdfiaaRefText
namespace Go.Proofs.Ytolliiodfhdfiaa
open Go.RowKit
end Go.Proofs.Ytolliiodfhdfiaa
