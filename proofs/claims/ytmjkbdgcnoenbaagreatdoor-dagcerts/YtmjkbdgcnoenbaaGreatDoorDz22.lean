/- Texts as one: CertIds. -/
import Derived.Test.YtmjkbdgcnoenbaaGreatDoorDz08
import Derived.Test.YtmjkbdgcnoenbaaGreatDoorDz16
/- The ids of the first round's headers, with a Ref and without, differ. -/
namespace Go.Proofs.YtmjkbdgcnoenbaaGreatDoor
open Go Go.RowKit
set_option linter.unusedVariables false

/-- The headers that acts make as long as nothing is in: an author's without a Ref, then with one. -/
def hdrs0 (n : Nat) : List HdrD := (List.range (3 * n + 1)).flatMap (fun a => [hdrP (ksF n) (2 * n + 1) [] a 0 0 false, hdrP (ksF n) (2 * n + 1) [] a 0 0 true])

def ids0 (n : Nat) : List ByteArray := (hdrs0 n).map idB

set_option maxRecDepth 1000000 in
theorem ids0_1 : ((ids0 1).map (fun x => x.data.toList)).Nodup := by decide +kernel
end Go.Proofs.YtmjkbdgcnoenbaaGreatDoor
