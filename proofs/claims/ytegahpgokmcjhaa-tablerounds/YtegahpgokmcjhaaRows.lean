/-
  No cell of these rows narrows 'for every input' (looked for: loops, veiled, ifaces, maps, wideKeys, modest, calm, conditions, laid).
  DERIVED. THE GIVEN ROWS OF THIS SEAT. 3 by the template 'for every input the law returns true; each argument reads behind the call as it read before'; 0 by the template 'total and deterministic' (their statements: YtegahpgokmcjhaaTotals.lean).
  GIVEN WITH THE SEED: the statements are not yours to turn. If you find one false, say at which input.
  Laid BY PROGRAM, IN A SANDBOX (cutbox-rows.mjs): the forced cells as the released guide's own fill.sh prints them over the translation 0fbeae1102fe17d7… (all of the seat's roots in one cut). By AI agents, Wed Nov 11 2026. No macro, syntax, notation, axiom, sorry.
-/
import Derived.Test.YtegahpgokmcjhaaChecked
import GoSem.Claim
import GoSem.ClaimJoined
import GoSem.ClaimMapViews
import Derived.JoinedTies
import Derived.KernelRfl
namespace Go.Proofs.Ytegahpgokmcjhaa
/- THE CELL 'sum', in the pinned program and in every row, IS THE sha256 OF THE DUMP (.gsa) THAT YtegahpgokmcjhaaProg.lean LOADS. Nothing in Lean hashes anything: it is a label: what it is worth is what the hold of that sum in a sandbox is worth. -/
noncomputable def Try.pinned : Pinned := { name := "ytegahpgokmcjhaa", sum := "0fbeae1102fe17d78ebc2ef80e57a92a6f41375dcf3ed2aca63ca896841f2f56", checked := Try.checked }
namespace Rows
def none {H : Type} : Left H := { results := [], args := [] }

/-- 'tusklaw11.TableKeeps': WHATEVER THE INPUT: true; the input reads as it did. -/
def tableKeepsSpec : ChangeSpec := { name := "tableKeeps", fn := fun _ => fun
  | [d1, d2, d3] => { results := [.lit (.bool true)], args := [d1, d2, d3] }
  | _ => none }
def tableKeepsRow : OpenClaim := { program := "ytegahpgokmcjhaa", sum := "0fbeae1102fe17d78ebc2ef80e57a92a6f41375dcf3ed2aca63ca896841f2f56", func := "tusk/tusklaw11.TableKeeps", spec := "tableKeeps", recurses := true, apart := false }
def TableKeepsSaid : Prop := tableKeepsRow.holds Try.pinned (OpenSpec.ofChange tableKeepsSpec)

/-- ITS FALSE NEIGHBOUR: 'it returns false'. Refute it at one input. -/
def tableKeepsWrong : ChangeSpec := { name := "tableKeeps", fn := fun _ => fun
  | [d1, d2, d3] => { results := [.lit (.bool false)], args := [d1, d2, d3] }
  | _ => none }
def TableKeepsWrongFalsely : Prop := tableKeepsRow.holds Try.pinned (OpenSpec.ofChange tableKeepsWrong)

/-- 'tusklaw11.TableBound': WHATEVER THE INPUT: true; the input reads as it did. -/
def tableBoundSpec : ChangeSpec := { name := "tableBound", fn := fun _ => fun
  | [d1, d2] => { results := [.lit (.bool true)], args := [d1, d2] }
  | _ => none }
def tableBoundRow : OpenClaim := { program := "ytegahpgokmcjhaa", sum := "0fbeae1102fe17d78ebc2ef80e57a92a6f41375dcf3ed2aca63ca896841f2f56", func := "tusk/tusklaw11.TableBound", spec := "tableBound", recurses := true, apart := false }
def TableBoundSaid : Prop := tableBoundRow.holds Try.pinned (OpenSpec.ofChange tableBoundSpec)

/-- ITS FALSE NEIGHBOUR: 'it returns false'. Refute it at one input. -/
def tableBoundWrong : ChangeSpec := { name := "tableBound", fn := fun _ => fun
  | [d1, d2] => { results := [.lit (.bool false)], args := [d1, d2] }
  | _ => none }
def TableBoundWrongFalsely : Prop := tableBoundRow.holds Try.pinned (OpenSpec.ofChange tableBoundWrong)

/-- 'tusklaw11.TableRounds': WHATEVER THE INPUT: true; the input reads as it did. -/
def tableRoundsSpec : ChangeSpec := { name := "tableRounds", fn := fun _ => fun
  | [d] => { results := [.lit (.bool true)], args := [d] }
  | _ => none }
def tableRoundsRow : OpenClaim := { program := "ytegahpgokmcjhaa", sum := "0fbeae1102fe17d78ebc2ef80e57a92a6f41375dcf3ed2aca63ca896841f2f56", func := "tusk/tusklaw11.TableRounds", spec := "tableRounds", recurses := true, apart := false }
def TableRoundsSaid : Prop := tableRoundsRow.holds Try.pinned (OpenSpec.ofChange tableRoundsSpec)

/-- ITS FALSE NEIGHBOUR: 'it returns false'. Refute it at one input. -/
def tableRoundsWrong : ChangeSpec := { name := "tableRounds", fn := fun _ => fun
  | [d] => { results := [.lit (.bool false)], args := [d] }
  | _ => none }
def TableRoundsWrongFalsely : Prop := tableRoundsRow.holds Try.pinned (OpenSpec.ofChange tableRoundsWrong)

/- THE SECOND FORM. 'bulk': how many values and letters a reading holds, each counted each time it is reached (what is shared counts as often as it is met; a slice's spare places count too). A statement '..UptoSaid' is the law's where the arguments, and the package variables that the reading takes, are together of bulk at most 1048576: NARROWER than '..Said'. Prove '..Said' where nothing that the law and all that it calls make is longer than what came in: it says more and counts as full. Else prove '..UptoSaid'. A law counts once. -/
mutual
def uptoBulk {H : Type} : DataW H → Nat
  | .lit (.string bytes) => bytes.length + 1
  | .lit _ => 1
  | .nil => 1
  | .ptr d => uptoBulk d + 1
  | .slice elems spare => uptoBulkAll elems + uptoBulkAll spare + 1
  | .agg parts => uptoBulkAll parts + 1
  | .iface _ d => uptoBulk d + 1
  | .map entries => uptoBulkEntries entries + 1
  | .held _ => 1
def uptoBulkAll {H : Type} : List (DataW H) → Nat
  | [] => 0
  | d :: r => uptoBulk d + uptoBulkAll r
def uptoBulkEntries {H : Type} : List (Lit × DataW H) → Nat
  | [] => 0
  | x :: r => uptoBulkEntry x + uptoBulkEntries r
def uptoBulkEntry {H : Type} : Lit × DataW H → Nat
  | (.string bytes, d) => bytes.length + uptoBulk d + 1
  | (_, d) => uptoBulk d + 1
 end
def uptoSmall : (H : Type) → List (DataW H) → Bool := fun _ ds => decide (uptoBulkAll ds ≤ 1048576)
def OpenSpec.upto (s : _root_.Go.ChangeSpec) : _root_.Go.OpenSpec := { _root_.Go.OpenSpec.ofChange s with cond := some uptoSmall }

/-- 'tusklaw11.TableKeeps', WHERE WHAT IT READS IS OF BULK AT MOST 1048576: true; the input reads as it did. -/
def tableKeepsUptoRow : OpenClaim := { program := "ytegahpgokmcjhaa", sum := "0fbeae1102fe17d78ebc2ef80e57a92a6f41375dcf3ed2aca63ca896841f2f56", func := "tusk/tusklaw11.TableKeeps", spec := "tableKeeps", recurses := true, apart := false, narrowed := true }
def TableKeepsUptoSaid : Prop := tableKeepsUptoRow.holds Try.pinned (OpenSpec.upto tableKeepsSpec)

/-- 'tusklaw11.TableBound', WHERE WHAT IT READS IS OF BULK AT MOST 1048576: true; the input reads as it did. -/
def tableBoundUptoRow : OpenClaim := { program := "ytegahpgokmcjhaa", sum := "0fbeae1102fe17d78ebc2ef80e57a92a6f41375dcf3ed2aca63ca896841f2f56", func := "tusk/tusklaw11.TableBound", spec := "tableBound", recurses := true, apart := false, narrowed := true }
def TableBoundUptoSaid : Prop := tableBoundUptoRow.holds Try.pinned (OpenSpec.upto tableBoundSpec)

/-- 'tusklaw11.TableRounds', WHERE WHAT IT READS IS OF BULK AT MOST 1048576: true; the input reads as it did. -/
def tableRoundsUptoRow : OpenClaim := { program := "ytegahpgokmcjhaa", sum := "0fbeae1102fe17d78ebc2ef80e57a92a6f41375dcf3ed2aca63ca896841f2f56", func := "tusk/tusklaw11.TableRounds", spec := "tableRounds", recurses := true, apart := false, narrowed := true }
def TableRoundsUptoSaid : Prop := tableRoundsUptoRow.holds Try.pinned (OpenSpec.upto tableRoundsSpec)

end Rows
end Go.Proofs.Ytegahpgokmcjhaa
