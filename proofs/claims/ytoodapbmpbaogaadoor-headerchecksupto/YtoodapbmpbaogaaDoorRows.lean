/-
  NARROWER THAN 'FOR EVERY INPUT', by the rows' own cells (each row's printed sentence says how): BlockChecks: laid · BlockBack: laid · BlockChain: laid · BlockMany: laid · HeaderChecks: laid.
  DERIVED. THE GIVEN ROWS OF THIS SEAT. 5 by the template 'for every input the law returns true; each argument reads behind the call as it read before'; 0 by the template 'total and deterministic' (their statements: YtoodapbmpbaogaaDoorTotals.lean).
  GIVEN WITH THE SEED: the statements are not yours to turn. If you find one false, say at which input.
  Laid BY PROGRAM, IN A SANDBOX (cutbox-rows.mjs): the forced cells as the released guide's own fill.sh prints them over the translation d7b8f98aaa3aab23… (all of the seat's roots in one cut). By AI agents, Wed Nov 11 2026. No macro, syntax, notation, axiom, sorry.
-/
import Derived.Test.YtoodapbmpbaogaaDoorChecked
import GoSem.Claim
import GoSem.ClaimJoined
import GoSem.ClaimMapViews
import Derived.JoinedTies
import Derived.KernelRfl
namespace Go.Proofs.YtoodapbmpbaogaaDoor
/- THE CELL 'sum', in the pinned program and in every row, IS THE sha256 OF THE DUMP (.gsa) THAT YtoodapbmpbaogaaDoorProg.lean LOADS. Nothing in Lean hashes anything: it is a label: what it is worth is what the hold of that sum in a sandbox is worth. -/
noncomputable def Tryd.pinned : Pinned := { name := "ytoodapbmpbaogaadoor", sum := "d7b8f98aaa3aab2377f94be4341eef04bf80edfe15e82fc74fadf67c1e04ab6a", checked := Tryd.checked }
namespace Rows
def none {H : Type} : Left H := { results := [], args := [] }

/- WHAT THE LISTED PACKAGE-LEVEL VARIABLES READ AS WHEN THE CALL BEGINS. Each datum BY PROGRAM (the guide's laid-datum.mjs) off the statement by which the dump's own 'gosem.cut.vars' lays the variable. In a bare row this is a premise. The card (YtoodapbmpbaogaaDoorCards.lean) ties it to the program's text. -/
def laid_tusk_mix_firstNumbers {H : Type} : DataW H := .agg [.lit (.int .u32 1779033703), .lit (.int .u32 3144134277), .lit (.int .u32 1013904242), .lit (.int .u32 2773480762), .lit (.int .u32 1359893119), .lit (.int .u32 2600822924), .lit (.int .u32 528734635), .lit (.int .u32 1541459225)]
def laid_tusk_mix_rows {H : Type} : DataW H := .agg [.agg [.lit (.int .u8 0), .lit (.int .u8 1), .lit (.int .u8 2), .lit (.int .u8 3), .lit (.int .u8 4), .lit (.int .u8 5), .lit (.int .u8 6), .lit (.int .u8 7), .lit (.int .u8 8), .lit (.int .u8 9), .lit (.int .u8 10), .lit (.int .u8 11), .lit (.int .u8 12), .lit (.int .u8 13), .lit (.int .u8 14), .lit (.int .u8 15)], .agg [.lit (.int .u8 14), .lit (.int .u8 10), .lit (.int .u8 4), .lit (.int .u8 8), .lit (.int .u8 9), .lit (.int .u8 15), .lit (.int .u8 13), .lit (.int .u8 6), .lit (.int .u8 1), .lit (.int .u8 12), .lit (.int .u8 0), .lit (.int .u8 2), .lit (.int .u8 11), .lit (.int .u8 7), .lit (.int .u8 5), .lit (.int .u8 3)], .agg [.lit (.int .u8 11), .lit (.int .u8 8), .lit (.int .u8 12), .lit (.int .u8 0), .lit (.int .u8 5), .lit (.int .u8 2), .lit (.int .u8 15), .lit (.int .u8 13), .lit (.int .u8 10), .lit (.int .u8 14), .lit (.int .u8 3), .lit (.int .u8 6), .lit (.int .u8 7), .lit (.int .u8 1), .lit (.int .u8 9), .lit (.int .u8 4)], .agg [.lit (.int .u8 7), .lit (.int .u8 9), .lit (.int .u8 3), .lit (.int .u8 1), .lit (.int .u8 13), .lit (.int .u8 12), .lit (.int .u8 11), .lit (.int .u8 14), .lit (.int .u8 2), .lit (.int .u8 6), .lit (.int .u8 5), .lit (.int .u8 10), .lit (.int .u8 4), .lit (.int .u8 0), .lit (.int .u8 15), .lit (.int .u8 8)], .agg [.lit (.int .u8 9), .lit (.int .u8 0), .lit (.int .u8 5), .lit (.int .u8 7), .lit (.int .u8 2), .lit (.int .u8 4), .lit (.int .u8 10), .lit (.int .u8 15), .lit (.int .u8 14), .lit (.int .u8 1), .lit (.int .u8 11), .lit (.int .u8 12), .lit (.int .u8 6), .lit (.int .u8 8), .lit (.int .u8 3), .lit (.int .u8 13)], .agg [.lit (.int .u8 2), .lit (.int .u8 12), .lit (.int .u8 6), .lit (.int .u8 10), .lit (.int .u8 0), .lit (.int .u8 11), .lit (.int .u8 8), .lit (.int .u8 3), .lit (.int .u8 4), .lit (.int .u8 13), .lit (.int .u8 7), .lit (.int .u8 5), .lit (.int .u8 15), .lit (.int .u8 14), .lit (.int .u8 1), .lit (.int .u8 9)], .agg [.lit (.int .u8 12), .lit (.int .u8 5), .lit (.int .u8 1), .lit (.int .u8 15), .lit (.int .u8 14), .lit (.int .u8 13), .lit (.int .u8 4), .lit (.int .u8 10), .lit (.int .u8 0), .lit (.int .u8 7), .lit (.int .u8 6), .lit (.int .u8 3), .lit (.int .u8 9), .lit (.int .u8 2), .lit (.int .u8 8), .lit (.int .u8 11)], .agg [.lit (.int .u8 13), .lit (.int .u8 11), .lit (.int .u8 7), .lit (.int .u8 14), .lit (.int .u8 12), .lit (.int .u8 1), .lit (.int .u8 3), .lit (.int .u8 9), .lit (.int .u8 5), .lit (.int .u8 0), .lit (.int .u8 15), .lit (.int .u8 4), .lit (.int .u8 8), .lit (.int .u8 6), .lit (.int .u8 2), .lit (.int .u8 10)], .agg [.lit (.int .u8 6), .lit (.int .u8 15), .lit (.int .u8 14), .lit (.int .u8 9), .lit (.int .u8 11), .lit (.int .u8 3), .lit (.int .u8 0), .lit (.int .u8 8), .lit (.int .u8 12), .lit (.int .u8 2), .lit (.int .u8 13), .lit (.int .u8 7), .lit (.int .u8 1), .lit (.int .u8 4), .lit (.int .u8 10), .lit (.int .u8 5)], .agg [.lit (.int .u8 10), .lit (.int .u8 2), .lit (.int .u8 8), .lit (.int .u8 4), .lit (.int .u8 7), .lit (.int .u8 6), .lit (.int .u8 1), .lit (.int .u8 5), .lit (.int .u8 15), .lit (.int .u8 11), .lit (.int .u8 9), .lit (.int .u8 14), .lit (.int .u8 3), .lit (.int .u8 12), .lit (.int .u8 13), .lit (.int .u8 0)]]

/-- 'tusklaw08.BlockChecks': WHATEVER THE INPUT: true; the input reads as it did. -/
def blockChecksSpec : ChangeSpec := { name := "blockChecks", fn := fun _ => fun
  | [d1, d2] => { results := [.lit (.bool true)], args := [d1, d2] }
  | _ => none }
def blockChecksRow : OpenClaim := { program := "ytoodapbmpbaogaadoor", sum := "d7b8f98aaa3aab2377f94be4341eef04bf80edfe15e82fc74fadf67c1e04ab6a", func := "tusk/tusklaw08.BlockChecks", spec := "blockChecks", inPlace := ["internal/abi.NoEscape", "internal/bytealg.MakeNoZero"], recurses := true, named := ["tusk/mix.firstNumbers", "tusk/mix.rows"], apart := false, laid := [("tusk/mix.firstNumbers", laid_tusk_mix_firstNumbers), ("tusk/mix.rows", laid_tusk_mix_rows)] }
def BlockChecksSaid : Prop := blockChecksRow.holds Tryd.pinned (OpenSpec.ofChange blockChecksSpec)

/-- ITS FALSE NEIGHBOUR: 'it returns false'. Refute it at one input. -/
def blockChecksWrong : ChangeSpec := { name := "blockChecks", fn := fun _ => fun
  | [d1, d2] => { results := [.lit (.bool false)], args := [d1, d2] }
  | _ => none }
def BlockChecksWrongFalsely : Prop := blockChecksRow.holds Tryd.pinned (OpenSpec.ofChange blockChecksWrong)

/-- 'tusklaw08.BlockBack': WHATEVER THE INPUT: true; the input reads as it did. -/
def blockBackSpec : ChangeSpec := { name := "blockBack", fn := fun _ => fun
  | [d1, d2, d3] => { results := [.lit (.bool true)], args := [d1, d2, d3] }
  | _ => none }
def blockBackRow : OpenClaim := { program := "ytoodapbmpbaogaadoor", sum := "d7b8f98aaa3aab2377f94be4341eef04bf80edfe15e82fc74fadf67c1e04ab6a", func := "tusk/tusklaw08.BlockBack", spec := "blockBack", inPlace := ["internal/abi.NoEscape", "internal/bytealg.MakeNoZero"], unfollowed := true, recurses := true, named := ["tusk/mix.firstNumbers", "tusk/mix.rows"], apart := false, laid := [("tusk/mix.firstNumbers", laid_tusk_mix_firstNumbers), ("tusk/mix.rows", laid_tusk_mix_rows)] }
def BlockBackSaid : Prop := blockBackRow.holds Tryd.pinned (OpenSpec.ofChange blockBackSpec)

/-- ITS FALSE NEIGHBOUR: 'it returns false'. Refute it at one input. -/
def blockBackWrong : ChangeSpec := { name := "blockBack", fn := fun _ => fun
  | [d1, d2, d3] => { results := [.lit (.bool false)], args := [d1, d2, d3] }
  | _ => none }
def BlockBackWrongFalsely : Prop := blockBackRow.holds Tryd.pinned (OpenSpec.ofChange blockBackWrong)

/-- 'tusklaw08.BlockChain': WHATEVER THE INPUT: true; the input reads as it did. -/
def blockChainSpec : ChangeSpec := { name := "blockChain", fn := fun _ => fun
  | [d1, d2, d3, d4] => { results := [.lit (.bool true)], args := [d1, d2, d3, d4] }
  | _ => none }
def blockChainRow : OpenClaim := { program := "ytoodapbmpbaogaadoor", sum := "d7b8f98aaa3aab2377f94be4341eef04bf80edfe15e82fc74fadf67c1e04ab6a", func := "tusk/tusklaw08.BlockChain", spec := "blockChain", inPlace := ["internal/abi.NoEscape", "internal/bytealg.MakeNoZero"], recurses := true, named := ["tusk/mix.firstNumbers", "tusk/mix.rows"], apart := false, laid := [("tusk/mix.firstNumbers", laid_tusk_mix_firstNumbers), ("tusk/mix.rows", laid_tusk_mix_rows)] }
def BlockChainSaid : Prop := blockChainRow.holds Tryd.pinned (OpenSpec.ofChange blockChainSpec)

/-- ITS FALSE NEIGHBOUR: 'it returns false'. Refute it at one input. -/
def blockChainWrong : ChangeSpec := { name := "blockChain", fn := fun _ => fun
  | [d1, d2, d3, d4] => { results := [.lit (.bool false)], args := [d1, d2, d3, d4] }
  | _ => none }
def BlockChainWrongFalsely : Prop := blockChainRow.holds Tryd.pinned (OpenSpec.ofChange blockChainWrong)

/-- 'tusklaw08.BlockMany': WHATEVER THE INPUT: true; the input reads as it did. -/
def blockManySpec : ChangeSpec := { name := "blockMany", fn := fun _ => fun
  | [d1, d2, d3, d4] => { results := [.lit (.bool true)], args := [d1, d2, d3, d4] }
  | _ => none }
def blockManyRow : OpenClaim := { program := "ytoodapbmpbaogaadoor", sum := "d7b8f98aaa3aab2377f94be4341eef04bf80edfe15e82fc74fadf67c1e04ab6a", func := "tusk/tusklaw08.BlockMany", spec := "blockMany", inPlace := ["internal/abi.NoEscape", "internal/bytealg.MakeNoZero"], recurses := true, named := ["tusk/mix.firstNumbers", "tusk/mix.rows"], apart := false, laid := [("tusk/mix.firstNumbers", laid_tusk_mix_firstNumbers), ("tusk/mix.rows", laid_tusk_mix_rows)] }
def BlockManySaid : Prop := blockManyRow.holds Tryd.pinned (OpenSpec.ofChange blockManySpec)

/-- ITS FALSE NEIGHBOUR: 'it returns false'. Refute it at one input. -/
def blockManyWrong : ChangeSpec := { name := "blockMany", fn := fun _ => fun
  | [d1, d2, d3, d4] => { results := [.lit (.bool false)], args := [d1, d2, d3, d4] }
  | _ => none }
def BlockManyWrongFalsely : Prop := blockManyRow.holds Tryd.pinned (OpenSpec.ofChange blockManyWrong)

/-- 'tusklaw06.HeaderChecks': WHATEVER THE INPUT: true; the input reads as it did. -/
def headerChecksSpec : ChangeSpec := { name := "headerChecks", fn := fun _ => fun
  | [d1, d2] => { results := [.lit (.bool true)], args := [d1, d2] }
  | _ => none }
def headerChecksRow : OpenClaim := { program := "ytoodapbmpbaogaadoor", sum := "d7b8f98aaa3aab2377f94be4341eef04bf80edfe15e82fc74fadf67c1e04ab6a", func := "tusk/tusklaw06.HeaderChecks", spec := "headerChecks", inPlace := ["internal/abi.NoEscape"], recurses := true, named := ["tusk/mix.firstNumbers", "tusk/mix.rows"], apart := false, laid := [("tusk/mix.firstNumbers", laid_tusk_mix_firstNumbers), ("tusk/mix.rows", laid_tusk_mix_rows)] }
def HeaderChecksSaid : Prop := headerChecksRow.holds Tryd.pinned (OpenSpec.ofChange headerChecksSpec)

/-- ITS FALSE NEIGHBOUR: 'it returns false'. Refute it at one input. -/
def headerChecksWrong : ChangeSpec := { name := "headerChecks", fn := fun _ => fun
  | [d1, d2] => { results := [.lit (.bool false)], args := [d1, d2] }
  | _ => none }
def HeaderChecksWrongFalsely : Prop := headerChecksRow.holds Tryd.pinned (OpenSpec.ofChange headerChecksWrong)

/- THE SECOND FORM. 'bulk': how many values and letters a reading holds, each counted each time it is reached (what is shared counts as often as it is met; a slice's spare places count too). A statement '..UptoSaid' is the law's where the arguments, and the package variables that the reading takes, are together of bulk at most 1048576: NARROWER than '..Said'. Prove '..Said' where nothing that the law and all that it calls make is longer than what came in: it says more and counts as full. Else prove '..UptoSaid'. A law counts once. -/
mutual
def uptoBulk {H : Type} : DataW H → Nat
  | .lit (.string bytes) => bytes.length + 1
  | .lit _ => 1
  | .nil => 1
  | .ptr d => uptoBulk d + 1
  | .slice elems spare => uptoBulkAll elems + uptoBulkAll spare + 1
  | .agg parts => uptoBulkAll parts + 1
  | .iface _ d => uptoBulk d + 1
  | .map entries => uptoBulkEntries entries + 1
  | .held _ => 1
def uptoBulkAll {H : Type} : List (DataW H) → Nat
  | [] => 0
  | d :: r => uptoBulk d + uptoBulkAll r
def uptoBulkEntries {H : Type} : List (Lit × DataW H) → Nat
  | [] => 0
  | x :: r => uptoBulkEntry x + uptoBulkEntries r
def uptoBulkEntry {H : Type} : Lit × DataW H → Nat
  | (.string bytes, d) => bytes.length + uptoBulk d + 1
  | (_, d) => uptoBulk d + 1
 end
def uptoSmall : (H : Type) → List (DataW H) → Bool := fun _ ds => decide (uptoBulkAll ds ≤ 1048576)
def OpenSpec.upto (s : _root_.Go.ChangeSpec) : _root_.Go.OpenSpec := { _root_.Go.OpenSpec.ofChange s with cond := some uptoSmall }

/-- 'tusklaw08.BlockChecks', WHERE WHAT IT READS IS OF BULK AT MOST 1048576: true; the input reads as it did. -/
def blockChecksUptoRow : OpenClaim := { program := "ytoodapbmpbaogaadoor", sum := "d7b8f98aaa3aab2377f94be4341eef04bf80edfe15e82fc74fadf67c1e04ab6a", func := "tusk/tusklaw08.BlockChecks", spec := "blockChecks", inPlace := ["internal/abi.NoEscape", "internal/bytealg.MakeNoZero"], recurses := true, named := ["tusk/mix.firstNumbers", "tusk/mix.rows"], apart := false, laid := [("tusk/mix.firstNumbers", laid_tusk_mix_firstNumbers), ("tusk/mix.rows", laid_tusk_mix_rows)], narrowed := true }
def BlockChecksUptoSaid : Prop := blockChecksUptoRow.holds Tryd.pinned (OpenSpec.upto blockChecksSpec)

/-- 'tusklaw08.BlockBack', WHERE WHAT IT READS IS OF BULK AT MOST 1048576: true; the input reads as it did. -/
def blockBackUptoRow : OpenClaim := { program := "ytoodapbmpbaogaadoor", sum := "d7b8f98aaa3aab2377f94be4341eef04bf80edfe15e82fc74fadf67c1e04ab6a", func := "tusk/tusklaw08.BlockBack", spec := "blockBack", inPlace := ["internal/abi.NoEscape", "internal/bytealg.MakeNoZero"], unfollowed := true, recurses := true, named := ["tusk/mix.firstNumbers", "tusk/mix.rows"], apart := false, laid := [("tusk/mix.firstNumbers", laid_tusk_mix_firstNumbers), ("tusk/mix.rows", laid_tusk_mix_rows)], narrowed := true }
def BlockBackUptoSaid : Prop := blockBackUptoRow.holds Tryd.pinned (OpenSpec.upto blockBackSpec)

/-- 'tusklaw08.BlockChain', WHERE WHAT IT READS IS OF BULK AT MOST 1048576: true; the input reads as it did. -/
def blockChainUptoRow : OpenClaim := { program := "ytoodapbmpbaogaadoor", sum := "d7b8f98aaa3aab2377f94be4341eef04bf80edfe15e82fc74fadf67c1e04ab6a", func := "tusk/tusklaw08.BlockChain", spec := "blockChain", inPlace := ["internal/abi.NoEscape", "internal/bytealg.MakeNoZero"], recurses := true, named := ["tusk/mix.firstNumbers", "tusk/mix.rows"], apart := false, laid := [("tusk/mix.firstNumbers", laid_tusk_mix_firstNumbers), ("tusk/mix.rows", laid_tusk_mix_rows)], narrowed := true }
def BlockChainUptoSaid : Prop := blockChainUptoRow.holds Tryd.pinned (OpenSpec.upto blockChainSpec)

/-- 'tusklaw08.BlockMany', WHERE WHAT IT READS IS OF BULK AT MOST 1048576: true; the input reads as it did. -/
def blockManyUptoRow : OpenClaim := { program := "ytoodapbmpbaogaadoor", sum := "d7b8f98aaa3aab2377f94be4341eef04bf80edfe15e82fc74fadf67c1e04ab6a", func := "tusk/tusklaw08.BlockMany", spec := "blockMany", inPlace := ["internal/abi.NoEscape", "internal/bytealg.MakeNoZero"], recurses := true, named := ["tusk/mix.firstNumbers", "tusk/mix.rows"], apart := false, laid := [("tusk/mix.firstNumbers", laid_tusk_mix_firstNumbers), ("tusk/mix.rows", laid_tusk_mix_rows)], narrowed := true }
def BlockManyUptoSaid : Prop := blockManyUptoRow.holds Tryd.pinned (OpenSpec.upto blockManySpec)

/-- 'tusklaw06.HeaderChecks', WHERE WHAT IT READS IS OF BULK AT MOST 1048576: true; the input reads as it did. -/
def headerChecksUptoRow : OpenClaim := { program := "ytoodapbmpbaogaadoor", sum := "d7b8f98aaa3aab2377f94be4341eef04bf80edfe15e82fc74fadf67c1e04ab6a", func := "tusk/tusklaw06.HeaderChecks", spec := "headerChecks", inPlace := ["internal/abi.NoEscape"], recurses := true, named := ["tusk/mix.firstNumbers", "tusk/mix.rows"], apart := false, laid := [("tusk/mix.firstNumbers", laid_tusk_mix_firstNumbers), ("tusk/mix.rows", laid_tusk_mix_rows)], narrowed := true }
def HeaderChecksUptoSaid : Prop := headerChecksUptoRow.holds Tryd.pinned (OpenSpec.upto headerChecksSpec)

end Rows
end Go.Proofs.YtoodapbmpbaogaaDoor
