/-
  NARROWER THAN 'FOR EVERY INPUT', by the rows' own cells (each row's printed sentence says how): HeaderBack: laid · BlockBack: laid · ChainLine: laid · ChainSkips: laid.
  DERIVED. THE GIVEN ROWS OF THIS SEAT. 4 by the template 'for every input the law returns true; each argument reads behind the call as it read before'; 0 by the template 'total and deterministic' (their statements: YthhildeocedpiaaDoorTotals.lean).
  GIVEN WITH THE SEED: the statements are not yours to turn. If you find one false, say at which input.
  Laid BY PROGRAM, IN A SANDBOX (cutbox-rows.mjs): the forced cells as the released guide's own fill.sh prints them over the translation 9e304e7a051baf84… (all of the seat's roots in one cut). By AI agents, Wed Nov 11 2026. No macro, syntax, notation, axiom, sorry.
-/
import Derived.Test.YthhildeocedpiaaDoorChecked
import GoSem.Claim
import GoSem.ClaimJoined
import GoSem.ClaimMapViews
import Derived.JoinedTies
import Derived.KernelRfl
namespace Go.Proofs.YthhildeocedpiaaDoor
/- THE CELL 'sum', in the pinned program and in every row, IS THE sha256 OF THE DUMP (.gsa) THAT YthhildeocedpiaaDoorProg.lean LOADS. Nothing in Lean hashes anything: it is a label: what it is worth is what the hold of that sum in a sandbox is worth. -/
noncomputable def Tryd.pinned : Pinned := { name := "ythhildeocedpiaadoor", sum := "9e304e7a051baf84fa32c1b120d9879b549c85578a9aaaff107f74e4cddd3bd7", checked := Tryd.checked }
namespace Rows
def none {H : Type} : Left H := { results := [], args := [] }

/- WHAT THE LISTED PACKAGE-LEVEL VARIABLES READ AS WHEN THE CALL BEGINS. Each datum BY PROGRAM (the guide's laid-datum.mjs) off the statement by which the dump's own 'gosem.cut.vars' lays the variable. In a bare row this is a premise. The card (YthhildeocedpiaaDoorCards.lean) ties it to the program's text. -/
def laid_tusk_mix_firstNumbers {H : Type} : DataW H := .agg [.lit (.int .u32 1779033703), .lit (.int .u32 3144134277), .lit (.int .u32 1013904242), .lit (.int .u32 2773480762), .lit (.int .u32 1359893119), .lit (.int .u32 2600822924), .lit (.int .u32 528734635), .lit (.int .u32 1541459225)]
def laid_tusk_mix_rows {H : Type} : DataW H := .agg [.agg [.lit (.int .u8 0), .lit (.int .u8 1), .lit (.int .u8 2), .lit (.int .u8 3), .lit (.int .u8 4), .lit (.int .u8 5), .lit (.int .u8 6), .lit (.int .u8 7), .lit (.int .u8 8), .lit (.int .u8 9), .lit (.int .u8 10), .lit (.int .u8 11), .lit (.int .u8 12), .lit (.int .u8 13), .lit (.int .u8 14), .lit (.int .u8 15)], .agg [.lit (.int .u8 14), .lit (.int .u8 10), .lit (.int .u8 4), .lit (.int .u8 8), .lit (.int .u8 9), .lit (.int .u8 15), .lit (.int .u8 13), .lit (.int .u8 6), .lit (.int .u8 1), .lit (.int .u8 12), .lit (.int .u8 0), .lit (.int .u8 2), .lit (.int .u8 11), .lit (.int .u8 7), .lit (.int .u8 5), .lit (.int .u8 3)], .agg [.lit (.int .u8 11), .lit (.int .u8 8), .lit (.int .u8 12), .lit (.int .u8 0), .lit (.int .u8 5), .lit (.int .u8 2), .lit (.int .u8 15), .lit (.int .u8 13), .lit (.int .u8 10), .lit (.int .u8 14), .lit (.int .u8 3), .lit (.int .u8 6), .lit (.int .u8 7), .lit (.int .u8 1), .lit (.int .u8 9), .lit (.int .u8 4)], .agg [.lit (.int .u8 7), .lit (.int .u8 9), .lit (.int .u8 3), .lit (.int .u8 1), .lit (.int .u8 13), .lit (.int .u8 12), .lit (.int .u8 11), .lit (.int .u8 14), .lit (.int .u8 2), .lit (.int .u8 6), .lit (.int .u8 5), .lit (.int .u8 10), .lit (.int .u8 4), .lit (.int .u8 0), .lit (.int .u8 15), .lit (.int .u8 8)], .agg [.lit (.int .u8 9), .lit (.int .u8 0), .lit (.int .u8 5), .lit (.int .u8 7), .lit (.int .u8 2), .lit (.int .u8 4), .lit (.int .u8 10), .lit (.int .u8 15), .lit (.int .u8 14), .lit (.int .u8 1), .lit (.int .u8 11), .lit (.int .u8 12), .lit (.int .u8 6), .lit (.int .u8 8), .lit (.int .u8 3), .lit (.int .u8 13)], .agg [.lit (.int .u8 2), .lit (.int .u8 12), .lit (.int .u8 6), .lit (.int .u8 10), .lit (.int .u8 0), .lit (.int .u8 11), .lit (.int .u8 8), .lit (.int .u8 3), .lit (.int .u8 4), .lit (.int .u8 13), .lit (.int .u8 7), .lit (.int .u8 5), .lit (.int .u8 15), .lit (.int .u8 14), .lit (.int .u8 1), .lit (.int .u8 9)], .agg [.lit (.int .u8 12), .lit (.int .u8 5), .lit (.int .u8 1), .lit (.int .u8 15), .lit (.int .u8 14), .lit (.int .u8 13), .lit (.int .u8 4), .lit (.int .u8 10), .lit (.int .u8 0), .lit (.int .u8 7), .lit (.int .u8 6), .lit (.int .u8 3), .lit (.int .u8 9), .lit (.int .u8 2), .lit (.int .u8 8), .lit (.int .u8 11)], .agg [.lit (.int .u8 13), .lit (.int .u8 11), .lit (.int .u8 7), .lit (.int .u8 14), .lit (.int .u8 12), .lit (.int .u8 1), .lit (.int .u8 3), .lit (.int .u8 9), .lit (.int .u8 5), .lit (.int .u8 0), .lit (.int .u8 15), .lit (.int .u8 4), .lit (.int .u8 8), .lit (.int .u8 6), .lit (.int .u8 2), .lit (.int .u8 10)], .agg [.lit (.int .u8 6), .lit (.int .u8 15), .lit (.int .u8 14), .lit (.int .u8 9), .lit (.int .u8 11), .lit (.int .u8 3), .lit (.int .u8 0), .lit (.int .u8 8), .lit (.int .u8 12), .lit (.int .u8 2), .lit (.int .u8 13), .lit (.int .u8 7), .lit (.int .u8 1), .lit (.int .u8 4), .lit (.int .u8 10), .lit (.int .u8 5)], .agg [.lit (.int .u8 10), .lit (.int .u8 2), .lit (.int .u8 8), .lit (.int .u8 4), .lit (.int .u8 7), .lit (.int .u8 6), .lit (.int .u8 1), .lit (.int .u8 5), .lit (.int .u8 15), .lit (.int .u8 11), .lit (.int .u8 9), .lit (.int .u8 14), .lit (.int .u8 3), .lit (.int .u8 12), .lit (.int .u8 13), .lit (.int .u8 0)]]

/-- 'tusklaw06.HeaderBack': WHATEVER THE INPUT: true; the input reads as it did. -/
def headerBackSpec : ChangeSpec := { name := "headerBack", fn := fun _ => fun
  | [d1, d2] => { results := [.lit (.bool true)], args := [d1, d2] }
  | _ => none }
def headerBackRow : OpenClaim := { program := "ythhildeocedpiaadoor", sum := "9e304e7a051baf84fa32c1b120d9879b549c85578a9aaaff107f74e4cddd3bd7", func := "tusk/tusklaw06.HeaderBack", spec := "headerBack", inPlace := ["internal/abi.NoEscape"], unfollowed := true, recurses := true, named := ["tusk/mix.firstNumbers", "tusk/mix.rows"], apart := false, laid := [("tusk/mix.firstNumbers", laid_tusk_mix_firstNumbers), ("tusk/mix.rows", laid_tusk_mix_rows)] }
def HeaderBackSaid : Prop := headerBackRow.holds Tryd.pinned (OpenSpec.ofChange headerBackSpec)

/-- ITS FALSE NEIGHBOUR: 'it returns false'. Refute it at one input. -/
def headerBackWrong : ChangeSpec := { name := "headerBack", fn := fun _ => fun
  | [d1, d2] => { results := [.lit (.bool false)], args := [d1, d2] }
  | _ => none }
def HeaderBackWrongFalsely : Prop := headerBackRow.holds Tryd.pinned (OpenSpec.ofChange headerBackWrong)

/-- 'tusklaw08.BlockBack': WHATEVER THE INPUT: true; the input reads as it did. -/
def blockBackSpec : ChangeSpec := { name := "blockBack", fn := fun _ => fun
  | [d1, d2, d3] => { results := [.lit (.bool true)], args := [d1, d2, d3] }
  | _ => none }
def blockBackRow : OpenClaim := { program := "ythhildeocedpiaadoor", sum := "9e304e7a051baf84fa32c1b120d9879b549c85578a9aaaff107f74e4cddd3bd7", func := "tusk/tusklaw08.BlockBack", spec := "blockBack", inPlace := ["internal/abi.NoEscape", "internal/bytealg.MakeNoZero"], unfollowed := true, recurses := true, named := ["tusk/mix.firstNumbers", "tusk/mix.rows"], apart := false, laid := [("tusk/mix.firstNumbers", laid_tusk_mix_firstNumbers), ("tusk/mix.rows", laid_tusk_mix_rows)] }
def BlockBackSaid : Prop := blockBackRow.holds Tryd.pinned (OpenSpec.ofChange blockBackSpec)

/-- ITS FALSE NEIGHBOUR: 'it returns false'. Refute it at one input. -/
def blockBackWrong : ChangeSpec := { name := "blockBack", fn := fun _ => fun
  | [d1, d2, d3] => { results := [.lit (.bool false)], args := [d1, d2, d3] }
  | _ => none }
def BlockBackWrongFalsely : Prop := blockBackRow.holds Tryd.pinned (OpenSpec.ofChange blockBackWrong)

/-- 'tusklaw17.ChainLine': WHATEVER THE INPUT: true; the input reads as it did. -/
def chainLineSpec : ChangeSpec := { name := "chainLine", fn := fun _ => fun
  | [d] => { results := [.lit (.bool true)], args := [d] }
  | _ => none }
def chainLineRow : OpenClaim := { program := "ythhildeocedpiaadoor", sum := "9e304e7a051baf84fa32c1b120d9879b549c85578a9aaaff107f74e4cddd3bd7", func := "tusk/tusklaw17.ChainLine", spec := "chainLine", inPlace := ["internal/abi.NoEscape", "internal/bytealg.MakeNoZero"], named := ["tusk/mix.firstNumbers", "tusk/mix.rows"], apart := false, laid := [("tusk/mix.firstNumbers", laid_tusk_mix_firstNumbers), ("tusk/mix.rows", laid_tusk_mix_rows)] }
def ChainLineSaid : Prop := chainLineRow.holds Tryd.pinned (OpenSpec.ofChange chainLineSpec)

/-- ITS FALSE NEIGHBOUR: 'it returns false'. Refute it at one input. -/
def chainLineWrong : ChangeSpec := { name := "chainLine", fn := fun _ => fun
  | [d] => { results := [.lit (.bool false)], args := [d] }
  | _ => none }
def ChainLineWrongFalsely : Prop := chainLineRow.holds Tryd.pinned (OpenSpec.ofChange chainLineWrong)

/-- 'tusklaw17.ChainSkips': WHATEVER THE INPUT: true; the input reads as it did. -/
def chainSkipsSpec : ChangeSpec := { name := "chainSkips", fn := fun _ => fun
  | [d1, d2] => { results := [.lit (.bool true)], args := [d1, d2] }
  | _ => none }
def chainSkipsRow : OpenClaim := { program := "ythhildeocedpiaadoor", sum := "9e304e7a051baf84fa32c1b120d9879b549c85578a9aaaff107f74e4cddd3bd7", func := "tusk/tusklaw17.ChainSkips", spec := "chainSkips", inPlace := ["internal/abi.NoEscape", "internal/bytealg.MakeNoZero"], named := ["tusk/mix.firstNumbers", "tusk/mix.rows"], apart := false, laid := [("tusk/mix.firstNumbers", laid_tusk_mix_firstNumbers), ("tusk/mix.rows", laid_tusk_mix_rows)] }
def ChainSkipsSaid : Prop := chainSkipsRow.holds Tryd.pinned (OpenSpec.ofChange chainSkipsSpec)

/-- ITS FALSE NEIGHBOUR: 'it returns false'. Refute it at one input. -/
def chainSkipsWrong : ChangeSpec := { name := "chainSkips", fn := fun _ => fun
  | [d1, d2] => { results := [.lit (.bool false)], args := [d1, d2] }
  | _ => none }
def ChainSkipsWrongFalsely : Prop := chainSkipsRow.holds Tryd.pinned (OpenSpec.ofChange chainSkipsWrong)

/- THE SECOND FORM. 'bulk': how many values and letters a reading holds, each counted each time it is reached (what is shared counts as often as it is met; a slice's spare places count too). A statement '..UptoSaid' is the law's where the arguments, and the package variables that the reading takes, are together of bulk at most 1048576: NARROWER than '..Said'. Prove '..Said' where nothing that the law and all that it calls make is longer than what came in: it says more and counts as full. Else prove '..UptoSaid'. A law counts once. -/
mutual
def uptoBulk {H : Type} : DataW H → Nat
  | .lit (.string bytes) => bytes.length + 1
  | .lit _ => 1
  | .nil => 1
  | .ptr d => uptoBulk d + 1
  | .slice elems spare => uptoBulkAll elems + uptoBulkAll spare + 1
  | .agg parts => uptoBulkAll parts + 1
  | .iface _ d => uptoBulk d + 1
  | .map entries => uptoBulkEntries entries + 1
  | .held _ => 1
def uptoBulkAll {H : Type} : List (DataW H) → Nat
  | [] => 0
  | d :: r => uptoBulk d + uptoBulkAll r
def uptoBulkEntries {H : Type} : List (Lit × DataW H) → Nat
  | [] => 0
  | x :: r => uptoBulkEntry x + uptoBulkEntries r
def uptoBulkEntry {H : Type} : Lit × DataW H → Nat
  | (.string bytes, d) => bytes.length + uptoBulk d + 1
  | (_, d) => uptoBulk d + 1
 end
def uptoSmall : (H : Type) → List (DataW H) → Bool := fun _ ds => decide (uptoBulkAll ds ≤ 1048576)
def OpenSpec.upto (s : _root_.Go.ChangeSpec) : _root_.Go.OpenSpec := { _root_.Go.OpenSpec.ofChange s with cond := some uptoSmall }

/-- 'tusklaw06.HeaderBack', WHERE WHAT IT READS IS OF BULK AT MOST 1048576: true; the input reads as it did. -/
def headerBackUptoRow : OpenClaim := { program := "ythhildeocedpiaadoor", sum := "9e304e7a051baf84fa32c1b120d9879b549c85578a9aaaff107f74e4cddd3bd7", func := "tusk/tusklaw06.HeaderBack", spec := "headerBack", inPlace := ["internal/abi.NoEscape"], unfollowed := true, recurses := true, named := ["tusk/mix.firstNumbers", "tusk/mix.rows"], apart := false, laid := [("tusk/mix.firstNumbers", laid_tusk_mix_firstNumbers), ("tusk/mix.rows", laid_tusk_mix_rows)], narrowed := true }
def HeaderBackUptoSaid : Prop := headerBackUptoRow.holds Tryd.pinned (OpenSpec.upto headerBackSpec)

/-- 'tusklaw08.BlockBack', WHERE WHAT IT READS IS OF BULK AT MOST 1048576: true; the input reads as it did. -/
def blockBackUptoRow : OpenClaim := { program := "ythhildeocedpiaadoor", sum := "9e304e7a051baf84fa32c1b120d9879b549c85578a9aaaff107f74e4cddd3bd7", func := "tusk/tusklaw08.BlockBack", spec := "blockBack", inPlace := ["internal/abi.NoEscape", "internal/bytealg.MakeNoZero"], unfollowed := true, recurses := true, named := ["tusk/mix.firstNumbers", "tusk/mix.rows"], apart := false, laid := [("tusk/mix.firstNumbers", laid_tusk_mix_firstNumbers), ("tusk/mix.rows", laid_tusk_mix_rows)], narrowed := true }
def BlockBackUptoSaid : Prop := blockBackUptoRow.holds Tryd.pinned (OpenSpec.upto blockBackSpec)

/-- 'tusklaw17.ChainLine', WHERE WHAT IT READS IS OF BULK AT MOST 1048576: true; the input reads as it did. -/
def chainLineUptoRow : OpenClaim := { program := "ythhildeocedpiaadoor", sum := "9e304e7a051baf84fa32c1b120d9879b549c85578a9aaaff107f74e4cddd3bd7", func := "tusk/tusklaw17.ChainLine", spec := "chainLine", inPlace := ["internal/abi.NoEscape", "internal/bytealg.MakeNoZero"], named := ["tusk/mix.firstNumbers", "tusk/mix.rows"], apart := false, laid := [("tusk/mix.firstNumbers", laid_tusk_mix_firstNumbers), ("tusk/mix.rows", laid_tusk_mix_rows)], narrowed := true }
def ChainLineUptoSaid : Prop := chainLineUptoRow.holds Tryd.pinned (OpenSpec.upto chainLineSpec)

/-- 'tusklaw17.ChainSkips', WHERE WHAT IT READS IS OF BULK AT MOST 1048576: true; the input reads as it did. -/
def chainSkipsUptoRow : OpenClaim := { program := "ythhildeocedpiaadoor", sum := "9e304e7a051baf84fa32c1b120d9879b549c85578a9aaaff107f74e4cddd3bd7", func := "tusk/tusklaw17.ChainSkips", spec := "chainSkips", inPlace := ["internal/abi.NoEscape", "internal/bytealg.MakeNoZero"], named := ["tusk/mix.firstNumbers", "tusk/mix.rows"], apart := false, laid := [("tusk/mix.firstNumbers", laid_tusk_mix_firstNumbers), ("tusk/mix.rows", laid_tusk_mix_rows)], narrowed := true }
def ChainSkipsUptoSaid : Prop := chainSkipsUptoRow.holds Tryd.pinned (OpenSpec.upto chainSkipsSpec)

end Rows
end Go.Proofs.YthhildeocedpiaaDoor
