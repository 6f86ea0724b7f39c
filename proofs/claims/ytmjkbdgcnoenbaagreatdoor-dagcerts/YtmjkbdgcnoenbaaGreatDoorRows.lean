/-
  NARROWER THAN 'FOR EVERY INPUT', by the rows' own cells (each row's printed sentence says how): DagDoes: laid · DagOnce: laid · DagCerts: laid · DagRounds: laid · DagParents: laid · DagOld: laid.
  DERIVED. THE GIVEN ROWS OF THIS SEAT. 6 by the template 'for every input the law returns true; each argument reads behind the call as it read before'; 0 by the template 'total and deterministic' (their statements: YtmjkbdgcnoenbaaGreatDoorTotals.lean).
  GIVEN WITH THE SEED: the statements are not yours to turn. If you find one false, say at which input.
  Laid BY PROGRAM, IN A SANDBOX (cutbox-rows.mjs): the forced cells as the released guide's own fill.sh prints them over the translation 67864d264e009712… (all of the seat's roots in one cut). By AI agents, Wed Nov 11 2026. No macro, syntax, notation, axiom, sorry.
-/
import Derived.Test.YtmjkbdgcnoenbaaGreatDoorChecked
import GoSem.Claim
import GoSem.ClaimJoined
import GoSem.ClaimMapViews
import Derived.JoinedTies
import Derived.KernelRfl
namespace Go.Proofs.YtmjkbdgcnoenbaaGreatDoor
/- THE CELL 'sum', in the pinned program and in every row, IS THE sha256 OF THE DUMP (.gsa) THAT YtmjkbdgcnoenbaaGreatDoorProg.lean LOADS. Nothing in Lean hashes anything: it is a label: what it is worth is what the hold of that sum in a sandbox is worth. -/
noncomputable def Tryz.pinned : Pinned := { name := "ytmjkbdgcnoenbaagreatdoor", sum := "67864d264e009712ad9c16840395cd8d9d49969bdd75808c6615f4d27fc60754", checked := Tryz.checked }
namespace Rows
def none {H : Type} : Left H := { results := [], args := [] }

/- WHAT THE LISTED PACKAGE-LEVEL VARIABLES READ AS WHEN THE CALL BEGINS. Each datum BY PROGRAM (the guide's laid-datum.mjs) off the statement by which the dump's own 'gosem.cut.vars' lays the variable. In a bare row this is a premise. The card (YtmjkbdgcnoenbaaGreatDoorCards.lean) ties it to the program's text. -/
def laid_tusk_mix_firstNumbers {H : Type} : DataW H := .agg [.lit (.int .u32 1779033703), .lit (.int .u32 3144134277), .lit (.int .u32 1013904242), .lit (.int .u32 2773480762), .lit (.int .u32 1359893119), .lit (.int .u32 2600822924), .lit (.int .u32 528734635), .lit (.int .u32 1541459225)]
def laid_tusk_mix_rows {H : Type} : DataW H := .agg [.agg [.lit (.int .u8 0), .lit (.int .u8 1), .lit (.int .u8 2), .lit (.int .u8 3), .lit (.int .u8 4), .lit (.int .u8 5), .lit (.int .u8 6), .lit (.int .u8 7), .lit (.int .u8 8), .lit (.int .u8 9), .lit (.int .u8 10), .lit (.int .u8 11), .lit (.int .u8 12), .lit (.int .u8 13), .lit (.int .u8 14), .lit (.int .u8 15)], .agg [.lit (.int .u8 14), .lit (.int .u8 10), .lit (.int .u8 4), .lit (.int .u8 8), .lit (.int .u8 9), .lit (.int .u8 15), .lit (.int .u8 13), .lit (.int .u8 6), .lit (.int .u8 1), .lit (.int .u8 12), .lit (.int .u8 0), .lit (.int .u8 2), .lit (.int .u8 11), .lit (.int .u8 7), .lit (.int .u8 5), .lit (.int .u8 3)], .agg [.lit (.int .u8 11), .lit (.int .u8 8), .lit (.int .u8 12), .lit (.int .u8 0), .lit (.int .u8 5), .lit (.int .u8 2), .lit (.int .u8 15), .lit (.int .u8 13), .lit (.int .u8 10), .lit (.int .u8 14), .lit (.int .u8 3), .lit (.int .u8 6), .lit (.int .u8 7), .lit (.int .u8 1), .lit (.int .u8 9), .lit (.int .u8 4)], .agg [.lit (.int .u8 7), .lit (.int .u8 9), .lit (.int .u8 3), .lit (.int .u8 1), .lit (.int .u8 13), .lit (.int .u8 12), .lit (.int .u8 11), .lit (.int .u8 14), .lit (.int .u8 2), .lit (.int .u8 6), .lit (.int .u8 5), .lit (.int .u8 10), .lit (.int .u8 4), .lit (.int .u8 0), .lit (.int .u8 15), .lit (.int .u8 8)], .agg [.lit (.int .u8 9), .lit (.int .u8 0), .lit (.int .u8 5), .lit (.int .u8 7), .lit (.int .u8 2), .lit (.int .u8 4), .lit (.int .u8 10), .lit (.int .u8 15), .lit (.int .u8 14), .lit (.int .u8 1), .lit (.int .u8 11), .lit (.int .u8 12), .lit (.int .u8 6), .lit (.int .u8 8), .lit (.int .u8 3), .lit (.int .u8 13)], .agg [.lit (.int .u8 2), .lit (.int .u8 12), .lit (.int .u8 6), .lit (.int .u8 10), .lit (.int .u8 0), .lit (.int .u8 11), .lit (.int .u8 8), .lit (.int .u8 3), .lit (.int .u8 4), .lit (.int .u8 13), .lit (.int .u8 7), .lit (.int .u8 5), .lit (.int .u8 15), .lit (.int .u8 14), .lit (.int .u8 1), .lit (.int .u8 9)], .agg [.lit (.int .u8 12), .lit (.int .u8 5), .lit (.int .u8 1), .lit (.int .u8 15), .lit (.int .u8 14), .lit (.int .u8 13), .lit (.int .u8 4), .lit (.int .u8 10), .lit (.int .u8 0), .lit (.int .u8 7), .lit (.int .u8 6), .lit (.int .u8 3), .lit (.int .u8 9), .lit (.int .u8 2), .lit (.int .u8 8), .lit (.int .u8 11)], .agg [.lit (.int .u8 13), .lit (.int .u8 11), .lit (.int .u8 7), .lit (.int .u8 14), .lit (.int .u8 12), .lit (.int .u8 1), .lit (.int .u8 3), .lit (.int .u8 9), .lit (.int .u8 5), .lit (.int .u8 0), .lit (.int .u8 15), .lit (.int .u8 4), .lit (.int .u8 8), .lit (.int .u8 6), .lit (.int .u8 2), .lit (.int .u8 10)], .agg [.lit (.int .u8 6), .lit (.int .u8 15), .lit (.int .u8 14), .lit (.int .u8 9), .lit (.int .u8 11), .lit (.int .u8 3), .lit (.int .u8 0), .lit (.int .u8 8), .lit (.int .u8 12), .lit (.int .u8 2), .lit (.int .u8 13), .lit (.int .u8 7), .lit (.int .u8 1), .lit (.int .u8 4), .lit (.int .u8 10), .lit (.int .u8 5)], .agg [.lit (.int .u8 10), .lit (.int .u8 2), .lit (.int .u8 8), .lit (.int .u8 4), .lit (.int .u8 7), .lit (.int .u8 6), .lit (.int .u8 1), .lit (.int .u8 5), .lit (.int .u8 15), .lit (.int .u8 11), .lit (.int .u8 9), .lit (.int .u8 14), .lit (.int .u8 3), .lit (.int .u8 12), .lit (.int .u8 13), .lit (.int .u8 0)]]

/-- 'tusklaw14.DagDoes': WHATEVER THE INPUT: true; the input reads as it did. -/
def dagDoesSpec : ChangeSpec := { name := "dagDoes", fn := fun _ => fun
  | [d1, d2, d3] => { results := [.lit (.bool true)], args := [d1, d2, d3] }
  | _ => none }
def dagDoesRow : OpenClaim := { program := "ytmjkbdgcnoenbaagreatdoor", sum := "67864d264e009712ad9c16840395cd8d9d49969bdd75808c6615f4d27fc60754", func := "tusk/tusklaw14.DagDoes", spec := "dagDoes", inPlace := ["internal/abi.NoEscape"], unfollowed := true, recurses := true, named := ["tusk/mix.firstNumbers", "tusk/mix.rows"], plainKeys := false, apart := false, laid := [("tusk/mix.firstNumbers", laid_tusk_mix_firstNumbers), ("tusk/mix.rows", laid_tusk_mix_rows)] }
def DagDoesSaid : Prop := dagDoesRow.holds Tryz.pinned (OpenSpec.ofChange dagDoesSpec)

/-- ITS FALSE NEIGHBOUR: 'it returns false'. Refute it at one input. -/
def dagDoesWrong : ChangeSpec := { name := "dagDoes", fn := fun _ => fun
  | [d1, d2, d3] => { results := [.lit (.bool false)], args := [d1, d2, d3] }
  | _ => none }
def DagDoesWrongFalsely : Prop := dagDoesRow.holds Tryz.pinned (OpenSpec.ofChange dagDoesWrong)

/-- 'tusklaw14.DagOnce': WHATEVER THE INPUT: true; the input reads as it did. -/
def dagOnceSpec : ChangeSpec := { name := "dagOnce", fn := fun _ => fun
  | [d1, d2, d3] => { results := [.lit (.bool true)], args := [d1, d2, d3] }
  | _ => none }
def dagOnceRow : OpenClaim := { program := "ytmjkbdgcnoenbaagreatdoor", sum := "67864d264e009712ad9c16840395cd8d9d49969bdd75808c6615f4d27fc60754", func := "tusk/tusklaw14.DagOnce", spec := "dagOnce", inPlace := ["internal/abi.NoEscape"], unfollowed := true, recurses := true, named := ["tusk/mix.firstNumbers", "tusk/mix.rows"], plainKeys := false, apart := false, laid := [("tusk/mix.firstNumbers", laid_tusk_mix_firstNumbers), ("tusk/mix.rows", laid_tusk_mix_rows)] }
def DagOnceSaid : Prop := dagOnceRow.holds Tryz.pinned (OpenSpec.ofChange dagOnceSpec)

/-- ITS FALSE NEIGHBOUR: 'it returns false'. Refute it at one input. -/
def dagOnceWrong : ChangeSpec := { name := "dagOnce", fn := fun _ => fun
  | [d1, d2, d3] => { results := [.lit (.bool false)], args := [d1, d2, d3] }
  | _ => none }
def DagOnceWrongFalsely : Prop := dagOnceRow.holds Tryz.pinned (OpenSpec.ofChange dagOnceWrong)

/-- 'tusklaw14.DagCerts': WHATEVER THE INPUT: true; the input reads as it did. -/
def dagCertsSpec : ChangeSpec := { name := "dagCerts", fn := fun _ => fun
  | [d1, d2] => { results := [.lit (.bool true)], args := [d1, d2] }
  | _ => none }
def dagCertsRow : OpenClaim := { program := "ytmjkbdgcnoenbaagreatdoor", sum := "67864d264e009712ad9c16840395cd8d9d49969bdd75808c6615f4d27fc60754", func := "tusk/tusklaw14.DagCerts", spec := "dagCerts", inPlace := ["internal/abi.NoEscape"], unfollowed := true, recurses := true, named := ["tusk/mix.firstNumbers", "tusk/mix.rows"], plainKeys := false, apart := false, laid := [("tusk/mix.firstNumbers", laid_tusk_mix_firstNumbers), ("tusk/mix.rows", laid_tusk_mix_rows)] }
def DagCertsSaid : Prop := dagCertsRow.holds Tryz.pinned (OpenSpec.ofChange dagCertsSpec)

/-- ITS FALSE NEIGHBOUR: 'it returns false'. Refute it at one input. -/
def dagCertsWrong : ChangeSpec := { name := "dagCerts", fn := fun _ => fun
  | [d1, d2] => { results := [.lit (.bool false)], args := [d1, d2] }
  | _ => none }
def DagCertsWrongFalsely : Prop := dagCertsRow.holds Tryz.pinned (OpenSpec.ofChange dagCertsWrong)

/-- 'tusklaw14.DagRounds': WHATEVER THE INPUT: true; the input reads as it did. -/
def dagRoundsSpec : ChangeSpec := { name := "dagRounds", fn := fun _ => fun
  | [d1, d2, d3] => { results := [.lit (.bool true)], args := [d1, d2, d3] }
  | _ => none }
def dagRoundsRow : OpenClaim := { program := "ytmjkbdgcnoenbaagreatdoor", sum := "67864d264e009712ad9c16840395cd8d9d49969bdd75808c6615f4d27fc60754", func := "tusk/tusklaw14.DagRounds", spec := "dagRounds", inPlace := ["internal/abi.NoEscape"], unfollowed := true, recurses := true, named := ["tusk/mix.firstNumbers", "tusk/mix.rows"], plainKeys := false, apart := false, laid := [("tusk/mix.firstNumbers", laid_tusk_mix_firstNumbers), ("tusk/mix.rows", laid_tusk_mix_rows)] }
def DagRoundsSaid : Prop := dagRoundsRow.holds Tryz.pinned (OpenSpec.ofChange dagRoundsSpec)

/-- ITS FALSE NEIGHBOUR: 'it returns false'. Refute it at one input. -/
def dagRoundsWrong : ChangeSpec := { name := "dagRounds", fn := fun _ => fun
  | [d1, d2, d3] => { results := [.lit (.bool false)], args := [d1, d2, d3] }
  | _ => none }
def DagRoundsWrongFalsely : Prop := dagRoundsRow.holds Tryz.pinned (OpenSpec.ofChange dagRoundsWrong)

/-- 'tusklaw14.DagParents': WHATEVER THE INPUT: true; the input reads as it did. -/
def dagParentsSpec : ChangeSpec := { name := "dagParents", fn := fun _ => fun
  | [d1, d2, d3] => { results := [.lit (.bool true)], args := [d1, d2, d3] }
  | _ => none }
def dagParentsRow : OpenClaim := { program := "ytmjkbdgcnoenbaagreatdoor", sum := "67864d264e009712ad9c16840395cd8d9d49969bdd75808c6615f4d27fc60754", func := "tusk/tusklaw14.DagParents", spec := "dagParents", inPlace := ["internal/abi.NoEscape"], unfollowed := true, recurses := true, named := ["tusk/mix.firstNumbers", "tusk/mix.rows"], plainKeys := false, apart := false, laid := [("tusk/mix.firstNumbers", laid_tusk_mix_firstNumbers), ("tusk/mix.rows", laid_tusk_mix_rows)] }
def DagParentsSaid : Prop := dagParentsRow.holds Tryz.pinned (OpenSpec.ofChange dagParentsSpec)

/-- ITS FALSE NEIGHBOUR: 'it returns false'. Refute it at one input. -/
def dagParentsWrong : ChangeSpec := { name := "dagParents", fn := fun _ => fun
  | [d1, d2, d3] => { results := [.lit (.bool false)], args := [d1, d2, d3] }
  | _ => none }
def DagParentsWrongFalsely : Prop := dagParentsRow.holds Tryz.pinned (OpenSpec.ofChange dagParentsWrong)

/-- 'tusklaw14.DagOld': WHATEVER THE INPUT: true; the input reads as it did. -/
def dagOldSpec : ChangeSpec := { name := "dagOld", fn := fun _ => fun
  | [d1, d2, d3] => { results := [.lit (.bool true)], args := [d1, d2, d3] }
  | _ => none }
def dagOldRow : OpenClaim := { program := "ytmjkbdgcnoenbaagreatdoor", sum := "67864d264e009712ad9c16840395cd8d9d49969bdd75808c6615f4d27fc60754", func := "tusk/tusklaw14.DagOld", spec := "dagOld", inPlace := ["internal/abi.NoEscape"], unfollowed := true, recurses := true, named := ["tusk/mix.firstNumbers", "tusk/mix.rows"], plainKeys := false, apart := false, laid := [("tusk/mix.firstNumbers", laid_tusk_mix_firstNumbers), ("tusk/mix.rows", laid_tusk_mix_rows)] }
def DagOldSaid : Prop := dagOldRow.holds Tryz.pinned (OpenSpec.ofChange dagOldSpec)

/-- ITS FALSE NEIGHBOUR: 'it returns false'. Refute it at one input. -/
def dagOldWrong : ChangeSpec := { name := "dagOld", fn := fun _ => fun
  | [d1, d2, d3] => { results := [.lit (.bool false)], args := [d1, d2, d3] }
  | _ => none }
def DagOldWrongFalsely : Prop := dagOldRow.holds Tryz.pinned (OpenSpec.ofChange dagOldWrong)

/- THE SECOND FORM. 'bulk': how many values and letters a reading holds, each counted each time it is reached (what is shared counts as often as it is met; a slice's spare places count too). A statement '..UptoSaid' is the law's where the arguments, and the package variables that the reading takes, are together of bulk at most 1048576: NARROWER than '..Said'. Prove '..Said' where nothing that the law and all that it calls make is longer than what came in: it says more and counts as full. Else prove '..UptoSaid'. A law counts once. -/
mutual
def uptoBulk {H : Type} : DataW H → Nat
  | .lit (.string bytes) => bytes.length + 1
  | .lit _ => 1
  | .nil => 1
  | .ptr d => uptoBulk d + 1
  | .slice elems spare => uptoBulkAll elems + uptoBulkAll spare + 1
  | .agg parts => uptoBulkAll parts + 1
  | .iface _ d => uptoBulk d + 1
  | .map entries => uptoBulkEntries entries + 1
  | .held _ => 1
def uptoBulkAll {H : Type} : List (DataW H) → Nat
  | [] => 0
  | d :: r => uptoBulk d + uptoBulkAll r
def uptoBulkEntries {H : Type} : List (Lit × DataW H) → Nat
  | [] => 0
  | x :: r => uptoBulkEntry x + uptoBulkEntries r
def uptoBulkEntry {H : Type} : Lit × DataW H → Nat
  | (.string bytes, d) => bytes.length + uptoBulk d + 1
  | (_, d) => uptoBulk d + 1
 end
def uptoSmall : (H : Type) → List (DataW H) → Bool := fun _ ds => decide (uptoBulkAll ds ≤ 1048576)
def OpenSpec.upto (s : _root_.Go.ChangeSpec) : _root_.Go.OpenSpec := { _root_.Go.OpenSpec.ofChange s with cond := some uptoSmall }

/-- 'tusklaw14.DagDoes', WHERE WHAT IT READS IS OF BULK AT MOST 1048576: true; the input reads as it did. -/
def dagDoesUptoRow : OpenClaim := { program := "ytmjkbdgcnoenbaagreatdoor", sum := "67864d264e009712ad9c16840395cd8d9d49969bdd75808c6615f4d27fc60754", func := "tusk/tusklaw14.DagDoes", spec := "dagDoes", inPlace := ["internal/abi.NoEscape"], unfollowed := true, recurses := true, named := ["tusk/mix.firstNumbers", "tusk/mix.rows"], plainKeys := false, apart := false, laid := [("tusk/mix.firstNumbers", laid_tusk_mix_firstNumbers), ("tusk/mix.rows", laid_tusk_mix_rows)], narrowed := true }
def DagDoesUptoSaid : Prop := dagDoesUptoRow.holds Tryz.pinned (OpenSpec.upto dagDoesSpec)

/-- 'tusklaw14.DagOnce', WHERE WHAT IT READS IS OF BULK AT MOST 1048576: true; the input reads as it did. -/
def dagOnceUptoRow : OpenClaim := { program := "ytmjkbdgcnoenbaagreatdoor", sum := "67864d264e009712ad9c16840395cd8d9d49969bdd75808c6615f4d27fc60754", func := "tusk/tusklaw14.DagOnce", spec := "dagOnce", inPlace := ["internal/abi.NoEscape"], unfollowed := true, recurses := true, named := ["tusk/mix.firstNumbers", "tusk/mix.rows"], plainKeys := false, apart := false, laid := [("tusk/mix.firstNumbers", laid_tusk_mix_firstNumbers), ("tusk/mix.rows", laid_tusk_mix_rows)], narrowed := true }
def DagOnceUptoSaid : Prop := dagOnceUptoRow.holds Tryz.pinned (OpenSpec.upto dagOnceSpec)

/-- 'tusklaw14.DagCerts', WHERE WHAT IT READS IS OF BULK AT MOST 1048576: true; the input reads as it did. -/
def dagCertsUptoRow : OpenClaim := { program := "ytmjkbdgcnoenbaagreatdoor", sum := "67864d264e009712ad9c16840395cd8d9d49969bdd75808c6615f4d27fc60754", func := "tusk/tusklaw14.DagCerts", spec := "dagCerts", inPlace := ["internal/abi.NoEscape"], unfollowed := true, recurses := true, named := ["tusk/mix.firstNumbers", "tusk/mix.rows"], plainKeys := false, apart := false, laid := [("tusk/mix.firstNumbers", laid_tusk_mix_firstNumbers), ("tusk/mix.rows", laid_tusk_mix_rows)], narrowed := true }
def DagCertsUptoSaid : Prop := dagCertsUptoRow.holds Tryz.pinned (OpenSpec.upto dagCertsSpec)

/-- 'tusklaw14.DagRounds', WHERE WHAT IT READS IS OF BULK AT MOST 1048576: true; the input reads as it did. -/
def dagRoundsUptoRow : OpenClaim := { program := "ytmjkbdgcnoenbaagreatdoor", sum := "67864d264e009712ad9c16840395cd8d9d49969bdd75808c6615f4d27fc60754", func := "tusk/tusklaw14.DagRounds", spec := "dagRounds", inPlace := ["internal/abi.NoEscape"], unfollowed := true, recurses := true, named := ["tusk/mix.firstNumbers", "tusk/mix.rows"], plainKeys := false, apart := false, laid := [("tusk/mix.firstNumbers", laid_tusk_mix_firstNumbers), ("tusk/mix.rows", laid_tusk_mix_rows)], narrowed := true }
def DagRoundsUptoSaid : Prop := dagRoundsUptoRow.holds Tryz.pinned (OpenSpec.upto dagRoundsSpec)

/-- 'tusklaw14.DagParents', WHERE WHAT IT READS IS OF BULK AT MOST 1048576: true; the input reads as it did. -/
def dagParentsUptoRow : OpenClaim := { program := "ytmjkbdgcnoenbaagreatdoor", sum := "67864d264e009712ad9c16840395cd8d9d49969bdd75808c6615f4d27fc60754", func := "tusk/tusklaw14.DagParents", spec := "dagParents", inPlace := ["internal/abi.NoEscape"], unfollowed := true, recurses := true, named := ["tusk/mix.firstNumbers", "tusk/mix.rows"], plainKeys := false, apart := false, laid := [("tusk/mix.firstNumbers", laid_tusk_mix_firstNumbers), ("tusk/mix.rows", laid_tusk_mix_rows)], narrowed := true }
def DagParentsUptoSaid : Prop := dagParentsUptoRow.holds Tryz.pinned (OpenSpec.upto dagParentsSpec)

/-- 'tusklaw14.DagOld', WHERE WHAT IT READS IS OF BULK AT MOST 1048576: true; the input reads as it did. -/
def dagOldUptoRow : OpenClaim := { program := "ytmjkbdgcnoenbaagreatdoor", sum := "67864d264e009712ad9c16840395cd8d9d49969bdd75808c6615f4d27fc60754", func := "tusk/tusklaw14.DagOld", spec := "dagOld", inPlace := ["internal/abi.NoEscape"], unfollowed := true, recurses := true, named := ["tusk/mix.firstNumbers", "tusk/mix.rows"], plainKeys := false, apart := false, laid := [("tusk/mix.firstNumbers", laid_tusk_mix_firstNumbers), ("tusk/mix.rows", laid_tusk_mix_rows)], narrowed := true }
def DagOldUptoSaid : Prop := dagOldUptoRow.holds Tryz.pinned (OpenSpec.upto dagOldSpec)

end Rows
end Go.Proofs.YtmjkbdgcnoenbaaGreatDoor
