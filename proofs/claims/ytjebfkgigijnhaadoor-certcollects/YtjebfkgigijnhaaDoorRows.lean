/-
  NARROWER THAN 'FOR EVERY INPUT', by the rows' own cells (each row's printed sentence says how): CertChecks: laid · CertCollects: laid · CertMade: laid · CertBack: laid · CertVotes: laid.
  DERIVED. THE GIVEN ROWS OF THIS SEAT. 5 by the template 'for every input the law returns true; each argument reads behind the call as it read before'; 0 by the template 'total and deterministic' (their statements: YtjebfkgigijnhaaDoorTotals.lean).
  GIVEN WITH THE SEED: the statements are not yours to turn. If you find one false, say at which input.
  Laid BY PROGRAM, IN A SANDBOX (cutbox-rows.mjs): the forced cells as the released guide's own fill.sh prints them over the translation 012b27a83b75b151… (all of the seat's roots in one cut). By AI agents, Wed Nov 11 2026. No macro, syntax, notation, axiom, sorry.
-/
import Derived.Test.YtjebfkgigijnhaaDoorChecked
import GoSem.Claim
import GoSem.ClaimJoined
import GoSem.ClaimMapViews
import Derived.JoinedTies
import Derived.KernelRfl
namespace Go.Proofs.YtjebfkgigijnhaaDoor
/- THE CELL 'sum', in the pinned program and in every row, IS THE sha256 OF THE DUMP (.gsa) THAT YtjebfkgigijnhaaDoorProg.lean LOADS. Nothing in Lean hashes anything: it is a label: what it is worth is what the hold of that sum in a sandbox is worth. -/
noncomputable def Tryd.pinned : Pinned := { name := "ytjebfkgigijnhaadoor", sum := "012b27a83b75b15189fa4b4c5ec81e8a4e8c910292a923fc8540452b8f9c53b9", checked := Tryd.checked }
namespace Rows
def none {H : Type} : Left H := { results := [], args := [] }

/- WHAT THE LISTED PACKAGE-LEVEL VARIABLES READ AS WHEN THE CALL BEGINS. Each datum BY PROGRAM (the guide's laid-datum.mjs) off the statement by which the dump's own 'gosem.cut.vars' lays the variable. In a bare row this is a premise. The card (YtjebfkgigijnhaaDoorCards.lean) ties it to the program's text. -/
def laid_tusk_mix_firstNumbers {H : Type} : DataW H := .agg [.lit (.int .u32 1779033703), .lit (.int .u32 3144134277), .lit (.int .u32 1013904242), .lit (.int .u32 2773480762), .lit (.int .u32 1359893119), .lit (.int .u32 2600822924), .lit (.int .u32 528734635), .lit (.int .u32 1541459225)]
def laid_tusk_mix_rows {H : Type} : DataW H := .agg [.agg [.lit (.int .u8 0), .lit (.int .u8 1), .lit (.int .u8 2), .lit (.int .u8 3), .lit (.int .u8 4), .lit (.int .u8 5), .lit (.int .u8 6), .lit (.int .u8 7), .lit (.int .u8 8), .lit (.int .u8 9), .lit (.int .u8 10), .lit (.int .u8 11), .lit (.int .u8 12), .lit (.int .u8 13), .lit (.int .u8 14), .lit (.int .u8 15)], .agg [.lit (.int .u8 14), .lit (.int .u8 10), .lit (.int .u8 4), .lit (.int .u8 8), .lit (.int .u8 9), .lit (.int .u8 15), .lit (.int .u8 13), .lit (.int .u8 6), .lit (.int .u8 1), .lit (.int .u8 12), .lit (.int .u8 0), .lit (.int .u8 2), .lit (.int .u8 11), .lit (.int .u8 7), .lit (.int .u8 5), .lit (.int .u8 3)], .agg [.lit (.int .u8 11), .lit (.int .u8 8), .lit (.int .u8 12), .lit (.int .u8 0), .lit (.int .u8 5), .lit (.int .u8 2), .lit (.int .u8 15), .lit (.int .u8 13), .lit (.int .u8 10), .lit (.int .u8 14), .lit (.int .u8 3), .lit (.int .u8 6), .lit (.int .u8 7), .lit (.int .u8 1), .lit (.int .u8 9), .lit (.int .u8 4)], .agg [.lit (.int .u8 7), .lit (.int .u8 9), .lit (.int .u8 3), .lit (.int .u8 1), .lit (.int .u8 13), .lit (.int .u8 12), .lit (.int .u8 11), .lit (.int .u8 14), .lit (.int .u8 2), .lit (.int .u8 6), .lit (.int .u8 5), .lit (.int .u8 10), .lit (.int .u8 4), .lit (.int .u8 0), .lit (.int .u8 15), .lit (.int .u8 8)], .agg [.lit (.int .u8 9), .lit (.int .u8 0), .lit (.int .u8 5), .lit (.int .u8 7), .lit (.int .u8 2), .lit (.int .u8 4), .lit (.int .u8 10), .lit (.int .u8 15), .lit (.int .u8 14), .lit (.int .u8 1), .lit (.int .u8 11), .lit (.int .u8 12), .lit (.int .u8 6), .lit (.int .u8 8), .lit (.int .u8 3), .lit (.int .u8 13)], .agg [.lit (.int .u8 2), .lit (.int .u8 12), .lit (.int .u8 6), .lit (.int .u8 10), .lit (.int .u8 0), .lit (.int .u8 11), .lit (.int .u8 8), .lit (.int .u8 3), .lit (.int .u8 4), .lit (.int .u8 13), .lit (.int .u8 7), .lit (.int .u8 5), .lit (.int .u8 15), .lit (.int .u8 14), .lit (.int .u8 1), .lit (.int .u8 9)], .agg [.lit (.int .u8 12), .lit (.int .u8 5), .lit (.int .u8 1), .lit (.int .u8 15), .lit (.int .u8 14), .lit (.int .u8 13), .lit (.int .u8 4), .lit (.int .u8 10), .lit (.int .u8 0), .lit (.int .u8 7), .lit (.int .u8 6), .lit (.int .u8 3), .lit (.int .u8 9), .lit (.int .u8 2), .lit (.int .u8 8), .lit (.int .u8 11)], .agg [.lit (.int .u8 13), .lit (.int .u8 11), .lit (.int .u8 7), .lit (.int .u8 14), .lit (.int .u8 12), .lit (.int .u8 1), .lit (.int .u8 3), .lit (.int .u8 9), .lit (.int .u8 5), .lit (.int .u8 0), .lit (.int .u8 15), .lit (.int .u8 4), .lit (.int .u8 8), .lit (.int .u8 6), .lit (.int .u8 2), .lit (.int .u8 10)], .agg [.lit (.int .u8 6), .lit (.int .u8 15), .lit (.int .u8 14), .lit (.int .u8 9), .lit (.int .u8 11), .lit (.int .u8 3), .lit (.int .u8 0), .lit (.int .u8 8), .lit (.int .u8 12), .lit (.int .u8 2), .lit (.int .u8 13), .lit (.int .u8 7), .lit (.int .u8 1), .lit (.int .u8 4), .lit (.int .u8 10), .lit (.int .u8 5)], .agg [.lit (.int .u8 10), .lit (.int .u8 2), .lit (.int .u8 8), .lit (.int .u8 4), .lit (.int .u8 7), .lit (.int .u8 6), .lit (.int .u8 1), .lit (.int .u8 5), .lit (.int .u8 15), .lit (.int .u8 11), .lit (.int .u8 9), .lit (.int .u8 14), .lit (.int .u8 3), .lit (.int .u8 12), .lit (.int .u8 13), .lit (.int .u8 0)]]

/-- 'tusklaw07.CertChecks': WHATEVER THE INPUT: true; the input reads as it did. -/
def certChecksSpec : ChangeSpec := { name := "certChecks", fn := fun _ => fun
  | [d1, d2] => { results := [.lit (.bool true)], args := [d1, d2] }
  | _ => none }
def certChecksRow : OpenClaim := { program := "ytjebfkgigijnhaadoor", sum := "012b27a83b75b15189fa4b4c5ec81e8a4e8c910292a923fc8540452b8f9c53b9", func := "tusk/tusklaw07.CertChecks", spec := "certChecks", inPlace := ["internal/abi.NoEscape"], recurses := true, named := ["tusk/mix.firstNumbers", "tusk/mix.rows"], apart := false, laid := [("tusk/mix.firstNumbers", laid_tusk_mix_firstNumbers), ("tusk/mix.rows", laid_tusk_mix_rows)] }
def CertChecksSaid : Prop := certChecksRow.holds Tryd.pinned (OpenSpec.ofChange certChecksSpec)

/-- ITS FALSE NEIGHBOUR: 'it returns false'. Refute it at one input. -/
def certChecksWrong : ChangeSpec := { name := "certChecks", fn := fun _ => fun
  | [d1, d2] => { results := [.lit (.bool false)], args := [d1, d2] }
  | _ => none }
def CertChecksWrongFalsely : Prop := certChecksRow.holds Tryd.pinned (OpenSpec.ofChange certChecksWrong)

/-- 'tusklaw07.CertCollects': WHATEVER THE INPUT: true; the input reads as it did. -/
def certCollectsSpec : ChangeSpec := { name := "certCollects", fn := fun _ => fun
  | [d1, d2, d3, d4] => { results := [.lit (.bool true)], args := [d1, d2, d3, d4] }
  | _ => none }
def certCollectsRow : OpenClaim := { program := "ytjebfkgigijnhaadoor", sum := "012b27a83b75b15189fa4b4c5ec81e8a4e8c910292a923fc8540452b8f9c53b9", func := "tusk/tusklaw07.CertCollects", spec := "certCollects", recurses := true, named := ["tusk/mix.firstNumbers", "tusk/mix.rows"], apart := false, laid := [("tusk/mix.firstNumbers", laid_tusk_mix_firstNumbers), ("tusk/mix.rows", laid_tusk_mix_rows)] }
def CertCollectsSaid : Prop := certCollectsRow.holds Tryd.pinned (OpenSpec.ofChange certCollectsSpec)

/-- ITS FALSE NEIGHBOUR: 'it returns false'. Refute it at one input. -/
def certCollectsWrong : ChangeSpec := { name := "certCollects", fn := fun _ => fun
  | [d1, d2, d3, d4] => { results := [.lit (.bool false)], args := [d1, d2, d3, d4] }
  | _ => none }
def CertCollectsWrongFalsely : Prop := certCollectsRow.holds Tryd.pinned (OpenSpec.ofChange certCollectsWrong)

/-- 'tusklaw07.CertMade': WHATEVER THE INPUT: true; the input reads as it did. -/
def certMadeSpec : ChangeSpec := { name := "certMade", fn := fun _ => fun
  | [d1, d2, d3] => { results := [.lit (.bool true)], args := [d1, d2, d3] }
  | _ => none }
def certMadeRow : OpenClaim := { program := "ytjebfkgigijnhaadoor", sum := "012b27a83b75b15189fa4b4c5ec81e8a4e8c910292a923fc8540452b8f9c53b9", func := "tusk/tusklaw07.CertMade", spec := "certMade", inPlace := ["internal/abi.NoEscape"], unfollowed := true, recurses := true, named := ["tusk/mix.firstNumbers", "tusk/mix.rows"], apart := false, laid := [("tusk/mix.firstNumbers", laid_tusk_mix_firstNumbers), ("tusk/mix.rows", laid_tusk_mix_rows)] }
def CertMadeSaid : Prop := certMadeRow.holds Tryd.pinned (OpenSpec.ofChange certMadeSpec)

/-- ITS FALSE NEIGHBOUR: 'it returns false'. Refute it at one input. -/
def certMadeWrong : ChangeSpec := { name := "certMade", fn := fun _ => fun
  | [d1, d2, d3] => { results := [.lit (.bool false)], args := [d1, d2, d3] }
  | _ => none }
def CertMadeWrongFalsely : Prop := certMadeRow.holds Tryd.pinned (OpenSpec.ofChange certMadeWrong)

/-- 'tusklaw07.CertBack': WHATEVER THE INPUT: true; the input reads as it did. -/
def certBackSpec : ChangeSpec := { name := "certBack", fn := fun _ => fun
  | [d] => { results := [.lit (.bool true)], args := [d] }
  | _ => none }
def certBackRow : OpenClaim := { program := "ytjebfkgigijnhaadoor", sum := "012b27a83b75b15189fa4b4c5ec81e8a4e8c910292a923fc8540452b8f9c53b9", func := "tusk/tusklaw07.CertBack", spec := "certBack", inPlace := ["internal/abi.NoEscape"], unfollowed := true, recurses := true, named := ["tusk/mix.firstNumbers", "tusk/mix.rows"], apart := false, laid := [("tusk/mix.firstNumbers", laid_tusk_mix_firstNumbers), ("tusk/mix.rows", laid_tusk_mix_rows)] }
def CertBackSaid : Prop := certBackRow.holds Tryd.pinned (OpenSpec.ofChange certBackSpec)

/-- ITS FALSE NEIGHBOUR: 'it returns false'. Refute it at one input. -/
def certBackWrong : ChangeSpec := { name := "certBack", fn := fun _ => fun
  | [d] => { results := [.lit (.bool false)], args := [d] }
  | _ => none }
def CertBackWrongFalsely : Prop := certBackRow.holds Tryd.pinned (OpenSpec.ofChange certBackWrong)

/-- 'tusklaw07.CertVotes': WHATEVER THE INPUT: true; the input reads as it did. -/
def certVotesSpec : ChangeSpec := { name := "certVotes", fn := fun _ => fun
  | [d1, d2, d3] => { results := [.lit (.bool true)], args := [d1, d2, d3] }
  | _ => none }
def certVotesRow : OpenClaim := { program := "ytjebfkgigijnhaadoor", sum := "012b27a83b75b15189fa4b4c5ec81e8a4e8c910292a923fc8540452b8f9c53b9", func := "tusk/tusklaw07.CertVotes", spec := "certVotes", inPlace := ["internal/abi.NoEscape"], recurses := true, named := ["tusk/mix.firstNumbers", "tusk/mix.rows"], apart := false, laid := [("tusk/mix.firstNumbers", laid_tusk_mix_firstNumbers), ("tusk/mix.rows", laid_tusk_mix_rows)] }
def CertVotesSaid : Prop := certVotesRow.holds Tryd.pinned (OpenSpec.ofChange certVotesSpec)

/-- ITS FALSE NEIGHBOUR: 'it returns false'. Refute it at one input. -/
def certVotesWrong : ChangeSpec := { name := "certVotes", fn := fun _ => fun
  | [d1, d2, d3] => { results := [.lit (.bool false)], args := [d1, d2, d3] }
  | _ => none }
def CertVotesWrongFalsely : Prop := certVotesRow.holds Tryd.pinned (OpenSpec.ofChange certVotesWrong)

/- THE SECOND FORM. 'bulk': how many values and letters a reading holds, each counted each time it is reached (what is shared counts as often as it is met; a slice's spare places count too). A statement '..UptoSaid' is the law's where the arguments, and the package variables that the reading takes, are together of bulk at most 1048576: NARROWER than '..Said'. Prove '..Said' where nothing that the law and all that it calls make is longer than what came in: it says more and counts as full. Else prove '..UptoSaid'. A law counts once. -/
mutual
def uptoBulk {H : Type} : DataW H → Nat
  | .lit (.string bytes) => bytes.length + 1
  | .lit _ => 1
  | .nil => 1
  | .ptr d => uptoBulk d + 1
  | .slice elems spare => uptoBulkAll elems + uptoBulkAll spare + 1
  | .agg parts => uptoBulkAll parts + 1
  | .iface _ d => uptoBulk d + 1
  | .map entries => uptoBulkEntries entries + 1
  | .held _ => 1
def uptoBulkAll {H : Type} : List (DataW H) → Nat
  | [] => 0
  | d :: r => uptoBulk d + uptoBulkAll r
def uptoBulkEntries {H : Type} : List (Lit × DataW H) → Nat
  | [] => 0
  | x :: r => uptoBulkEntry x + uptoBulkEntries r
def uptoBulkEntry {H : Type} : Lit × DataW H → Nat
  | (.string bytes, d) => bytes.length + uptoBulk d + 1
  | (_, d) => uptoBulk d + 1
 end
def uptoSmall : (H : Type) → List (DataW H) → Bool := fun _ ds => decide (uptoBulkAll ds ≤ 1048576)
def OpenSpec.upto (s : _root_.Go.ChangeSpec) : _root_.Go.OpenSpec := { _root_.Go.OpenSpec.ofChange s with cond := some uptoSmall }

/-- 'tusklaw07.CertChecks', WHERE WHAT IT READS IS OF BULK AT MOST 1048576: true; the input reads as it did. -/
def certChecksUptoRow : OpenClaim := { program := "ytjebfkgigijnhaadoor", sum := "012b27a83b75b15189fa4b4c5ec81e8a4e8c910292a923fc8540452b8f9c53b9", func := "tusk/tusklaw07.CertChecks", spec := "certChecks", inPlace := ["internal/abi.NoEscape"], recurses := true, named := ["tusk/mix.firstNumbers", "tusk/mix.rows"], apart := false, laid := [("tusk/mix.firstNumbers", laid_tusk_mix_firstNumbers), ("tusk/mix.rows", laid_tusk_mix_rows)], narrowed := true }
def CertChecksUptoSaid : Prop := certChecksUptoRow.holds Tryd.pinned (OpenSpec.upto certChecksSpec)

/-- 'tusklaw07.CertCollects', WHERE WHAT IT READS IS OF BULK AT MOST 1048576: true; the input reads as it did. -/
def certCollectsUptoRow : OpenClaim := { program := "ytjebfkgigijnhaadoor", sum := "012b27a83b75b15189fa4b4c5ec81e8a4e8c910292a923fc8540452b8f9c53b9", func := "tusk/tusklaw07.CertCollects", spec := "certCollects", recurses := true, named := ["tusk/mix.firstNumbers", "tusk/mix.rows"], apart := false, laid := [("tusk/mix.firstNumbers", laid_tusk_mix_firstNumbers), ("tusk/mix.rows", laid_tusk_mix_rows)], narrowed := true }
def CertCollectsUptoSaid : Prop := certCollectsUptoRow.holds Tryd.pinned (OpenSpec.upto certCollectsSpec)

/-- 'tusklaw07.CertMade', WHERE WHAT IT READS IS OF BULK AT MOST 1048576: true; the input reads as it did. -/
def certMadeUptoRow : OpenClaim := { program := "ytjebfkgigijnhaadoor", sum := "012b27a83b75b15189fa4b4c5ec81e8a4e8c910292a923fc8540452b8f9c53b9", func := "tusk/tusklaw07.CertMade", spec := "certMade", inPlace := ["internal/abi.NoEscape"], unfollowed := true, recurses := true, named := ["tusk/mix.firstNumbers", "tusk/mix.rows"], apart := false, laid := [("tusk/mix.firstNumbers", laid_tusk_mix_firstNumbers), ("tusk/mix.rows", laid_tusk_mix_rows)], narrowed := true }
def CertMadeUptoSaid : Prop := certMadeUptoRow.holds Tryd.pinned (OpenSpec.upto certMadeSpec)

/-- 'tusklaw07.CertBack', WHERE WHAT IT READS IS OF BULK AT MOST 1048576: true; the input reads as it did. -/
def certBackUptoRow : OpenClaim := { program := "ytjebfkgigijnhaadoor", sum := "012b27a83b75b15189fa4b4c5ec81e8a4e8c910292a923fc8540452b8f9c53b9", func := "tusk/tusklaw07.CertBack", spec := "certBack", inPlace := ["internal/abi.NoEscape"], unfollowed := true, recurses := true, named := ["tusk/mix.firstNumbers", "tusk/mix.rows"], apart := false, laid := [("tusk/mix.firstNumbers", laid_tusk_mix_firstNumbers), ("tusk/mix.rows", laid_tusk_mix_rows)], narrowed := true }
def CertBackUptoSaid : Prop := certBackUptoRow.holds Tryd.pinned (OpenSpec.upto certBackSpec)

/-- 'tusklaw07.CertVotes', WHERE WHAT IT READS IS OF BULK AT MOST 1048576: true; the input reads as it did. -/
def certVotesUptoRow : OpenClaim := { program := "ytjebfkgigijnhaadoor", sum := "012b27a83b75b15189fa4b4c5ec81e8a4e8c910292a923fc8540452b8f9c53b9", func := "tusk/tusklaw07.CertVotes", spec := "certVotes", inPlace := ["internal/abi.NoEscape"], recurses := true, named := ["tusk/mix.firstNumbers", "tusk/mix.rows"], apart := false, laid := [("tusk/mix.firstNumbers", laid_tusk_mix_firstNumbers), ("tusk/mix.rows", laid_tusk_mix_rows)], narrowed := true }
def CertVotesUptoSaid : Prop := certVotesUptoRow.holds Tryd.pinned (OpenSpec.upto certVotesSpec)

end Rows
end Go.Proofs.YtjebfkgigijnhaaDoor
