/-
  NARROWER THAN 'FOR EVERY INPUT', by the rows' own cells (each row's printed sentence says how): AuthTables: laid · AuthTags: laid · AuthEnough: laid · AuthMeet: laid · AuthCuts: laid · AuthSame: laid.
  DERIVED. THE GIVEN ROWS OF THIS SEAT. 6 by the template 'for every input the law returns true; each argument reads behind the call as it read before'; 0 by the template 'total and deterministic' (their statements: YtlbibhngfnllbaaDoorTotals.lean).
  GIVEN WITH THE SEED: the statements are not yours to turn. If you find one false, say at which input.
  Laid BY PROGRAM, IN A SANDBOX (cutbox-rows.mjs): the forced cells as the released guide's own fill.sh prints them over the translation 8bb27ac50a8bedec… (all of the seat's roots in one cut). By AI agents, Wed Nov 11 2026. No macro, syntax, notation, axiom, sorry.
-/
import Derived.Test.YtlbibhngfnllbaaDoorChecked
import GoSem.Claim
import GoSem.ClaimJoined
import GoSem.ClaimMapViews
import Derived.JoinedTies
import Derived.KernelRfl
namespace Go.Proofs.YtlbibhngfnllbaaDoor
/- THE CELL 'sum', in the pinned program and in every row, IS THE sha256 OF THE DUMP (.gsa) THAT YtlbibhngfnllbaaDoorProg.lean LOADS. Nothing in Lean hashes anything: it is a label: what it is worth is what the hold of that sum in a sandbox is worth. -/
noncomputable def Tryd.pinned : Pinned := { name := "ytlbibhngfnllbaadoor", sum := "8bb27ac50a8bedec365796587801fb47753819a09ca8997fe6e172c221a82227", checked := Tryd.checked }
namespace Rows
def none {H : Type} : Left H := { results := [], args := [] }

/- WHAT THE LISTED PACKAGE-LEVEL VARIABLES READ AS WHEN THE CALL BEGINS. Each datum BY PROGRAM (the guide's laid-datum.mjs) off the statement by which the dump's own 'gosem.cut.vars' lays the variable. In a bare row this is a premise. The card (YtlbibhngfnllbaaDoorCards.lean) ties it to the program's text. -/
def laid_tusk_mix_firstNumbers {H : Type} : DataW H := .agg [.lit (.int .u32 1779033703), .lit (.int .u32 3144134277), .lit (.int .u32 1013904242), .lit (.int .u32 2773480762), .lit (.int .u32 1359893119), .lit (.int .u32 2600822924), .lit (.int .u32 528734635), .lit (.int .u32 1541459225)]
def laid_tusk_mix_rows {H : Type} : DataW H := .agg [.agg [.lit (.int .u8 0), .lit (.int .u8 1), .lit (.int .u8 2), .lit (.int .u8 3), .lit (.int .u8 4), .lit (.int .u8 5), .lit (.int .u8 6), .lit (.int .u8 7), .lit (.int .u8 8), .lit (.int .u8 9), .lit (.int .u8 10), .lit (.int .u8 11), .lit (.int .u8 12), .lit (.int .u8 13), .lit (.int .u8 14), .lit (.int .u8 15)], .agg [.lit (.int .u8 14), .lit (.int .u8 10), .lit (.int .u8 4), .lit (.int .u8 8), .lit (.int .u8 9), .lit (.int .u8 15), .lit (.int .u8 13), .lit (.int .u8 6), .lit (.int .u8 1), .lit (.int .u8 12), .lit (.int .u8 0), .lit (.int .u8 2), .lit (.int .u8 11), .lit (.int .u8 7), .lit (.int .u8 5), .lit (.int .u8 3)], .agg [.lit (.int .u8 11), .lit (.int .u8 8), .lit (.int .u8 12), .lit (.int .u8 0), .lit (.int .u8 5), .lit (.int .u8 2), .lit (.int .u8 15), .lit (.int .u8 13), .lit (.int .u8 10), .lit (.int .u8 14), .lit (.int .u8 3), .lit (.int .u8 6), .lit (.int .u8 7), .lit (.int .u8 1), .lit (.int .u8 9), .lit (.int .u8 4)], .agg [.lit (.int .u8 7), .lit (.int .u8 9), .lit (.int .u8 3), .lit (.int .u8 1), .lit (.int .u8 13), .lit (.int .u8 12), .lit (.int .u8 11), .lit (.int .u8 14), .lit (.int .u8 2), .lit (.int .u8 6), .lit (.int .u8 5), .lit (.int .u8 10), .lit (.int .u8 4), .lit (.int .u8 0), .lit (.int .u8 15), .lit (.int .u8 8)], .agg [.lit (.int .u8 9), .lit (.int .u8 0), .lit (.int .u8 5), .lit (.int .u8 7), .lit (.int .u8 2), .lit (.int .u8 4), .lit (.int .u8 10), .lit (.int .u8 15), .lit (.int .u8 14), .lit (.int .u8 1), .lit (.int .u8 11), .lit (.int .u8 12), .lit (.int .u8 6), .lit (.int .u8 8), .lit (.int .u8 3), .lit (.int .u8 13)], .agg [.lit (.int .u8 2), .lit (.int .u8 12), .lit (.int .u8 6), .lit (.int .u8 10), .lit (.int .u8 0), .lit (.int .u8 11), .lit (.int .u8 8), .lit (.int .u8 3), .lit (.int .u8 4), .lit (.int .u8 13), .lit (.int .u8 7), .lit (.int .u8 5), .lit (.int .u8 15), .lit (.int .u8 14), .lit (.int .u8 1), .lit (.int .u8 9)], .agg [.lit (.int .u8 12), .lit (.int .u8 5), .lit (.int .u8 1), .lit (.int .u8 15), .lit (.int .u8 14), .lit (.int .u8 13), .lit (.int .u8 4), .lit (.int .u8 10), .lit (.int .u8 0), .lit (.int .u8 7), .lit (.int .u8 6), .lit (.int .u8 3), .lit (.int .u8 9), .lit (.int .u8 2), .lit (.int .u8 8), .lit (.int .u8 11)], .agg [.lit (.int .u8 13), .lit (.int .u8 11), .lit (.int .u8 7), .lit (.int .u8 14), .lit (.int .u8 12), .lit (.int .u8 1), .lit (.int .u8 3), .lit (.int .u8 9), .lit (.int .u8 5), .lit (.int .u8 0), .lit (.int .u8 15), .lit (.int .u8 4), .lit (.int .u8 8), .lit (.int .u8 6), .lit (.int .u8 2), .lit (.int .u8 10)], .agg [.lit (.int .u8 6), .lit (.int .u8 15), .lit (.int .u8 14), .lit (.int .u8 9), .lit (.int .u8 11), .lit (.int .u8 3), .lit (.int .u8 0), .lit (.int .u8 8), .lit (.int .u8 12), .lit (.int .u8 2), .lit (.int .u8 13), .lit (.int .u8 7), .lit (.int .u8 1), .lit (.int .u8 4), .lit (.int .u8 10), .lit (.int .u8 5)], .agg [.lit (.int .u8 10), .lit (.int .u8 2), .lit (.int .u8 8), .lit (.int .u8 4), .lit (.int .u8 7), .lit (.int .u8 6), .lit (.int .u8 1), .lit (.int .u8 5), .lit (.int .u8 15), .lit (.int .u8 11), .lit (.int .u8 9), .lit (.int .u8 14), .lit (.int .u8 3), .lit (.int .u8 12), .lit (.int .u8 13), .lit (.int .u8 0)]]

/-- 'tusklaw03.AuthTables': WHATEVER THE INPUT: true; the input reads as it did. -/
def authTablesSpec : ChangeSpec := { name := "authTables", fn := fun _ => fun
  | [d1, d2] => { results := [.lit (.bool true)], args := [d1, d2] }
  | _ => none }
def authTablesRow : OpenClaim := { program := "ytlbibhngfnllbaadoor", sum := "8bb27ac50a8bedec365796587801fb47753819a09ca8997fe6e172c221a82227", func := "tusk/tusklaw03.AuthTables", spec := "authTables", recurses := true, named := ["tusk/mix.firstNumbers", "tusk/mix.rows"], apart := false, laid := [("tusk/mix.firstNumbers", laid_tusk_mix_firstNumbers), ("tusk/mix.rows", laid_tusk_mix_rows)] }
def AuthTablesSaid : Prop := authTablesRow.holds Tryd.pinned (OpenSpec.ofChange authTablesSpec)

/-- ITS FALSE NEIGHBOUR: 'it returns false'. Refute it at one input. -/
def authTablesWrong : ChangeSpec := { name := "authTables", fn := fun _ => fun
  | [d1, d2] => { results := [.lit (.bool false)], args := [d1, d2] }
  | _ => none }
def AuthTablesWrongFalsely : Prop := authTablesRow.holds Tryd.pinned (OpenSpec.ofChange authTablesWrong)

/-- 'tusklaw03.AuthTags': WHATEVER THE INPUT: true; the input reads as it did. -/
def authTagsSpec : ChangeSpec := { name := "authTags", fn := fun _ => fun
  | [d1, d2, d3, d4, d5] => { results := [.lit (.bool true)], args := [d1, d2, d3, d4, d5] }
  | _ => none }
def authTagsRow : OpenClaim := { program := "ytlbibhngfnllbaadoor", sum := "8bb27ac50a8bedec365796587801fb47753819a09ca8997fe6e172c221a82227", func := "tusk/tusklaw03.AuthTags", spec := "authTags", recurses := true, named := ["tusk/mix.firstNumbers", "tusk/mix.rows"], apart := false, laid := [("tusk/mix.firstNumbers", laid_tusk_mix_firstNumbers), ("tusk/mix.rows", laid_tusk_mix_rows)] }
def AuthTagsSaid : Prop := authTagsRow.holds Tryd.pinned (OpenSpec.ofChange authTagsSpec)

/-- ITS FALSE NEIGHBOUR: 'it returns false'. Refute it at one input. -/
def authTagsWrong : ChangeSpec := { name := "authTags", fn := fun _ => fun
  | [d1, d2, d3, d4, d5] => { results := [.lit (.bool false)], args := [d1, d2, d3, d4, d5] }
  | _ => none }
def AuthTagsWrongFalsely : Prop := authTagsRow.holds Tryd.pinned (OpenSpec.ofChange authTagsWrong)

/-- 'tusklaw03.AuthEnough': WHATEVER THE INPUT: true; the input reads as it did. -/
def authEnoughSpec : ChangeSpec := { name := "authEnough", fn := fun _ => fun
  | [d1, d2, d3, d4] => { results := [.lit (.bool true)], args := [d1, d2, d3, d4] }
  | _ => none }
def authEnoughRow : OpenClaim := { program := "ytlbibhngfnllbaadoor", sum := "8bb27ac50a8bedec365796587801fb47753819a09ca8997fe6e172c221a82227", func := "tusk/tusklaw03.AuthEnough", spec := "authEnough", recurses := true, named := ["tusk/mix.firstNumbers", "tusk/mix.rows"], apart := false, laid := [("tusk/mix.firstNumbers", laid_tusk_mix_firstNumbers), ("tusk/mix.rows", laid_tusk_mix_rows)] }
def AuthEnoughSaid : Prop := authEnoughRow.holds Tryd.pinned (OpenSpec.ofChange authEnoughSpec)

/-- ITS FALSE NEIGHBOUR: 'it returns false'. Refute it at one input. -/
def authEnoughWrong : ChangeSpec := { name := "authEnough", fn := fun _ => fun
  | [d1, d2, d3, d4] => { results := [.lit (.bool false)], args := [d1, d2, d3, d4] }
  | _ => none }
def AuthEnoughWrongFalsely : Prop := authEnoughRow.holds Tryd.pinned (OpenSpec.ofChange authEnoughWrong)

/-- 'tusklaw03.AuthMeet': WHATEVER THE INPUT: true; the input reads as it did. -/
def authMeetSpec : ChangeSpec := { name := "authMeet", fn := fun _ => fun
  | [d1, d2, d3] => { results := [.lit (.bool true)], args := [d1, d2, d3] }
  | _ => none }
def authMeetRow : OpenClaim := { program := "ytlbibhngfnllbaadoor", sum := "8bb27ac50a8bedec365796587801fb47753819a09ca8997fe6e172c221a82227", func := "tusk/tusklaw03.AuthMeet", spec := "authMeet", named := ["tusk/mix.firstNumbers", "tusk/mix.rows"], apart := false, laid := [("tusk/mix.firstNumbers", laid_tusk_mix_firstNumbers), ("tusk/mix.rows", laid_tusk_mix_rows)] }
def AuthMeetSaid : Prop := authMeetRow.holds Tryd.pinned (OpenSpec.ofChange authMeetSpec)

/-- ITS FALSE NEIGHBOUR: 'it returns false'. Refute it at one input. -/
def authMeetWrong : ChangeSpec := { name := "authMeet", fn := fun _ => fun
  | [d1, d2, d3] => { results := [.lit (.bool false)], args := [d1, d2, d3] }
  | _ => none }
def AuthMeetWrongFalsely : Prop := authMeetRow.holds Tryd.pinned (OpenSpec.ofChange authMeetWrong)

/-- 'tusklaw03.AuthCuts': WHATEVER THE INPUT: true; the input reads as it did. -/
def authCutsSpec : ChangeSpec := { name := "authCuts", fn := fun _ => fun
  | [d1, d2, d3] => { results := [.lit (.bool true)], args := [d1, d2, d3] }
  | _ => none }
def authCutsRow : OpenClaim := { program := "ytlbibhngfnllbaadoor", sum := "8bb27ac50a8bedec365796587801fb47753819a09ca8997fe6e172c221a82227", func := "tusk/tusklaw03.AuthCuts", spec := "authCuts", named := ["tusk/mix.firstNumbers", "tusk/mix.rows"], apart := false, laid := [("tusk/mix.firstNumbers", laid_tusk_mix_firstNumbers), ("tusk/mix.rows", laid_tusk_mix_rows)] }
def AuthCutsSaid : Prop := authCutsRow.holds Tryd.pinned (OpenSpec.ofChange authCutsSpec)

/-- ITS FALSE NEIGHBOUR: 'it returns false'. Refute it at one input. -/
def authCutsWrong : ChangeSpec := { name := "authCuts", fn := fun _ => fun
  | [d1, d2, d3] => { results := [.lit (.bool false)], args := [d1, d2, d3] }
  | _ => none }
def AuthCutsWrongFalsely : Prop := authCutsRow.holds Tryd.pinned (OpenSpec.ofChange authCutsWrong)

/-- 'tusklaw03.AuthSame': WHATEVER THE INPUT: true; the input reads as it did. -/
def authSameSpec : ChangeSpec := { name := "authSame", fn := fun _ => fun
  | [d1, d2, d3, d4, d5] => { results := [.lit (.bool true)], args := [d1, d2, d3, d4, d5] }
  | _ => none }
def authSameRow : OpenClaim := { program := "ytlbibhngfnllbaadoor", sum := "8bb27ac50a8bedec365796587801fb47753819a09ca8997fe6e172c221a82227", func := "tusk/tusklaw03.AuthSame", spec := "authSame", named := ["tusk/mix.firstNumbers", "tusk/mix.rows"], apart := false, laid := [("tusk/mix.firstNumbers", laid_tusk_mix_firstNumbers), ("tusk/mix.rows", laid_tusk_mix_rows)] }
def AuthSameSaid : Prop := authSameRow.holds Tryd.pinned (OpenSpec.ofChange authSameSpec)

/-- ITS FALSE NEIGHBOUR: 'it returns false'. Refute it at one input. -/
def authSameWrong : ChangeSpec := { name := "authSame", fn := fun _ => fun
  | [d1, d2, d3, d4, d5] => { results := [.lit (.bool false)], args := [d1, d2, d3, d4, d5] }
  | _ => none }
def AuthSameWrongFalsely : Prop := authSameRow.holds Tryd.pinned (OpenSpec.ofChange authSameWrong)

/- THE SECOND FORM. 'bulk': how many values and letters a reading holds, each counted each time it is reached (what is shared counts as often as it is met; a slice's spare places count too). A statement '..UptoSaid' is the law's where the arguments, and the package variables that the reading takes, are together of bulk at most 1048576: NARROWER than '..Said'. Prove '..Said' where nothing that the law and all that it calls make is longer than what came in: it says more and counts as full. Else prove '..UptoSaid'. A law counts once. -/
mutual
def uptoBulk {H : Type} : DataW H → Nat
  | .lit (.string bytes) => bytes.length + 1
  | .lit _ => 1
  | .nil => 1
  | .ptr d => uptoBulk d + 1
  | .slice elems spare => uptoBulkAll elems + uptoBulkAll spare + 1
  | .agg parts => uptoBulkAll parts + 1
  | .iface _ d => uptoBulk d + 1
  | .map entries => uptoBulkEntries entries + 1
  | .held _ => 1
def uptoBulkAll {H : Type} : List (DataW H) → Nat
  | [] => 0
  | d :: r => uptoBulk d + uptoBulkAll r
def uptoBulkEntries {H : Type} : List (Lit × DataW H) → Nat
  | [] => 0
  | x :: r => uptoBulkEntry x + uptoBulkEntries r
def uptoBulkEntry {H : Type} : Lit × DataW H → Nat
  | (.string bytes, d) => bytes.length + uptoBulk d + 1
  | (_, d) => uptoBulk d + 1
 end
def uptoSmall : (H : Type) → List (DataW H) → Bool := fun _ ds => decide (uptoBulkAll ds ≤ 1048576)
def OpenSpec.upto (s : _root_.Go.ChangeSpec) : _root_.Go.OpenSpec := { _root_.Go.OpenSpec.ofChange s with cond := some uptoSmall }

/-- 'tusklaw03.AuthTables', WHERE WHAT IT READS IS OF BULK AT MOST 1048576: true; the input reads as it did. -/
def authTablesUptoRow : OpenClaim := { program := "ytlbibhngfnllbaadoor", sum := "8bb27ac50a8bedec365796587801fb47753819a09ca8997fe6e172c221a82227", func := "tusk/tusklaw03.AuthTables", spec := "authTables", recurses := true, named := ["tusk/mix.firstNumbers", "tusk/mix.rows"], apart := false, laid := [("tusk/mix.firstNumbers", laid_tusk_mix_firstNumbers), ("tusk/mix.rows", laid_tusk_mix_rows)], narrowed := true }
def AuthTablesUptoSaid : Prop := authTablesUptoRow.holds Tryd.pinned (OpenSpec.upto authTablesSpec)

/-- 'tusklaw03.AuthTags', WHERE WHAT IT READS IS OF BULK AT MOST 1048576: true; the input reads as it did. -/
def authTagsUptoRow : OpenClaim := { program := "ytlbibhngfnllbaadoor", sum := "8bb27ac50a8bedec365796587801fb47753819a09ca8997fe6e172c221a82227", func := "tusk/tusklaw03.AuthTags", spec := "authTags", recurses := true, named := ["tusk/mix.firstNumbers", "tusk/mix.rows"], apart := false, laid := [("tusk/mix.firstNumbers", laid_tusk_mix_firstNumbers), ("tusk/mix.rows", laid_tusk_mix_rows)], narrowed := true }
def AuthTagsUptoSaid : Prop := authTagsUptoRow.holds Tryd.pinned (OpenSpec.upto authTagsSpec)

/-- 'tusklaw03.AuthEnough', WHERE WHAT IT READS IS OF BULK AT MOST 1048576: true; the input reads as it did. -/
def authEnoughUptoRow : OpenClaim := { program := "ytlbibhngfnllbaadoor", sum := "8bb27ac50a8bedec365796587801fb47753819a09ca8997fe6e172c221a82227", func := "tusk/tusklaw03.AuthEnough", spec := "authEnough", recurses := true, named := ["tusk/mix.firstNumbers", "tusk/mix.rows"], apart := false, laid := [("tusk/mix.firstNumbers", laid_tusk_mix_firstNumbers), ("tusk/mix.rows", laid_tusk_mix_rows)], narrowed := true }
def AuthEnoughUptoSaid : Prop := authEnoughUptoRow.holds Tryd.pinned (OpenSpec.upto authEnoughSpec)

/-- 'tusklaw03.AuthMeet', WHERE WHAT IT READS IS OF BULK AT MOST 1048576: true; the input reads as it did. -/
def authMeetUptoRow : OpenClaim := { program := "ytlbibhngfnllbaadoor", sum := "8bb27ac50a8bedec365796587801fb47753819a09ca8997fe6e172c221a82227", func := "tusk/tusklaw03.AuthMeet", spec := "authMeet", named := ["tusk/mix.firstNumbers", "tusk/mix.rows"], apart := false, laid := [("tusk/mix.firstNumbers", laid_tusk_mix_firstNumbers), ("tusk/mix.rows", laid_tusk_mix_rows)], narrowed := true }
def AuthMeetUptoSaid : Prop := authMeetUptoRow.holds Tryd.pinned (OpenSpec.upto authMeetSpec)

/-- 'tusklaw03.AuthCuts', WHERE WHAT IT READS IS OF BULK AT MOST 1048576: true; the input reads as it did. -/
def authCutsUptoRow : OpenClaim := { program := "ytlbibhngfnllbaadoor", sum := "8bb27ac50a8bedec365796587801fb47753819a09ca8997fe6e172c221a82227", func := "tusk/tusklaw03.AuthCuts", spec := "authCuts", named := ["tusk/mix.firstNumbers", "tusk/mix.rows"], apart := false, laid := [("tusk/mix.firstNumbers", laid_tusk_mix_firstNumbers), ("tusk/mix.rows", laid_tusk_mix_rows)], narrowed := true }
def AuthCutsUptoSaid : Prop := authCutsUptoRow.holds Tryd.pinned (OpenSpec.upto authCutsSpec)

/-- 'tusklaw03.AuthSame', WHERE WHAT IT READS IS OF BULK AT MOST 1048576: true; the input reads as it did. -/
def authSameUptoRow : OpenClaim := { program := "ytlbibhngfnllbaadoor", sum := "8bb27ac50a8bedec365796587801fb47753819a09ca8997fe6e172c221a82227", func := "tusk/tusklaw03.AuthSame", spec := "authSame", named := ["tusk/mix.firstNumbers", "tusk/mix.rows"], apart := false, laid := [("tusk/mix.firstNumbers", laid_tusk_mix_firstNumbers), ("tusk/mix.rows", laid_tusk_mix_rows)], narrowed := true }
def AuthSameUptoSaid : Prop := authSameUptoRow.holds Tryd.pinned (OpenSpec.upto authSameSpec)

end Rows
end Go.Proofs.YtlbibhngfnllbaaDoor
