/-
  DERIVED. GIVEN WITH THE SEED: THE CARDS: each row of YthhildeocedpiaaDoorRows.lean that lists a variable, with what it lists TIED to the program's text (the seventh form; the later family's looks); each row that meets fmt, with fmt's text TOLD by the authors' own Lean function (tested against real Go, not proved from fmt's source: count such statements apart). THE CARD IS WHAT COUNTS. Prove the row's statement (the work); the ties are given (YthhildeocedpiaaDoorTie.lean); close each card by the builder's one call (the guide's Derived/Test/ToyasCard.lean, 'card_holds'). Laid BY PROGRAM, IN A SANDBOX (cutbox-door.mjs). By AI agents, Wed Nov 11 2026. No macro, syntax, notation, axiom, sorry.
-/
import Derived.Test.YthhildeocedpiaaDoorRows
import GoSem.ClaimSeven
namespace Go.Proofs.YthhildeocedpiaaDoor
namespace Rows

/-- THE TIED CARD OF 'tusklaw06.HeaderBack'. -/
def headerBackCard : Claim7 := { stood := { row := headerBackRow, standIns := [], harness := (true, "fe3a3c82db502ec98a5674e3a663425c087db2b55f1007a894bd4e8753e70f41"), looks := false }, kinds := [], alts := [], laidByText := true, laidKinds := [.data, .data], laidTests := true, laidLooks := .later }
def HeaderBackCardSaid : Prop := Claim7.holds Tryd.pinned (.plain (OpenSpec.ofChange headerBackSpec)) headerBackCard

/-- THE TIED CARD OF 'tusklaw08.BlockBack'. -/
def blockBackCard : Claim7 := { stood := { row := blockBackRow, standIns := [], harness := (true, "fe3a3c82db502ec98a5674e3a663425c087db2b55f1007a894bd4e8753e70f41"), looks := false }, kinds := [], alts := [], laidByText := true, laidKinds := [.data, .data], laidTests := true, laidLooks := .later }
def BlockBackCardSaid : Prop := Claim7.holds Tryd.pinned (.plain (OpenSpec.ofChange blockBackSpec)) blockBackCard

/-- THE TIED CARD OF 'tusklaw17.ChainLine'. -/
def chainLineCard : Claim7 := { stood := { row := chainLineRow, standIns := [], harness := (true, "fe3a3c82db502ec98a5674e3a663425c087db2b55f1007a894bd4e8753e70f41"), looks := false }, kinds := [], alts := [], laidByText := true, laidKinds := [.data, .data], laidTests := true, laidLooks := .later }
def ChainLineCardSaid : Prop := Claim7.holds Tryd.pinned (.plain (OpenSpec.ofChange chainLineSpec)) chainLineCard

/-- THE TIED CARD OF 'tusklaw17.ChainSkips'. -/
def chainSkipsCard : Claim7 := { stood := { row := chainSkipsRow, standIns := [], harness := (true, "fe3a3c82db502ec98a5674e3a663425c087db2b55f1007a894bd4e8753e70f41"), looks := false }, kinds := [], alts := [], laidByText := true, laidKinds := [.data, .data], laidTests := true, laidLooks := .later }
def ChainSkipsCardSaid : Prop := Claim7.holds Tryd.pinned (.plain (OpenSpec.ofChange chainSkipsSpec)) chainSkipsCard

/-- THE SECOND FORM's CARD OF 'tusklaw06.HeaderBack'. -/
def headerBackUptoCard : Claim7 := { stood := { row := headerBackUptoRow, standIns := [], harness := (true, "fe3a3c82db502ec98a5674e3a663425c087db2b55f1007a894bd4e8753e70f41"), looks := false }, kinds := [], alts := [], laidByText := true, laidKinds := [.data, .data], laidTests := true, laidLooks := .later }
def HeaderBackUptoCardSaid : Prop := Claim7.holds Tryd.pinned (.plain (OpenSpec.upto headerBackSpec)) headerBackUptoCard

/-- THE SECOND FORM's CARD OF 'tusklaw08.BlockBack'. -/
def blockBackUptoCard : Claim7 := { stood := { row := blockBackUptoRow, standIns := [], harness := (true, "fe3a3c82db502ec98a5674e3a663425c087db2b55f1007a894bd4e8753e70f41"), looks := false }, kinds := [], alts := [], laidByText := true, laidKinds := [.data, .data], laidTests := true, laidLooks := .later }
def BlockBackUptoCardSaid : Prop := Claim7.holds Tryd.pinned (.plain (OpenSpec.upto blockBackSpec)) blockBackUptoCard

/-- THE SECOND FORM's CARD OF 'tusklaw17.ChainLine'. -/
def chainLineUptoCard : Claim7 := { stood := { row := chainLineUptoRow, standIns := [], harness := (true, "fe3a3c82db502ec98a5674e3a663425c087db2b55f1007a894bd4e8753e70f41"), looks := false }, kinds := [], alts := [], laidByText := true, laidKinds := [.data, .data], laidTests := true, laidLooks := .later }
def ChainLineUptoCardSaid : Prop := Claim7.holds Tryd.pinned (.plain (OpenSpec.upto chainLineSpec)) chainLineUptoCard

/-- THE SECOND FORM's CARD OF 'tusklaw17.ChainSkips'. -/
def chainSkipsUptoCard : Claim7 := { stood := { row := chainSkipsUptoRow, standIns := [], harness := (true, "fe3a3c82db502ec98a5674e3a663425c087db2b55f1007a894bd4e8753e70f41"), looks := false }, kinds := [], alts := [], laidByText := true, laidKinds := [.data, .data], laidTests := true, laidLooks := .later }
def ChainSkipsUptoCardSaid : Prop := Claim7.holds Tryd.pinned (.plain (OpenSpec.upto chainSkipsSpec)) chainSkipsUptoCard
end Rows
end Go.Proofs.YthhildeocedpiaaDoor
