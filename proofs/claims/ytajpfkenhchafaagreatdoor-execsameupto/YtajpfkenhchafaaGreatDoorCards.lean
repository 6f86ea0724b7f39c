/-
  DERIVED. GIVEN WITH THE SEED: THE CARDS: each row of YtajpfkenhchafaaGreatDoorRows.lean that lists a variable, with what it lists TIED to the program's text (the seventh form; the later family's looks); each row that meets fmt, with fmt's text TOLD by the authors' own Lean function (tested against real Go, not proved from fmt's source: count such statements apart). THE CARD IS WHAT COUNTS. Prove the row's statement (the work); the ties are given (YtajpfkenhchafaaGreatDoorTie.lean); close each card by the builder's one call (the guide's Derived/Test/ToyasCard.lean, 'card_holds'). Laid BY PROGRAM, IN A SANDBOX (cutbox-door.mjs). By AI agents, Wed Nov 11 2026. No macro, syntax, notation, axiom, sorry.
-/
import Derived.Test.YtajpfkenhchafaaGreatDoorRows
import GoSem.ClaimSeven
namespace Go.Proofs.YtajpfkenhchafaaGreatDoor
namespace Rows

/-- THE TIED CARD OF 'tusklaw23.ExecRuns'. -/
def execRunsCard : Claim7 := { stood := { row := execRunsRow, standIns := [], harness := (true, "183b17922d51dcf39495ff3feb06d9605b7bfc4995c33174130b2f78865611d7"), looks := true }, kinds := [], alts := [], laidByText := true, laidKinds := [.data, .data], laidTests := true, laidLooks := .later }
def ExecRunsCardSaid : Prop := Claim7.holds Tryz.pinned (.plain (OpenSpec.ofChange execRunsSpec)) execRunsCard

/-- THE TIED CARD OF 'tusklaw23.ExecOrders'. -/
def execOrdersCard : Claim7 := { stood := { row := execOrdersRow, standIns := [], harness := (true, "183b17922d51dcf39495ff3feb06d9605b7bfc4995c33174130b2f78865611d7"), looks := true }, kinds := [], alts := [], laidByText := true, laidKinds := [.data, .data], laidTests := true, laidLooks := .later }
def ExecOrdersCardSaid : Prop := Claim7.holds Tryz.pinned (.plain (OpenSpec.ofChange execOrdersSpec)) execOrdersCard

/-- THE TIED CARD OF 'tusklaw23.ExecSame'. -/
def execSameCard : Claim7 := { stood := { row := execSameRow, standIns := [], harness := (true, "183b17922d51dcf39495ff3feb06d9605b7bfc4995c33174130b2f78865611d7"), looks := true }, kinds := [], alts := [], laidByText := true, laidKinds := [.data, .data], laidTests := true, laidLooks := .later }
def ExecSameCardSaid : Prop := Claim7.holds Tryz.pinned (.plain (OpenSpec.ofChange execSameSpec)) execSameCard

/-- THE SECOND FORM's CARD OF 'tusklaw23.ExecRuns'. -/
def execRunsUptoCard : Claim7 := { stood := { row := execRunsUptoRow, standIns := [], harness := (true, "183b17922d51dcf39495ff3feb06d9605b7bfc4995c33174130b2f78865611d7"), looks := true }, kinds := [], alts := [], laidByText := true, laidKinds := [.data, .data], laidTests := true, laidLooks := .later }
def ExecRunsUptoCardSaid : Prop := Claim7.holds Tryz.pinned (.plain (OpenSpec.upto execRunsSpec)) execRunsUptoCard

/-- THE SECOND FORM's CARD OF 'tusklaw23.ExecOrders'. -/
def execOrdersUptoCard : Claim7 := { stood := { row := execOrdersUptoRow, standIns := [], harness := (true, "183b17922d51dcf39495ff3feb06d9605b7bfc4995c33174130b2f78865611d7"), looks := true }, kinds := [], alts := [], laidByText := true, laidKinds := [.data, .data], laidTests := true, laidLooks := .later }
def ExecOrdersUptoCardSaid : Prop := Claim7.holds Tryz.pinned (.plain (OpenSpec.upto execOrdersSpec)) execOrdersUptoCard

/-- THE SECOND FORM's CARD OF 'tusklaw23.ExecSame'. -/
def execSameUptoCard : Claim7 := { stood := { row := execSameUptoRow, standIns := [], harness := (true, "183b17922d51dcf39495ff3feb06d9605b7bfc4995c33174130b2f78865611d7"), looks := true }, kinds := [], alts := [], laidByText := true, laidKinds := [.data, .data], laidTests := true, laidLooks := .later }
def ExecSameUptoCardSaid : Prop := Claim7.holds Tryz.pinned (.plain (OpenSpec.upto execSameSpec)) execSameUptoCard
end Rows
end Go.Proofs.YtajpfkenhchafaaGreatDoor
