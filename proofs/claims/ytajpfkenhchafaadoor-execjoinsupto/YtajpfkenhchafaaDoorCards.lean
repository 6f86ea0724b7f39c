/-
  DERIVED. GIVEN WITH THE SEED: THE CARDS: each row of YtajpfkenhchafaaDoorRows.lean that lists a variable, with what it lists TIED to the program's text (the seventh form; the later family's looks); each row that meets fmt, with fmt's text TOLD by the authors' own Lean function (tested against real Go, not proved from fmt's source: count such statements apart). THE CARD IS WHAT COUNTS. Prove the row's statement (the work); the ties are given (YtajpfkenhchafaaDoorTie.lean); close each card by the builder's one call (the guide's Derived/Test/ToyasCard.lean, 'card_holds'). Laid BY PROGRAM, IN A SANDBOX (cutbox-door.mjs). By AI agents, Wed Nov 11 2026. No macro, syntax, notation, axiom, sorry.
-/
import Derived.Test.YtajpfkenhchafaaDoorRows
import GoSem.ClaimSeven
namespace Go.Proofs.YtajpfkenhchafaaDoor
namespace Rows

/-- THE TIED CARD OF 'tusklaw23.ExecAny'. -/
def execAnyCard : Claim7 := { stood := { row := execAnyRow, standIns := [], harness := (true, "63c74406102eb71d750242ea77a9e758dbb44944e77fd75c434c16d49e5861e2"), looks := true }, kinds := [], alts := [], laidByText := true, laidKinds := [.data, .data], laidTests := true, laidLooks := .later }
def ExecAnyCardSaid : Prop := Claim7.holds Tryd.pinned (.plain (OpenSpec.ofChange execAnySpec)) execAnyCard

/-- THE TIED CARD OF 'tusklaw23.ExecJoins'. -/
def execJoinsCard : Claim7 := { stood := { row := execJoinsRow, standIns := [], harness := (true, "63c74406102eb71d750242ea77a9e758dbb44944e77fd75c434c16d49e5861e2"), looks := true }, kinds := [], alts := [], laidByText := true, laidKinds := [.data, .data], laidTests := true, laidLooks := .later }
def ExecJoinsCardSaid : Prop := Claim7.holds Tryd.pinned (.plain (OpenSpec.ofChange execJoinsSpec)) execJoinsCard

/-- THE TIED CARD OF 'tusklaw23.ExecStates'. -/
def execStatesCard : Claim7 := { stood := { row := execStatesRow, standIns := [], harness := (true, "63c74406102eb71d750242ea77a9e758dbb44944e77fd75c434c16d49e5861e2"), looks := true }, kinds := [], alts := [], laidByText := true, laidKinds := [.data, .data], laidTests := true, laidLooks := .later }
def ExecStatesCardSaid : Prop := Claim7.holds Tryd.pinned (.plain (OpenSpec.ofChange execStatesSpec)) execStatesCard

/-- THE SECOND FORM's CARD OF 'tusklaw23.ExecAny'. -/
def execAnyUptoCard : Claim7 := { stood := { row := execAnyUptoRow, standIns := [], harness := (true, "63c74406102eb71d750242ea77a9e758dbb44944e77fd75c434c16d49e5861e2"), looks := true }, kinds := [], alts := [], laidByText := true, laidKinds := [.data, .data], laidTests := true, laidLooks := .later }
def ExecAnyUptoCardSaid : Prop := Claim7.holds Tryd.pinned (.plain (OpenSpec.upto execAnySpec)) execAnyUptoCard

/-- THE SECOND FORM's CARD OF 'tusklaw23.ExecJoins'. -/
def execJoinsUptoCard : Claim7 := { stood := { row := execJoinsUptoRow, standIns := [], harness := (true, "63c74406102eb71d750242ea77a9e758dbb44944e77fd75c434c16d49e5861e2"), looks := true }, kinds := [], alts := [], laidByText := true, laidKinds := [.data, .data], laidTests := true, laidLooks := .later }
def ExecJoinsUptoCardSaid : Prop := Claim7.holds Tryd.pinned (.plain (OpenSpec.upto execJoinsSpec)) execJoinsUptoCard

/-- THE SECOND FORM's CARD OF 'tusklaw23.ExecStates'. -/
def execStatesUptoCard : Claim7 := { stood := { row := execStatesUptoRow, standIns := [], harness := (true, "63c74406102eb71d750242ea77a9e758dbb44944e77fd75c434c16d49e5861e2"), looks := true }, kinds := [], alts := [], laidByText := true, laidKinds := [.data, .data], laidTests := true, laidLooks := .later }
def ExecStatesUptoCardSaid : Prop := Claim7.holds Tryd.pinned (.plain (OpenSpec.upto execStatesSpec)) execStatesUptoCard
end Rows
end Go.Proofs.YtajpfkenhchafaaDoor
