/-
  DERIVED. GIVEN WITH THE SEED: THE CARDS: each row of YtcjmeaikdfgapaaDoorRows.lean that lists a variable, with what it lists TIED to the program's text (the seventh form; the later family's looks); each row that meets fmt, with fmt's text TOLD by the authors' own Lean function (tested against real Go, not proved from fmt's source: count such statements apart). THE CARD IS WHAT COUNTS. Prove the row's statement (the work); the ties are given (YtcjmeaikdfgapaaDoorTie.lean); close each card by the builder's one call (the guide's Derived/Test/ToyasCard.lean, 'card_holds'). Laid BY PROGRAM, IN A SANDBOX (cutbox-door.mjs). By AI agents, Wed Nov 11 2026. No macro, syntax, notation, axiom, sorry.
-/
import Derived.Test.YtcjmeaikdfgapaaDoorRows
import GoSem.ClaimSeven
namespace Go.Proofs.YtcjmeaikdfgapaaDoor
namespace Rows

/-- THE TIED CARD OF 'tusklaw22.StateDoes'. -/
def stateDoesCard : Claim7 := { stood := { row := stateDoesRow, standIns := [], harness := (true, "1e32a5eeb282703e4f3e650c36c45899cefdfcfc426a3c03a79052e441ce46ee"), looks := true }, kinds := [], alts := [], laidByText := true, laidKinds := [.data, .data], laidTests := true, laidLooks := .later }
def StateDoesCardSaid : Prop := Claim7.holds Tryd.pinned (.plain (OpenSpec.ofChange stateDoesSpec)) stateDoesCard

/-- THE TIED CARD OF 'tusklaw22.StateSum'. -/
def stateSumCard : Claim7 := { stood := { row := stateSumRow, standIns := [], harness := (true, "1e32a5eeb282703e4f3e650c36c45899cefdfcfc426a3c03a79052e441ce46ee"), looks := true }, kinds := [], alts := [], laidByText := true, laidKinds := [.data, .data], laidTests := true, laidLooks := .later }
def StateSumCardSaid : Prop := Claim7.holds Tryd.pinned (.plain (OpenSpec.ofChange stateSumSpec)) stateSumCard

/-- THE TIED CARD OF 'tusklaw22.StateEither'. -/
def stateEitherCard : Claim7 := { stood := { row := stateEitherRow, standIns := [], harness := (true, "1e32a5eeb282703e4f3e650c36c45899cefdfcfc426a3c03a79052e441ce46ee"), looks := true }, kinds := [], alts := [], laidByText := true, laidKinds := [.data, .data], laidTests := true, laidLooks := .later }
def StateEitherCardSaid : Prop := Claim7.holds Tryd.pinned (.plain (OpenSpec.ofChange stateEitherSpec)) stateEitherCard

/-- THE TIED CARD OF 'tusklaw22.StateCopies'. -/
def stateCopiesCard : Claim7 := { stood := { row := stateCopiesRow, standIns := [], harness := (true, "1e32a5eeb282703e4f3e650c36c45899cefdfcfc426a3c03a79052e441ce46ee"), looks := true }, kinds := [], alts := [], laidByText := true, laidKinds := [.data, .data], laidTests := true, laidLooks := .later }
def StateCopiesCardSaid : Prop := Claim7.holds Tryd.pinned (.plain (OpenSpec.ofChange stateCopiesSpec)) stateCopiesCard

/-- THE SECOND FORM's CARD OF 'tusklaw22.StateDoes'. -/
def stateDoesUptoCard : Claim7 := { stood := { row := stateDoesUptoRow, standIns := [], harness := (true, "1e32a5eeb282703e4f3e650c36c45899cefdfcfc426a3c03a79052e441ce46ee"), looks := true }, kinds := [], alts := [], laidByText := true, laidKinds := [.data, .data], laidTests := true, laidLooks := .later }
def StateDoesUptoCardSaid : Prop := Claim7.holds Tryd.pinned (.plain (OpenSpec.upto stateDoesSpec)) stateDoesUptoCard

/-- THE SECOND FORM's CARD OF 'tusklaw22.StateSum'. -/
def stateSumUptoCard : Claim7 := { stood := { row := stateSumUptoRow, standIns := [], harness := (true, "1e32a5eeb282703e4f3e650c36c45899cefdfcfc426a3c03a79052e441ce46ee"), looks := true }, kinds := [], alts := [], laidByText := true, laidKinds := [.data, .data], laidTests := true, laidLooks := .later }
def StateSumUptoCardSaid : Prop := Claim7.holds Tryd.pinned (.plain (OpenSpec.upto stateSumSpec)) stateSumUptoCard

/-- THE SECOND FORM's CARD OF 'tusklaw22.StateEither'. -/
def stateEitherUptoCard : Claim7 := { stood := { row := stateEitherUptoRow, standIns := [], harness := (true, "1e32a5eeb282703e4f3e650c36c45899cefdfcfc426a3c03a79052e441ce46ee"), looks := true }, kinds := [], alts := [], laidByText := true, laidKinds := [.data, .data], laidTests := true, laidLooks := .later }
def StateEitherUptoCardSaid : Prop := Claim7.holds Tryd.pinned (.plain (OpenSpec.upto stateEitherSpec)) stateEitherUptoCard

/-- THE SECOND FORM's CARD OF 'tusklaw22.StateCopies'. -/
def stateCopiesUptoCard : Claim7 := { stood := { row := stateCopiesUptoRow, standIns := [], harness := (true, "1e32a5eeb282703e4f3e650c36c45899cefdfcfc426a3c03a79052e441ce46ee"), looks := true }, kinds := [], alts := [], laidByText := true, laidKinds := [.data, .data], laidTests := true, laidLooks := .later }
def StateCopiesUptoCardSaid : Prop := Claim7.holds Tryd.pinned (.plain (OpenSpec.upto stateCopiesSpec)) stateCopiesUptoCard
end Rows
end Go.Proofs.YtcjmeaikdfgapaaDoor
