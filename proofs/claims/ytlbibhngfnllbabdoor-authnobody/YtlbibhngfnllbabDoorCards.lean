/-
  DERIVED. GIVEN WITH THE SEED: THE CARDS: each row of YtlbibhngfnllbabDoorRows.lean that lists a variable, with what it lists TIED to the program's text (the seventh form; the later family's looks); each row that meets fmt, with fmt's text TOLD by the authors' own Lean function (tested against real Go, not proved from fmt's source: count such statements apart). THE CARD IS WHAT COUNTS. Prove the row's statement (the work); the ties are given (YtlbibhngfnllbabDoorTie.lean); close each card by the builder's one call (the guide's Derived/Test/ToyasCard.lean, 'card_holds'). Laid BY PROGRAM, IN A SANDBOX (cutbox-door.mjs). By AI agents, Wed Nov 11 2026. No macro, syntax, notation, axiom, sorry.
-/
import Derived.Test.YtlbibhngfnllbabDoorRows
import GoSem.ClaimSeven
namespace Go.Proofs.YtlbibhngfnllbabDoor
namespace Rows

/-- THE TIED CARD OF 'tusklaw03.AuthNobody'. -/
def authNobodyCard : Claim7 := { stood := { row := authNobodyRow, standIns := [], harness := (true, "bcb2ea31b6770397f4b53ed5d3f8af7e3f65f7d4d89e70c602d04b58a49c0c59"), looks := false }, kinds := [], alts := [], laidByText := true, laidKinds := [.data, .data], laidTests := true, laidLooks := .later }
def AuthNobodyCardSaid : Prop := Claim7.holds Tryd.pinned (.plain (OpenSpec.ofChange authNobodySpec)) authNobodyCard

/-- THE SECOND FORM's CARD OF 'tusklaw03.AuthNobody'. -/
def authNobodyUptoCard : Claim7 := { stood := { row := authNobodyUptoRow, standIns := [], harness := (true, "bcb2ea31b6770397f4b53ed5d3f8af7e3f65f7d4d89e70c602d04b58a49c0c59"), looks := false }, kinds := [], alts := [], laidByText := true, laidKinds := [.data, .data], laidTests := true, laidLooks := .later }
def AuthNobodyUptoCardSaid : Prop := Claim7.holds Tryd.pinned (.plain (OpenSpec.upto authNobodySpec)) authNobodyUptoCard
end Rows
end Go.Proofs.YtlbibhngfnllbabDoor
