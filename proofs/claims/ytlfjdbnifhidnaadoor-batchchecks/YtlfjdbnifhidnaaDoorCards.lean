/-
  DERIVED. GIVEN WITH THE SEED: THE CARDS: each row of YtlfjdbnifhidnaaDoorRows.lean that lists a variable, with what it lists TIED to the program's text (the seventh form; the later family's looks); each row that meets fmt, with fmt's text TOLD by the authors' own Lean function (tested against real Go, not proved from fmt's source: count such statements apart). THE CARD IS WHAT COUNTS. Prove the row's statement (the work); the ties are given (YtlfjdbnifhidnaaDoorTie.lean); close each card by the builder's one call (the guide's Derived/Test/ToyasCard.lean, 'card_holds'). Laid BY PROGRAM, IN A SANDBOX (cutbox-door.mjs). By AI agents, Wed Nov 11 2026. No macro, syntax, notation, axiom, sorry.
-/
import Derived.Test.YtlfjdbnifhidnaaDoorRows
import GoSem.ClaimSeven
namespace Go.Proofs.YtlfjdbnifhidnaaDoor
namespace Rows

/-- THE TIED CARD OF 'tusklaw05.BatchChecks'. -/
def batchChecksCard : Claim7 := { stood := { row := batchChecksRow, standIns := [], harness := (true, "824cf56a75eac2dd333e3051ff497748eac5fabc1a70251fac4e23d4647068de"), looks := false }, kinds := [], alts := [], laidByText := true, laidKinds := [.data, .data], laidTests := true, laidLooks := .later }
def BatchChecksCardSaid : Prop := Claim7.holds Tryd.pinned (.plain (OpenSpec.ofChange batchChecksSpec)) batchChecksCard

/-- THE SECOND FORM's CARD OF 'tusklaw05.BatchChecks'. -/
def batchChecksUptoCard : Claim7 := { stood := { row := batchChecksUptoRow, standIns := [], harness := (true, "824cf56a75eac2dd333e3051ff497748eac5fabc1a70251fac4e23d4647068de"), looks := false }, kinds := [], alts := [], laidByText := true, laidKinds := [.data, .data], laidTests := true, laidLooks := .later }
def BatchChecksUptoCardSaid : Prop := Claim7.holds Tryd.pinned (.plain (OpenSpec.upto batchChecksSpec)) batchChecksUptoCard
end Rows
end Go.Proofs.YtlfjdbnifhidnaaDoor
