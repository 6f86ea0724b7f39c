/-
  DERIVED. GIVEN WITH THE SEED: THE CARDS: each row of YtbikabjogacfkaaDoorRows.lean that lists a variable, with what it lists TIED to the program's text (the seventh form; the later family's looks); each row that meets fmt, with fmt's text TOLD by the authors' own Lean function (tested against real Go, not proved from fmt's source: count such statements apart). THE CARD IS WHAT COUNTS. Prove the row's statement (the work); the ties are given (YtbikabjogacfkaaDoorTie.lean); close each card by the builder's one call (the guide's Derived/Test/ToyasCard.lean, 'card_holds'). Laid BY PROGRAM, IN A SANDBOX (cutbox-door.mjs). By AI agents, Wed Nov 11 2026. No macro, syntax, notation, axiom, sorry.
-/
import Derived.Test.YtbikabjogacfkaaDoorRows
import GoSem.ClaimSeven
namespace Go.Proofs.YtbikabjogacfkaaDoor
namespace Rows

/-- THE TIED CARD OF 'tusklaw12.SealsDoes'. -/
def sealsDoesCard : Claim7 := { stood := { row := sealsDoesRow, standIns := [], harness := (true, "6c674057c89fac07b54b9aa635df787c8602450f3387f014989e3d3cdad8dd60"), looks := false }, kinds := [], alts := [], laidByText := true, laidKinds := [.data, .data], laidTests := true, laidLooks := .later }
def SealsDoesCardSaid : Prop := Claim7.holds Tryd.pinned (.plain (OpenSpec.ofChange sealsDoesSpec)) sealsDoesCard

/-- THE TIED CARD OF 'tusklaw12.SealsOnce'. -/
def sealsOnceCard : Claim7 := { stood := { row := sealsOnceRow, standIns := [], harness := (true, "6c674057c89fac07b54b9aa635df787c8602450f3387f014989e3d3cdad8dd60"), looks := false }, kinds := [], alts := [], laidByText := true, laidKinds := [.data, .data], laidTests := true, laidLooks := .later }
def SealsOnceCardSaid : Prop := Claim7.holds Tryd.pinned (.plain (OpenSpec.ofChange sealsOnceSpec)) sealsOnceCard

/-- THE TIED CARD OF 'tusklaw12.SealsApart'. -/
def sealsApartCard : Claim7 := { stood := { row := sealsApartRow, standIns := [], harness := (true, "6c674057c89fac07b54b9aa635df787c8602450f3387f014989e3d3cdad8dd60"), looks := false }, kinds := [], alts := [], laidByText := true, laidKinds := [.data, .data], laidTests := true, laidLooks := .later }
def SealsApartCardSaid : Prop := Claim7.holds Tryd.pinned (.plain (OpenSpec.ofChange sealsApartSpec)) sealsApartCard

/-- THE SECOND FORM's CARD OF 'tusklaw12.SealsDoes'. -/
def sealsDoesUptoCard : Claim7 := { stood := { row := sealsDoesUptoRow, standIns := [], harness := (true, "6c674057c89fac07b54b9aa635df787c8602450f3387f014989e3d3cdad8dd60"), looks := false }, kinds := [], alts := [], laidByText := true, laidKinds := [.data, .data], laidTests := true, laidLooks := .later }
def SealsDoesUptoCardSaid : Prop := Claim7.holds Tryd.pinned (.plain (OpenSpec.upto sealsDoesSpec)) sealsDoesUptoCard

/-- THE SECOND FORM's CARD OF 'tusklaw12.SealsOnce'. -/
def sealsOnceUptoCard : Claim7 := { stood := { row := sealsOnceUptoRow, standIns := [], harness := (true, "6c674057c89fac07b54b9aa635df787c8602450f3387f014989e3d3cdad8dd60"), looks := false }, kinds := [], alts := [], laidByText := true, laidKinds := [.data, .data], laidTests := true, laidLooks := .later }
def SealsOnceUptoCardSaid : Prop := Claim7.holds Tryd.pinned (.plain (OpenSpec.upto sealsOnceSpec)) sealsOnceUptoCard

/-- THE SECOND FORM's CARD OF 'tusklaw12.SealsApart'. -/
def sealsApartUptoCard : Claim7 := { stood := { row := sealsApartUptoRow, standIns := [], harness := (true, "6c674057c89fac07b54b9aa635df787c8602450f3387f014989e3d3cdad8dd60"), looks := false }, kinds := [], alts := [], laidByText := true, laidKinds := [.data, .data], laidTests := true, laidLooks := .later }
def SealsApartUptoCardSaid : Prop := Claim7.holds Tryd.pinned (.plain (OpenSpec.upto sealsApartSpec)) sealsApartUptoCard
end Rows
end Go.Proofs.YtbikabjogacfkaaDoor
