/-
  DERIVED. GIVEN WITH THE SEED: THE CARDS: each row of YtoodapbmpbaogaaDoorRows.lean that lists a variable, with what it lists TIED to the program's text (the seventh form; the later family's looks); each row that meets fmt, with fmt's text TOLD by the authors' own Lean function (tested against real Go, not proved from fmt's source: count such statements apart). THE CARD IS WHAT COUNTS. Prove the row's statement (the work); the ties are given (YtoodapbmpbaogaaDoorTie.lean); close each card by the builder's one call (the guide's Derived/Test/ToyasCard.lean, 'card_holds'). Laid BY PROGRAM, IN A SANDBOX (cutbox-door.mjs). By AI agents, Wed Nov 11 2026. No macro, syntax, notation, axiom, sorry.
-/
import Derived.Test.YtoodapbmpbaogaaDoorRows
import GoSem.ClaimSeven
namespace Go.Proofs.YtoodapbmpbaogaaDoor
namespace Rows

/-- THE TIED CARD OF 'tusklaw08.BlockChecks'. -/
def blockChecksCard : Claim7 := { stood := { row := blockChecksRow, standIns := [], harness := (true, "9b200217b6f6b519613b493f24995ae3180a9199bc923eb04e9d1025e2e0dfcb"), looks := false }, kinds := [], alts := [], laidByText := true, laidKinds := [.data, .data], laidTests := true, laidLooks := .later }
def BlockChecksCardSaid : Prop := Claim7.holds Tryd.pinned (.plain (OpenSpec.ofChange blockChecksSpec)) blockChecksCard

/-- THE TIED CARD OF 'tusklaw08.BlockBack'. -/
def blockBackCard : Claim7 := { stood := { row := blockBackRow, standIns := [], harness := (true, "9b200217b6f6b519613b493f24995ae3180a9199bc923eb04e9d1025e2e0dfcb"), looks := false }, kinds := [], alts := [], laidByText := true, laidKinds := [.data, .data], laidTests := true, laidLooks := .later }
def BlockBackCardSaid : Prop := Claim7.holds Tryd.pinned (.plain (OpenSpec.ofChange blockBackSpec)) blockBackCard

/-- THE TIED CARD OF 'tusklaw08.BlockChain'. -/
def blockChainCard : Claim7 := { stood := { row := blockChainRow, standIns := [], harness := (true, "9b200217b6f6b519613b493f24995ae3180a9199bc923eb04e9d1025e2e0dfcb"), looks := false }, kinds := [], alts := [], laidByText := true, laidKinds := [.data, .data], laidTests := true, laidLooks := .later }
def BlockChainCardSaid : Prop := Claim7.holds Tryd.pinned (.plain (OpenSpec.ofChange blockChainSpec)) blockChainCard

/-- THE TIED CARD OF 'tusklaw08.BlockMany'. -/
def blockManyCard : Claim7 := { stood := { row := blockManyRow, standIns := [], harness := (true, "9b200217b6f6b519613b493f24995ae3180a9199bc923eb04e9d1025e2e0dfcb"), looks := false }, kinds := [], alts := [], laidByText := true, laidKinds := [.data, .data], laidTests := true, laidLooks := .later }
def BlockManyCardSaid : Prop := Claim7.holds Tryd.pinned (.plain (OpenSpec.ofChange blockManySpec)) blockManyCard

/-- THE TIED CARD OF 'tusklaw06.HeaderChecks'. -/
def headerChecksCard : Claim7 := { stood := { row := headerChecksRow, standIns := [], harness := (true, "9b200217b6f6b519613b493f24995ae3180a9199bc923eb04e9d1025e2e0dfcb"), looks := false }, kinds := [], alts := [], laidByText := true, laidKinds := [.data, .data], laidTests := true, laidLooks := .later }
def HeaderChecksCardSaid : Prop := Claim7.holds Tryd.pinned (.plain (OpenSpec.ofChange headerChecksSpec)) headerChecksCard

/-- THE SECOND FORM's CARD OF 'tusklaw08.BlockChecks'. -/
def blockChecksUptoCard : Claim7 := { stood := { row := blockChecksUptoRow, standIns := [], harness := (true, "9b200217b6f6b519613b493f24995ae3180a9199bc923eb04e9d1025e2e0dfcb"), looks := false }, kinds := [], alts := [], laidByText := true, laidKinds := [.data, .data], laidTests := true, laidLooks := .later }
def BlockChecksUptoCardSaid : Prop := Claim7.holds Tryd.pinned (.plain (OpenSpec.upto blockChecksSpec)) blockChecksUptoCard

/-- THE SECOND FORM's CARD OF 'tusklaw08.BlockBack'. -/
def blockBackUptoCard : Claim7 := { stood := { row := blockBackUptoRow, standIns := [], harness := (true, "9b200217b6f6b519613b493f24995ae3180a9199bc923eb04e9d1025e2e0dfcb"), looks := false }, kinds := [], alts := [], laidByText := true, laidKinds := [.data, .data], laidTests := true, laidLooks := .later }
def BlockBackUptoCardSaid : Prop := Claim7.holds Tryd.pinned (.plain (OpenSpec.upto blockBackSpec)) blockBackUptoCard

/-- THE SECOND FORM's CARD OF 'tusklaw08.BlockChain'. -/
def blockChainUptoCard : Claim7 := { stood := { row := blockChainUptoRow, standIns := [], harness := (true, "9b200217b6f6b519613b493f24995ae3180a9199bc923eb04e9d1025e2e0dfcb"), looks := false }, kinds := [], alts := [], laidByText := true, laidKinds := [.data, .data], laidTests := true, laidLooks := .later }
def BlockChainUptoCardSaid : Prop := Claim7.holds Tryd.pinned (.plain (OpenSpec.upto blockChainSpec)) blockChainUptoCard

/-- THE SECOND FORM's CARD OF 'tusklaw08.BlockMany'. -/
def blockManyUptoCard : Claim7 := { stood := { row := blockManyUptoRow, standIns := [], harness := (true, "9b200217b6f6b519613b493f24995ae3180a9199bc923eb04e9d1025e2e0dfcb"), looks := false }, kinds := [], alts := [], laidByText := true, laidKinds := [.data, .data], laidTests := true, laidLooks := .later }
def BlockManyUptoCardSaid : Prop := Claim7.holds Tryd.pinned (.plain (OpenSpec.upto blockManySpec)) blockManyUptoCard

/-- THE SECOND FORM's CARD OF 'tusklaw06.HeaderChecks'. -/
def headerChecksUptoCard : Claim7 := { stood := { row := headerChecksUptoRow, standIns := [], harness := (true, "9b200217b6f6b519613b493f24995ae3180a9199bc923eb04e9d1025e2e0dfcb"), looks := false }, kinds := [], alts := [], laidByText := true, laidKinds := [.data, .data], laidTests := true, laidLooks := .later }
def HeaderChecksUptoCardSaid : Prop := Claim7.holds Tryd.pinned (.plain (OpenSpec.upto headerChecksSpec)) headerChecksUptoCard
end Rows
end Go.Proofs.YtoodapbmpbaogaaDoor
