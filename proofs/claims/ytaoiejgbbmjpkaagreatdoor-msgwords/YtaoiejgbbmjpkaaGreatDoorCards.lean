/-
  DERIVED. GIVEN WITH THE SEED: THE CARDS: each row of YtaoiejgbbmjpkaaGreatDoorRows.lean that lists a variable, with what it lists TIED to the program's text (the seventh form; the later family's looks); each row that meets fmt, with fmt's text TOLD by the authors' own Lean function (tested against real Go, not proved from fmt's source: count such statements apart). THE CARD IS WHAT COUNTS. Prove the row's statement (the work); the ties are given (YtaoiejgbbmjpkaaGreatDoorTie.lean); close each card by the builder's one call (the guide's Derived/Test/ToyasCard.lean, 'card_holds'). Laid BY PROGRAM, IN A SANDBOX (cutbox-door.mjs). By AI agents, Wed Nov 11 2026. No macro, syntax, notation, axiom, sorry.
-/
import Derived.Test.YtaoiejgbbmjpkaaGreatDoorRows
import GoSem.ClaimSeven
namespace Go.Proofs.YtaoiejgbbmjpkaaGreatDoor
namespace Rows

/-- THE TIED CARD OF 'tusklaw09.MsgWords'. -/
def msgWordsCard : Claim7 := { stood := { row := msgWordsRow, standIns := [], harness := (true, "37fdbc23721d9236c579a7f2280ce951d5bbd052fe92f937da2dbbac692c0bb8"), looks := true }, kinds := [], alts := [], laidByText := true, laidKinds := [.data, .data], laidTests := true, laidLooks := .later }
def MsgWordsCardSaid : Prop := Claim7.holds Tryz.pinned (.plain (OpenSpec.ofChange msgWordsSpec)) msgWordsCard

/-- THE TIED CARD OF 'tusklaw09.MsgCounts'. -/
def msgCountsCard : Claim7 := { stood := { row := msgCountsRow, standIns := [], harness := (true, "37fdbc23721d9236c579a7f2280ce951d5bbd052fe92f937da2dbbac692c0bb8"), looks := true }, kinds := [], alts := [], laidByText := true, laidKinds := [.data, .data], laidTests := true, laidLooks := .later }
def MsgCountsCardSaid : Prop := Claim7.holds Tryz.pinned (.plain (OpenSpec.ofChange msgCountsSpec)) msgCountsCard

/-- THE SECOND FORM's CARD OF 'tusklaw09.MsgWords'. -/
def msgWordsUptoCard : Claim7 := { stood := { row := msgWordsUptoRow, standIns := [], harness := (true, "37fdbc23721d9236c579a7f2280ce951d5bbd052fe92f937da2dbbac692c0bb8"), looks := true }, kinds := [], alts := [], laidByText := true, laidKinds := [.data, .data], laidTests := true, laidLooks := .later }
def MsgWordsUptoCardSaid : Prop := Claim7.holds Tryz.pinned (.plain (OpenSpec.upto msgWordsSpec)) msgWordsUptoCard

/-- THE SECOND FORM's CARD OF 'tusklaw09.MsgCounts'. -/
def msgCountsUptoCard : Claim7 := { stood := { row := msgCountsUptoRow, standIns := [], harness := (true, "37fdbc23721d9236c579a7f2280ce951d5bbd052fe92f937da2dbbac692c0bb8"), looks := true }, kinds := [], alts := [], laidByText := true, laidKinds := [.data, .data], laidTests := true, laidLooks := .later }
def MsgCountsUptoCardSaid : Prop := Claim7.holds Tryz.pinned (.plain (OpenSpec.upto msgCountsSpec)) msgCountsUptoCard
end Rows
end Go.Proofs.YtaoiejgbbmjpkaaGreatDoor
