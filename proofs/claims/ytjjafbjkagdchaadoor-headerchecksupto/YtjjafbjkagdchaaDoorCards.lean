/-
  DERIVED. GIVEN WITH THE SEED: THE CARDS: each row of YtjjafbjkagdchaaDoorRows.lean that lists a variable, with what it lists TIED to the program's text (the seventh form; the later family's looks); each row that meets fmt, with fmt's text TOLD by the authors' own Lean function (tested against real Go, not proved from fmt's source: count such statements apart). THE CARD IS WHAT COUNTS. Prove the row's statement (the work); the ties are given (YtjjafbjkagdchaaDoorTie.lean); close each card by the builder's one call (the guide's Derived/Test/ToyasCard.lean, 'card_holds'). Laid BY PROGRAM, IN A SANDBOX (cutbox-door.mjs). By AI agents, Wed Nov 11 2026. No macro, syntax, notation, axiom, sorry.
-/
import Derived.Test.YtjjafbjkagdchaaDoorRows
import GoSem.ClaimSeven
namespace Go.Proofs.YtjjafbjkagdchaaDoor
namespace Rows

/-- THE TIED CARD OF 'tusklaw06.HeaderChecks'. -/
def headerChecksCard : Claim7 := { stood := { row := headerChecksRow, standIns := [], harness := (true, "21e1c951a005119dd5155648de0b8d9b18388722ca3dfdbaa807d41d60c88729"), looks := false }, kinds := [], alts := [], laidByText := true, laidKinds := [.data, .data], laidTests := true, laidLooks := .later }
def HeaderChecksCardSaid : Prop := Claim7.holds Tryd.pinned (.plain (OpenSpec.ofChange headerChecksSpec)) headerChecksCard

/-- THE TIED CARD OF 'tusklaw06.HeaderBack'. -/
def headerBackCard : Claim7 := { stood := { row := headerBackRow, standIns := [], harness := (true, "21e1c951a005119dd5155648de0b8d9b18388722ca3dfdbaa807d41d60c88729"), looks := false }, kinds := [], alts := [], laidByText := true, laidKinds := [.data, .data], laidTests := true, laidLooks := .later }
def HeaderBackCardSaid : Prop := Claim7.holds Tryd.pinned (.plain (OpenSpec.ofChange headerBackSpec)) headerBackCard

/-- THE TIED CARD OF 'tusklaw06.HeaderRight'. -/
def headerRightCard : Claim7 := { stood := { row := headerRightRow, standIns := [], harness := (true, "21e1c951a005119dd5155648de0b8d9b18388722ca3dfdbaa807d41d60c88729"), looks := false }, kinds := [], alts := [], laidByText := true, laidKinds := [.data, .data], laidTests := true, laidLooks := .later }
def HeaderRightCardSaid : Prop := Claim7.holds Tryd.pinned (.plain (OpenSpec.ofChange headerRightSpec)) headerRightCard

/-- THE TIED CARD OF 'tusklaw06.HeaderCuts'. -/
def headerCutsCard : Claim7 := { stood := { row := headerCutsRow, standIns := [], harness := (true, "21e1c951a005119dd5155648de0b8d9b18388722ca3dfdbaa807d41d60c88729"), looks := false }, kinds := [], alts := [], laidByText := true, laidKinds := [.data, .data], laidTests := true, laidLooks := .later }
def HeaderCutsCardSaid : Prop := Claim7.holds Tryd.pinned (.plain (OpenSpec.ofChange headerCutsSpec)) headerCutsCard

/-- THE SECOND FORM's CARD OF 'tusklaw06.HeaderChecks'. -/
def headerChecksUptoCard : Claim7 := { stood := { row := headerChecksUptoRow, standIns := [], harness := (true, "21e1c951a005119dd5155648de0b8d9b18388722ca3dfdbaa807d41d60c88729"), looks := false }, kinds := [], alts := [], laidByText := true, laidKinds := [.data, .data], laidTests := true, laidLooks := .later }
def HeaderChecksUptoCardSaid : Prop := Claim7.holds Tryd.pinned (.plain (OpenSpec.upto headerChecksSpec)) headerChecksUptoCard

/-- THE SECOND FORM's CARD OF 'tusklaw06.HeaderBack'. -/
def headerBackUptoCard : Claim7 := { stood := { row := headerBackUptoRow, standIns := [], harness := (true, "21e1c951a005119dd5155648de0b8d9b18388722ca3dfdbaa807d41d60c88729"), looks := false }, kinds := [], alts := [], laidByText := true, laidKinds := [.data, .data], laidTests := true, laidLooks := .later }
def HeaderBackUptoCardSaid : Prop := Claim7.holds Tryd.pinned (.plain (OpenSpec.upto headerBackSpec)) headerBackUptoCard

/-- THE SECOND FORM's CARD OF 'tusklaw06.HeaderRight'. -/
def headerRightUptoCard : Claim7 := { stood := { row := headerRightUptoRow, standIns := [], harness := (true, "21e1c951a005119dd5155648de0b8d9b18388722ca3dfdbaa807d41d60c88729"), looks := false }, kinds := [], alts := [], laidByText := true, laidKinds := [.data, .data], laidTests := true, laidLooks := .later }
def HeaderRightUptoCardSaid : Prop := Claim7.holds Tryd.pinned (.plain (OpenSpec.upto headerRightSpec)) headerRightUptoCard

/-- THE SECOND FORM's CARD OF 'tusklaw06.HeaderCuts'. -/
def headerCutsUptoCard : Claim7 := { stood := { row := headerCutsUptoRow, standIns := [], harness := (true, "21e1c951a005119dd5155648de0b8d9b18388722ca3dfdbaa807d41d60c88729"), looks := false }, kinds := [], alts := [], laidByText := true, laidKinds := [.data, .data], laidTests := true, laidLooks := .later }
def HeaderCutsUptoCardSaid : Prop := Claim7.holds Tryd.pinned (.plain (OpenSpec.upto headerCutsSpec)) headerCutsUptoCard
end Rows
end Go.Proofs.YtjjafbjkagdchaaDoor
