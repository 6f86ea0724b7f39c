/-
  DERIVED. GIVEN WITH THE SEED: THE CARDS: each row of YtlbibhngfnllbaaDoorRows.lean that lists a variable, with what it lists TIED to the program's text (the seventh form; the later family's looks); each row that meets fmt, with fmt's text TOLD by the authors' own Lean function (tested against real Go, not proved from fmt's source: count such statements apart). THE CARD IS WHAT COUNTS. Prove the row's statement (the work); the ties are given (YtlbibhngfnllbaaDoorTie.lean); close each card by the builder's one call (the guide's Derived/Test/ToyasCard.lean, 'card_holds'). Laid BY PROGRAM, IN A SANDBOX (cutbox-door.mjs). By AI agents, Wed Nov 11 2026. No macro, syntax, notation, axiom, sorry.
-/
import Derived.Test.YtlbibhngfnllbaaDoorRows
import GoSem.ClaimSeven
namespace Go.Proofs.YtlbibhngfnllbaaDoor
namespace Rows

/-- THE TIED CARD OF 'tusklaw03.AuthTables'. -/
def authTablesCard : Claim7 := { stood := { row := authTablesRow, standIns := [], harness := (true, "da2533b54635985f3a3d1ec19d78b92d46ba796f42effa63b321f28d3f156647"), looks := false }, kinds := [], alts := [], laidByText := true, laidKinds := [.data, .data], laidTests := true, laidLooks := .later }
def AuthTablesCardSaid : Prop := Claim7.holds Tryd.pinned (.plain (OpenSpec.ofChange authTablesSpec)) authTablesCard

/-- THE TIED CARD OF 'tusklaw03.AuthTags'. -/
def authTagsCard : Claim7 := { stood := { row := authTagsRow, standIns := [], harness := (true, "da2533b54635985f3a3d1ec19d78b92d46ba796f42effa63b321f28d3f156647"), looks := false }, kinds := [], alts := [], laidByText := true, laidKinds := [.data, .data], laidTests := true, laidLooks := .later }
def AuthTagsCardSaid : Prop := Claim7.holds Tryd.pinned (.plain (OpenSpec.ofChange authTagsSpec)) authTagsCard

/-- THE TIED CARD OF 'tusklaw03.AuthEnough'. -/
def authEnoughCard : Claim7 := { stood := { row := authEnoughRow, standIns := [], harness := (true, "da2533b54635985f3a3d1ec19d78b92d46ba796f42effa63b321f28d3f156647"), looks := false }, kinds := [], alts := [], laidByText := true, laidKinds := [.data, .data], laidTests := true, laidLooks := .later }
def AuthEnoughCardSaid : Prop := Claim7.holds Tryd.pinned (.plain (OpenSpec.ofChange authEnoughSpec)) authEnoughCard

/-- THE TIED CARD OF 'tusklaw03.AuthMeet'. -/
def authMeetCard : Claim7 := { stood := { row := authMeetRow, standIns := [], harness := (true, "da2533b54635985f3a3d1ec19d78b92d46ba796f42effa63b321f28d3f156647"), looks := false }, kinds := [], alts := [], laidByText := true, laidKinds := [.data, .data], laidTests := true, laidLooks := .later }
def AuthMeetCardSaid : Prop := Claim7.holds Tryd.pinned (.plain (OpenSpec.ofChange authMeetSpec)) authMeetCard

/-- THE TIED CARD OF 'tusklaw03.AuthCuts'. -/
def authCutsCard : Claim7 := { stood := { row := authCutsRow, standIns := [], harness := (true, "da2533b54635985f3a3d1ec19d78b92d46ba796f42effa63b321f28d3f156647"), looks := false }, kinds := [], alts := [], laidByText := true, laidKinds := [.data, .data], laidTests := true, laidLooks := .later }
def AuthCutsCardSaid : Prop := Claim7.holds Tryd.pinned (.plain (OpenSpec.ofChange authCutsSpec)) authCutsCard

/-- THE TIED CARD OF 'tusklaw03.AuthSame'. -/
def authSameCard : Claim7 := { stood := { row := authSameRow, standIns := [], harness := (true, "da2533b54635985f3a3d1ec19d78b92d46ba796f42effa63b321f28d3f156647"), looks := false }, kinds := [], alts := [], laidByText := true, laidKinds := [.data, .data], laidTests := true, laidLooks := .later }
def AuthSameCardSaid : Prop := Claim7.holds Tryd.pinned (.plain (OpenSpec.ofChange authSameSpec)) authSameCard

/-- THE SECOND FORM's CARD OF 'tusklaw03.AuthTables'. -/
def authTablesUptoCard : Claim7 := { stood := { row := authTablesUptoRow, standIns := [], harness := (true, "da2533b54635985f3a3d1ec19d78b92d46ba796f42effa63b321f28d3f156647"), looks := false }, kinds := [], alts := [], laidByText := true, laidKinds := [.data, .data], laidTests := true, laidLooks := .later }
def AuthTablesUptoCardSaid : Prop := Claim7.holds Tryd.pinned (.plain (OpenSpec.upto authTablesSpec)) authTablesUptoCard

/-- THE SECOND FORM's CARD OF 'tusklaw03.AuthTags'. -/
def authTagsUptoCard : Claim7 := { stood := { row := authTagsUptoRow, standIns := [], harness := (true, "da2533b54635985f3a3d1ec19d78b92d46ba796f42effa63b321f28d3f156647"), looks := false }, kinds := [], alts := [], laidByText := true, laidKinds := [.data, .data], laidTests := true, laidLooks := .later }
def AuthTagsUptoCardSaid : Prop := Claim7.holds Tryd.pinned (.plain (OpenSpec.upto authTagsSpec)) authTagsUptoCard

/-- THE SECOND FORM's CARD OF 'tusklaw03.AuthEnough'. -/
def authEnoughUptoCard : Claim7 := { stood := { row := authEnoughUptoRow, standIns := [], harness := (true, "da2533b54635985f3a3d1ec19d78b92d46ba796f42effa63b321f28d3f156647"), looks := false }, kinds := [], alts := [], laidByText := true, laidKinds := [.data, .data], laidTests := true, laidLooks := .later }
def AuthEnoughUptoCardSaid : Prop := Claim7.holds Tryd.pinned (.plain (OpenSpec.upto authEnoughSpec)) authEnoughUptoCard

/-- THE SECOND FORM's CARD OF 'tusklaw03.AuthMeet'. -/
def authMeetUptoCard : Claim7 := { stood := { row := authMeetUptoRow, standIns := [], harness := (true, "da2533b54635985f3a3d1ec19d78b92d46ba796f42effa63b321f28d3f156647"), looks := false }, kinds := [], alts := [], laidByText := true, laidKinds := [.data, .data], laidTests := true, laidLooks := .later }
def AuthMeetUptoCardSaid : Prop := Claim7.holds Tryd.pinned (.plain (OpenSpec.upto authMeetSpec)) authMeetUptoCard

/-- THE SECOND FORM's CARD OF 'tusklaw03.AuthCuts'. -/
def authCutsUptoCard : Claim7 := { stood := { row := authCutsUptoRow, standIns := [], harness := (true, "da2533b54635985f3a3d1ec19d78b92d46ba796f42effa63b321f28d3f156647"), looks := false }, kinds := [], alts := [], laidByText := true, laidKinds := [.data, .data], laidTests := true, laidLooks := .later }
def AuthCutsUptoCardSaid : Prop := Claim7.holds Tryd.pinned (.plain (OpenSpec.upto authCutsSpec)) authCutsUptoCard

/-- THE SECOND FORM's CARD OF 'tusklaw03.AuthSame'. -/
def authSameUptoCard : Claim7 := { stood := { row := authSameUptoRow, standIns := [], harness := (true, "da2533b54635985f3a3d1ec19d78b92d46ba796f42effa63b321f28d3f156647"), looks := false }, kinds := [], alts := [], laidByText := true, laidKinds := [.data, .data], laidTests := true, laidLooks := .later }
def AuthSameUptoCardSaid : Prop := Claim7.holds Tryd.pinned (.plain (OpenSpec.upto authSameSpec)) authSameUptoCard
end Rows
end Go.Proofs.YtlbibhngfnllbaaDoor
