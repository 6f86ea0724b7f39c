/-
  DERIVED. GIVEN WITH THE SEED: THE CARDS: each row of YtmjkbdgcnoenbaaGreatDoorRows.lean that lists a variable, with what it lists TIED to the program's text (the seventh form; the later family's looks); each row that meets fmt, with fmt's text TOLD by the authors' own Lean function (tested against real Go, not proved from fmt's source: count such statements apart). THE CARD IS WHAT COUNTS. Prove the row's statement (the work); the ties are given (YtmjkbdgcnoenbaaGreatDoorTie.lean); close each card by the builder's one call (the guide's Derived/Test/ToyasCard.lean, 'card_holds'). Laid BY PROGRAM, IN A SANDBOX (cutbox-door.mjs). By AI agents, Wed Nov 11 2026. No macro, syntax, notation, axiom, sorry.
-/
import Derived.Test.YtmjkbdgcnoenbaaGreatDoorRows
import GoSem.ClaimSeven
namespace Go.Proofs.YtmjkbdgcnoenbaaGreatDoor
namespace Rows

/-- THE TIED CARD OF 'tusklaw14.DagDoes'. -/
def dagDoesCard : Claim7 := { stood := { row := dagDoesRow, standIns := [], harness := (true, "cb9ec11f0cffbdc1ea1207431f7b5a121590a4829560b15185c4dfb95d7ea019"), looks := false }, kinds := [], alts := [], laidByText := true, laidKinds := [.data, .data], laidTests := true, laidLooks := .later }
def DagDoesCardSaid : Prop := Claim7.holds Tryz.pinned (.plain (OpenSpec.ofChange dagDoesSpec)) dagDoesCard

/-- THE TIED CARD OF 'tusklaw14.DagOnce'. -/
def dagOnceCard : Claim7 := { stood := { row := dagOnceRow, standIns := [], harness := (true, "cb9ec11f0cffbdc1ea1207431f7b5a121590a4829560b15185c4dfb95d7ea019"), looks := false }, kinds := [], alts := [], laidByText := true, laidKinds := [.data, .data], laidTests := true, laidLooks := .later }
def DagOnceCardSaid : Prop := Claim7.holds Tryz.pinned (.plain (OpenSpec.ofChange dagOnceSpec)) dagOnceCard

/-- THE TIED CARD OF 'tusklaw14.DagCerts'. -/
def dagCertsCard : Claim7 := { stood := { row := dagCertsRow, standIns := [], harness := (true, "cb9ec11f0cffbdc1ea1207431f7b5a121590a4829560b15185c4dfb95d7ea019"), looks := false }, kinds := [], alts := [], laidByText := true, laidKinds := [.data, .data], laidTests := true, laidLooks := .later }
def DagCertsCardSaid : Prop := Claim7.holds Tryz.pinned (.plain (OpenSpec.ofChange dagCertsSpec)) dagCertsCard

/-- THE TIED CARD OF 'tusklaw14.DagRounds'. -/
def dagRoundsCard : Claim7 := { stood := { row := dagRoundsRow, standIns := [], harness := (true, "cb9ec11f0cffbdc1ea1207431f7b5a121590a4829560b15185c4dfb95d7ea019"), looks := false }, kinds := [], alts := [], laidByText := true, laidKinds := [.data, .data], laidTests := true, laidLooks := .later }
def DagRoundsCardSaid : Prop := Claim7.holds Tryz.pinned (.plain (OpenSpec.ofChange dagRoundsSpec)) dagRoundsCard

/-- THE TIED CARD OF 'tusklaw14.DagParents'. -/
def dagParentsCard : Claim7 := { stood := { row := dagParentsRow, standIns := [], harness := (true, "cb9ec11f0cffbdc1ea1207431f7b5a121590a4829560b15185c4dfb95d7ea019"), looks := false }, kinds := [], alts := [], laidByText := true, laidKinds := [.data, .data], laidTests := true, laidLooks := .later }
def DagParentsCardSaid : Prop := Claim7.holds Tryz.pinned (.plain (OpenSpec.ofChange dagParentsSpec)) dagParentsCard

/-- THE TIED CARD OF 'tusklaw14.DagOld'. -/
def dagOldCard : Claim7 := { stood := { row := dagOldRow, standIns := [], harness := (true, "cb9ec11f0cffbdc1ea1207431f7b5a121590a4829560b15185c4dfb95d7ea019"), looks := false }, kinds := [], alts := [], laidByText := true, laidKinds := [.data, .data], laidTests := true, laidLooks := .later }
def DagOldCardSaid : Prop := Claim7.holds Tryz.pinned (.plain (OpenSpec.ofChange dagOldSpec)) dagOldCard

/-- THE SECOND FORM's CARD OF 'tusklaw14.DagDoes'. -/
def dagDoesUptoCard : Claim7 := { stood := { row := dagDoesUptoRow, standIns := [], harness := (true, "cb9ec11f0cffbdc1ea1207431f7b5a121590a4829560b15185c4dfb95d7ea019"), looks := false }, kinds := [], alts := [], laidByText := true, laidKinds := [.data, .data], laidTests := true, laidLooks := .later }
def DagDoesUptoCardSaid : Prop := Claim7.holds Tryz.pinned (.plain (OpenSpec.upto dagDoesSpec)) dagDoesUptoCard

/-- THE SECOND FORM's CARD OF 'tusklaw14.DagOnce'. -/
def dagOnceUptoCard : Claim7 := { stood := { row := dagOnceUptoRow, standIns := [], harness := (true, "cb9ec11f0cffbdc1ea1207431f7b5a121590a4829560b15185c4dfb95d7ea019"), looks := false }, kinds := [], alts := [], laidByText := true, laidKinds := [.data, .data], laidTests := true, laidLooks := .later }
def DagOnceUptoCardSaid : Prop := Claim7.holds Tryz.pinned (.plain (OpenSpec.upto dagOnceSpec)) dagOnceUptoCard

/-- THE SECOND FORM's CARD OF 'tusklaw14.DagCerts'. -/
def dagCertsUptoCard : Claim7 := { stood := { row := dagCertsUptoRow, standIns := [], harness := (true, "cb9ec11f0cffbdc1ea1207431f7b5a121590a4829560b15185c4dfb95d7ea019"), looks := false }, kinds := [], alts := [], laidByText := true, laidKinds := [.data, .data], laidTests := true, laidLooks := .later }
def DagCertsUptoCardSaid : Prop := Claim7.holds Tryz.pinned (.plain (OpenSpec.upto dagCertsSpec)) dagCertsUptoCard

/-- THE SECOND FORM's CARD OF 'tusklaw14.DagRounds'. -/
def dagRoundsUptoCard : Claim7 := { stood := { row := dagRoundsUptoRow, standIns := [], harness := (true, "cb9ec11f0cffbdc1ea1207431f7b5a121590a4829560b15185c4dfb95d7ea019"), looks := false }, kinds := [], alts := [], laidByText := true, laidKinds := [.data, .data], laidTests := true, laidLooks := .later }
def DagRoundsUptoCardSaid : Prop := Claim7.holds Tryz.pinned (.plain (OpenSpec.upto dagRoundsSpec)) dagRoundsUptoCard

/-- THE SECOND FORM's CARD OF 'tusklaw14.DagParents'. -/
def dagParentsUptoCard : Claim7 := { stood := { row := dagParentsUptoRow, standIns := [], harness := (true, "cb9ec11f0cffbdc1ea1207431f7b5a121590a4829560b15185c4dfb95d7ea019"), looks := false }, kinds := [], alts := [], laidByText := true, laidKinds := [.data, .data], laidTests := true, laidLooks := .later }
def DagParentsUptoCardSaid : Prop := Claim7.holds Tryz.pinned (.plain (OpenSpec.upto dagParentsSpec)) dagParentsUptoCard

/-- THE SECOND FORM's CARD OF 'tusklaw14.DagOld'. -/
def dagOldUptoCard : Claim7 := { stood := { row := dagOldUptoRow, standIns := [], harness := (true, "cb9ec11f0cffbdc1ea1207431f7b5a121590a4829560b15185c4dfb95d7ea019"), looks := false }, kinds := [], alts := [], laidByText := true, laidKinds := [.data, .data], laidTests := true, laidLooks := .later }
def DagOldUptoCardSaid : Prop := Claim7.holds Tryz.pinned (.plain (OpenSpec.upto dagOldSpec)) dagOldUptoCard
end Rows
end Go.Proofs.YtmjkbdgcnoenbaaGreatDoor
