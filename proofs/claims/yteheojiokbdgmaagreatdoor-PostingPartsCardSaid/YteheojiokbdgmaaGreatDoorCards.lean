/-
  DERIVED. GIVEN WITH THE SEED: THE CARDS: each row of YteheojiokbdgmaaGreatDoorRows.lean that lists a variable, with what it lists TIED to the program's text (the seventh form; the later family's looks); each row that meets fmt, with fmt's text TOLD by the authors' own Lean function (tested against real Go, not proved from fmt's source: count such statements apart). THE CARD IS WHAT COUNTS. Prove the row's statement (the work); the ties are given (YteheojiokbdgmaaGreatDoorTie.lean); close each card by the builder's one call (the guide's Derived/Test/ToyasCard.lean, 'card_holds'). Laid BY PROGRAM, IN A SANDBOX (cutbox-door.mjs). By AI agents, Wed Nov 11 2026. No macro, syntax, notation, axiom, sorry.
-/
import Derived.Test.YteheojiokbdgmaaGreatDoorRows
import GoSem.ClaimSeven
namespace Go.Proofs.YteheojiokbdgmaaGreatDoor
namespace Rows

/-- THE TIED CARD OF 'barographlaw12.PostingIndex'. -/
def postingIndexCard : Claim7 := { stood := { row := postingIndexRow, standIns := [], harness := (true, "2c1ade1ef73c8f9d36d177ee995ae4a80b9a500971548da49117fe10ad0b04e2"), looks := false }, kinds := [], alts := [], laidByText := true, laidKinds := [.data, .pinned], laidTests := true, laidLooks := .later }
def PostingIndexCardSaid : Prop := Claim7.holds Tryz.pinned (.plain (OpenSpec.ofChange postingIndexSpec)) postingIndexCard

/-- THE TIED CARD OF 'barographlaw12.PostingParts'. -/
def postingPartsCard : Claim7 := { stood := { row := postingPartsRow, standIns := [], harness := (true, "2c1ade1ef73c8f9d36d177ee995ae4a80b9a500971548da49117fe10ad0b04e2"), looks := false }, kinds := [], alts := [], laidByText := true, laidKinds := [.data, .pinned], laidTests := true, laidLooks := .later }
def PostingPartsCardSaid : Prop := Claim7.holds Tryz.pinned (.plain (OpenSpec.ofChange postingPartsSpec)) postingPartsCard

/-- THE SECOND FORM's CARD OF 'barographlaw12.PostingIndex'. -/
def postingIndexUptoCard : Claim7 := { stood := { row := postingIndexUptoRow, standIns := [], harness := (true, "2c1ade1ef73c8f9d36d177ee995ae4a80b9a500971548da49117fe10ad0b04e2"), looks := false }, kinds := [], alts := [], laidByText := true, laidKinds := [.data, .pinned], laidTests := true, laidLooks := .later }
def PostingIndexUptoCardSaid : Prop := Claim7.holds Tryz.pinned (.plain (OpenSpec.upto postingIndexSpec)) postingIndexUptoCard

/-- THE SECOND FORM's CARD OF 'barographlaw12.PostingParts'. -/
def postingPartsUptoCard : Claim7 := { stood := { row := postingPartsUptoRow, standIns := [], harness := (true, "2c1ade1ef73c8f9d36d177ee995ae4a80b9a500971548da49117fe10ad0b04e2"), looks := false }, kinds := [], alts := [], laidByText := true, laidKinds := [.data, .pinned], laidTests := true, laidLooks := .later }
def PostingPartsUptoCardSaid : Prop := Claim7.holds Tryz.pinned (.plain (OpenSpec.upto postingPartsSpec)) postingPartsUptoCard
end Rows
end Go.Proofs.YteheojiokbdgmaaGreatDoor
