/-
  DERIVED. GIVEN WITH THE SEED: THE CARDS: each row of YtjmpmaonebbgaaaDoorRows.lean that lists a variable, with what it lists TIED to the program's text (the seventh form; the later family's looks); each row that meets fmt, with fmt's text TOLD by the authors' own Lean function (tested against real Go, not proved from fmt's source: count such statements apart). THE CARD IS WHAT COUNTS. Prove the row's statement (the work); the ties are given (YtjmpmaonebbgaaaDoorTie.lean); close each card by the builder's one call (the guide's Derived/Test/ToyasCard.lean, 'card_holds'). Laid BY PROGRAM, IN A SANDBOX (cutbox-door.mjs). By AI agents, Wed Nov 11 2026. No macro, syntax, notation, axiom, sorry.
-/
import Derived.Test.YtjmpmaonebbgaaaDoorRows
import GoSem.ClaimSeven
namespace Go.Proofs.YtjmpmaonebbgaaaDoor
namespace Rows

/-- THE TIED CARD OF 'barographlaw12.PostingLists'. -/
def postingListsCard : Claim7 := { stood := { row := postingListsRow, standIns := [], harness := (true, "6c9dae63d19d96d2f66b76501b18f3cc827f5032b7adc4cececace875a6bcfd0"), looks := false }, kinds := [], alts := [], laidByText := true, laidKinds := [.data, .pinned], laidTests := true, laidLooks := .later }
def PostingListsCardSaid : Prop := Claim7.holds Tryd.pinned (.plain (OpenSpec.ofChange postingListsSpec)) postingListsCard

/-- THE TIED CARD OF 'barographlaw12.PostingLaws'. -/
def postingLawsCard : Claim7 := { stood := { row := postingLawsRow, standIns := [], harness := (true, "6c9dae63d19d96d2f66b76501b18f3cc827f5032b7adc4cececace875a6bcfd0"), looks := false }, kinds := [], alts := [], laidByText := true, laidKinds := [.data, .pinned], laidTests := true, laidLooks := .later }
def PostingLawsCardSaid : Prop := Claim7.holds Tryd.pinned (.plain (OpenSpec.ofChange postingLawsSpec)) postingLawsCard

/-- THE TIED CARD OF 'barographlaw12.PostingEmpty'. -/
def postingEmptyCard : Claim7 := { stood := { row := postingEmptyRow, standIns := [], harness := (true, "6c9dae63d19d96d2f66b76501b18f3cc827f5032b7adc4cececace875a6bcfd0"), looks := false }, kinds := [], alts := [], laidByText := true, laidKinds := [.data, .pinned], laidTests := true, laidLooks := .later }
def PostingEmptyCardSaid : Prop := Claim7.holds Tryd.pinned (.plain (OpenSpec.ofChange postingEmptySpec)) postingEmptyCard

/-- THE SECOND FORM's CARD OF 'barographlaw12.PostingLists'. -/
def postingListsUptoCard : Claim7 := { stood := { row := postingListsUptoRow, standIns := [], harness := (true, "6c9dae63d19d96d2f66b76501b18f3cc827f5032b7adc4cececace875a6bcfd0"), looks := false }, kinds := [], alts := [], laidByText := true, laidKinds := [.data, .pinned], laidTests := true, laidLooks := .later }
def PostingListsUptoCardSaid : Prop := Claim7.holds Tryd.pinned (.plain (OpenSpec.upto postingListsSpec)) postingListsUptoCard

/-- THE SECOND FORM's CARD OF 'barographlaw12.PostingLaws'. -/
def postingLawsUptoCard : Claim7 := { stood := { row := postingLawsUptoRow, standIns := [], harness := (true, "6c9dae63d19d96d2f66b76501b18f3cc827f5032b7adc4cececace875a6bcfd0"), looks := false }, kinds := [], alts := [], laidByText := true, laidKinds := [.data, .pinned], laidTests := true, laidLooks := .later }
def PostingLawsUptoCardSaid : Prop := Claim7.holds Tryd.pinned (.plain (OpenSpec.upto postingLawsSpec)) postingLawsUptoCard

/-- THE SECOND FORM's CARD OF 'barographlaw12.PostingEmpty'. -/
def postingEmptyUptoCard : Claim7 := { stood := { row := postingEmptyUptoRow, standIns := [], harness := (true, "6c9dae63d19d96d2f66b76501b18f3cc827f5032b7adc4cececace875a6bcfd0"), looks := false }, kinds := [], alts := [], laidByText := true, laidKinds := [.data, .pinned], laidTests := true, laidLooks := .later }
def PostingEmptyUptoCardSaid : Prop := Claim7.holds Tryd.pinned (.plain (OpenSpec.upto postingEmptySpec)) postingEmptyUptoCard
end Rows
end Go.Proofs.YtjmpmaonebbgaaaDoor
