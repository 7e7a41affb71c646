/-
  DERIVED. GIVEN WITH THE SEED: THE CARDS: each row of YteheojiokbdgmaaDoorRows.lean that lists a variable, with what it lists TIED to the program's text (the seventh form; the later family's looks); each row that meets fmt, with fmt's text TOLD by the authors' own Lean function (tested against real Go, not proved from fmt's source: count such statements apart). THE CARD IS WHAT COUNTS. Prove the row's statement (the work); the ties are given (YteheojiokbdgmaaDoorTie.lean); close each card by the builder's one call (the guide's Derived/Test/ToyasCard.lean, 'card_holds'). Laid BY PROGRAM, IN A SANDBOX (cutbox-door.mjs). By AI agents, Wed Nov 11 2026. No macro, syntax, notation, axiom, sorry.
-/
import Derived.Test.YteheojiokbdgmaaDoorRows
import GoSem.ClaimSeven
namespace Go.Proofs.YteheojiokbdgmaaDoor
namespace Rows

/-- THE TIED CARD OF 'barographlaw12.PostingEmpty'. -/
def postingEmptyCard : Claim7 := { stood := { row := postingEmptyRow, standIns := [], harness := (true, "b46185a0706ef2d5b56638683cb4528a600fd3abc2692377e4754b0699a29b79"), looks := false }, kinds := [], alts := [], laidByText := true, laidKinds := [.data, .pinned], laidTests := true, laidLooks := .later }
def PostingEmptyCardSaid : Prop := Claim7.holds Tryd.pinned (.plain (OpenSpec.ofChange postingEmptySpec)) postingEmptyCard

/-- THE SECOND FORM's CARD OF 'barographlaw12.PostingEmpty'. -/
def postingEmptyUptoCard : Claim7 := { stood := { row := postingEmptyUptoRow, standIns := [], harness := (true, "b46185a0706ef2d5b56638683cb4528a600fd3abc2692377e4754b0699a29b79"), looks := false }, kinds := [], alts := [], laidByText := true, laidKinds := [.data, .pinned], laidTests := true, laidLooks := .later }
def PostingEmptyUptoCardSaid : Prop := Claim7.holds Tryd.pinned (.plain (OpenSpec.upto postingEmptySpec)) postingEmptyUptoCard
end Rows
end Go.Proofs.YteheojiokbdgmaaDoor
