/-
  DERIVED. GIVEN WITH THE SEED: THE CARDS: each row of YtfckgcckpfklaaaGreatDoorRows.lean that lists a variable, with what it lists TIED to the program's text (the seventh form; the later family's looks); each row that meets fmt, with fmt's text TOLD by the authors' own Lean function (tested against real Go, not proved from fmt's source: count such statements apart). THE CARD IS WHAT COUNTS. Prove the row's statement (the work); the ties are given (YtfckgcckpfklaaaGreatDoorTie.lean); close each card by the builder's one call (the guide's Derived/Test/ToyasCard.lean, 'card_holds'). Laid BY PROGRAM, IN A SANDBOX (cutbox-door.mjs). By AI agents, Wed Nov 11 2026. No macro, syntax, notation, axiom, sorry.
-/
import Derived.Test.YtfckgcckpfklaaaGreatDoorRows
import GoSem.ClaimSeven
namespace Go.Proofs.YtfckgcckpfklaaaGreatDoor
namespace Rows

/-- THE TIED CARD OF 'barographlaw25.LedgerSettles'. -/
def ledgerSettlesCard : Claim7 := { stood := { row := ledgerSettlesRow, standIns := [], harness := (true, "28f73529d46d438949e446454ce629a7370e896e10ef322a5a126837d7f5b458"), looks := true }, kinds := [], alts := [], laidByText := true, laidKinds := [.data, .pinned], laidTests := true, laidLooks := .later }
def LedgerSettlesCardSaid : Prop := Claim7.holds Tryz.pinned (.plain (OpenSpec.ofChange ledgerSettlesSpec)) ledgerSettlesCard

/-- THE TIED CARD OF 'barographlaw25.LedgerWithin'. -/
def ledgerWithinCard : Claim7 := { stood := { row := ledgerWithinRow, standIns := [], harness := (true, "28f73529d46d438949e446454ce629a7370e896e10ef322a5a126837d7f5b458"), looks := true }, kinds := [], alts := [], laidByText := true, laidKinds := [.data, .pinned], laidTests := true, laidLooks := .later }
def LedgerWithinCardSaid : Prop := Claim7.holds Tryz.pinned (.plain (OpenSpec.ofChange ledgerWithinSpec)) ledgerWithinCard

/-- THE TIED CARD OF 'barographlaw25.LedgerAnswers'. -/
def ledgerAnswersCard : Claim7 := { stood := { row := ledgerAnswersRow, standIns := [], harness := (true, "28f73529d46d438949e446454ce629a7370e896e10ef322a5a126837d7f5b458"), looks := true }, kinds := [], alts := [], laidByText := true, laidKinds := [.data, .pinned], laidTests := true, laidLooks := .later }
def LedgerAnswersCardSaid : Prop := Claim7.holds Tryz.pinned (.plain (OpenSpec.ofChange ledgerAnswersSpec)) ledgerAnswersCard

/-- THE SECOND FORM's CARD OF 'barographlaw25.LedgerSettles'. -/
def ledgerSettlesUptoCard : Claim7 := { stood := { row := ledgerSettlesUptoRow, standIns := [], harness := (true, "28f73529d46d438949e446454ce629a7370e896e10ef322a5a126837d7f5b458"), looks := true }, kinds := [], alts := [], laidByText := true, laidKinds := [.data, .pinned], laidTests := true, laidLooks := .later }
def LedgerSettlesUptoCardSaid : Prop := Claim7.holds Tryz.pinned (.plain (OpenSpec.upto ledgerSettlesSpec)) ledgerSettlesUptoCard

/-- THE SECOND FORM's CARD OF 'barographlaw25.LedgerWithin'. -/
def ledgerWithinUptoCard : Claim7 := { stood := { row := ledgerWithinUptoRow, standIns := [], harness := (true, "28f73529d46d438949e446454ce629a7370e896e10ef322a5a126837d7f5b458"), looks := true }, kinds := [], alts := [], laidByText := true, laidKinds := [.data, .pinned], laidTests := true, laidLooks := .later }
def LedgerWithinUptoCardSaid : Prop := Claim7.holds Tryz.pinned (.plain (OpenSpec.upto ledgerWithinSpec)) ledgerWithinUptoCard

/-- THE SECOND FORM's CARD OF 'barographlaw25.LedgerAnswers'. -/
def ledgerAnswersUptoCard : Claim7 := { stood := { row := ledgerAnswersUptoRow, standIns := [], harness := (true, "28f73529d46d438949e446454ce629a7370e896e10ef322a5a126837d7f5b458"), looks := true }, kinds := [], alts := [], laidByText := true, laidKinds := [.data, .pinned], laidTests := true, laidLooks := .later }
def LedgerAnswersUptoCardSaid : Prop := Claim7.holds Tryz.pinned (.plain (OpenSpec.upto ledgerAnswersSpec)) ledgerAnswersUptoCard
end Rows
end Go.Proofs.YtfckgcckpfklaaaGreatDoor
