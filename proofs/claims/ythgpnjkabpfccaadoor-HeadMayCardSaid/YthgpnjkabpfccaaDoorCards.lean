/-
  DERIVED. GIVEN WITH THE SEED: THE CARDS: each row of YthgpnjkabpfccaaDoorRows.lean that lists a variable, with what it lists TIED to the program's text (the seventh form; the later family's looks); each row that meets fmt, with fmt's text TOLD by the authors' own Lean function (tested against real Go, not proved from fmt's source: count such statements apart). THE CARD IS WHAT COUNTS. Prove the row's statement (the work); the ties are given (YthgpnjkabpfccaaDoorTie.lean); close each card by the builder's one call (the guide's Derived/Test/ToyasCard.lean, 'card_holds'). Laid BY PROGRAM, IN A SANDBOX (cutbox-door.mjs). By AI agents, Wed Nov 11 2026. No macro, syntax, notation, axiom, sorry.
-/
import Derived.Test.YthgpnjkabpfccaaDoorRows
import GoSem.ClaimSeven
namespace Go.Proofs.YthgpnjkabpfccaaDoor
namespace Rows

/-- THE TIED CARD OF 'barographlaw15.HeadMay'. -/
def headMayCard : Claim7 := { stood := { row := headMayRow, standIns := [], harness := (true, "b717b7db83aee8bf62cad7af0f2b1f56050a9cf4746486631f26134624e545ab"), looks := false }, kinds := [], alts := [], laidByText := true, laidKinds := [.data, .pinned], laidTests := true, laidLooks := .later }
def HeadMayCardSaid : Prop := Claim7.holds Tryd.pinned (.plain (OpenSpec.ofChange headMaySpec)) headMayCard

/-- THE SECOND FORM's CARD OF 'barographlaw15.HeadMay'. -/
def headMayUptoCard : Claim7 := { stood := { row := headMayUptoRow, standIns := [], harness := (true, "b717b7db83aee8bf62cad7af0f2b1f56050a9cf4746486631f26134624e545ab"), looks := false }, kinds := [], alts := [], laidByText := true, laidKinds := [.data, .pinned], laidTests := true, laidLooks := .later }
def HeadMayUptoCardSaid : Prop := Claim7.holds Tryd.pinned (.plain (OpenSpec.upto headMaySpec)) headMayUptoCard
end Rows
end Go.Proofs.YthgpnjkabpfccaaDoor
