/-
  DERIVED. GIVEN WITH THE SEED: THE CARDS: each row of YtobdlfikomnmcaaDoorRows.lean that lists a variable, with what it lists TIED to the program's text (the seventh form; the later family's looks); each row that meets fmt, with fmt's text TOLD by the authors' own Lean function (tested against real Go, not proved from fmt's source: count such statements apart). THE CARD IS WHAT COUNTS. Prove the row's statement (the work); the ties are given (YtobdlfikomnmcaaDoorTie.lean); close each card by the builder's one call (the guide's Derived/Test/ToyasCard.lean, 'card_holds'). Laid BY PROGRAM, IN A SANDBOX (cutbox-door.mjs). By AI agents, Wed Nov 11 2026. No macro, syntax, notation, axiom, sorry.
-/
import Derived.Test.YtobdlfikomnmcaaDoorRows
import GoSem.ClaimSeven
namespace Go.Proofs.YtobdlfikomnmcaaDoor
namespace Rows

/-- THE TIED CARD OF 'barographlaw13.MatcherBack'. -/
def matcherBackCard : Claim7 := { stood := { row := matcherBackRow, standIns := [], harness := (true, "9bd97c95282a25d01ef6d09a9223ac908f6dd608186da093b33752b3e8081ab4"), looks := false }, kinds := [], alts := [], laidByText := true, laidKinds := [.data, .pinned], laidTests := true, laidLooks := .later }
def MatcherBackCardSaid : Prop := Claim7.holds Tryd.pinned (.plain (OpenSpec.ofChange matcherBackSpec)) matcherBackCard

/-- THE SECOND FORM's CARD OF 'barographlaw13.MatcherBack'. -/
def matcherBackUptoCard : Claim7 := { stood := { row := matcherBackUptoRow, standIns := [], harness := (true, "9bd97c95282a25d01ef6d09a9223ac908f6dd608186da093b33752b3e8081ab4"), looks := false }, kinds := [], alts := [], laidByText := true, laidKinds := [.data, .pinned], laidTests := true, laidLooks := .later }
def MatcherBackUptoCardSaid : Prop := Claim7.holds Tryd.pinned (.plain (OpenSpec.upto matcherBackSpec)) matcherBackUptoCard
end Rows
end Go.Proofs.YtobdlfikomnmcaaDoor
