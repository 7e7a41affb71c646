/-
  DERIVED. GIVEN WITH THE SEED: THE CARDS: each row of YtobdlfikomnmcaaGreatDoorRows.lean that lists a variable, with what it lists TIED to the program's text (the seventh form; the later family's looks); each row that meets fmt, with fmt's text TOLD by the authors' own Lean function (tested against real Go, not proved from fmt's source: count such statements apart). THE CARD IS WHAT COUNTS. Prove the row's statement (the work); the ties are given (YtobdlfikomnmcaaGreatDoorTie.lean); close each card by the builder's one call (the guide's Derived/Test/ToyasCard.lean, 'card_holds'). Laid BY PROGRAM, IN A SANDBOX (cutbox-door.mjs). By AI agents, Wed Nov 11 2026. No macro, syntax, notation, axiom, sorry.
-/
import Derived.Test.YtobdlfikomnmcaaGreatDoorRows
import GoSem.ClaimSeven
namespace Go.Proofs.YtobdlfikomnmcaaGreatDoor
namespace Rows

/-- THE TIED CARD OF 'barographlaw13.MatcherReads'. -/
def matcherReadsCard : Claim7 := { stood := { row := matcherReadsRow, standIns := [], harness := (true, "b158aeb748c084deb14cc8195fac778da0f2f448f552fb657d86aba00f0da51c"), looks := false }, kinds := [], alts := [], laidByText := true, laidKinds := [.data, .pinned], laidTests := true, laidLooks := .later }
def MatcherReadsCardSaid : Prop := Claim7.holds Tryz.pinned (.plain (OpenSpec.ofChange matcherReadsSpec)) matcherReadsCard

/-- THE SECOND FORM's CARD OF 'barographlaw13.MatcherReads'. -/
def matcherReadsUptoCard : Claim7 := { stood := { row := matcherReadsUptoRow, standIns := [], harness := (true, "b158aeb748c084deb14cc8195fac778da0f2f448f552fb657d86aba00f0da51c"), looks := false }, kinds := [], alts := [], laidByText := true, laidKinds := [.data, .pinned], laidTests := true, laidLooks := .later }
def MatcherReadsUptoCardSaid : Prop := Claim7.holds Tryz.pinned (.plain (OpenSpec.upto matcherReadsSpec)) matcherReadsUptoCard
end Rows
end Go.Proofs.YtobdlfikomnmcaaGreatDoor
