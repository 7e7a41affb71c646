/-
  DERIVED. GIVEN WITH THE SEED: THE CARDS: each row of YtefhnjepocbodaaGreatDoorRows.lean that lists a variable, with what it lists TIED to the program's text (the seventh form; the later family's looks); each row that meets fmt, with fmt's text TOLD by the authors' own Lean function (tested against real Go, not proved from fmt's source: count such statements apart). THE CARD IS WHAT COUNTS. Prove the row's statement (the work); the ties are given (YtefhnjepocbodaaGreatDoorTie.lean); close each card by the builder's one call (the guide's Derived/Test/ToyasCard.lean, 'card_holds'). Laid BY PROGRAM, IN A SANDBOX (cutbox-door.mjs). By AI agents, Wed Nov 11 2026. No macro, syntax, notation, axiom, sorry.
-/
import Derived.Test.YtefhnjepocbodaaGreatDoorRows
import GoSem.ClaimSeven
namespace Go.Proofs.YtefhnjepocbodaaGreatDoor
namespace Rows

/-- THE TIED CARD OF 'barographlaw13.MatcherSelects'. -/
def matcherSelectsCard : Claim7 := { stood := { row := matcherSelectsRow, standIns := [], harness := (true, "b6ff07b1fe1a656660a6bffe1e5bb1d5ac929a20f42c9d34484ac6a013341f28"), looks := false }, kinds := [], alts := [], laidByText := true, laidKinds := [.data, .pinned], laidTests := true, laidLooks := .later }
def MatcherSelectsCardSaid : Prop := Claim7.holds Tryz.pinned (.plain (OpenSpec.ofChange matcherSelectsSpec)) matcherSelectsCard

/-- THE TIED CARD OF 'barographlaw13.MatcherMore'. -/
def matcherMoreCard : Claim7 := { stood := { row := matcherMoreRow, standIns := [], harness := (true, "b6ff07b1fe1a656660a6bffe1e5bb1d5ac929a20f42c9d34484ac6a013341f28"), looks := false }, kinds := [], alts := [], laidByText := true, laidKinds := [.data, .pinned], laidTests := true, laidLooks := .later }
def MatcherMoreCardSaid : Prop := Claim7.holds Tryz.pinned (.plain (OpenSpec.ofChange matcherMoreSpec)) matcherMoreCard

/-- THE SECOND FORM's CARD OF 'barographlaw13.MatcherSelects'. -/
def matcherSelectsUptoCard : Claim7 := { stood := { row := matcherSelectsUptoRow, standIns := [], harness := (true, "b6ff07b1fe1a656660a6bffe1e5bb1d5ac929a20f42c9d34484ac6a013341f28"), looks := false }, kinds := [], alts := [], laidByText := true, laidKinds := [.data, .pinned], laidTests := true, laidLooks := .later }
def MatcherSelectsUptoCardSaid : Prop := Claim7.holds Tryz.pinned (.plain (OpenSpec.upto matcherSelectsSpec)) matcherSelectsUptoCard

/-- THE SECOND FORM's CARD OF 'barographlaw13.MatcherMore'. -/
def matcherMoreUptoCard : Claim7 := { stood := { row := matcherMoreUptoRow, standIns := [], harness := (true, "b6ff07b1fe1a656660a6bffe1e5bb1d5ac929a20f42c9d34484ac6a013341f28"), looks := false }, kinds := [], alts := [], laidByText := true, laidKinds := [.data, .pinned], laidTests := true, laidLooks := .later }
def MatcherMoreUptoCardSaid : Prop := Claim7.holds Tryz.pinned (.plain (OpenSpec.upto matcherMoreSpec)) matcherMoreUptoCard
end Rows
end Go.Proofs.YtefhnjepocbodaaGreatDoor
