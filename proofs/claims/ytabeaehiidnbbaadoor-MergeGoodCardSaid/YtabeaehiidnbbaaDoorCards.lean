/-
  DERIVED. GIVEN WITH THE SEED: THE CARDS: each row of YtabeaehiidnbbaaDoorRows.lean that lists a variable, with what it lists TIED to the program's text (the seventh form; the later family's looks); each row that meets fmt, with fmt's text TOLD by the authors' own Lean function (tested against real Go, not proved from fmt's source: count such statements apart). THE CARD IS WHAT COUNTS. Prove the row's statement (the work); the ties are given (YtabeaehiidnbbaaDoorTie.lean); close each card by the builder's one call (the guide's Derived/Test/ToyasCard.lean, 'card_holds'). Laid BY PROGRAM, IN A SANDBOX (cutbox-door.mjs). By AI agents, Wed Nov 11 2026. No macro, syntax, notation, axiom, sorry.
-/
import Derived.Test.YtabeaehiidnbbaaDoorRows
import GoSem.ClaimSeven
namespace Go.Proofs.YtabeaehiidnbbaaDoor
namespace Rows

/-- THE TIED CARD OF 'barographlaw14.MergeSamples'. -/
def mergeSamplesCard : Claim7 := { stood := { row := mergeSamplesRow, standIns := [], harness := (true, "3bb2038703104fb41204c33b885d3f356aa86f4072370fd5d0073c5b0ae1745f"), looks := true }, kinds := [], alts := [], laidByText := true, laidKinds := [.data, .pinned], laidTests := true, laidLooks := .later }
def MergeSamplesCardSaid : Prop := Claim7.holds Tryd.pinned (.plain (OpenSpec.ofChange mergeSamplesSpec)) mergeSamplesCard

/-- THE TIED CARD OF 'barographlaw14.MergeGood'. -/
def mergeGoodCard : Claim7 := { stood := { row := mergeGoodRow, standIns := [], harness := (true, "3bb2038703104fb41204c33b885d3f356aa86f4072370fd5d0073c5b0ae1745f"), looks := true }, kinds := [], alts := [], laidByText := true, laidKinds := [.data, .pinned], laidTests := true, laidLooks := .later }
def MergeGoodCardSaid : Prop := Claim7.holds Tryd.pinned (.plain (OpenSpec.ofChange mergeGoodSpec)) mergeGoodCard

/-- THE TIED CARD OF 'barographlaw14.MergeOne'. -/
def mergeOneCard : Claim7 := { stood := { row := mergeOneRow, standIns := [], harness := (true, "3bb2038703104fb41204c33b885d3f356aa86f4072370fd5d0073c5b0ae1745f"), looks := true }, kinds := [], alts := [], laidByText := true, laidKinds := [.data, .pinned], laidTests := true, laidLooks := .later }
def MergeOneCardSaid : Prop := Claim7.holds Tryd.pinned (.plain (OpenSpec.ofChange mergeOneSpec)) mergeOneCard

/-- THE SECOND FORM's CARD OF 'barographlaw14.MergeSamples'. -/
def mergeSamplesUptoCard : Claim7 := { stood := { row := mergeSamplesUptoRow, standIns := [], harness := (true, "3bb2038703104fb41204c33b885d3f356aa86f4072370fd5d0073c5b0ae1745f"), looks := true }, kinds := [], alts := [], laidByText := true, laidKinds := [.data, .pinned], laidTests := true, laidLooks := .later }
def MergeSamplesUptoCardSaid : Prop := Claim7.holds Tryd.pinned (.plain (OpenSpec.upto mergeSamplesSpec)) mergeSamplesUptoCard

/-- THE SECOND FORM's CARD OF 'barographlaw14.MergeGood'. -/
def mergeGoodUptoCard : Claim7 := { stood := { row := mergeGoodUptoRow, standIns := [], harness := (true, "3bb2038703104fb41204c33b885d3f356aa86f4072370fd5d0073c5b0ae1745f"), looks := true }, kinds := [], alts := [], laidByText := true, laidKinds := [.data, .pinned], laidTests := true, laidLooks := .later }
def MergeGoodUptoCardSaid : Prop := Claim7.holds Tryd.pinned (.plain (OpenSpec.upto mergeGoodSpec)) mergeGoodUptoCard

/-- THE SECOND FORM's CARD OF 'barographlaw14.MergeOne'. -/
def mergeOneUptoCard : Claim7 := { stood := { row := mergeOneUptoRow, standIns := [], harness := (true, "3bb2038703104fb41204c33b885d3f356aa86f4072370fd5d0073c5b0ae1745f"), looks := true }, kinds := [], alts := [], laidByText := true, laidKinds := [.data, .pinned], laidTests := true, laidLooks := .later }
def MergeOneUptoCardSaid : Prop := Claim7.holds Tryd.pinned (.plain (OpenSpec.upto mergeOneSpec)) mergeOneUptoCard
end Rows
end Go.Proofs.YtabeaehiidnbbaaDoor
