/-
  DERIVED. GIVEN WITH THE SEED: THE CARDS: each row of YtcmalckaekbomaaDoorRows.lean that lists a variable, with what it lists TIED to the program's text (the seventh form; the later family's looks); each row that meets fmt, with fmt's text TOLD by the authors' own Lean function (tested against real Go, not proved from fmt's source: count such statements apart). THE CARD IS WHAT COUNTS. Prove the row's statement (the work); the ties are given (YtcmalckaekbomaaDoorTie.lean); close each card by the builder's one call (the guide's Derived/Test/ToyasCard.lean, 'card_holds'). Laid BY PROGRAM, IN A SANDBOX (cutbox-door.mjs). By AI agents, Wed Nov 11 2026. No macro, syntax, notation, axiom, sorry.
-/
import Derived.Test.YtcmalckaekbomaaDoorRows
import GoSem.ClaimSeven
namespace Go.Proofs.YtcmalckaekbomaaDoor
namespace Rows

/-- THE TIED CARD OF 'barographlaw14.MergeTables'. -/
def mergeTablesCard : Claim7 := { stood := { row := mergeTablesRow, standIns := [], harness := (true, "83c79d1561f58814d06cc4d7f687b9f83dec0726be2428770354624f97486140"), looks := true }, kinds := [], alts := [], laidByText := true, laidKinds := [.data, .pinned], laidTests := true, laidLooks := .later }
def MergeTablesCardSaid : Prop := Claim7.holds Tryd.pinned (.plain (OpenSpec.ofChange mergeTablesSpec)) mergeTablesCard

/-- THE TIED CARD OF 'barographlaw14.MergeOrder'. -/
def mergeOrderCard : Claim7 := { stood := { row := mergeOrderRow, standIns := [], harness := (true, "83c79d1561f58814d06cc4d7f687b9f83dec0726be2428770354624f97486140"), looks := true }, kinds := [], alts := [], laidByText := true, laidKinds := [.data, .pinned], laidTests := true, laidLooks := .later }
def MergeOrderCardSaid : Prop := Claim7.holds Tryd.pinned (.plain (OpenSpec.ofChange mergeOrderSpec)) mergeOrderCard

/-- THE TIED CARD OF 'barographlaw14.MergeSplit'. -/
def mergeSplitCard : Claim7 := { stood := { row := mergeSplitRow, standIns := [], harness := (true, "83c79d1561f58814d06cc4d7f687b9f83dec0726be2428770354624f97486140"), looks := true }, kinds := [], alts := [], laidByText := true, laidKinds := [.data, .pinned], laidTests := true, laidLooks := .later }
def MergeSplitCardSaid : Prop := Claim7.holds Tryd.pinned (.plain (OpenSpec.ofChange mergeSplitSpec)) mergeSplitCard

/-- THE SECOND FORM's CARD OF 'barographlaw14.MergeTables'. -/
def mergeTablesUptoCard : Claim7 := { stood := { row := mergeTablesUptoRow, standIns := [], harness := (true, "83c79d1561f58814d06cc4d7f687b9f83dec0726be2428770354624f97486140"), looks := true }, kinds := [], alts := [], laidByText := true, laidKinds := [.data, .pinned], laidTests := true, laidLooks := .later }
def MergeTablesUptoCardSaid : Prop := Claim7.holds Tryd.pinned (.plain (OpenSpec.upto mergeTablesSpec)) mergeTablesUptoCard

/-- THE SECOND FORM's CARD OF 'barographlaw14.MergeOrder'. -/
def mergeOrderUptoCard : Claim7 := { stood := { row := mergeOrderUptoRow, standIns := [], harness := (true, "83c79d1561f58814d06cc4d7f687b9f83dec0726be2428770354624f97486140"), looks := true }, kinds := [], alts := [], laidByText := true, laidKinds := [.data, .pinned], laidTests := true, laidLooks := .later }
def MergeOrderUptoCardSaid : Prop := Claim7.holds Tryd.pinned (.plain (OpenSpec.upto mergeOrderSpec)) mergeOrderUptoCard

/-- THE SECOND FORM's CARD OF 'barographlaw14.MergeSplit'. -/
def mergeSplitUptoCard : Claim7 := { stood := { row := mergeSplitUptoRow, standIns := [], harness := (true, "83c79d1561f58814d06cc4d7f687b9f83dec0726be2428770354624f97486140"), looks := true }, kinds := [], alts := [], laidByText := true, laidKinds := [.data, .pinned], laidTests := true, laidLooks := .later }
def MergeSplitUptoCardSaid : Prop := Claim7.holds Tryd.pinned (.plain (OpenSpec.upto mergeSplitSpec)) mergeSplitUptoCard
end Rows
end Go.Proofs.YtcmalckaekbomaaDoor
