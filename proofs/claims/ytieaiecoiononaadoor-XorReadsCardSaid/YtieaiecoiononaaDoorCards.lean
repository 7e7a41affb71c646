/-
  DERIVED. GIVEN WITH THE SEED: THE CARDS: each row of YtieaiecoiononaaDoorRows.lean that lists a variable, with what it lists TIED to the program's text (the seventh form; the later family's looks); each row that meets fmt, with fmt's text TOLD by the authors' own Lean function (tested against real Go, not proved from fmt's source: count such statements apart). THE CARD IS WHAT COUNTS. Prove the row's statement (the work); the ties are given (YtieaiecoiononaaDoorTie.lean); close each card by the builder's one call (the guide's Derived/Test/ToyasCard.lean, 'card_holds'). Laid BY PROGRAM, IN A SANDBOX (cutbox-door.mjs). By AI agents, Wed Nov 11 2026. No macro, syntax, notation, axiom, sorry.
-/
import Derived.Test.YtieaiecoiononaaDoorRows
import GoSem.ClaimSeven
namespace Go.Proofs.YtieaiecoiononaaDoor
namespace Rows

/-- THE TIED CARD OF 'barographlaw07.XorWrites'. -/
def xorWritesCard : Claim7 := { stood := { row := xorWritesRow, standIns := [], harness := (true, "5429f6d1121874c8677cb17005b80eedefdc56611e63cc442135af94ba1b5228"), looks := false }, kinds := [], alts := [], laidByText := true, laidKinds := [.data, .data], laidTests := true, laidLooks := .later }
def XorWritesCardSaid : Prop := Claim7.holds Tryd.pinned (.plain (OpenSpec.ofChange xorWritesSpec)) xorWritesCard

/-- THE TIED CARD OF 'barographlaw07.XorReads'. -/
def xorReadsCard : Claim7 := { stood := { row := xorReadsRow, standIns := [], harness := (true, "5429f6d1121874c8677cb17005b80eedefdc56611e63cc442135af94ba1b5228"), looks := false }, kinds := [], alts := [], laidByText := true, laidKinds := [.data, .data], laidTests := true, laidLooks := .later }
def XorReadsCardSaid : Prop := Claim7.holds Tryd.pinned (.plain (OpenSpec.ofChange xorReadsSpec)) xorReadsCard

/-- THE SECOND FORM's CARD OF 'barographlaw07.XorWrites'. -/
def xorWritesUptoCard : Claim7 := { stood := { row := xorWritesUptoRow, standIns := [], harness := (true, "5429f6d1121874c8677cb17005b80eedefdc56611e63cc442135af94ba1b5228"), looks := false }, kinds := [], alts := [], laidByText := true, laidKinds := [.data, .data], laidTests := true, laidLooks := .later }
def XorWritesUptoCardSaid : Prop := Claim7.holds Tryd.pinned (.plain (OpenSpec.upto xorWritesSpec)) xorWritesUptoCard

/-- THE SECOND FORM's CARD OF 'barographlaw07.XorReads'. -/
def xorReadsUptoCard : Claim7 := { stood := { row := xorReadsUptoRow, standIns := [], harness := (true, "5429f6d1121874c8677cb17005b80eedefdc56611e63cc442135af94ba1b5228"), looks := false }, kinds := [], alts := [], laidByText := true, laidKinds := [.data, .data], laidTests := true, laidLooks := .later }
def XorReadsUptoCardSaid : Prop := Claim7.holds Tryd.pinned (.plain (OpenSpec.upto xorReadsSpec)) xorReadsUptoCard
end Rows
end Go.Proofs.YtieaiecoiononaaDoor
