/-
  DERIVED. GIVEN WITH THE SEED: THE CARDS: each row of YtllomnniopocgaaDoorRows.lean that lists a variable, with what it lists TIED to the program's text (the seventh form; the later family's looks); each row that meets fmt, with fmt's text TOLD by the authors' own Lean function (tested against real Go, not proved from fmt's source: count such statements apart). THE CARD IS WHAT COUNTS. Prove the row's statement (the work); the ties are given (YtllomnniopocgaaDoorTie.lean); close each card by the builder's one call (the guide's Derived/Test/ToyasCard.lean, 'card_holds'). Laid BY PROGRAM, IN A SANDBOX (cutbox-door.mjs). By AI agents, Wed Nov 11 2026. No macro, syntax, notation, axiom, sorry.
-/
import Derived.Test.YtllomnniopocgaaDoorRows
import GoSem.ClaimSeven
namespace Go.Proofs.YtllomnniopocgaaDoor
namespace Rows

/-- THE TIED CARD OF 'barographlaw09.MetaBack'. -/
def metaBackCard : Claim7 := { stood := { row := metaBackRow, standIns := [], harness := (true, "5163f65cd5b4547066b93fec27f01c254d95f33ed20c7c115d10b9f5f69f2c08"), looks := false }, kinds := [], alts := [], laidByText := true, laidKinds := [.data], laidTests := true, laidLooks := .later }
def MetaBackCardSaid : Prop := Claim7.holds Tryd.pinned (.plain (OpenSpec.ofChange metaBackSpec)) metaBackCard

/-- THE TIED CARD OF 'barographlaw09.MetaOne'. -/
def metaOneCard : Claim7 := { stood := { row := metaOneRow, standIns := [], harness := (true, "5163f65cd5b4547066b93fec27f01c254d95f33ed20c7c115d10b9f5f69f2c08"), looks := false }, kinds := [], alts := [], laidByText := true, laidKinds := [.data], laidTests := true, laidLooks := .later }
def MetaOneCardSaid : Prop := Claim7.holds Tryd.pinned (.plain (OpenSpec.ofChange metaOneSpec)) metaOneCard

/-- THE TIED CARD OF 'barographlaw09.MetaBent'. -/
def metaBentCard : Claim7 := { stood := { row := metaBentRow, standIns := [], harness := (true, "5163f65cd5b4547066b93fec27f01c254d95f33ed20c7c115d10b9f5f69f2c08"), looks := false }, kinds := [], alts := [], laidByText := true, laidKinds := [.data], laidTests := true, laidLooks := .later }
def MetaBentCardSaid : Prop := Claim7.holds Tryd.pinned (.plain (OpenSpec.ofChange metaBentSpec)) metaBentCard

/-- THE SECOND FORM's CARD OF 'barographlaw09.MetaBack'. -/
def metaBackUptoCard : Claim7 := { stood := { row := metaBackUptoRow, standIns := [], harness := (true, "5163f65cd5b4547066b93fec27f01c254d95f33ed20c7c115d10b9f5f69f2c08"), looks := false }, kinds := [], alts := [], laidByText := true, laidKinds := [.data], laidTests := true, laidLooks := .later }
def MetaBackUptoCardSaid : Prop := Claim7.holds Tryd.pinned (.plain (OpenSpec.upto metaBackSpec)) metaBackUptoCard

/-- THE SECOND FORM's CARD OF 'barographlaw09.MetaOne'. -/
def metaOneUptoCard : Claim7 := { stood := { row := metaOneUptoRow, standIns := [], harness := (true, "5163f65cd5b4547066b93fec27f01c254d95f33ed20c7c115d10b9f5f69f2c08"), looks := false }, kinds := [], alts := [], laidByText := true, laidKinds := [.data], laidTests := true, laidLooks := .later }
def MetaOneUptoCardSaid : Prop := Claim7.holds Tryd.pinned (.plain (OpenSpec.upto metaOneSpec)) metaOneUptoCard

/-- THE SECOND FORM's CARD OF 'barographlaw09.MetaBent'. -/
def metaBentUptoCard : Claim7 := { stood := { row := metaBentUptoRow, standIns := [], harness := (true, "5163f65cd5b4547066b93fec27f01c254d95f33ed20c7c115d10b9f5f69f2c08"), looks := false }, kinds := [], alts := [], laidByText := true, laidKinds := [.data], laidTests := true, laidLooks := .later }
def MetaBentUptoCardSaid : Prop := Claim7.holds Tryd.pinned (.plain (OpenSpec.upto metaBentSpec)) metaBentUptoCard
end Rows
end Go.Proofs.YtllomnniopocgaaDoor
