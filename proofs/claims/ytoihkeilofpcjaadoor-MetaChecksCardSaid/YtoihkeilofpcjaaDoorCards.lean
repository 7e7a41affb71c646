/-
  DERIVED. GIVEN WITH THE SEED: THE CARDS: each row of YtoihkeilofpcjaaDoorRows.lean that lists a variable, with what it lists TIED to the program's text (the seventh form; the later family's looks); each row that meets fmt, with fmt's text TOLD by the authors' own Lean function (tested against real Go, not proved from fmt's source: count such statements apart). THE CARD IS WHAT COUNTS. Prove the row's statement (the work); the ties are given (YtoihkeilofpcjaaDoorTie.lean); close each card by the builder's one call (the guide's Derived/Test/ToyasCard.lean, 'card_holds'). Laid BY PROGRAM, IN A SANDBOX (cutbox-door.mjs). By AI agents, Wed Nov 11 2026. No macro, syntax, notation, axiom, sorry.
-/
import Derived.Test.YtoihkeilofpcjaaDoorRows
import GoSem.ClaimSeven
namespace Go.Proofs.YtoihkeilofpcjaaDoor
namespace Rows

/-- THE TIED CARD OF 'barographlaw09.MetaChecks'. -/
def metaChecksCard : Claim7 := { stood := { row := metaChecksRow, standIns := [], harness := (true, "3b6afa12041d70dc0cde4bc4b2614d652cf642df559f5dd2a7a89fdbf116bf3a"), looks := false }, kinds := [], alts := [], laidByText := true, laidKinds := [.data], laidTests := true, laidLooks := .later }
def MetaChecksCardSaid : Prop := Claim7.holds Tryd.pinned (.plain (OpenSpec.ofChange metaChecksSpec)) metaChecksCard

/-- THE SECOND FORM's CARD OF 'barographlaw09.MetaChecks'. -/
def metaChecksUptoCard : Claim7 := { stood := { row := metaChecksUptoRow, standIns := [], harness := (true, "3b6afa12041d70dc0cde4bc4b2614d652cf642df559f5dd2a7a89fdbf116bf3a"), looks := false }, kinds := [], alts := [], laidByText := true, laidKinds := [.data], laidTests := true, laidLooks := .later }
def MetaChecksUptoCardSaid : Prop := Claim7.holds Tryd.pinned (.plain (OpenSpec.upto metaChecksSpec)) metaChecksUptoCard
end Rows
end Go.Proofs.YtoihkeilofpcjaaDoor
