/-
  DERIVED. GIVEN WITH THE SEED: THE CARDS: each row of YtajkleknjjpldaaDoorRows.lean that lists a variable, with what it lists TIED to the program's text (the seventh form; the later family's looks); each row that meets fmt, with fmt's text TOLD by the authors' own Lean function (tested against real Go, not proved from fmt's source: count such statements apart). THE CARD IS WHAT COUNTS. Prove the row's statement (the work); the ties are given (YtajkleknjjpldaaDoorTie.lean); close each card by the builder's one call (the guide's Derived/Test/ToyasCard.lean, 'card_holds'). Laid BY PROGRAM, IN A SANDBOX (cutbox-door.mjs). By AI agents, Wed Nov 11 2026. No macro, syntax, notation, axiom, sorry.
-/
import Derived.Test.YtajkleknjjpldaaDoorRows
import GoSem.ClaimSeven
namespace Go.Proofs.YtajkleknjjpldaaDoor
namespace Rows

/-- THE TIED CARD OF 'barographtop.BarographChunked'. -/
def barographChunkedCard : Claim7 := { stood := { row := barographChunkedRow, standIns := [], harness := (true, "39b571d8f0a994e3be62bf1c1565c927bf06fe595c83a9892329407653163c98"), looks := false }, kinds := [], alts := [], laidByText := true, laidKinds := [.data, .data, .data, .data], laidTests := true, laidLooks := .later }
def BarographChunkedCardSaid : Prop := Claim7.holds Tryd.pinned (.plain (OpenSpec.ofChange barographChunkedSpec)) barographChunkedCard

/-- THE SECOND FORM's CARD OF 'barographtop.BarographChunked'. -/
def barographChunkedUptoCard : Claim7 := { stood := { row := barographChunkedUptoRow, standIns := [], harness := (true, "39b571d8f0a994e3be62bf1c1565c927bf06fe595c83a9892329407653163c98"), looks := false }, kinds := [], alts := [], laidByText := true, laidKinds := [.data, .data, .data, .data], laidTests := true, laidLooks := .later }
def BarographChunkedUptoCardSaid : Prop := Claim7.holds Tryd.pinned (.plain (OpenSpec.upto barographChunkedSpec)) barographChunkedUptoCard
end Rows
end Go.Proofs.YtajkleknjjpldaaDoor
