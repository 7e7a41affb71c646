/-
  NARROWER THAN 'FOR EVERY INPUT', by the rows' own cells (each row's printed sentence says how): XorFull: laid · XorSteady: laid · XorLess: laid · XorBack: laid.
  DERIVED. THE GIVEN ROWS OF THIS SEAT. 4 by the template 'for every input the law returns true; each argument reads behind the call as it read before'; 0 by the template 'total and deterministic' (their statements: YtfcioamdkebniaaDoorTotals.lean).
  GIVEN WITH THE SEED: the statements are not yours to turn. If you find one false, say at which input.
  Laid BY PROGRAM, IN A SANDBOX (cutbox-rows.mjs): the forced cells as the released guide's own fill.sh prints them over the translation 662bf7bbbb62a8dd… (all of the seat's roots in one cut). By AI agents, Wed Nov 11 2026. No macro, syntax, notation, axiom, sorry.
-/
import Derived.Test.YtfcioamdkebniaaDoorChecked
import GoSem.Claim
import GoSem.ClaimJoined
import GoSem.ClaimMapViews
import Derived.JoinedTies
import Derived.KernelRfl
namespace Go.Proofs.YtfcioamdkebniaaDoor
/- THE CELL 'sum', in the pinned program and in every row, IS THE sha256 OF THE DUMP (.gsa) THAT YtfcioamdkebniaaDoorProg.lean LOADS. Nothing in Lean hashes anything: it is a label: what it is worth is what the hold of that sum in a sandbox is worth. -/
noncomputable def Tryd.pinned : Pinned := { name := "ytfcioamdkebniaadoor", sum := "662bf7bbbb62a8dd3b2024a0430c2e940ff900ba93808e081a8ad685588bf3b7", checked := Tryd.checked }
namespace Rows
def none {H : Type} : Left H := { results := [], args := [] }

/- WHAT THE LISTED PACKAGE-LEVEL VARIABLES READ AS WHEN THE CALL BEGINS. Each datum BY PROGRAM (the guide's laid-datum.mjs) off the statement by which the dump's own 'gosem.cut.vars' lays the variable. In a bare row this is a premise. The card (YtfcioamdkebniaaDoorCards.lean) ties it to the program's text. -/
def laid_math_bits_deBruijn64tab {H : Type} : DataW H := .agg [.lit (.int .u8 0), .lit (.int .u8 1), .lit (.int .u8 56), .lit (.int .u8 2), .lit (.int .u8 57), .lit (.int .u8 49), .lit (.int .u8 28), .lit (.int .u8 3), .lit (.int .u8 61), .lit (.int .u8 58), .lit (.int .u8 42), .lit (.int .u8 50), .lit (.int .u8 38), .lit (.int .u8 29), .lit (.int .u8 17), .lit (.int .u8 4), .lit (.int .u8 62), .lit (.int .u8 47), .lit (.int .u8 59), .lit (.int .u8 36), .lit (.int .u8 45), .lit (.int .u8 43), .lit (.int .u8 51), .lit (.int .u8 22), .lit (.int .u8 53), .lit (.int .u8 39), .lit (.int .u8 33), .lit (.int .u8 30), .lit (.int .u8 24), .lit (.int .u8 18), .lit (.int .u8 12), .lit (.int .u8 5), .lit (.int .u8 63), .lit (.int .u8 55), .lit (.int .u8 48), .lit (.int .u8 27), .lit (.int .u8 60), .lit (.int .u8 41), .lit (.int .u8 37), .lit (.int .u8 16), .lit (.int .u8 46), .lit (.int .u8 35), .lit (.int .u8 44), .lit (.int .u8 21), .lit (.int .u8 52), .lit (.int .u8 32), .lit (.int .u8 23), .lit (.int .u8 11), .lit (.int .u8 54), .lit (.int .u8 26), .lit (.int .u8 40), .lit (.int .u8 15), .lit (.int .u8 34), .lit (.int .u8 20), .lit (.int .u8 31), .lit (.int .u8 10), .lit (.int .u8 25), .lit (.int .u8 14), .lit (.int .u8 19), .lit (.int .u8 9), .lit (.int .u8 13), .lit (.int .u8 8), .lit (.int .u8 7), .lit (.int .u8 6)]
def laid_barograph_xor_widths {H : Type} : DataW H := .agg [.lit (.int .i64 0), .lit (.int .i64 7), .lit (.int .i64 12), .lit (.int .i64 20), .lit (.int .i64 64)]

/-- 'barographlaw07.XorFull': WHATEVER THE INPUT: true; the input reads as it did. -/
def xorFullSpec : ChangeSpec := { name := "xorFull", fn := fun _ => fun
  | [d1, d2] => { results := [.lit (.bool true)], args := [d1, d2] }
  | _ => none }
def xorFullRow : OpenClaim := { program := "ytfcioamdkebniaadoor", sum := "662bf7bbbb62a8dd3b2024a0430c2e940ff900ba93808e081a8ad685588bf3b7", func := "barograph/barographlaw07.XorFull", spec := "xorFull", named := ["barograph/xor.widths", "math/bits.deBruijn64tab"], apart := false, laid := [("math/bits.deBruijn64tab", laid_math_bits_deBruijn64tab), ("barograph/xor.widths", laid_barograph_xor_widths)] }
def XorFullSaid : Prop := xorFullRow.holds Tryd.pinned (OpenSpec.ofChange xorFullSpec)

/-- ITS FALSE NEIGHBOUR: 'it returns false'. Refute it at one input. -/
def xorFullWrong : ChangeSpec := { name := "xorFull", fn := fun _ => fun
  | [d1, d2] => { results := [.lit (.bool false)], args := [d1, d2] }
  | _ => none }
def XorFullWrongFalsely : Prop := xorFullRow.holds Tryd.pinned (OpenSpec.ofChange xorFullWrong)

/-- 'barographlaw07.XorSteady': WHATEVER THE INPUT: true; the input reads as it did. -/
def xorSteadySpec : ChangeSpec := { name := "xorSteady", fn := fun _ => fun
  | [d1, d2, d3] => { results := [.lit (.bool true)], args := [d1, d2, d3] }
  | _ => none }
def xorSteadyRow : OpenClaim := { program := "ytfcioamdkebniaadoor", sum := "662bf7bbbb62a8dd3b2024a0430c2e940ff900ba93808e081a8ad685588bf3b7", func := "barograph/barographlaw07.XorSteady", spec := "xorSteady", named := ["barograph/xor.widths", "math/bits.deBruijn64tab"], apart := false, laid := [("math/bits.deBruijn64tab", laid_math_bits_deBruijn64tab), ("barograph/xor.widths", laid_barograph_xor_widths)] }
def XorSteadySaid : Prop := xorSteadyRow.holds Tryd.pinned (OpenSpec.ofChange xorSteadySpec)

/-- ITS FALSE NEIGHBOUR: 'it returns false'. Refute it at one input. -/
def xorSteadyWrong : ChangeSpec := { name := "xorSteady", fn := fun _ => fun
  | [d1, d2, d3] => { results := [.lit (.bool false)], args := [d1, d2, d3] }
  | _ => none }
def XorSteadyWrongFalsely : Prop := xorSteadyRow.holds Tryd.pinned (OpenSpec.ofChange xorSteadyWrong)

/-- 'barographlaw07.XorLess': WHATEVER THE INPUT: true; the input reads as it did. -/
def xorLessSpec : ChangeSpec := { name := "xorLess", fn := fun _ => fun
  | [d1, d2] => { results := [.lit (.bool true)], args := [d1, d2] }
  | _ => none }
def xorLessRow : OpenClaim := { program := "ytfcioamdkebniaadoor", sum := "662bf7bbbb62a8dd3b2024a0430c2e940ff900ba93808e081a8ad685588bf3b7", func := "barograph/barographlaw07.XorLess", spec := "xorLess", named := ["barograph/xor.widths", "math/bits.deBruijn64tab"], apart := false, laid := [("math/bits.deBruijn64tab", laid_math_bits_deBruijn64tab), ("barograph/xor.widths", laid_barograph_xor_widths)] }
def XorLessSaid : Prop := xorLessRow.holds Tryd.pinned (OpenSpec.ofChange xorLessSpec)

/-- ITS FALSE NEIGHBOUR: 'it returns false'. Refute it at one input. -/
def xorLessWrong : ChangeSpec := { name := "xorLess", fn := fun _ => fun
  | [d1, d2] => { results := [.lit (.bool false)], args := [d1, d2] }
  | _ => none }
def XorLessWrongFalsely : Prop := xorLessRow.holds Tryd.pinned (OpenSpec.ofChange xorLessWrong)

/-- 'barographlaw07.XorBack': WHATEVER THE INPUT: true; the input reads as it did. -/
def xorBackSpec : ChangeSpec := { name := "xorBack", fn := fun _ => fun
  | [d] => { results := [.lit (.bool true)], args := [d] }
  | _ => none }
def xorBackRow : OpenClaim := { program := "ytfcioamdkebniaadoor", sum := "662bf7bbbb62a8dd3b2024a0430c2e940ff900ba93808e081a8ad685588bf3b7", func := "barograph/barographlaw07.XorBack", spec := "xorBack", named := ["barograph/xor.widths", "math/bits.deBruijn64tab"], apart := false, laid := [("math/bits.deBruijn64tab", laid_math_bits_deBruijn64tab), ("barograph/xor.widths", laid_barograph_xor_widths)] }
def XorBackSaid : Prop := xorBackRow.holds Tryd.pinned (OpenSpec.ofChange xorBackSpec)

/-- ITS FALSE NEIGHBOUR: 'it returns false'. Refute it at one input. -/
def xorBackWrong : ChangeSpec := { name := "xorBack", fn := fun _ => fun
  | [d] => { results := [.lit (.bool false)], args := [d] }
  | _ => none }
def XorBackWrongFalsely : Prop := xorBackRow.holds Tryd.pinned (OpenSpec.ofChange xorBackWrong)

/- THE SECOND FORM. 'bulk': how many values and letters a reading holds, each counted each time it is reached (what is shared counts as often as it is met; a slice's spare places count too). A statement '..UptoSaid' is the law's where the arguments, and the package variables that the reading takes, are together of bulk at most 1048576: NARROWER than '..Said'. Prove '..Said' where nothing that the law and all that it calls make is longer than what came in: it says more and counts as full. Else prove '..UptoSaid'. A law counts once. -/
mutual
def uptoBulk {H : Type} : DataW H → Nat
  | .lit (.string bytes) => bytes.length + 1
  | .lit _ => 1
  | .nil => 1
  | .ptr d => uptoBulk d + 1
  | .slice elems spare => uptoBulkAll elems + uptoBulkAll spare + 1
  | .agg parts => uptoBulkAll parts + 1
  | .iface _ d => uptoBulk d + 1
  | .map entries => uptoBulkEntries entries + 1
  | .held _ => 1
def uptoBulkAll {H : Type} : List (DataW H) → Nat
  | [] => 0
  | d :: r => uptoBulk d + uptoBulkAll r
def uptoBulkEntries {H : Type} : List (Lit × DataW H) → Nat
  | [] => 0
  | x :: r => uptoBulkEntry x + uptoBulkEntries r
def uptoBulkEntry {H : Type} : Lit × DataW H → Nat
  | (.string bytes, d) => bytes.length + uptoBulk d + 1
  | (_, d) => uptoBulk d + 1
 end
def uptoSmall : (H : Type) → List (DataW H) → Bool := fun _ ds => decide (uptoBulkAll ds ≤ 1048576)
def OpenSpec.upto (s : _root_.Go.ChangeSpec) : _root_.Go.OpenSpec := { _root_.Go.OpenSpec.ofChange s with cond := some uptoSmall }

/-- 'barographlaw07.XorFull', WHERE WHAT IT READS IS OF BULK AT MOST 1048576: true; the input reads as it did. -/
def xorFullUptoRow : OpenClaim := { program := "ytfcioamdkebniaadoor", sum := "662bf7bbbb62a8dd3b2024a0430c2e940ff900ba93808e081a8ad685588bf3b7", func := "barograph/barographlaw07.XorFull", spec := "xorFull", named := ["barograph/xor.widths", "math/bits.deBruijn64tab"], apart := false, laid := [("math/bits.deBruijn64tab", laid_math_bits_deBruijn64tab), ("barograph/xor.widths", laid_barograph_xor_widths)], narrowed := true }
def XorFullUptoSaid : Prop := xorFullUptoRow.holds Tryd.pinned (OpenSpec.upto xorFullSpec)

/-- 'barographlaw07.XorSteady', WHERE WHAT IT READS IS OF BULK AT MOST 1048576: true; the input reads as it did. -/
def xorSteadyUptoRow : OpenClaim := { program := "ytfcioamdkebniaadoor", sum := "662bf7bbbb62a8dd3b2024a0430c2e940ff900ba93808e081a8ad685588bf3b7", func := "barograph/barographlaw07.XorSteady", spec := "xorSteady", named := ["barograph/xor.widths", "math/bits.deBruijn64tab"], apart := false, laid := [("math/bits.deBruijn64tab", laid_math_bits_deBruijn64tab), ("barograph/xor.widths", laid_barograph_xor_widths)], narrowed := true }
def XorSteadyUptoSaid : Prop := xorSteadyUptoRow.holds Tryd.pinned (OpenSpec.upto xorSteadySpec)

/-- 'barographlaw07.XorLess', WHERE WHAT IT READS IS OF BULK AT MOST 1048576: true; the input reads as it did. -/
def xorLessUptoRow : OpenClaim := { program := "ytfcioamdkebniaadoor", sum := "662bf7bbbb62a8dd3b2024a0430c2e940ff900ba93808e081a8ad685588bf3b7", func := "barograph/barographlaw07.XorLess", spec := "xorLess", named := ["barograph/xor.widths", "math/bits.deBruijn64tab"], apart := false, laid := [("math/bits.deBruijn64tab", laid_math_bits_deBruijn64tab), ("barograph/xor.widths", laid_barograph_xor_widths)], narrowed := true }
def XorLessUptoSaid : Prop := xorLessUptoRow.holds Tryd.pinned (OpenSpec.upto xorLessSpec)

/-- 'barographlaw07.XorBack', WHERE WHAT IT READS IS OF BULK AT MOST 1048576: true; the input reads as it did. -/
def xorBackUptoRow : OpenClaim := { program := "ytfcioamdkebniaadoor", sum := "662bf7bbbb62a8dd3b2024a0430c2e940ff900ba93808e081a8ad685588bf3b7", func := "barograph/barographlaw07.XorBack", spec := "xorBack", named := ["barograph/xor.widths", "math/bits.deBruijn64tab"], apart := false, laid := [("math/bits.deBruijn64tab", laid_math_bits_deBruijn64tab), ("barograph/xor.widths", laid_barograph_xor_widths)], narrowed := true }
def XorBackUptoSaid : Prop := xorBackUptoRow.holds Tryd.pinned (OpenSpec.upto xorBackSpec)

end Rows
end Go.Proofs.YtfcioamdkebniaaDoor
