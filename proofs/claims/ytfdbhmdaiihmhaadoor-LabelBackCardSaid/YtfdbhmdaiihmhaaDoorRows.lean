/-
  NARROWER THAN 'FOR EVERY INPUT', by the rows' own cells (each row's printed sentence says how): LabelMakes: laid · LabelReads: laid · LabelCompares: laid · LabelBack: laid · LabelOrder: laid · LabelAnyOrder: laid · XorWrites: laid · XorReads: laid · XorBack: laid · XorOne: laid · XorSteady: laid · XorLess: laid · XorFull: laid.
  DERIVED. THE GIVEN ROWS OF THIS SEAT. 13 by the template 'for every input the law returns true; each argument reads behind the call as it read before'; 0 by the template 'total and deterministic' (their statements: YtfdbhmdaiihmhaaDoorTotals.lean).
  GIVEN WITH THE SEED: the statements are not yours to turn. If you find one false, say at which input.
  Laid BY PROGRAM, IN A SANDBOX (cutbox-rows.mjs): the forced cells as the released guide's own fill.sh prints them over the translation 8e3a4f673e845273… (all of the seat's roots in one cut). By AI agents, Wed Nov 11 2026. No macro, syntax, notation, axiom, sorry.
-/
import Derived.Test.YtfdbhmdaiihmhaaDoorChecked
import GoSem.PinnedTables
import GoSem.Claim
import GoSem.ClaimJoined
import GoSem.ClaimMapViews
import Derived.JoinedTies
import Derived.KernelRfl
namespace Go.Proofs.YtfdbhmdaiihmhaaDoor
/- THE CELL 'sum', in the pinned program and in every row, IS THE sha256 OF THE DUMP (.gsa) THAT YtfdbhmdaiihmhaaDoorProg.lean LOADS. Nothing in Lean hashes anything: it is a label: what it is worth is what the hold of that sum in a sandbox is worth. -/
noncomputable def Tryd.pinned : Pinned := { name := "ytfdbhmdaiihmhaadoor", sum := "8e3a4f673e84527334e1121a93edb1e3a84cab3490819cb929e6deb20b5d755f", checked := Tryd.checked }
namespace Rows
def none {H : Type} : Left H := { results := [], args := [] }

/- WHAT THE LISTED PACKAGE-LEVEL VARIABLES READ AS WHEN THE CALL BEGINS. Each datum BY PROGRAM (the guide's laid-datum.mjs) off the statement by which the dump's own 'gosem.cut.vars' lays the variable. In a bare row this is a premise. The card (YtfdbhmdaiihmhaaDoorCards.lean) ties it to the program's text. -/
def laid_unicode_utf8_acceptRanges {H : Type} : DataW H := .agg [.agg [.lit (.int .u8 128), .lit (.int .u8 191)], .agg [.lit (.int .u8 160), .lit (.int .u8 191)], .agg [.lit (.int .u8 128), .lit (.int .u8 159)], .agg [.lit (.int .u8 144), .lit (.int .u8 191)], .agg [.lit (.int .u8 128), .lit (.int .u8 143)], .agg [.lit (.int .u8 0), .lit (.int .u8 0)], .agg [.lit (.int .u8 0), .lit (.int .u8 0)], .agg [.lit (.int .u8 0), .lit (.int .u8 0)], .agg [.lit (.int .u8 0), .lit (.int .u8 0)], .agg [.lit (.int .u8 0), .lit (.int .u8 0)], .agg [.lit (.int .u8 0), .lit (.int .u8 0)], .agg [.lit (.int .u8 0), .lit (.int .u8 0)], .agg [.lit (.int .u8 0), .lit (.int .u8 0)], .agg [.lit (.int .u8 0), .lit (.int .u8 0)], .agg [.lit (.int .u8 0), .lit (.int .u8 0)], .agg [.lit (.int .u8 0), .lit (.int .u8 0)]]
/-- One of Go's own tables, pinned by name: the form's constant. -/
def laid_unicode_utf8_first : DataW Unit := Go.Pinned.utf8First
def laid_math_bits_deBruijn64tab {H : Type} : DataW H := .agg [.lit (.int .u8 0), .lit (.int .u8 1), .lit (.int .u8 56), .lit (.int .u8 2), .lit (.int .u8 57), .lit (.int .u8 49), .lit (.int .u8 28), .lit (.int .u8 3), .lit (.int .u8 61), .lit (.int .u8 58), .lit (.int .u8 42), .lit (.int .u8 50), .lit (.int .u8 38), .lit (.int .u8 29), .lit (.int .u8 17), .lit (.int .u8 4), .lit (.int .u8 62), .lit (.int .u8 47), .lit (.int .u8 59), .lit (.int .u8 36), .lit (.int .u8 45), .lit (.int .u8 43), .lit (.int .u8 51), .lit (.int .u8 22), .lit (.int .u8 53), .lit (.int .u8 39), .lit (.int .u8 33), .lit (.int .u8 30), .lit (.int .u8 24), .lit (.int .u8 18), .lit (.int .u8 12), .lit (.int .u8 5), .lit (.int .u8 63), .lit (.int .u8 55), .lit (.int .u8 48), .lit (.int .u8 27), .lit (.int .u8 60), .lit (.int .u8 41), .lit (.int .u8 37), .lit (.int .u8 16), .lit (.int .u8 46), .lit (.int .u8 35), .lit (.int .u8 44), .lit (.int .u8 21), .lit (.int .u8 52), .lit (.int .u8 32), .lit (.int .u8 23), .lit (.int .u8 11), .lit (.int .u8 54), .lit (.int .u8 26), .lit (.int .u8 40), .lit (.int .u8 15), .lit (.int .u8 34), .lit (.int .u8 20), .lit (.int .u8 31), .lit (.int .u8 10), .lit (.int .u8 25), .lit (.int .u8 14), .lit (.int .u8 19), .lit (.int .u8 9), .lit (.int .u8 13), .lit (.int .u8 8), .lit (.int .u8 7), .lit (.int .u8 6)]
def laid_barograph_xor_widths {H : Type} : DataW H := .agg [.lit (.int .i64 0), .lit (.int .i64 7), .lit (.int .i64 12), .lit (.int .i64 20), .lit (.int .i64 64)]

/-- 'barographlaw06.LabelMakes': WHATEVER THE INPUT: true; the input reads as it did. -/
def labelMakesSpec : ChangeSpec := { name := "labelMakes", fn := fun _ => fun
  | [d1, d2] => { results := [.lit (.bool true)], args := [d1, d2] }
  | _ => none }
def labelMakesRow : OpenClaim := { program := "ytfdbhmdaiihmhaadoor", sum := "8e3a4f673e84527334e1121a93edb1e3a84cab3490819cb929e6deb20b5d755f", func := "barograph/barographlaw06.LabelMakes", spec := "labelMakes", inPlace := ["internal/bytealg.abigen_runtime_cmpstring", "internal/bytealg.IndexByteString", "internal/bytealg.IndexString", "internal/abi.NoEscape"], unfollowed := true, recurses := true, named := ["unicode/utf8.first", "unicode/utf8.acceptRanges", "internal/bytealg.MaxLen"], apart := false, laid := [("unicode/utf8.acceptRanges", laid_unicode_utf8_acceptRanges), ("unicode/utf8.first", laid_unicode_utf8_first)] }
def LabelMakesSaid : Prop := labelMakesRow.holds Tryd.pinned (OpenSpec.ofChange labelMakesSpec)

/-- ITS FALSE NEIGHBOUR: 'it returns false'. Refute it at one input. -/
def labelMakesWrong : ChangeSpec := { name := "labelMakes", fn := fun _ => fun
  | [d1, d2] => { results := [.lit (.bool false)], args := [d1, d2] }
  | _ => none }
def LabelMakesWrongFalsely : Prop := labelMakesRow.holds Tryd.pinned (OpenSpec.ofChange labelMakesWrong)

/-- 'barographlaw06.LabelReads': WHATEVER THE INPUT: true; the input reads as it did. -/
def labelReadsSpec : ChangeSpec := { name := "labelReads", fn := fun _ => fun
  | [d1, d2] => { results := [.lit (.bool true)], args := [d1, d2] }
  | _ => none }
def labelReadsRow : OpenClaim := { program := "ytfdbhmdaiihmhaadoor", sum := "8e3a4f673e84527334e1121a93edb1e3a84cab3490819cb929e6deb20b5d755f", func := "barograph/barographlaw06.LabelReads", spec := "labelReads", inPlace := ["internal/bytealg.IndexByteString", "internal/bytealg.IndexString", "internal/bytealg.abigen_runtime_cmpstring", "internal/abi.NoEscape"], unfollowed := true, recurses := true, named := ["unicode/utf8.first", "unicode/utf8.acceptRanges", "internal/bytealg.MaxLen"], apart := false, laid := [("unicode/utf8.acceptRanges", laid_unicode_utf8_acceptRanges), ("unicode/utf8.first", laid_unicode_utf8_first)] }
def LabelReadsSaid : Prop := labelReadsRow.holds Tryd.pinned (OpenSpec.ofChange labelReadsSpec)

/-- ITS FALSE NEIGHBOUR: 'it returns false'. Refute it at one input. -/
def labelReadsWrong : ChangeSpec := { name := "labelReads", fn := fun _ => fun
  | [d1, d2] => { results := [.lit (.bool false)], args := [d1, d2] }
  | _ => none }
def LabelReadsWrongFalsely : Prop := labelReadsRow.holds Tryd.pinned (OpenSpec.ofChange labelReadsWrong)

/-- 'barographlaw06.LabelCompares': WHATEVER THE INPUT: true; the input reads as it did. -/
def labelComparesSpec : ChangeSpec := { name := "labelCompares", fn := fun _ => fun
  | [d1, d2] => { results := [.lit (.bool true)], args := [d1, d2] }
  | _ => none }
def labelComparesRow : OpenClaim := { program := "ytfdbhmdaiihmhaadoor", sum := "8e3a4f673e84527334e1121a93edb1e3a84cab3490819cb929e6deb20b5d755f", func := "barograph/barographlaw06.LabelCompares", spec := "labelCompares", inPlace := ["internal/bytealg.IndexByteString", "internal/bytealg.IndexString", "internal/bytealg.abigen_runtime_cmpstring", "internal/abi.NoEscape"], unfollowed := true, recurses := true, named := ["unicode/utf8.first", "unicode/utf8.acceptRanges", "internal/bytealg.MaxLen"], apart := false, laid := [("unicode/utf8.acceptRanges", laid_unicode_utf8_acceptRanges), ("unicode/utf8.first", laid_unicode_utf8_first)] }
def LabelComparesSaid : Prop := labelComparesRow.holds Tryd.pinned (OpenSpec.ofChange labelComparesSpec)

/-- ITS FALSE NEIGHBOUR: 'it returns false'. Refute it at one input. -/
def labelComparesWrong : ChangeSpec := { name := "labelCompares", fn := fun _ => fun
  | [d1, d2] => { results := [.lit (.bool false)], args := [d1, d2] }
  | _ => none }
def LabelComparesWrongFalsely : Prop := labelComparesRow.holds Tryd.pinned (OpenSpec.ofChange labelComparesWrong)

/-- 'barographlaw06.LabelBack': WHATEVER THE INPUT: true; the input reads as it did. -/
def labelBackSpec : ChangeSpec := { name := "labelBack", fn := fun _ => fun
  | [d1, d2] => { results := [.lit (.bool true)], args := [d1, d2] }
  | _ => none }
def labelBackRow : OpenClaim := { program := "ytfdbhmdaiihmhaadoor", sum := "8e3a4f673e84527334e1121a93edb1e3a84cab3490819cb929e6deb20b5d755f", func := "barograph/barographlaw06.LabelBack", spec := "labelBack", inPlace := ["internal/bytealg.abigen_runtime_cmpstring", "internal/bytealg.IndexByteString", "internal/bytealg.IndexString", "internal/abi.NoEscape"], unfollowed := true, recurses := true, named := ["unicode/utf8.first", "unicode/utf8.acceptRanges", "internal/bytealg.MaxLen"], apart := false, laid := [("unicode/utf8.acceptRanges", laid_unicode_utf8_acceptRanges), ("unicode/utf8.first", laid_unicode_utf8_first)] }
def LabelBackSaid : Prop := labelBackRow.holds Tryd.pinned (OpenSpec.ofChange labelBackSpec)

/-- ITS FALSE NEIGHBOUR: 'it returns false'. Refute it at one input. -/
def labelBackWrong : ChangeSpec := { name := "labelBack", fn := fun _ => fun
  | [d1, d2] => { results := [.lit (.bool false)], args := [d1, d2] }
  | _ => none }
def LabelBackWrongFalsely : Prop := labelBackRow.holds Tryd.pinned (OpenSpec.ofChange labelBackWrong)

/-- 'barographlaw06.LabelOrder': WHATEVER THE INPUT: true; the input reads as it did. -/
def labelOrderSpec : ChangeSpec := { name := "labelOrder", fn := fun _ => fun
  | [d1, d2, d3] => { results := [.lit (.bool true)], args := [d1, d2, d3] }
  | _ => none }
def labelOrderRow : OpenClaim := { program := "ytfdbhmdaiihmhaadoor", sum := "8e3a4f673e84527334e1121a93edb1e3a84cab3490819cb929e6deb20b5d755f", func := "barograph/barographlaw06.LabelOrder", spec := "labelOrder", inPlace := ["internal/bytealg.abigen_runtime_cmpstring", "internal/bytealg.IndexByteString", "internal/bytealg.IndexString", "internal/abi.NoEscape"], unfollowed := true, recurses := true, named := ["unicode/utf8.first", "unicode/utf8.acceptRanges", "internal/bytealg.MaxLen"], apart := false, laid := [("unicode/utf8.acceptRanges", laid_unicode_utf8_acceptRanges), ("unicode/utf8.first", laid_unicode_utf8_first)] }
def LabelOrderSaid : Prop := labelOrderRow.holds Tryd.pinned (OpenSpec.ofChange labelOrderSpec)

/-- ITS FALSE NEIGHBOUR: 'it returns false'. Refute it at one input. -/
def labelOrderWrong : ChangeSpec := { name := "labelOrder", fn := fun _ => fun
  | [d1, d2, d3] => { results := [.lit (.bool false)], args := [d1, d2, d3] }
  | _ => none }
def LabelOrderWrongFalsely : Prop := labelOrderRow.holds Tryd.pinned (OpenSpec.ofChange labelOrderWrong)

/-- 'barographlaw06.LabelAnyOrder': WHATEVER THE INPUT: true; the input reads as it did. -/
def labelAnyOrderSpec : ChangeSpec := { name := "labelAnyOrder", fn := fun _ => fun
  | [d1, d2] => { results := [.lit (.bool true)], args := [d1, d2] }
  | _ => none }
def labelAnyOrderRow : OpenClaim := { program := "ytfdbhmdaiihmhaadoor", sum := "8e3a4f673e84527334e1121a93edb1e3a84cab3490819cb929e6deb20b5d755f", func := "barograph/barographlaw06.LabelAnyOrder", spec := "labelAnyOrder", inPlace := ["internal/bytealg.IndexByteString", "internal/bytealg.IndexString", "internal/bytealg.abigen_runtime_cmpstring", "internal/abi.NoEscape"], unfollowed := true, recurses := true, named := ["unicode/utf8.first", "unicode/utf8.acceptRanges", "internal/bytealg.MaxLen"], apart := false, laid := [("unicode/utf8.acceptRanges", laid_unicode_utf8_acceptRanges), ("unicode/utf8.first", laid_unicode_utf8_first)] }
def LabelAnyOrderSaid : Prop := labelAnyOrderRow.holds Tryd.pinned (OpenSpec.ofChange labelAnyOrderSpec)

/-- ITS FALSE NEIGHBOUR: 'it returns false'. Refute it at one input. -/
def labelAnyOrderWrong : ChangeSpec := { name := "labelAnyOrder", fn := fun _ => fun
  | [d1, d2] => { results := [.lit (.bool false)], args := [d1, d2] }
  | _ => none }
def LabelAnyOrderWrongFalsely : Prop := labelAnyOrderRow.holds Tryd.pinned (OpenSpec.ofChange labelAnyOrderWrong)

/-- 'barographlaw07.XorWrites': WHATEVER THE INPUT: true; the input reads as it did. -/
def xorWritesSpec : ChangeSpec := { name := "xorWrites", fn := fun _ => fun
  | [d] => { results := [.lit (.bool true)], args := [d] }
  | _ => none }
def xorWritesRow : OpenClaim := { program := "ytfdbhmdaiihmhaadoor", sum := "8e3a4f673e84527334e1121a93edb1e3a84cab3490819cb929e6deb20b5d755f", func := "barograph/barographlaw07.XorWrites", spec := "xorWrites", named := ["barograph/xor.widths", "math/bits.deBruijn64tab"], apart := false, laid := [("math/bits.deBruijn64tab", laid_math_bits_deBruijn64tab), ("barograph/xor.widths", laid_barograph_xor_widths)] }
def XorWritesSaid : Prop := xorWritesRow.holds Tryd.pinned (OpenSpec.ofChange xorWritesSpec)

/-- ITS FALSE NEIGHBOUR: 'it returns false'. Refute it at one input. -/
def xorWritesWrong : ChangeSpec := { name := "xorWrites", fn := fun _ => fun
  | [d] => { results := [.lit (.bool false)], args := [d] }
  | _ => none }
def XorWritesWrongFalsely : Prop := xorWritesRow.holds Tryd.pinned (OpenSpec.ofChange xorWritesWrong)

/-- 'barographlaw07.XorReads': WHATEVER THE INPUT: true; the input reads as it did. -/
def xorReadsSpec : ChangeSpec := { name := "xorReads", fn := fun _ => fun
  | [d] => { results := [.lit (.bool true)], args := [d] }
  | _ => none }
def xorReadsRow : OpenClaim := { program := "ytfdbhmdaiihmhaadoor", sum := "8e3a4f673e84527334e1121a93edb1e3a84cab3490819cb929e6deb20b5d755f", func := "barograph/barographlaw07.XorReads", spec := "xorReads", named := ["barograph/xor.widths", "math/bits.deBruijn64tab"], apart := false, laid := [("math/bits.deBruijn64tab", laid_math_bits_deBruijn64tab), ("barograph/xor.widths", laid_barograph_xor_widths)] }
def XorReadsSaid : Prop := xorReadsRow.holds Tryd.pinned (OpenSpec.ofChange xorReadsSpec)

/-- ITS FALSE NEIGHBOUR: 'it returns false'. Refute it at one input. -/
def xorReadsWrong : ChangeSpec := { name := "xorReads", fn := fun _ => fun
  | [d] => { results := [.lit (.bool false)], args := [d] }
  | _ => none }
def XorReadsWrongFalsely : Prop := xorReadsRow.holds Tryd.pinned (OpenSpec.ofChange xorReadsWrong)

/-- 'barographlaw07.XorBack': WHATEVER THE INPUT: true; the input reads as it did. -/
def xorBackSpec : ChangeSpec := { name := "xorBack", fn := fun _ => fun
  | [d] => { results := [.lit (.bool true)], args := [d] }
  | _ => none }
def xorBackRow : OpenClaim := { program := "ytfdbhmdaiihmhaadoor", sum := "8e3a4f673e84527334e1121a93edb1e3a84cab3490819cb929e6deb20b5d755f", func := "barograph/barographlaw07.XorBack", spec := "xorBack", named := ["barograph/xor.widths", "math/bits.deBruijn64tab"], apart := false, laid := [("math/bits.deBruijn64tab", laid_math_bits_deBruijn64tab), ("barograph/xor.widths", laid_barograph_xor_widths)] }
def XorBackSaid : Prop := xorBackRow.holds Tryd.pinned (OpenSpec.ofChange xorBackSpec)

/-- ITS FALSE NEIGHBOUR: 'it returns false'. Refute it at one input. -/
def xorBackWrong : ChangeSpec := { name := "xorBack", fn := fun _ => fun
  | [d] => { results := [.lit (.bool false)], args := [d] }
  | _ => none }
def XorBackWrongFalsely : Prop := xorBackRow.holds Tryd.pinned (OpenSpec.ofChange xorBackWrong)

/-- 'barographlaw07.XorOne': WHATEVER THE INPUT: true; the input reads as it did. -/
def xorOneSpec : ChangeSpec := { name := "xorOne", fn := fun _ => fun
  | [d] => { results := [.lit (.bool true)], args := [d] }
  | _ => none }
def xorOneRow : OpenClaim := { program := "ytfdbhmdaiihmhaadoor", sum := "8e3a4f673e84527334e1121a93edb1e3a84cab3490819cb929e6deb20b5d755f", func := "barograph/barographlaw07.XorOne", spec := "xorOne", named := ["barograph/xor.widths", "math/bits.deBruijn64tab"], apart := false, laid := [("math/bits.deBruijn64tab", laid_math_bits_deBruijn64tab), ("barograph/xor.widths", laid_barograph_xor_widths)] }
def XorOneSaid : Prop := xorOneRow.holds Tryd.pinned (OpenSpec.ofChange xorOneSpec)

/-- ITS FALSE NEIGHBOUR: 'it returns false'. Refute it at one input. -/
def xorOneWrong : ChangeSpec := { name := "xorOne", fn := fun _ => fun
  | [d] => { results := [.lit (.bool false)], args := [d] }
  | _ => none }
def XorOneWrongFalsely : Prop := xorOneRow.holds Tryd.pinned (OpenSpec.ofChange xorOneWrong)

/-- 'barographlaw07.XorSteady': WHATEVER THE INPUT: true; the input reads as it did. -/
def xorSteadySpec : ChangeSpec := { name := "xorSteady", fn := fun _ => fun
  | [d1, d2, d3] => { results := [.lit (.bool true)], args := [d1, d2, d3] }
  | _ => none }
def xorSteadyRow : OpenClaim := { program := "ytfdbhmdaiihmhaadoor", sum := "8e3a4f673e84527334e1121a93edb1e3a84cab3490819cb929e6deb20b5d755f", func := "barograph/barographlaw07.XorSteady", spec := "xorSteady", named := ["barograph/xor.widths", "math/bits.deBruijn64tab"], apart := false, laid := [("math/bits.deBruijn64tab", laid_math_bits_deBruijn64tab), ("barograph/xor.widths", laid_barograph_xor_widths)] }
def XorSteadySaid : Prop := xorSteadyRow.holds Tryd.pinned (OpenSpec.ofChange xorSteadySpec)

/-- ITS FALSE NEIGHBOUR: 'it returns false'. Refute it at one input. -/
def xorSteadyWrong : ChangeSpec := { name := "xorSteady", fn := fun _ => fun
  | [d1, d2, d3] => { results := [.lit (.bool false)], args := [d1, d2, d3] }
  | _ => none }
def XorSteadyWrongFalsely : Prop := xorSteadyRow.holds Tryd.pinned (OpenSpec.ofChange xorSteadyWrong)

/-- 'barographlaw07.XorLess': WHATEVER THE INPUT: true; the input reads as it did. -/
def xorLessSpec : ChangeSpec := { name := "xorLess", fn := fun _ => fun
  | [d1, d2] => { results := [.lit (.bool true)], args := [d1, d2] }
  | _ => none }
def xorLessRow : OpenClaim := { program := "ytfdbhmdaiihmhaadoor", sum := "8e3a4f673e84527334e1121a93edb1e3a84cab3490819cb929e6deb20b5d755f", func := "barograph/barographlaw07.XorLess", spec := "xorLess", named := ["barograph/xor.widths", "math/bits.deBruijn64tab"], apart := false, laid := [("math/bits.deBruijn64tab", laid_math_bits_deBruijn64tab), ("barograph/xor.widths", laid_barograph_xor_widths)] }
def XorLessSaid : Prop := xorLessRow.holds Tryd.pinned (OpenSpec.ofChange xorLessSpec)

/-- ITS FALSE NEIGHBOUR: 'it returns false'. Refute it at one input. -/
def xorLessWrong : ChangeSpec := { name := "xorLess", fn := fun _ => fun
  | [d1, d2] => { results := [.lit (.bool false)], args := [d1, d2] }
  | _ => none }
def XorLessWrongFalsely : Prop := xorLessRow.holds Tryd.pinned (OpenSpec.ofChange xorLessWrong)

/-- 'barographlaw07.XorFull': WHATEVER THE INPUT: true; the input reads as it did. -/
def xorFullSpec : ChangeSpec := { name := "xorFull", fn := fun _ => fun
  | [d1, d2] => { results := [.lit (.bool true)], args := [d1, d2] }
  | _ => none }
def xorFullRow : OpenClaim := { program := "ytfdbhmdaiihmhaadoor", sum := "8e3a4f673e84527334e1121a93edb1e3a84cab3490819cb929e6deb20b5d755f", func := "barograph/barographlaw07.XorFull", spec := "xorFull", named := ["barograph/xor.widths", "math/bits.deBruijn64tab"], apart := false, laid := [("math/bits.deBruijn64tab", laid_math_bits_deBruijn64tab), ("barograph/xor.widths", laid_barograph_xor_widths)] }
def XorFullSaid : Prop := xorFullRow.holds Tryd.pinned (OpenSpec.ofChange xorFullSpec)

/-- ITS FALSE NEIGHBOUR: 'it returns false'. Refute it at one input. -/
def xorFullWrong : ChangeSpec := { name := "xorFull", fn := fun _ => fun
  | [d1, d2] => { results := [.lit (.bool false)], args := [d1, d2] }
  | _ => none }
def XorFullWrongFalsely : Prop := xorFullRow.holds Tryd.pinned (OpenSpec.ofChange xorFullWrong)

/- THE SECOND FORM. 'bulk': how many values and letters a reading holds, each counted each time it is reached (what is shared counts as often as it is met; a slice's spare places count too). A statement '..UptoSaid' is the law's where the arguments, and the package variables that the reading takes, are together of bulk at most 1048576: NARROWER than '..Said'. Prove '..Said' where nothing that the law and all that it calls make is longer than what came in: it says more and counts as full. Else prove '..UptoSaid'. A law counts once. -/
mutual
def uptoBulk {H : Type} : DataW H → Nat
  | .lit (.string bytes) => bytes.length + 1
  | .lit _ => 1
  | .nil => 1
  | .ptr d => uptoBulk d + 1
  | .slice elems spare => uptoBulkAll elems + uptoBulkAll spare + 1
  | .agg parts => uptoBulkAll parts + 1
  | .iface _ d => uptoBulk d + 1
  | .map entries => uptoBulkEntries entries + 1
  | .held _ => 1
def uptoBulkAll {H : Type} : List (DataW H) → Nat
  | [] => 0
  | d :: r => uptoBulk d + uptoBulkAll r
def uptoBulkEntries {H : Type} : List (Lit × DataW H) → Nat
  | [] => 0
  | x :: r => uptoBulkEntry x + uptoBulkEntries r
def uptoBulkEntry {H : Type} : Lit × DataW H → Nat
  | (.string bytes, d) => bytes.length + uptoBulk d + 1
  | (_, d) => uptoBulk d + 1
 end
def uptoSmall : (H : Type) → List (DataW H) → Bool := fun _ ds => decide (uptoBulkAll ds ≤ 1048576)
def OpenSpec.upto (s : _root_.Go.ChangeSpec) : _root_.Go.OpenSpec := { _root_.Go.OpenSpec.ofChange s with cond := some uptoSmall }

/-- 'barographlaw06.LabelMakes', WHERE WHAT IT READS IS OF BULK AT MOST 1048576: true; the input reads as it did. -/
def labelMakesUptoRow : OpenClaim := { program := "ytfdbhmdaiihmhaadoor", sum := "8e3a4f673e84527334e1121a93edb1e3a84cab3490819cb929e6deb20b5d755f", func := "barograph/barographlaw06.LabelMakes", spec := "labelMakes", inPlace := ["internal/bytealg.abigen_runtime_cmpstring", "internal/bytealg.IndexByteString", "internal/bytealg.IndexString", "internal/abi.NoEscape"], unfollowed := true, recurses := true, named := ["unicode/utf8.first", "unicode/utf8.acceptRanges", "internal/bytealg.MaxLen"], apart := false, laid := [("unicode/utf8.acceptRanges", laid_unicode_utf8_acceptRanges), ("unicode/utf8.first", laid_unicode_utf8_first)], narrowed := true }
def LabelMakesUptoSaid : Prop := labelMakesUptoRow.holds Tryd.pinned (OpenSpec.upto labelMakesSpec)

/-- 'barographlaw06.LabelReads', WHERE WHAT IT READS IS OF BULK AT MOST 1048576: true; the input reads as it did. -/
def labelReadsUptoRow : OpenClaim := { program := "ytfdbhmdaiihmhaadoor", sum := "8e3a4f673e84527334e1121a93edb1e3a84cab3490819cb929e6deb20b5d755f", func := "barograph/barographlaw06.LabelReads", spec := "labelReads", inPlace := ["internal/bytealg.IndexByteString", "internal/bytealg.IndexString", "internal/bytealg.abigen_runtime_cmpstring", "internal/abi.NoEscape"], unfollowed := true, recurses := true, named := ["unicode/utf8.first", "unicode/utf8.acceptRanges", "internal/bytealg.MaxLen"], apart := false, laid := [("unicode/utf8.acceptRanges", laid_unicode_utf8_acceptRanges), ("unicode/utf8.first", laid_unicode_utf8_first)], narrowed := true }
def LabelReadsUptoSaid : Prop := labelReadsUptoRow.holds Tryd.pinned (OpenSpec.upto labelReadsSpec)

/-- 'barographlaw06.LabelCompares', WHERE WHAT IT READS IS OF BULK AT MOST 1048576: true; the input reads as it did. -/
def labelComparesUptoRow : OpenClaim := { program := "ytfdbhmdaiihmhaadoor", sum := "8e3a4f673e84527334e1121a93edb1e3a84cab3490819cb929e6deb20b5d755f", func := "barograph/barographlaw06.LabelCompares", spec := "labelCompares", inPlace := ["internal/bytealg.IndexByteString", "internal/bytealg.IndexString", "internal/bytealg.abigen_runtime_cmpstring", "internal/abi.NoEscape"], unfollowed := true, recurses := true, named := ["unicode/utf8.first", "unicode/utf8.acceptRanges", "internal/bytealg.MaxLen"], apart := false, laid := [("unicode/utf8.acceptRanges", laid_unicode_utf8_acceptRanges), ("unicode/utf8.first", laid_unicode_utf8_first)], narrowed := true }
def LabelComparesUptoSaid : Prop := labelComparesUptoRow.holds Tryd.pinned (OpenSpec.upto labelComparesSpec)

/-- 'barographlaw06.LabelBack', WHERE WHAT IT READS IS OF BULK AT MOST 1048576: true; the input reads as it did. -/
def labelBackUptoRow : OpenClaim := { program := "ytfdbhmdaiihmhaadoor", sum := "8e3a4f673e84527334e1121a93edb1e3a84cab3490819cb929e6deb20b5d755f", func := "barograph/barographlaw06.LabelBack", spec := "labelBack", inPlace := ["internal/bytealg.abigen_runtime_cmpstring", "internal/bytealg.IndexByteString", "internal/bytealg.IndexString", "internal/abi.NoEscape"], unfollowed := true, recurses := true, named := ["unicode/utf8.first", "unicode/utf8.acceptRanges", "internal/bytealg.MaxLen"], apart := false, laid := [("unicode/utf8.acceptRanges", laid_unicode_utf8_acceptRanges), ("unicode/utf8.first", laid_unicode_utf8_first)], narrowed := true }
def LabelBackUptoSaid : Prop := labelBackUptoRow.holds Tryd.pinned (OpenSpec.upto labelBackSpec)

/-- 'barographlaw06.LabelOrder', WHERE WHAT IT READS IS OF BULK AT MOST 1048576: true; the input reads as it did. -/
def labelOrderUptoRow : OpenClaim := { program := "ytfdbhmdaiihmhaadoor", sum := "8e3a4f673e84527334e1121a93edb1e3a84cab3490819cb929e6deb20b5d755f", func := "barograph/barographlaw06.LabelOrder", spec := "labelOrder", inPlace := ["internal/bytealg.abigen_runtime_cmpstring", "internal/bytealg.IndexByteString", "internal/bytealg.IndexString", "internal/abi.NoEscape"], unfollowed := true, recurses := true, named := ["unicode/utf8.first", "unicode/utf8.acceptRanges", "internal/bytealg.MaxLen"], apart := false, laid := [("unicode/utf8.acceptRanges", laid_unicode_utf8_acceptRanges), ("unicode/utf8.first", laid_unicode_utf8_first)], narrowed := true }
def LabelOrderUptoSaid : Prop := labelOrderUptoRow.holds Tryd.pinned (OpenSpec.upto labelOrderSpec)

/-- 'barographlaw06.LabelAnyOrder', WHERE WHAT IT READS IS OF BULK AT MOST 1048576: true; the input reads as it did. -/
def labelAnyOrderUptoRow : OpenClaim := { program := "ytfdbhmdaiihmhaadoor", sum := "8e3a4f673e84527334e1121a93edb1e3a84cab3490819cb929e6deb20b5d755f", func := "barograph/barographlaw06.LabelAnyOrder", spec := "labelAnyOrder", inPlace := ["internal/bytealg.IndexByteString", "internal/bytealg.IndexString", "internal/bytealg.abigen_runtime_cmpstring", "internal/abi.NoEscape"], unfollowed := true, recurses := true, named := ["unicode/utf8.first", "unicode/utf8.acceptRanges", "internal/bytealg.MaxLen"], apart := false, laid := [("unicode/utf8.acceptRanges", laid_unicode_utf8_acceptRanges), ("unicode/utf8.first", laid_unicode_utf8_first)], narrowed := true }
def LabelAnyOrderUptoSaid : Prop := labelAnyOrderUptoRow.holds Tryd.pinned (OpenSpec.upto labelAnyOrderSpec)

/-- 'barographlaw07.XorWrites', WHERE WHAT IT READS IS OF BULK AT MOST 1048576: true; the input reads as it did. -/
def xorWritesUptoRow : OpenClaim := { program := "ytfdbhmdaiihmhaadoor", sum := "8e3a4f673e84527334e1121a93edb1e3a84cab3490819cb929e6deb20b5d755f", func := "barograph/barographlaw07.XorWrites", spec := "xorWrites", named := ["barograph/xor.widths", "math/bits.deBruijn64tab"], apart := false, laid := [("math/bits.deBruijn64tab", laid_math_bits_deBruijn64tab), ("barograph/xor.widths", laid_barograph_xor_widths)], narrowed := true }
def XorWritesUptoSaid : Prop := xorWritesUptoRow.holds Tryd.pinned (OpenSpec.upto xorWritesSpec)

/-- 'barographlaw07.XorReads', WHERE WHAT IT READS IS OF BULK AT MOST 1048576: true; the input reads as it did. -/
def xorReadsUptoRow : OpenClaim := { program := "ytfdbhmdaiihmhaadoor", sum := "8e3a4f673e84527334e1121a93edb1e3a84cab3490819cb929e6deb20b5d755f", func := "barograph/barographlaw07.XorReads", spec := "xorReads", named := ["barograph/xor.widths", "math/bits.deBruijn64tab"], apart := false, laid := [("math/bits.deBruijn64tab", laid_math_bits_deBruijn64tab), ("barograph/xor.widths", laid_barograph_xor_widths)], narrowed := true }
def XorReadsUptoSaid : Prop := xorReadsUptoRow.holds Tryd.pinned (OpenSpec.upto xorReadsSpec)

/-- 'barographlaw07.XorBack', WHERE WHAT IT READS IS OF BULK AT MOST 1048576: true; the input reads as it did. -/
def xorBackUptoRow : OpenClaim := { program := "ytfdbhmdaiihmhaadoor", sum := "8e3a4f673e84527334e1121a93edb1e3a84cab3490819cb929e6deb20b5d755f", func := "barograph/barographlaw07.XorBack", spec := "xorBack", named := ["barograph/xor.widths", "math/bits.deBruijn64tab"], apart := false, laid := [("math/bits.deBruijn64tab", laid_math_bits_deBruijn64tab), ("barograph/xor.widths", laid_barograph_xor_widths)], narrowed := true }
def XorBackUptoSaid : Prop := xorBackUptoRow.holds Tryd.pinned (OpenSpec.upto xorBackSpec)

/-- 'barographlaw07.XorOne', WHERE WHAT IT READS IS OF BULK AT MOST 1048576: true; the input reads as it did. -/
def xorOneUptoRow : OpenClaim := { program := "ytfdbhmdaiihmhaadoor", sum := "8e3a4f673e84527334e1121a93edb1e3a84cab3490819cb929e6deb20b5d755f", func := "barograph/barographlaw07.XorOne", spec := "xorOne", named := ["barograph/xor.widths", "math/bits.deBruijn64tab"], apart := false, laid := [("math/bits.deBruijn64tab", laid_math_bits_deBruijn64tab), ("barograph/xor.widths", laid_barograph_xor_widths)], narrowed := true }
def XorOneUptoSaid : Prop := xorOneUptoRow.holds Tryd.pinned (OpenSpec.upto xorOneSpec)

/-- 'barographlaw07.XorSteady', WHERE WHAT IT READS IS OF BULK AT MOST 1048576: true; the input reads as it did. -/
def xorSteadyUptoRow : OpenClaim := { program := "ytfdbhmdaiihmhaadoor", sum := "8e3a4f673e84527334e1121a93edb1e3a84cab3490819cb929e6deb20b5d755f", func := "barograph/barographlaw07.XorSteady", spec := "xorSteady", named := ["barograph/xor.widths", "math/bits.deBruijn64tab"], apart := false, laid := [("math/bits.deBruijn64tab", laid_math_bits_deBruijn64tab), ("barograph/xor.widths", laid_barograph_xor_widths)], narrowed := true }
def XorSteadyUptoSaid : Prop := xorSteadyUptoRow.holds Tryd.pinned (OpenSpec.upto xorSteadySpec)

/-- 'barographlaw07.XorLess', WHERE WHAT IT READS IS OF BULK AT MOST 1048576: true; the input reads as it did. -/
def xorLessUptoRow : OpenClaim := { program := "ytfdbhmdaiihmhaadoor", sum := "8e3a4f673e84527334e1121a93edb1e3a84cab3490819cb929e6deb20b5d755f", func := "barograph/barographlaw07.XorLess", spec := "xorLess", named := ["barograph/xor.widths", "math/bits.deBruijn64tab"], apart := false, laid := [("math/bits.deBruijn64tab", laid_math_bits_deBruijn64tab), ("barograph/xor.widths", laid_barograph_xor_widths)], narrowed := true }
def XorLessUptoSaid : Prop := xorLessUptoRow.holds Tryd.pinned (OpenSpec.upto xorLessSpec)

/-- 'barographlaw07.XorFull', WHERE WHAT IT READS IS OF BULK AT MOST 1048576: true; the input reads as it did. -/
def xorFullUptoRow : OpenClaim := { program := "ytfdbhmdaiihmhaadoor", sum := "8e3a4f673e84527334e1121a93edb1e3a84cab3490819cb929e6deb20b5d755f", func := "barograph/barographlaw07.XorFull", spec := "xorFull", named := ["barograph/xor.widths", "math/bits.deBruijn64tab"], apart := false, laid := [("math/bits.deBruijn64tab", laid_math_bits_deBruijn64tab), ("barograph/xor.widths", laid_barograph_xor_widths)], narrowed := true }
def XorFullUptoSaid : Prop := xorFullUptoRow.holds Tryd.pinned (OpenSpec.upto xorFullSpec)

end Rows
end Go.Proofs.YtfdbhmdaiihmhaaDoor
