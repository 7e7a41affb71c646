/- The tables out of the row's condition, at a cut with strconv. -/
import Derived.Test.YtajkleknjjpldaaDoorMOD
import Derived.Test.YtajkleknjjpldaaDoorRows
import Derived.Deep.SlicePairs
import Derived.OpenShut
import Derived.LaidLaws
import Derived.Lib.LaidTab
import Derived.MakeChecks
namespace Go.Proofs.YtajkleknjjpldaaDoor
open Go.RowKit Go.Lib Go.Deep Go.ChangeShapes Go.WideShapes

theorem tabs_of_laid4 {w : World} (h : laidMetH Tryd.prog [("math/bits.deBruijn32tab", Rows.laid_math_bits_deBruijn32tab), ("math/bits.deBruijn64tab", Rows.laid_math_bits_deBruijn64tab), ("internal/strconv.uint64pow10", Rows.laid_internal_strconv_uint64pow10), ("barograph/xor.widths", Rows.laid_barograph_xor_widths)] w) : Tabs w.heap.size w := by
  rw [MakeChecks.laidMetH_plain _ _ _ (by kernel_rfl)] at h
  obtain ⟨_, ⟨_, _, _, _, _, _, _, _, _, _, h1, _⟩, _⟩ := h
  obtain ⟨g', t', cs, fuel, p, q, hg', ht', hvar, hd, h2a, _⟩ := h1
  obtain ⟨_, _, _, _, _, _, _, _, _, _, h2, _⟩ := h2a
  obtain rfl := Option.some.inj ((show Tryd.prog.globalNamed "math/bits.deBruijn64tab" = some 3 by kernel_rfl).symm.trans hg')
  obtain rfl := Option.some.inj ((show (Tryd.prog.globals[3]?).map (·.type) = some 139 by kernel_rfl).symm.trans ht')
  have e := cells_of_tab (zs := Lib.deBruijn64tab.map fun n : Nat => (n : Int)) (show Tryd.prog.underlying 139 = some (.array 64 5) by kernel_rfl) Tryd.underlying5 (by kernel_rfl) (by kernel_rfl) hd
  obtain ⟨g2, t2, cs2, fuel2, p2, q2, hg2, ht2, hvar2, hd2, _, _⟩ := h2
  obtain rfl := Option.some.inj ((show Tryd.prog.globalNamed "barograph/xor.widths" = some 0 by kernel_rfl).symm.trans hg2)
  obtain rfl := Option.some.inj ((show (Tryd.prog.globals[0]?).map (·.type) = some 114 by kernel_rfl).symm.trans ht2)
  have e2 := cells_of_tab (zs := [0, 7, 12, 20, 64]) (show Tryd.prog.underlying 114 = some (.array 5 3) by kernel_rfl) Tryd.underlying3 (by kernel_rfl) (by kernel_rfl) hd2
  have c1 : ∀ j, w.cell? ⟨3, j, none⟩ = (Lib.deBruijn64tab.map fun n : Nat => Value.int .u8 (n : Int))[j]? := fun j => by
    have := World.var?_cell (show Tryd.prog.globalNamed "math/bits.deBruijn64tab" = some 3 by kernel_rfl) hvar j
    rw [this, ← Array.getElem?_toList, e, List.map_map]; rfl
  have c2 : ∀ j, w.cell? ⟨0, j, none⟩ = ([0, 7, 12, 20, 64].map fun n : Int => Value.int .i64 n)[j]? := fun j => by
    have := World.var?_cell (show Tryd.prog.globalNamed "barograph/xor.widths" = some 0 by kernel_rfl) hvar2 j
    rw [this, ← Array.getElem?_toList, e2]
  refine ⟨World.block_lt_of_cell? w ⟨0, 0, none⟩ (c2 0), World.block_lt_of_cell? w ⟨3, 0, none⟩ (c1 0), Nat.le_refl _, fun j hj => ?_, fun j hj => ?_⟩
  · rw [c2]
    match j, hj with
    | 0, _ => rfl
    | 1, _ => rfl
    | 2, _ => rfl
    | 3, _ => rfl
    | 4, _ => rfl
  · rw [c1, List.getElem?_map, List.getD_eq_getElem?_getD, List.getElem?_eq_getElem hj]; rfl
end Go.Proofs.YtajkleknjjpldaaDoor
