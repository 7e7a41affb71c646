/- The statement LabelOrder, walked. -/
import Derived.Test.YtboiboojkomplaaDoorMLD
namespace Go.Proofs.YtboiboojkomplaaDoor
open Go.RowKit Go.Lib

theorem PrsAt.len {w : World} {ao : Option Addr} {len : Nat} {ds : List Pr} (h : PrsAt w ao len ds) : (f42 ds).length ≤ 10 := by rw [f42_len, h.1]; omega
theorem Sl.bl {w w' : World} {base size n : Nat} {v : Value} {xs : List Value} (h : Sl w base size v n xs) (b : Below w.heap.size w w') : Sl w' base size v n xs := h.below b (fun k hk => (h.lt k hk).2)

end Go.Proofs.YtboiboojkomplaaDoor
