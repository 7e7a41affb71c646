/- The library's contracts, laid over this program. -/
import Derived.Shelf.Sort.Plain
import Derived.Shelf.Slices.In.SortNone
import Derived.Test.YthgpnjkabpfccaaDoorProg
namespace Go.Proofs.YthgpnjkabpfccaaDoor
open Go.Shelf Go.Proofs
end Go.Proofs.YthgpnjkabpfccaaDoor
