/- Layer 6: the first known answers. -/
import Derived.Test.YthgpnjkabpfccaaDoorMBld
namespace Go.Proofs.YthgpnjkabpfccaaDoor
open Go.RowKit Go.Lib

def setOf (w : World) (v : Value) (ds : List Pr) : Prop := Rd w 2 v ds.length (prc ds)
end Go.Proofs.YthgpnjkabpfccaaDoor
