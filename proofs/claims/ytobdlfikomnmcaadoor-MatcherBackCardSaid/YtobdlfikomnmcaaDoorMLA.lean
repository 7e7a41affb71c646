/- Layer 6: the first known answers. -/
import Derived.Test.YtobdlfikomnmcaaDoorML9
namespace Go.Proofs.YtobdlfikomnmcaaDoor
open Go.RowKit Go.Lib

def setOf (w : World) (v : Value) (ds : List Pr) : Prop := Rd w 2 v ds.length (prc ds)
end Go.Proofs.YtobdlfikomnmcaaDoor
