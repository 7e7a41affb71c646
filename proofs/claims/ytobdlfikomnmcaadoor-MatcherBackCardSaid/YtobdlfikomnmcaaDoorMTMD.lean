/- Layer 13: the document's Fits. -/
import Derived.Test.YtobdlfikomnmcaaDoorMTMC
namespace Go.Proofs.YtobdlfikomnmcaaDoor
open Go.RowKit Go.Lib
set_option linter.unusedVariables false

end Go.Proofs.YtobdlfikomnmcaaDoor
