/- Layer 13: the document's Match. -/
import Derived.Test.YtobdlfikomnmcaaDoorMTMD
namespace Go.Proofs.YtobdlfikomnmcaaDoor
open Go.RowKit Go.Lib
set_option linter.unusedVariables false

end Go.Proofs.YtobdlfikomnmcaaDoor
