/- Layer 8: the first known answers; names compared. -/
import Derived.Test.YtiegokjdnlhlcaaMI6
namespace Go.Proofs.Ytiegokjdnlhlcaa
open Go.RowKit Go.Lib

end Go.Proofs.Ytiegokjdnlhlcaa
