/- What layer 4's statements call: the fixed answers. -/
import Derived.Test.YtiegokjdnlhlcaaMD13
namespace Go.Proofs.Ytiegokjdnlhlcaa
open Go.Conc Go.RowKit

end Go.Proofs.Ytiegokjdnlhlcaa
