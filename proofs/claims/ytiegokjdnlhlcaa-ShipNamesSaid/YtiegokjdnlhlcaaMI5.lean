/- Layer 8, the program: an object's name split. -/
import Derived.Test.YtiegokjdnlhlcaaMI3
namespace Go.Proofs.Ytiegokjdnlhlcaa
open Go.RowKit Go.Lib

/-- A block's parts. -/
def isp (l : List UInt8) : Bool := l == [99, 104, 117, 110, 107, 115] || l == [105, 110, 100, 101, 120] || l == [109, 101, 116, 97] || l == [109, 97, 114, 107]
end Go.Proofs.Ytiegokjdnlhlcaa
