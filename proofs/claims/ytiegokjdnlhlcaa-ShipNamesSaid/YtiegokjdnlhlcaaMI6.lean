/- Layer 8: an object's name split; the first known answers; the statements IdentBack, IdentRises, IdentOne walked. -/
import Derived.Test.YtiegokjdnlhlcaaMI5
import Derived.Test.YtiegokjdnlhlcaaMCmp
namespace Go.Proofs.Ytiegokjdnlhlcaa
open Go.RowKit Go.Lib

/-- What an object's name says. -/
def spl (l : List UInt8) : Option (List UInt8 × List UInt8) :=
  match cutL l 47 with
  | none => none
  | some (a, b) => if (pars a).isSome && isp b then some (a, b) else none
def splV : Option (List UInt8 × List UInt8) → Value
  | none => .tuple #[.string (bs []), .string (bs []), .bool false]
  | some (a, b) => .tuple #[.string (bs a), .string (bs b), .bool true]

end Go.Proofs.Ytiegokjdnlhlcaa
