/- Layer 8, the program: an object's name split. Layer 8: an object's name split; the first known answers; the statements IdentBack, IdentRises, IdentOne walked. -/
import Derived.Test.YtoihkeilofpcjaaDoorMI3
import Derived.Test.YtoihkeilofpcjaaDoorMCmp
namespace Go.Proofs.YtoihkeilofpcjaaDoor
open Go.RowKit Go.Lib

/-- A block's parts. -/
def isp (l : List UInt8) : Bool := l == [99, 104, 117, 110, 107, 115] || l == [105, 110, 100, 101, 120] || l == [109, 101, 116, 97] || l == [109, 97, 114, 107]
end Go.Proofs.YtoihkeilofpcjaaDoor

namespace Go.Proofs.YtoihkeilofpcjaaDoor
open Go.RowKit Go.Lib

/-- What an object's name says. -/
def spl (l : List UInt8) : Option (List UInt8 × List UInt8) :=
  match cutL l 47 with
  | none => none
  | some (a, b) => if (pars a).isSome && isp b then some (a, b) else none
def splV : Option (List UInt8 × List UInt8) → Value
  | none => .tuple #[.string (bs []), .string (bs []), .bool false]
  | some (a, b) => .tuple #[.string (bs a), .string (bs b), .bool true]

end Go.Proofs.YtoihkeilofpcjaaDoor
