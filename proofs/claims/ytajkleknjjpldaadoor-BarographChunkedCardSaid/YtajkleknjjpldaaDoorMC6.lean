/- How many bits a number has. -/
import Derived.Test.YtajkleknjjpldaaDoorMC4
import Derived.Test.YtajkleknjjpldaaDoorMLen
import Derived.Lib.Tables
import Derived.Lib.BitFns
import Derived.Lib.Walk
import Derived.Deep.Light
namespace Go.Proofs.YtajkleknjjpldaaDoor
open Go.RowKit

theorem width_any (x : Nat) (w : World) (h1 : x < 18446744073709551616) :
    Calls Tryd.prog 58 #[.int .u64 x] w fun e w' => e = .returned (.int .i64 (Lib.bitLen x)) ∧ w = w' := by
  have H := Lib.hid (fun W : World => show Calls Tryd.prog 73 #[.int .u64 x] W fun e w' => e = .returned (.int .i64 (Lib.bitLen x)) ∧ W = w' by
    have := len64_any x W (by omega) (by omega)
    rwa [Int.toNat_natCast] at this)
  go_enter Tryd.func58, Tryd.ntmps58
  go_wp2_with (go_at_call 73; refine (H.out _).mono ?_; rintro e w' ⟨rfl, rfl⟩)
  go_ret
  exact ⟨rfl, rfl⟩
end Go.Proofs.YtajkleknjjpldaaDoor
