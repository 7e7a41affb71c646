/- The document's answers for layer 3, walked. -/
import Derived.Test.YtfcioamdkebniaaDoorC3
import Derived.Test.YtfcioamdkebniaaDoorSl3
namespace Go.Proofs.YtfcioamdkebniaaDoor
open Go.RowKit Go.Lib

theorem Bt.bitsN_succ (v i : Nat) : Bt.bitsN v (i + 1) = (v / 2 ^ i % 2 == 1) :: Bt.bitsN v i := rfl
theorem rem_test (u : Nat) : (((u : Int) % 2) == 1) = (u % 2 == 1) := by
  rcases Nat.mod_two_eq_zero_or_one u with h | h <;> (have : (u : Int) % 2 = ((u % 2 : Nat) : Int) := by omega) <;> rw [this, h] <;> rfl




theorem unary_is (n most : Int) (k : Nat) (hk : (k : Int) = max (min n most) 0) : Bt.unary n most = List.replicate k true ++ (if (k : Int) < most then [false] else []) := by
  unfold Bt.unary
  rw [← hk, Int.toNat_natCast]

end Go.Proofs.YtfcioamdkebniaaDoor
