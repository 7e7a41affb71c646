/- Layer 6: two sets compared. -/
import Derived.Test.YtboiboojkomplaaDoorMLB
namespace Go.Proofs.YtboiboojkomplaaDoor
open Go.RowKit Go.Lib

/-- Two sets compared, pair by pair. -/
def cmpS : List Pr → List Pr → Int
  | [], [] => 0
  | [], _ :: _ => -1
  | _ :: _, [] => 1
  | x :: a, y :: b => if cfP x y = 0 then cmpS a b else cfP x y

theorem cmpp_at (x y : Pr) (w : World) (c : Int) (hc : cfP x y = c) : Calls Tryd.prog 50 #[prV x, prV y] w fun e w' => e = .returned (.int .i64 c) ∧ Below w.heap.size w w' := by
  subst hc
  refine (cmpp_any x y w).mono ?_
  rintro e w' ⟨rfl, q, os, rfl⟩
  exact ⟨rfl, ⟨rfl, rfl, rfl, by simp, fun k hk => Sort.heap_grow_old _ _ hk⟩⟩

end Go.Proofs.YtboiboojkomplaaDoor
