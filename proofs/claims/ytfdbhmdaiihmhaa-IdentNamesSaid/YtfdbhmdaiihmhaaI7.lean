/- Layer 8: the first known answers; names compared. -/
import Derived.Test.YtfdbhmdaiihmhaaI6
namespace Go.Proofs.Ytfdbhmdaiihmhaa
open Go.RowKit Go.Lib

set_option maxHeartbeats 1000000 in
set_option maxRecDepth 100000 in
theorem iawake_any (w : World) : Calls Try.prog 28 #[] w fun e w' => e = .returned (.bool true) ∧ Below w.heap.size w w' := by
  have hT := bs_toList
  have hA := bs_append
  have M := Lib.hid (fun W => show Calls Try.prog 22 #[.int .i64 33, .int .i64 1] W (fun e w' => e = .returned (.tuple #[.string (bs [48, 48, 48, 48, 48, 48, 49, 49, 48, 48, 48, 48, 48, 48, 48, 49]), .int .i64 0]) ∧ Below W.heap.size W w') by
    have := make_ok 33 1 W (by omega) (by omega)
    rw [show Idn.nam 33 1 = [48, 48, 48, 48, 48, 48, 49, 49, 48, 48, 48, 48, 48, 48, 48, 49] by decide] at this
    exact this)
  have S := Lib.hid (fun W => show Calls Try.prog 26 #[.string (bs [48, 48, 48, 48, 48, 48, 49, 49, 48, 48, 48, 48, 48, 48, 48, 49, 47, 109, 101, 116, 97])] W (fun e w' => e = .returned (.tuple #[.string (bs [48, 48, 48, 48, 48, 48, 49, 49, 48, 48, 48, 48, 48, 48, 48, 49]), .string (bs [109, 101, 116, 97]), .bool true]) ∧ ∃ n, w' = W.drewN n) by
    have := split_id (bs [48, 48, 48, 48, 48, 48, 49, 49, 48, 48, 48, 48, 48, 48, 48, 49, 47, 109, 101, 116, 97]) W (by decide)
    rw [bs_list, show spl [48, 48, 48, 48, 48, 48, 49, 49, 48, 48, 48, 48, 48, 48, 48, 49, 47, 109, 101, 116, 97] = some ([48, 48, 48, 48, 48, 48, 49, 49, 48, 48, 48, 48, 48, 48, 48, 49], [109, 101, 116, 97]) by decide] at this
    exact this)
  have k1 : ByteArray.mk #[47, 109, 101, 116, 97] = bs [47, 109, 101, 116, 97] := rfl
  have k2 : ByteArray.mk #[109, 101, 116, 97] = bs [109, 101, 116, 97] := rfl
  have k3 : ByteArray.mk #[48, 48, 48, 48, 48, 48, 49, 49, 48, 48, 48, 48, 48, 48, 48, 49] = bs [48, 48, 48, 48, 48, 48, 49, 49, 48, 48, 48, 48, 48, 48, 48, 49] := rfl
  have l1 := bs_size_le [48, 48, 48, 48, 48, 48, 49, 49, 48, 48, 48, 48, 48, 48, 48, 49] 16 (by decide)
  have l2 := bs_size_le [47, 109, 101, 116, 97] 5 (by decide)
  go_enter Try.func28, Try.ntmps28
  go_wp2_with fail
  with_reducible refine (M.out _).mono ?_
  rintro e w1 ⟨rfl, b1⟩
  go_wp2_with fail
  with_reducible refine (S.out _).mono ?_
  rintro e w2 ⟨rfl, n, rfl⟩
  go_wp2
  go_ret
  exact ⟨rfl, below_draw b1 n⟩
end Go.Proofs.Ytfdbhmdaiihmhaa
