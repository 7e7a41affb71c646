/- Layer 8, the program: digits, numbers, names. -/
import Derived.Test.YtfdbhmdaiihmhaaI0
import Derived.Test.YtfdbhmdaiihmhaaB0
import Derived.Lib.Bytealg
import Derived.Laws.Externs
namespace Go.Proofs.Ytfdbhmdaiihmhaa
open Go.RowKit Go.Lib

theorem goes_yes (v : Nat) (w : World) (h : v < 1099511627776) : Calls Try.prog 60 #[.int .i64 v] w fun e w' => e = .returned (.bool true) ∧ w = w' := by
  have h1 : decide ((v : Int) < 1099511627776) = true := by simp; omega
  go_enter Try.func60, Try.ntmps60
  go_wp2
  go_ret
  exact ⟨rfl, rfl⟩
theorem goes_no (v : Int) (w : World) (h : v < 0 ∨ 1099511627776 ≤ v) : Calls Try.prog 60 #[.int .i64 v] w fun e w' => e = .returned (.bool false) ∧ w = w' := by
  rcases h with h | h
  · have h1 : decide (0 ≤ v) = false := by simp; omega
    go_enter Try.func60, Try.ntmps60
    go_wp2
    go_ret
    exact ⟨rfl, rfl⟩
  · have h0 : decide (0 ≤ v) = true := by simp; omega
    have h1 : decide (v < 1099511627776) = false := by simp; omega
    go_enter Try.func60, Try.ntmps60
    go_wp2
    go_ret
    exact ⟨rfl, rfl⟩

set_option maxHeartbeats 1000000 in
set_option maxRecDepth 100000 in
theorem ibyte_any (s : ByteArray) (c : UInt8) (w : World) : Calls Try.prog 112 #[.string s, .int .u8 c.toNat] w fun e w' => e = .returned (.int .i64 (Lib.indexByte s.data.toList c)) ∧ w = w' := by
  go_enter Try.func112, Try.ntmps112
  go_wp2
  rw [run_callFunc_extern Try.func128 (by kernel_rfl) (by kernel_rfl) (by kernel_rfl) (e := Extern.BytealgIndexByte.indexByte) (by kernel_rfl), Lib.run_indexByteString]
  simp only [Result.andThen]
  rw [Oper.upon_value]
  go_wp2
  go_ret
  refine ⟨?_, rfl⟩
  simp
theorem ibyte2_any (s : ByteArray) (c : UInt8) (w : World) : Calls Try.prog 97 #[.string s, .int .u8 c.toNat] w fun e w' => e = .returned (.int .i64 (Lib.indexByte s.data.toList c)) ∧ w = w' := by
  go_enter Try.func97, Try.ntmps97
  go_wp2_with fail
  refine (ibyte_any _ _ _).mono ?_
  rintro e w1 ⟨rfl, rfl⟩
  go_wp2
  go_ret
  exact ⟨rfl, rfl⟩
end Go.Proofs.Ytfdbhmdaiihmhaa
