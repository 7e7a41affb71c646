/- Layer 8, the program: digits, numbers, names. -/
import Derived.Test.YthambhcladobjaaI0
import Derived.Test.YthambhcladobjaaStr
namespace Go.Proofs.Ythambhcladobjaa
open Go.RowKit Go.Lib

theorem goes_yes (v : Nat) (w : World) (h : v < 1099511627776) : Calls Try.prog 48 #[.int .i64 v] w fun e w' => e = .returned (.bool true) ∧ w = w' := by
  have h1 : decide ((v : Int) < 1099511627776) = true := by simp; omega
  go_enter Try.func48, Try.ntmps48
  go_wp2
  go_ret
  exact ⟨rfl, rfl⟩
theorem goes_no (v : Int) (w : World) (h : v < 0 ∨ 1099511627776 ≤ v) : Calls Try.prog 48 #[.int .i64 v] w fun e w' => e = .returned (.bool false) ∧ w = w' := by
  rcases h with h | h
  · have h1 : decide (0 ≤ v) = false := by simp; omega
    go_enter Try.func48, Try.ntmps48
    go_wp2
    go_ret
    exact ⟨rfl, rfl⟩
  · have h0 : decide (0 ≤ v) = true := by simp; omega
    have h1 : decide (v < 1099511627776) = false := by simp; omega
    go_enter Try.func48, Try.ntmps48
    go_wp2
    go_ret
    exact ⟨rfl, rfl⟩

theorem ibyte2_any (s : ByteArray) (c : UInt8) (w : World) : Calls Try.prog 89 #[.string s, .int .u8 c.toNat] w fun e w' => e = .returned (.int .i64 (Lib.indexByte s.data.toList c)) ∧ w = w' := by
  go_enter Try.func89, Try.ntmps89
  go_wp2_with fail
  refine (ibyte_any _ _ _).mono ?_
  rintro e w1 ⟨rfl, rfl⟩
  go_wp2
  go_ret
  exact ⟨rfl, rfl⟩
end Go.Proofs.Ythambhcladobjaa
