/- How many bits a number has (math/bits.Len64, Len). -/
import Derived.Test.YtkialkjhjenkhaaMB0
import Derived.Lib.Tables
import Derived.Lib.BitFns
import Derived.Lib.Walk
import Derived.Deep.Light
namespace Go.Proofs.Ytkialkjhjenkhaa
open Go.RowKit

theorem tab_all : ∀ i : Fin 256, (Lib.len8tab.data.getD i.val 0).toNat = Lib.bitLen i.val := by decide +kernel
theorem tab_size : Lib.len8tab.size = 256 := by decide +kernel
theorem tab_get (y : Nat) (h : y < Lib.len8tab.size) : (Lib.len8tab[y]'h).toNat = Lib.bitLen y := by
  have h' : y < 256 := by have := tab_size; omega
  have := tab_all ⟨y, h'⟩
  rw [← this]
  have h2 : y < Lib.len8tab.data.size := h
  rw [Array.getD_eq_getD_getElem?, Array.getElem?_eq_getElem h2]
  rfl
theorem shift_len (x y k : Nat) (hx : x < 2 ^ 64) (hk : 2 ^ k ≤ x ∨ k = 0) (hy : y = x / 2 ^ k) : Lib.bitLen x = k + Lib.bitLen y := by
  subst hy
  rcases hk with h | rfl
  · exact Lib.bitLen_shift k x h hx
  · simp
theorem len_end (x m : Nat) (e : Int) (k : Nat) (hx2 : x ≤ 18446744073709551615) (hk : 2 ^ k ≤ x ∨ k = 0) (hm : m = x / 2 ^ k) (hk64 : k ≤ 56) (h : m < Lib.len8tab.size) (he : e = (k : Int) + wrap64 ((Lib.len8tab[m]'h).toNat : Int)) :
    wrap64 e = (Lib.bitLen x : Int) := by
  rw [tab_get m h] at he
  have h2 : m < 256 := Nat.lt_of_lt_of_eq h tab_size
  clear h
  have h8 := Lib.bitLen_le m 8 (by decide) h2
  have hs := shift_len x m k (Nat.lt_of_le_of_lt hx2 (by decide)) hk hm
  generalize Lib.bitLen m = q at *
  rw [hs, he]
  unfold wrap64
  omega

set_option maxHeartbeats 4000000 in
set_option maxRecDepth 100000 in
theorem len64_any (x : Int) (w : World) (h0 : 0 ≤ x) (h1 : x ≤ 18446744073709551615) :
    Calls Try.prog 65 #[.int .u64 x] w fun e w' => e = .returned (.int .i64 (Lib.bitLen x.toNat)) ∧ w = w' := by
  go_enter Try.func65, Try.ntmps65
  go_wp2
  all_goals first
    | (go_ret; refine ⟨congrArg Ending.returned (congrArg (Value.int IntKind.i64) ?_), rfl⟩; go_light)
    | (exfalso; go_light; have hs := tab_size; omega)
  all_goals first | exact len_end x.toNat _ _ 56 (by omega) (.inl (by omega)) (by omega) (by decide) _ rfl | exact len_end x.toNat _ _ 48 (by omega) (.inl (by omega)) (by omega) (by decide) _ rfl | exact len_end x.toNat _ _ 40 (by omega) (.inl (by omega)) (by omega) (by decide) _ rfl | exact len_end x.toNat _ _ 32 (by omega) (.inl (by omega)) (by omega) (by decide) _ rfl | exact len_end x.toNat _ _ 24 (by omega) (.inl (by omega)) (by omega) (by decide) _ rfl | exact len_end x.toNat _ _ 16 (by omega) (.inl (by omega)) (by omega) (by decide) _ rfl | exact len_end x.toNat _ _ 8 (by omega) (.inl (by omega)) (by omega) (by decide) _ rfl | exact len_end x.toNat x.toNat _ 0 (by omega) (.inr rfl) (by simp) (by decide) (by omega) (by simp)

theorem len_any (x : Nat) (w : World) (h1 : x < 9223372036854775808) :
    Calls Try.prog 48 #[.int .u64 x] w fun e w' => e = .returned (.int .i64 (Lib.bitLen x)) ∧ w = w' := by
  have H := Lib.hid (fun W : World => show Calls Try.prog 65 #[.int .u64 x] W fun e w' => e = .returned (.int .i64 (Lib.bitLen x)) ∧ W = w' by
    have := len64_any x W (by omega) (by omega)
    rwa [Int.toNat_natCast] at this)
  go_enter Try.func48, Try.ntmps48
  go_wp2_with (go_at_call 65; refine (H.out _).mono ?_; rintro e w' ⟨rfl, rfl⟩)
  go_ret
  exact ⟨rfl, rfl⟩
end Go.Proofs.Ytkialkjhjenkhaa
