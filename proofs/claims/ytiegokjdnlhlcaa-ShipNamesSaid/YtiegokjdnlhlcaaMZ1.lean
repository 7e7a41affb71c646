/- Layer 2's records, walked: the sum that a record carries. -/
import Derived.Test.YtiegokjdnlhlcaaMZ0
import Derived.Deep.RegionWith
import Derived.Outline
namespace Go.Proofs.Ytiegokjdnlhlcaa
open Go.RowKit Go.Lib
set_option maxRecDepth 100000

def recV (k : UInt8) (d : List UInt8) : Value := .agg #[.int .u8 k.toNat, .string (bs d)]
def recSum (k : UInt8) (d : List UInt8) : Nat := Crc.sum (k :: d)

set_option maxHeartbeats 2000000 in
theorem sumOf_any (k : UInt8) (d : List UInt8) (w : World) (hd : (bs d).size ≤ maxLen) :
    Calls Try.prog 35 #[.agg #[.int .u8 k.toNat, .string (bs d)]] w fun e w' => e = .returned (.int .u32 (recSum k d : Nat)) ∧ Below w.heap.size w w' := by
  have hcv : (convert 51 9 (.slice (some ⟨w.heap.size + 1, 0, none⟩) 1 1)).run Try.prog ((w.alloc (.cells #[.int .u8 k.toNat, .string (bs d)] 61)).alloc (.cells #[.int .u8 k.toNat] 5)).drew
      = .ok (.string (bs [k])) ((w.alloc (.cells #[.int .u8 k.toNat, .string (bs d)] 61)).alloc (.cells #[.int .u8 k.toNat] 5)).drew := by
    have := run_text_lit (w.alloc (.cells #[.int .u8 k.toNat, .string (bs d)] 61)).drew (k.toNat : Int) k rfl
    have hz : (w.alloc (.cells #[.int .u8 k.toNat, .string (bs d)] 61)).drew.heap.size = w.heap.size + 1 := by simp
    rw [hz] at this
    exact this
  have hk1 : (bs [k]).size ≤ maxLen := by rw [bs_size]; simp [maxLen]
  obtain ⟨m, hm⟩ : ∃ m, m = Crc.sum [k] := ⟨_, rfl⟩
  obtain ⟨r, hr⟩ : ∃ r, r = recSum k d := ⟨_, rfl⟩
  have h1 : m < 4294967296 := by rw [hm]; exact Crc.sum_lt [k]
  have hs : ∀ W : World, Calls Try.prog 48 #[.string (bs [k])] W fun e w' => e = .returned (.int .u32 (m : Nat)) ∧ W = w' := fun W => by rw [hm]; exact fsum_bs [k] W hk1
  have hq : ∀ W : World, Calls Try.prog 47 #[.int .u32 (m : Nat), .string (bs d)] W fun e w' => e = .returned (.int .u32 (r : Nat)) ∧ W = w' := fun W => by
    have := fmore_bs m d W h1 hd
    rw [show Crc.more m d = r by rw [hm, Crc.sum_append, hr]; rfl] at this
    exact this
  rw [← hr]
  have HS := Lib.hid hs; have HQ := Lib.hid hq
  clear hs hq hm hr
  have hk := k.toNat_lt
  go_enter Try.func35, Try.ntmps35
  go_wp2
  clear hd hk1 h1
  go_region_with (first
    | (go_at_call 48; refine (HS.out _).mono ?_; rintro e w' ⟨rfl, rfl⟩)
    | (go_at_call 47; refine (HQ.out _).mono ?_; rintro e w' ⟨rfl, rfl⟩))
  all_goals go_wp2
  all_goals go_ret
  all_goals exact ⟨rfl, (((Below.refl _ _).alloc (Nat.le_refl _) _).alloc (by simp) _).drew⟩
end Go.Proofs.Ytiegokjdnlhlcaa
