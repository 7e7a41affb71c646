/- The document's answers for layer 3, walked. -/
import Derived.Test.YtieaiecoiononaaDoorC3
import Derived.Test.YtieaiecoiononaaDoorSl3
namespace Go.Proofs.YtieaiecoiononaaDoor
open Go.RowKit Go.Lib

theorem Bt.bitsN_succ (v i : Nat) : Bt.bitsN v (i + 1) = (v / 2 ^ i % 2 == 1) :: Bt.bitsN v i := rfl
theorem rem_test (u : Nat) : (((u : Int) % 2) == 1) = (u % 2 == 1) := by
  rcases Nat.mod_two_eq_zero_or_one u with h | h <;> (have : (u : Int) % 2 = ((u % 2 : Nat) : Int) := by omega) <;> rw [this, h] <;> rfl




set_option maxRecDepth 100000 in
theorem rb_a (v : Nat) (n : Int) (w : World) (hv : v < 18446744073709551616) (hn : n < 0) (_h0 : -9223372036854775808 ≤ n) :
    Calls Tryd.prog 36 #[.int .u64 v, .int .i64 n] w (MadeB w (Bt.bitsN v 0)) := by
  obtain ⟨i0, hi, hz0, hz1, hz2⟩ := info_parts bi_bool
  have Hz := Lib.hid hz0; have Hs := Lib.hid hz1; have Hb := Lib.hid hz2; have Hi := Lib.hid hi
  clear hz0 hz1 hz2 hi
  go_enter Tryd.func36, Tryd.ntmps36
  go_wp2
  go_loopw [0, 5, 6] (fun v' o' i' wr => ∃ (i u : Nat), v' = .int .u64 u ∧ i' = .int .i64 i ∧ i ≤ 0 ∧ u < 18446744073709551616 ∧ Hid (u = v / 2 ^ i) ∧ Sl wr w.heap.size 1 o' i (bc (Bt.bitsN v i)) ∧ Below w.heap.size w wr) (fun _ _ i' _ => 0 - (intOf i').toNat)
  case atStart => exact ⟨0, v, rfl, rfl, by omega, hv, by simp [Hid], Sl.lit w w.heap.size 1 0 #[] _ (Nat.le_refl _) (by decide) rfl, (Below.refl _ _).alloc (Nat.le_refl _) _⟩
  case round =>
    obtain ⟨i, u, rfl, rfl, hi, hu, huv, hs, hbel⟩ := hrel
    have hsz := hbel.size
    by_cases hlt : i < 0
    · exact absurd hlt (by omega)
    · obtain rfl : i = 0 := by omega
      go_wp2
      go_ret
      refine ⟨_, rfl, ?_, hbel⟩
      rw [Bt.bitsN_length]
      exact hs

set_option maxRecDepth 100000 in
theorem rb_b (v : Nat) (k : Nat) (w : World) (hv : v < 18446744073709551616) (hk : k ≤ 64) :
    Calls Tryd.prog 36 #[.int .u64 v, .int .i64 k] w (MadeB w (Bt.bitsN v k)) := by
  obtain ⟨i0, hi, hz0, hz1, hz2⟩ := info_parts bi_bool
  have Hz := Lib.hid hz0; have Hs := Lib.hid hz1; have Hb := Lib.hid hz2; have Hi := Lib.hid hi
  clear hz0 hz1 hz2 hi
  go_enter Tryd.func36, Tryd.ntmps36
  go_wp2
  go_loopw [0, 5, 6] (fun v' o' i' wr => ∃ (i u : Nat), v' = .int .u64 u ∧ i' = .int .i64 i ∧ i ≤ k ∧ u < 18446744073709551616 ∧ Hid (u = v / 2 ^ i) ∧ Sl wr w.heap.size 1 o' i (bc (Bt.bitsN v i)) ∧ Below w.heap.size w wr) (fun _ _ i' _ => k - (intOf i').toNat)
  case atStart => exact ⟨0, v, rfl, rfl, by omega, hv, by simp [Hid], Sl.lit w w.heap.size 1 0 #[] _ (Nat.le_refl _) (by decide) rfl, (Below.refl _ _).alloc (Nat.le_refl _) _⟩
  case round =>
    obtain ⟨i, u, rfl, rfl, hi, hu, huv, hs, hbel⟩ := hrel
    have hsz := hbel.size
    by_cases hlt : i < k
    · go_wp2_with (at_builtin; refine wpList_append_sl2 _ rfl _ _ 57 rfl w.heap.size 4 i0 (.bool false) 1 1 Tryd.underlying57 Hi.out Hz.out Hs.out Hb.out rfl (by decide) _ 1 _ rfl (Sl.lit wr w.heap.size 1 1 #[_] _ hsz (by decide) rfl) w.heap.size _ i _ rfl (hs.alloc _) (bc_one _) (by unfold maxLen; omega) (by omega) (by simp; omega) ?_; intro v' w1 hx)
      refine ⟨⟨i + 1, u / 2, by go_num, by go_num, by omega, by omega, ?_, ?_, ?_⟩, by simp [intOf]; omega⟩
      · show _ = _
        rw [huv.out, Nat.div_div_eq_div_mul, Nat.pow_succ]
      · have := hx.now
        rw [Nat.add_comm 1 i, rem_test, huv.out] at this
        exact this
      · exact (hbel.alloc hsz _).trans (hx.below (Nat.le_refl _) (by simp; omega))
    · have hik : i = k := by omega
      subst hik
      go_wp2
      go_ret
      refine ⟨_, rfl, ?_, hbel⟩
      rw [Bt.bitsN_length]
      exact hs

set_option maxRecDepth 100000 in
theorem rb_c (v : Nat) (n : Int) (w : World) (hv : v < 18446744073709551616) (hn : 64 < n) (_h0 : n ≤ 9223372036854775807) :
    Calls Tryd.prog 36 #[.int .u64 v, .int .i64 n] w (MadeB w (Bt.bitsN v 64)) := by
  obtain ⟨i0, hi, hz0, hz1, hz2⟩ := info_parts bi_bool
  have Hz := Lib.hid hz0; have Hs := Lib.hid hz1; have Hb := Lib.hid hz2; have Hi := Lib.hid hi
  clear hz0 hz1 hz2 hi
  go_enter Tryd.func36, Tryd.ntmps36
  go_wp2
  go_loopw [0, 5, 6] (fun v' o' i' wr => ∃ (i u : Nat), v' = .int .u64 u ∧ i' = .int .i64 i ∧ i ≤ 64 ∧ u < 18446744073709551616 ∧ Hid (u = v / 2 ^ i) ∧ Sl wr w.heap.size 1 o' i (bc (Bt.bitsN v i)) ∧ Below w.heap.size w wr) (fun _ _ i' _ => 64 - (intOf i').toNat)
  case atStart => exact ⟨0, v, rfl, rfl, by omega, hv, by simp [Hid], Sl.lit w w.heap.size 1 0 #[] _ (Nat.le_refl _) (by decide) rfl, (Below.refl _ _).alloc (Nat.le_refl _) _⟩
  case round =>
    obtain ⟨i, u, rfl, rfl, hi, hu, huv, hs, hbel⟩ := hrel
    have hsz := hbel.size
    by_cases hlt : i < 64
    · go_wp2_with (at_builtin; refine wpList_append_sl2 _ rfl _ _ 57 rfl w.heap.size 4 i0 (.bool false) 1 1 Tryd.underlying57 Hi.out Hz.out Hs.out Hb.out rfl (by decide) _ 1 _ rfl (Sl.lit wr w.heap.size 1 1 #[_] _ hsz (by decide) rfl) w.heap.size _ i _ rfl (hs.alloc _) (bc_one _) (by unfold maxLen; omega) (by omega) (by simp; omega) ?_; intro v' w1 hx)
      refine ⟨⟨i + 1, u / 2, by go_num, by go_num, by omega, by omega, ?_, ?_, ?_⟩, by simp [intOf]; omega⟩
      · show _ = _
        rw [huv.out, Nat.div_div_eq_div_mul, Nat.pow_succ]
      · have := hx.now
        rw [Nat.add_comm 1 i, rem_test, huv.out] at this
        exact this
      · exact (hbel.alloc hsz _).trans (hx.below (Nat.le_refl _) (by simp; omega))
    · obtain rfl : i = 64 := by omega
      go_wp2
      go_ret
      refine ⟨_, rfl, ?_, hbel⟩
      rw [Bt.bitsN_length]
      exact hs

theorem rbits03_any (v : Nat) (n : Int) (w : World) (hv : v < 18446744073709551616) (h0 : -9223372036854775808 ≤ n) (h1 : n ≤ 9223372036854775807) :
    Calls Tryd.prog 36 #[.int .u64 v, .int .i64 n] w (MadeB w (Bt.bitsN v (min (max n 0) 64).toNat)) := by
  rcases (by omega : n < 0 ∨ (0 ≤ n ∧ n ≤ 64) ∨ 64 < n) with h | h | h
  · rw [show (min (max n 0) 64).toNat = 0 by omega]; exact rb_a v n w hv h h0
  · obtain ⟨k, rfl⟩ := Int.eq_ofNat_of_zero_le h.1
    rw [show (min (max (k : Int) 0) 64).toNat = k by omega]; exact rb_b v k w hv (by omega)
  · rw [show (min (max n 0) 64).toNat = 64 by omega]; exact rb_c v n w hv h h1

theorem unary_is (n most : Int) (k : Nat) (hk : (k : Int) = max (min n most) 0) : Bt.unary n most = List.replicate k true ++ (if (k : Int) < most then [false] else []) := by
  unfold Bt.unary
  rw [← hk, Int.toNat_natCast]

set_option maxRecDepth 100000 in
theorem runary03_any (n most : Int) (w : World) (hn : most ≤ 1000) (h0 : -9223372036854775808 ≤ n) (h1 : n ≤ 9223372036854775807) (h2 : -9223372036854775808 ≤ most) :
    Calls Tryd.prog 39 #[.int .i64 n, .int .i64 most] w (MadeB w (Bt.unary n most)) := by
  obtain ⟨i0, hi, hz0, hz1, hz2⟩ := info_parts bi_bool
  have Hz := Lib.hid hz0; have Hs := Lib.hid hz1; have Hb := Lib.hid hz2; have Hi := Lib.hid hi
  clear hz0 hz1 hz2 hi
  obtain ⟨k, hk⟩ : ∃ k, k = (max (min n most) 0).toNat := ⟨_, rfl⟩
  have hk1 : k ≤ 1000 := by omega
  have hk2 : (k : Int) ≤ most ∨ k = 0 := by omega
  have hk3 : (k : Int) ≤ n ∨ k = 0 := by omega
  have hk4 : n ≤ (k : Int) ∨ most ≤ (k : Int) := by omega
  have HU := Lib.hid (unary_is n most k (by omega))
  clear hk
  go_enter Tryd.func39, Tryd.ntmps39
  go_wp2
  go_loopw [5, 6] (fun o' i' wr => ∃ (i : Nat), i' = .int .i64 i ∧ i ≤ k ∧ Sl wr w.heap.size 1 o' i (bc (List.replicate i true)) ∧ Below w.heap.size w wr) (fun _ i' _ => k - (intOf i').toNat)
  case atStart => exact ⟨0, rfl, by omega, Sl.lit w w.heap.size 1 0 #[] _ (Nat.le_refl _) (by decide) rfl, (Below.refl _ _).alloc (Nat.le_refl _) _⟩
  case round =>
    obtain ⟨i, rfl, hi, hs, hbel⟩ := hrel
    have hsz := hbel.size
    by_cases hlt : i < k
    · have g1 : (i : Int) < n := by omega
      have g2 : (i : Int) < most := by omega
      go_wp2_with (at_builtin; refine wpList_append_sl2 _ rfl _ _ 57 rfl w.heap.size 4 i0 (.bool false) 1 1 Tryd.underlying57 Hi.out Hz.out Hs.out Hb.out rfl (by decide) _ i _ rfl (hs.alloc _) w.heap.size _ 1 _ rfl (Sl.lit wr w.heap.size 1 1 #[_] _ hsz (by decide) rfl) (bc_one [true]) (by unfold maxLen; omega) (by omega) (by simp; omega) ?_; intro v' w1 hx)
      refine ⟨⟨i + 1, by go_num, by omega, ?_, ?_⟩, by simp [intOf]; omega⟩
      · have := hx.now
        rw [List.replicate_succ', bc_append]
        exact this
      · exact (hbel.alloc hsz _).trans (hx.below (Nat.le_refl _) (by simp; omega))
    · obtain rfl : i = k := by omega
      have hex : (i : Int) < n → ¬ (i : Int) < most := by omega
      obtain ⟨a, cap, rfl⟩ := hs.slice
      by_cases hm : (i : Int) < most
      · have g1 : ¬ (i : Int) < n := by omega
        have g2 : decide ((i : Int) < n) = false := by simp; omega
        clear hex hk4
        go_wp2_with (at_builtin; refine wpList_append_sl2 _ rfl _ _ 57 rfl w.heap.size 4 i0 (.bool false) 1 1 Tryd.underlying57 Hi.out Hz.out Hs.out Hb.out rfl (by decide) _ i _ rfl (hs.alloc _) w.heap.size _ 1 _ rfl (Sl.lit wr w.heap.size 1 1 #[_] _ hsz (by decide) rfl) (bc_one [false]) (by unfold maxLen; omega) (by omega) (by simp; omega) ?_; intro v' w1 hx)
        go_ret
        refine ⟨_, rfl, ?_, (hbel.alloc hsz _).trans (hx.below (Nat.le_refl _) (by simp; omega))⟩
        have := hx.now
        rw [HU.out, if_pos hm, List.length_append, List.length_replicate, bc_append]
        exact this
      · by_cases g1 : (i : Int) < n
        · have g3 : decide ((i : Int) < most) = false := by simp; omega
          clear hex hk4
          go_wp2
          go_ret
          refine ⟨_, rfl, ?_, hbel⟩
          rw [HU.out, if_neg (by omega), List.append_nil, List.length_replicate]
          exact hs
        · have g3 : decide ((i : Int) < n) = false := by simp; omega
          clear hex hk4
          go_wp2
          go_ret
          refine ⟨_, rfl, ?_, hbel⟩
          rw [HU.out, if_neg (by omega), List.append_nil, List.length_replicate]
          exact hs
end Go.Proofs.YtieaiecoiononaaDoor
