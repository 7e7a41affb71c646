/- The document's answers for layer 7, walked: the first one and the last one of a number; unfold. -/
import Derived.Test.YtieaiecoiononaaDoorQ0
namespace Go.Proofs.YtieaiecoiononaaDoor
open Go.RowKit Go.Lib

theorem bitsN_get (v : Nat) : ∀ (n i : Nat), i < n → (Bt.bitsN v n)[i]? = some (v / 2 ^ (n - 1 - i) % 2 == 1)
  | 0, i, h => by omega
  | n + 1, 0, _ => by rw [Bt.bitsN, List.getElem?_cons_zero]; rfl
  | n + 1, i + 1, h => by
    rw [Bt.bitsN, List.getElem?_cons_succ, bitsN_get v n i (by omega)]
    congr 5; omega

theorem first_end (x i : Nat) (hx : x < 18446744073709551616) (hi : i < 64) (h : x < 2 ^ (64 - i)) (hb : x / 2 ^ (63 - i) % 2 = 1) : 64 - Lib.bitLen x = i := by
  have h1 := Lib.bitLen_le x (64 - i) (by omega) h
  have h2 : ¬ x < 2 ^ (63 - i) := fun hlt => by rw [Nat.div_eq_of_lt hlt] at hb; simp at hb
  have h3 := Xo.lt_bitLen x hx
  have h4 : ¬ Lib.bitLen x ≤ 63 - i := fun hle => h2 (Nat.lt_of_lt_of_le h3 (Nat.pow_le_pow_right (by decide) hle))
  omega
theorem first_step (x i : Nat) (hi : i < 64) (h : x < 2 ^ (64 - i)) (hb : x / 2 ^ (63 - i) % 2 = 0) : x < 2 ^ (64 - (i + 1)) := by
  have e : 64 - i = (63 - i) + 1 := by omega
  rw [e, Nat.pow_succ] at h
  have h1 : x / 2 ^ (63 - i) < 2 := by rw [Nat.div_lt_iff_lt_mul (Nat.two_pow_pos _), Nat.mul_comm]; exact h
  have h2 : x / 2 ^ (63 - i) = 0 := by generalize x / 2 ^ (63 - i) = q at hb h1; omega
  rw [show 64 - (i + 1) = 63 - i by omega]
  rcases Nat.div_eq_zero_iff.1 h2 with h3 | h3
  · have := Nat.two_pow_pos (63 - i); omega
  · exact h3

def lastTo (x : Nat) : Nat → Int
  | 0 => -1
  | i + 1 => if x / 2 ^ (63 - i) % 2 = 1 then i else lastTo x i
theorem lastTo_bd (x : Nat) : ∀ i, -1 ≤ lastTo x i ∧ lastTo x i < max i 1
  | 0 => by simp [lastTo]
  | i + 1 => by
    have := lastTo_bd x i
    unfold lastTo
    split <;> omega
theorem lastTo_stay (x c m : Nat) (hx : x = 2 ^ c * (2 * m + 1)) (hc : c < 64) : ∀ j, j ≤ c → lastTo x (64 - c + j) = ((63 - c : Nat) : Int)
  | 0, _ => by
    rw [Nat.add_zero, show 64 - c = (63 - c) + 1 by omega]
    unfold lastTo
    rw [show 63 - (63 - c) = c by omega, hx, Nat.mul_div_cancel_left _ (Nat.two_pow_pos _), if_pos (by omega)]
  | j + 1, hj => by
    have ih := lastTo_stay x c m hx hc j (by omega)
    rw [show 64 - c + (j + 1) = (64 - c + j) + 1 by omega]
    unfold lastTo
    obtain ⟨d, hd⟩ : ∃ d, c = (63 - (64 - c + j)) + (d + 1) := ⟨c - 1 - (63 - (64 - c + j)), by omega⟩
    have hz : x / 2 ^ (63 - (64 - c + j)) % 2 = 0 := by
      have : x = 2 ^ (63 - (64 - c + j)) * (2 * (2 ^ d * (2 * m + 1))) := by
        rw [hx]
        generalize 63 - (64 - c + j) = q at hd
        rw [hd, Nat.pow_add, Nat.pow_succ]; ac_rfl
      rw [this, Nat.mul_div_cancel_left _ (Nat.two_pow_pos _), Nat.mul_mod_right]
    rw [if_neg (by omega), ih]
theorem last_is (x : Nat) (hx : x < 18446744073709551616) (h0 : x ≠ 0) : lastTo x 64 = 63 - (Lib.ctz 64 x : Int) := by
  obtain ⟨m, hm, hc⟩ := Xo.ctz_spec x hx h0
  have := lastTo_stay x (Lib.ctz 64 x) m hm hc (Lib.ctz 64 x) (Nat.le_refl _)
  rw [show 64 - Lib.ctz 64 x + Lib.ctz 64 x = 64 by omega] at this
  rw [this]; omega

set_option maxRecDepth 100000 in
theorem rzeros_any (x : Nat) (w : World) (hx : x < 18446744073709551616) :
    Calls Tryd.prog 40 #[.int .u64 x] w fun e w' => e = .returned (.int .i64 ((64 - Lib.bitLen x : Nat) : Int)) ∧ Below w.heap.size w w' := by
  have BN := Lib.hid (fun W => show Calls Tryd.prog 36 #[.int .u64 x, .int .i64 64] W (MadeB W (Bt.bitsN x 64)) from rbits03_any x 64 W hx (by decide) (by decide))
  obtain ⟨k, hk⟩ : ∃ k, k = 64 - Lib.bitLen x := ⟨_, rfl⟩
  have HK := Lib.hid hk
  rw [← hk]
  clear hk
  go_enter Tryd.func40, Tryd.ntmps40
  go_wp2_with fail
  refine (BN.out _).mono ?_
  rintro e w1 ⟨v, rfl, hs, hb⟩
  rw [Bt.bitsN_length] at hs
  obtain ⟨g, off, cap, rfl, hg⟩ := hs.somewhere (by decide)
  have HS := Lib.hid hs
  clear hs hg
  go_wp2_with fail
  go_loopw [8] (fun i' wr => ∃ (i : Nat), i' = .int .i64 i ∧ i ≤ 64 ∧ Hid (x < 2 ^ (64 - i)) ∧ wr = w1) (fun i' _ => 64 - (RowKit.intOf i').toNat)
  case atStart => exact ⟨0, rfl, by omega, by simpa [Hid] using hx, rfl⟩
  case round =>
    obtain ⟨i, rfl, hi, hlt2, rfl⟩ := hrel
    by_cases hlt : i < 64
    · have hc := sl_bool HS.out i _ (bitsN_get x 64 i hlt)
      rcases Nat.mod_two_eq_zero_or_one (x / 2 ^ (64 - 1 - i)) with h | h
      · have e : (x / 2 ^ (64 - 1 - i) % 2 == 1) = false := by rw [h]; rfl
        rw [e] at hc
        have H := Lib.hid (first_step x i hlt hlt2.out h)
        clear e h hlt2
        go_wp2
        exact ⟨⟨i + 1, by go_num, by omega, H, by trivial⟩, by simp [RowKit.intOf]; omega⟩
      · have e : (x / 2 ^ (64 - 1 - i) % 2 == 1) = true := by rw [h]; rfl
        rw [e] at hc
        have H := Lib.hid (first_end x i hx hlt hlt2.out h)
        clear e h hlt2
        go_wp2
        go_ret
        exact ⟨by rw [HK.out, H.out]; rfl, hb⟩
    · obtain rfl : i = 64 := by omega
      have H : k = 64 := by
        have := hlt2.out
        have e : x = 0 := by simpa using this
        rw [HK.out, e]; rfl
      clear hlt2
      go_wp2
      go_ret
      exact ⟨by rw [H]; rfl, hb⟩

set_option maxRecDepth 100000 in
theorem rlast_any (x : Nat) (w : World) (hx : x < 18446744073709551616) :
    Calls Tryd.prog 41 #[.int .u64 x] w fun e w' => e = .returned (.int .i64 (lastTo x 64)) ∧ Below w.heap.size w w' := by
  have BN := Lib.hid (fun W => show Calls Tryd.prog 36 #[.int .u64 x, .int .i64 64] W (MadeB W (Bt.bitsN x 64)) from rbits03_any x 64 W hx (by decide) (by decide))
  obtain ⟨k, hk⟩ : ∃ k, k = lastTo x 64 := ⟨_, rfl⟩
  have HK := Lib.hid hk
  rw [← hk]
  clear hk
  go_enter Tryd.func41, Tryd.ntmps41
  go_wp2_with fail
  refine (BN.out _).mono ?_
  rintro e w1 ⟨v, rfl, hs, hb⟩
  rw [Bt.bitsN_length] at hs
  obtain ⟨g, off, cap, rfl, hg⟩ := hs.somewhere (by decide)
  have HS := Lib.hid hs
  clear hs hg
  go_wp2_with fail
  go_loopw [3, 9] (fun a' i' wr => ∃ (i : Nat) (a : Int), i' = .int .i64 i ∧ a' = .int .i64 a ∧ i ≤ 64 ∧ Hid (a = lastTo x i) ∧ wr = w1) (fun _ i' _ => 64 - (RowKit.intOf i').toNat)
  case atStart => exact ⟨0, -1, rfl, rfl, by omega, rfl, rfl⟩
  case round =>
    obtain ⟨i, a, rfl, rfl, hi, ha, rfl⟩ := hrel
    by_cases hlt : i < 64
    · have hc := sl_bool HS.out i _ (bitsN_get x 64 i hlt)
      rcases Nat.mod_two_eq_zero_or_one (x / 2 ^ (64 - 1 - i)) with h | h
      · have e : (x / 2 ^ (64 - 1 - i) % 2 == 1) = false := by rw [h]; rfl
        rw [e] at hc
        have H := Lib.hid (show a = lastTo x (i + 1) by unfold lastTo; rw [if_neg (by rw [show 63 - i = 64 - 1 - i from rfl]; omega)]; exact ha.out)
        clear e h ha
        go_wp2
        exact ⟨⟨i + 1, a, by go_num, rfl, by omega, H, by trivial⟩, by simp [RowKit.intOf]; omega⟩
      · have e : (x / 2 ^ (64 - 1 - i) % 2 == 1) = true := by rw [h]; rfl
        rw [e] at hc
        have H := Lib.hid (show (i : Int) = lastTo x (i + 1) by unfold lastTo; rw [if_pos (by rw [show 63 - i = 64 - 1 - i from rfl]; exact h)])
        clear e h ha
        go_wp2
        exact ⟨⟨i + 1, i, by go_num, rfl, by omega, H, by trivial⟩, by simp [RowKit.intOf]; omega⟩
    · obtain rfl : i = 64 := by omega
      have H := Lib.hid (ha.out.trans HK.out.symm)
      clear ha
      go_wp2
      go_ret
      exact ⟨by rw [H.out]; rfl, hb⟩

theorem runfold_any (u : Nat) (w : World) (hu : u < 18446744073709551616) :
    Calls Tryd.prog 32 #[.int .u64 u] w fun e w' => e = .returned (.int .i64 (if u % 2 = 1 then -((u / 2 : Nat) : Int) - 1 else ((u / 2 : Nat) : Int))) ∧ w = w' := by
  rcases Nat.mod_two_eq_zero_or_one u with h | h
  · rw [if_neg (by omega)]
    have e : (((u : Int) % 2) == 1) = false := by simp; omega
    go_enter Tryd.func32, Tryd.ntmps32
    go_wp2
    go_ret
    exact ⟨by go_num, rfl⟩
  · rw [if_pos h]
    have e : (((u : Int) % 2) == 1) = true := by simp; omega
    go_enter Tryd.func32, Tryd.ntmps32
    go_wp2
    go_ret
    exact ⟨by go_num, rfl⟩
end Go.Proofs.YtieaiecoiononaaDoor
