/- Layer 3's rows: numbers and ones, walked. -/
import Derived.Test.YtajkleknjjpldaaDoorMC1
namespace Go.Proofs.YtajkleknjjpldaaDoor
open Go.RowKit Go.Lib

theorem bit_test (v m : Nat) (hv : v < 18446744073709551616) : (bits BinOp.and IntKind.u64 ((v : Int) / 2 ^ m) 1 == 1) = (v / 2 ^ m % 2 == 1) := by
  have e : (v : Int) / 2 ^ m = ((v / 2 ^ m : Nat) : Int) := by simp
  rw [e]
  have h := Nat.lt_of_le_of_lt (Nat.div_le_self v (2 ^ m)) hv
  rw [show (1 : Int) = ((1 : Nat) : Int) from rfl, bits_and_u64_nat _ 1 h (by decide), nat_mask1]
  rcases Nat.mod_two_eq_zero_or_one (v / 2 ^ m) with h | h <;> rw [h] <;> rfl

set_option maxRecDepth 100000 in
theorem rbits_any (B r : Nat) (v0 : Value) (l : List Bool) (v : Nat) (n : Int) (w : World) (h : RowV B r v0 l w) (hl : l.length ≤ 900000) (hv : v < 18446744073709551616) (h0 : -9223372036854775808 ≤ n) (h1 : n ≤ 9223372036854775807) :
    Calls Tryd.prog 40 #[.pointer (some ⟨r, 0, none⟩), .int .u64 v, .int .i64 n] w fun e w' => e = .returned (.tuple #[]) ∧ Wr B r v0 (l ++ Bt.bitsN v (min (max n 0) 64).toNat) w w' := by
  obtain ⟨k, hk⟩ : ∃ k, k = (min (max n 0) 64).toNat := ⟨_, rfl⟩
  have hk64 : k ≤ 64 := by omega
  have HK := Lib.hid (show min (max n 0) 64 = (k : Int) by omega)
  rw [← hk]
  clear hk
  go_enter Tryd.func40, Tryd.ntmps40
  go_wp2_with (go_at_call 55; refine (count_any n _ h0 h1).mono ?_; rw [HK.out]; rintro e w1 ⟨rfl, rfl⟩)
  go_loopw [6] (fun i' wr => ∃ (m : Nat) (acc : List Bool), i' = .int .i64 ((m : Int) - 1) ∧ m ≤ k ∧ Wr B r v0 acc w wr ∧ acc.length ≤ 900000 + 64 ∧ Hid (acc.length + m = l.length + k) ∧ Hid (acc ++ Bt.bitsN v m = l ++ Bt.bitsN v k)) (fun i' _ => (intOf i' + 1).toNat)
  case atStart => exact ⟨k, l, rfl, Nat.le_refl _, ⟨v0, h, Chg.refl _ _ _ _⟩, by omega, rfl, rfl⟩
  case round =>
    obtain ⟨m, acc, rfl, hm, ⟨v1, hR, hch⟩, hac, hlen, hacc⟩ := hrel
    match m, hm, hlen, hacc with
    | 0, hm, hlen, hacc =>
      have he := hacc.out
      rw [Bt.bitsN, List.append_nil] at he
      have HE := Lib.hid he
      clear he hacc hlen
      go_wp2
      go_end0
      exact ⟨rfl, HE.out ▸ (⟨v1, hR, hch⟩ : Wr B r v0 acc w wr)⟩
    | m + 1, hm, hlen, hacc =>
      have hb := bit_test v m hv
      have he := hacc.out
      rw [Bt.bitsN, List.append_cons, ← hb] at he
      have hl2 : acc.length + 1 + m = l.length + k := by have := hlen.out; omega
      have HE := Lib.hid he
      have HL := Lib.hid hl2
      clear he hacc hlen hb hl2
      have e1 : (((m + 1 : Nat) : Int) - 1) = (m : Int) := by omega
      rw [e1]
      go_wp2_with (go_at_call 56; refine (bit_any B r v1 acc _ _ hR (by omega)).mono ?_; rintro e w1 ⟨rfl, hR1⟩)
      refine ⟨⟨m, _, rfl, by omega, Wr.trans hch hR1, ?_, ?_, HE.out⟩, by simp [intOf]⟩
      · have := HL.out; rw [List.length_append, List.length_singleton]; omega
      · have := HL.out; show _ = _; rw [List.length_append, List.length_singleton]; omega

set_option maxRecDepth 100000 in
theorem un_a (B r : Nat) (v0 : Value) (l : List Bool) (n most : Int) (w : World) (hrow : RowV B r v0 l w) (_hl : l.length ≤ 900000) (_hn : n ≤ 0 ∨ most ≤ 0) (hm : most ≤ 0) (h0 : -9223372036854775808 ≤ n) (h1 : n ≤ 9223372036854775807) (h2 : -9223372036854775808 ≤ most) :
    Calls Tryd.prog 59 #[.pointer (some ⟨r, 0, none⟩), .int .i64 n, .int .i64 most] w fun e w' => e = .returned (.tuple #[]) ∧ Wr B r v0 (l ++ Bt.unary n most) w w' := by
  have hku : l ++ Bt.unary n most = l ++ List.replicate 0 true := by
    unfold Bt.unary
    rw [show max (min (n) (most)) 0 = ((0 : Nat) : Int) by omega, if_neg (by omega), Int.toNat_natCast]
    rw [List.append_nil]
  rw [hku]
  clear hku
  go_enter Tryd.func59, Tryd.ntmps59
  go_wp2_with fail
  all_goals
    go_loopw [11] (fun i' wr => ∃ (i : Nat), i' = .int .i64 i ∧ i ≤ 0 ∧ Wr B r v0 (l ++ List.replicate i true) w wr) (fun i' _ => 0 - (intOf i').toNat)
    case atStart => exact ⟨0, rfl, by omega, v0, by simpa using hrow, Chg.refl _ _ _ _⟩
    case round =>
      obtain ⟨i, rfl, hi, v1, hR, hch⟩ := hrel
      by_cases hlt : i < 0
      · exact absurd hlt (by omega)
      · have hik : i = 0 := by omega
        subst hik
        go_wp2_with (go_at_call 56; refine (bit_any B r v1 _ _ _ hR (by simp; omega)).mono ?_; rintro e w1 ⟨rfl, hR1⟩)
        go_end0
        exact ⟨rfl, v1, hR, hch⟩

set_option maxRecDepth 100000 in
theorem un_b (B r : Nat) (v0 : Value) (l : List Bool) (n most : Int) (w : World) (hrow : RowV B r v0 l w) (hl : l.length ≤ 900000) (hn : n ≤ 0) (hm : 0 < most) (h0 : -9223372036854775808 ≤ n) (h1 : most ≤ 1000) :
    Calls Tryd.prog 59 #[.pointer (some ⟨r, 0, none⟩), .int .i64 n, .int .i64 most] w fun e w' => e = .returned (.tuple #[]) ∧ Wr B r v0 (l ++ Bt.unary n most) w w' := by
  have hku : l ++ Bt.unary n most = l ++ List.replicate 0 true ++ [false] := by
    unfold Bt.unary
    rw [show max (min (n) (most)) 0 = ((0 : Nat) : Int) by omega, if_pos (by omega), Int.toNat_natCast] <;> simp
  rw [hku]
  clear hku
  go_enter Tryd.func59, Tryd.ntmps59
  go_wp2_with fail
  all_goals
    go_loopw [11] (fun i' wr => ∃ (i : Nat), i' = .int .i64 i ∧ i ≤ 0 ∧ Wr B r v0 (l ++ List.replicate i true) w wr) (fun i' _ => 0 - (intOf i').toNat)
    case atStart => exact ⟨0, rfl, by omega, v0, by simpa using hrow, Chg.refl _ _ _ _⟩
    case round =>
      obtain ⟨i, rfl, hi, v1, hR, hch⟩ := hrel
      by_cases hlt : i < 0
      · exact absurd hlt (by omega)
      · have hik : i = 0 := by omega
        subst hik
        go_wp2_with (go_at_call 56; refine (bit_any B r v1 _ _ _ hR (by simp; omega)).mono ?_; rintro e w1 ⟨rfl, hR1⟩)
        go_end0
        exact ⟨rfl, Wr.trans hch hR1⟩

set_option maxRecDepth 100000 in
theorem un_c (B r : Nat) (v0 : Value) (l : List Bool) (k : Nat) (most : Int) (w : World) (hrow : RowV B r v0 l w) (hl : l.length ≤ 900000) (hn : (k : Int) < most) (h1 : most ≤ 1000) :
    Calls Tryd.prog 59 #[.pointer (some ⟨r, 0, none⟩), .int .i64 k, .int .i64 most] w fun e w' => e = .returned (.tuple #[]) ∧ Wr B r v0 (l ++ Bt.unary k most) w w' := by
  have hku : l ++ Bt.unary k most = l ++ List.replicate k true ++ [false] := by
    unfold Bt.unary
    rw [show max (min (k : Int) most) 0 = ((k : Nat) : Int) by omega, if_pos (by omega), Int.toNat_natCast] <;> simp
  rw [hku]
  clear hku
  go_enter Tryd.func59, Tryd.ntmps59
  go_wp2_with fail
  all_goals
    go_loopw [11] (fun i' wr => ∃ (i : Nat), i' = .int .i64 i ∧ i ≤ k ∧ Wr B r v0 (l ++ List.replicate i true) w wr) (fun i' _ => k - (intOf i').toNat)
    case atStart => exact ⟨0, rfl, by omega, v0, by simpa using hrow, Chg.refl _ _ _ _⟩
    case round =>
      obtain ⟨i, rfl, hi, v1, hR, hch⟩ := hrel
      by_cases hlt : i < k
      · go_wp2_with (go_at_call 56; refine (bit_any B r v1 _ _ _ hR (by simp; omega)).mono ?_; rintro e w1 ⟨rfl, hR1⟩)
        refine ⟨⟨i + 1, by go_num, by omega, ?_⟩, by simp [intOf]; omega⟩
        rw [List.replicate_succ', ← List.append_assoc]
        exact Wr.trans hch hR1
      · have hik : i = k := by omega
        subst hik
        go_wp2_with (go_at_call 56; refine (bit_any B r v1 _ _ _ hR (by simp; omega)).mono ?_; rintro e w1 ⟨rfl, hR1⟩)
        go_end0
        exact ⟨rfl, Wr.trans hch hR1⟩

set_option maxRecDepth 100000 in
theorem un_d (B r : Nat) (v0 : Value) (l : List Bool) (k : Nat) (n : Int) (w : World) (hrow : RowV B r v0 l w) (hl : l.length ≤ 900000) (hn : (k : Int) ≤ n) (_h1 : n ≤ 9223372036854775807) (h2 : k ≤ 1000) :
    Calls Tryd.prog 59 #[.pointer (some ⟨r, 0, none⟩), .int .i64 n, .int .i64 k] w fun e w' => e = .returned (.tuple #[]) ∧ Wr B r v0 (l ++ Bt.unary n k) w w' := by
  have hku : l ++ Bt.unary n k = l ++ List.replicate k true := by
    unfold Bt.unary
    rw [show max (min n (k : Int)) 0 = ((k : Nat) : Int) by omega, if_neg (by omega), Int.toNat_natCast]
    rw [List.append_nil]
  rw [hku]
  clear hku
  go_enter Tryd.func59, Tryd.ntmps59
  go_wp2_with fail
  all_goals
    go_loopw [11] (fun i' wr => ∃ (i : Nat), i' = .int .i64 i ∧ i ≤ k ∧ Wr B r v0 (l ++ List.replicate i true) w wr) (fun i' _ => k - (intOf i').toNat)
    case atStart => exact ⟨0, rfl, by omega, v0, by simpa using hrow, Chg.refl _ _ _ _⟩
    case round =>
      obtain ⟨i, rfl, hi, v1, hR, hch⟩ := hrel
      by_cases hlt : i < k
      · go_wp2_with (go_at_call 56; refine (bit_any B r v1 _ _ _ hR (by simp; omega)).mono ?_; rintro e w1 ⟨rfl, hR1⟩)
        refine ⟨⟨i + 1, by go_num, by omega, ?_⟩, by simp [intOf]; omega⟩
        rw [List.replicate_succ', ← List.append_assoc]
        exact Wr.trans hch hR1
      · have hik : i = k := by omega
        subst hik
        go_wp2_with (go_at_call 56; refine (bit_any B r v1 _ _ _ hR (by simp; omega)).mono ?_; rintro e w1 ⟨rfl, hR1⟩)
        go_end0
        exact ⟨rfl, v1, hR, hch⟩

theorem runary_any (B r : Nat) (v0 : Value) (l : List Bool) (n most : Int) (w : World) (h : RowV B r v0 l w) (hl : l.length ≤ 900000) (hn : most ≤ 1000) (h0 : -9223372036854775808 ≤ n) (h1 : n ≤ 9223372036854775807) (h2 : -9223372036854775808 ≤ most) :
    Calls Tryd.prog 59 #[.pointer (some ⟨r, 0, none⟩), .int .i64 n, .int .i64 most] w fun e w' => e = .returned (.tuple #[]) ∧ Wr B r v0 (l ++ Bt.unary n most) w w' := by
  by_cases hm : most ≤ 0
  · exact un_a B r v0 l n most w h hl (.inr hm) hm h0 h1 h2
  · by_cases hn0 : n ≤ 0
    · exact un_b B r v0 l n most w h hl hn0 (by omega) h0 hn
    · by_cases hk : n < most
      · obtain ⟨k, rfl⟩ := Int.eq_ofNat_of_zero_le (show 0 ≤ n by omega)
        exact un_c B r v0 l k most w h hl hk hn
      · obtain ⟨k, rfl⟩ := Int.eq_ofNat_of_zero_le (show 0 ≤ most by omega)
        exact un_d B r v0 l k n w h hl (by omega) h1 (by omega)
end Go.Proofs.YtajkleknjjpldaaDoor
