/- The statements of layer 1, walked. -/
import Derived.Test.YtbebgdjlabincaaW3
namespace Go.Proofs.Ytbebgdjlabincaa
open Go.RowKit Go.Lib

theorem enc_ne {a b : Nat} (ha : a < Leb.two64) (hb : b < Leb.two64) (h : a ≠ b) : (Leb.encU a == Leb.encU b) = false := by
  rw [beq_eq_false_iff_ne]
  exact fun e => h (Leb.enc_inj a b ha hb e)

theorem short_lt (a b : Nat) (w : World) (ha : a < 18446744073709551616) (hb : b < 18446744073709551616) (h : a < b) :
    Calls Try.prog 7 #[.int .u64 a, .int .u64 b] w fun e w' => e = .returned (.bool true) ∧ Below w.heap.size w w' := by
  have hT := bs_toList
  have hne := enc_ne (a := a) (b := b) (by assumption) (by assumption) (by omega)
  have h1 := (Leb.encU_len b).2
  have h3 : (Leb.encU a).length ≤ (Leb.encU b).length := Leb.enc_mono 9 a b (by omega)
  have hnb : ((a : Int) != (b : Int)) = true := by simp; omega
  go_enter Try.func7, Try.ntmps7
  go_wp2_with fail
  refine (uint_new a a _ _ rfl rfl rfl _ (by assumption)).mono ?_
  rintro e w1 ⟨a1, k1, rfl, s1, b1⟩
  go_wp2_with fail
  refine (uint_new b b _ _ rfl rfl rfl _ (by assumption)).mono ?_
  rintro e w2 ⟨a2, k2, rfl, s2, b2⟩
  go_wp2_with fail
  refine (awake_any _).mono ?_
  rintro e w3 ⟨rfl, b3⟩
  have c1 := text_conv ((s1.on b2).on b3)
  have c2 := text_conv (s2.on b3)
  go_wp2
  go_ret
  exact ⟨rfl, below_step (below_step b1 b2) b3⟩
theorem short_gt (a b : Nat) (w : World) (ha : a < 18446744073709551616) (hb : b < 18446744073709551616) (h : b < a) :
    Calls Try.prog 7 #[.int .u64 a, .int .u64 b] w fun e w' => e = .returned (.bool true) ∧ Below w.heap.size w w' := by
  have hT := bs_toList
  have hne := enc_ne (a := b) (b := a) (by assumption) (by assumption) (by omega)
  have h1 := (Leb.encU_len a).2
  have h3 : (Leb.encU b).length ≤ (Leb.encU a).length := Leb.enc_mono 9 b a (by omega)
  have hnb : ((a : Int) != (b : Int)) = true := by simp; omega
  go_enter Try.func7, Try.ntmps7
  go_wp2_with fail
  refine (uint_new b b _ _ rfl rfl rfl _ (by assumption)).mono ?_
  rintro e w1 ⟨a1, k1, rfl, s1, b1⟩
  go_wp2_with fail
  refine (uint_new a a _ _ rfl rfl rfl _ (by assumption)).mono ?_
  rintro e w2 ⟨a2, k2, rfl, s2, b2⟩
  go_wp2_with fail
  refine (awake_any _).mono ?_
  rintro e w3 ⟨rfl, b3⟩
  have c1 := text_conv ((s1.on b2).on b3)
  have c2 := text_conv (s2.on b3)
  go_wp2
  go_ret
  exact ⟨rfl, below_step (below_step b1 b2) b3⟩
theorem short_eq (a : Nat) (w : World) (ha : a < 18446744073709551616) :
    Calls Try.prog 7 #[.int .u64 a, .int .u64 a] w fun e w' => e = .returned (.bool true) ∧ Below w.heap.size w w' := by
  have hT := bs_toList
  have h1 := (Leb.encU_len a).2
  go_enter Try.func7, Try.ntmps7
  go_wp2_with fail
  refine (uint_new a a _ _ rfl rfl rfl _ (by assumption)).mono ?_
  rintro e w1 ⟨a1, k1, rfl, s1, b1⟩
  go_wp2_with fail
  refine (uint_new a a _ _ rfl rfl rfl _ (by assumption)).mono ?_
  rintro e w2 ⟨a2, k2, rfl, s2, b2⟩
  go_wp2_with fail
  refine (awake_any _).mono ?_
  rintro e w3 ⟨rfl, b3⟩
  have c1 := text_conv ((s1.on b2).on b3)
  have c2 := text_conv (s2.on b3)
  go_wp2
  go_ret
  exact ⟨rfl, below_step (below_step b1 b2) b3⟩

theorem short_any (a b : Nat) (w : World) (ha : a < 18446744073709551616) (hb : b < 18446744073709551616) :
    Calls Try.prog 7 #[.int .u64 a, .int .u64 b] w fun e w' => e = .returned (.bool true) ∧ Below w.heap.size w w' := by
  rcases Nat.lt_trichotomy a b with h | h | h
  · exact short_lt a b w ha hb h
  · subst h; exact short_eq a w ha
  · exact short_gt a b w ha hb h
end Go.Proofs.Ytbebgdjlabincaa
