/- Layer 1's readers, walked. -/
import Derived.Test.YtkialkjhjenkhaaMY0
import Derived.Deep.QuietTactic
import Derived.BigQuiet
namespace Go.Proofs.Ytkialkjhjenkhaa
open Go.RowKit Go.Lib

theorem or_step (acc k : Nat) (c : UInt8) (hk : k ≤ 9) (h9 : k = 9 → c.toNat ≤ 1) (hacc : acc < 128 ^ k) :
    bits BinOp.or IntKind.u64 (acc : Int) (IntKind.u64.wrap (IntKind.u64.wrap (bits BinOp.and IntKind.u8 (c.toNat : Int) 127) * 2 ^ (7 * k))) = ((acc + c.toNat % 128 * 128 ^ k : Nat) : Int) := by
  have hw : ∀ x : Int, IntKind.u64.wrap x = x % 18446744073709551616 := fun x => by simp [IntKind.wrap, IntKind.bits, IntKind.signed]
  have hc := c.toNat_lt
  have e1 : bits BinOp.and IntKind.u8 (c.toNat : Int) 127 = ((c.toNat % 128 : Nat) : Int) := by
    have := u8_and_nat c.toNat 127 (by omega) (by decide)
    rw [← nat_mask7]; exact_mod_cast this
  have e2 : (2 : Int) ^ (7 * k) = ((128 ^ k : Nat) : Int) := by
    rw [Int.pow_mul]; norm_cast
  rw [e1, hw, hw, e2]
  have hlt : c.toNat % 128 * 128 ^ k < 18446744073709551616 := by
    rcases Nat.lt_or_ge k 9 with h | h
    · have h1 : 128 ^ k ≤ 128 ^ 8 := Nat.pow_le_pow_right (by decide) (by omega)
      have h2 : c.toNat % 128 ≤ 127 := by omega
      have := Nat.mul_le_mul h2 h1
      have h3 : 127 * 128 ^ 8 < 18446744073709551616 := by decide +kernel
      omega
    · have hk' : k = 9 := by omega
      have h2 : c.toNat % 128 ≤ 1 := by have := h9 hk'; omega
      have h4 : 128 ^ k ≤ 128 ^ 9 := Nat.pow_le_pow_right (by decide) hk
      exact Nat.lt_of_le_of_lt (Nat.mul_le_mul h2 h4) (by decide +kernel)
  have hacc' : acc < 18446744073709551616 := by
    have h1 : 128 ^ k ≤ 128 ^ 9 := Nat.pow_le_pow_right (by decide) hk
    have h3 : 128 ^ 9 < 18446744073709551616 := by decide +kernel
    omega
  have e3 : ((c.toNat % 128 : Nat) : Int) % 18446744073709551616 * ((128 ^ k : Nat) : Int) % 18446744073709551616 = ((c.toNat % 128 * 128 ^ k : Nat) : Int) := by
    have : ((c.toNat % 128 : Nat) : Int) % 18446744073709551616 = ((c.toNat % 128 : Nat) : Int) := by omega
    rw [this, ← Int.natCast_mul]
    generalize c.toNat % 128 * 128 ^ k = p at *
    omega
  rw [e3, bits_or_u64_nat _ _ hacc' hlt]
  congr 1
  have e4 : (128 : Nat) ^ k = 2 ^ (7 * k) := by rw [Nat.pow_mul]
  rw [e4] at hacc ⊢
  rw [Nat.or_comm, Nat.mul_comm, ← Nat.two_pow_add_eq_or_of_lt hacc, Nat.add_comm]

theorem or_step9 (acc : Nat) (c : UInt8) (h9 : c.toNat ≤ 1) (hacc : acc < 128 ^ 9) :
    bits BinOp.or IntKind.u64 (acc : Int) (IntKind.u64.wrap (IntKind.u64.wrap (bits BinOp.and IntKind.u8 (c.toNat : Int) 127) * 9223372036854775808)) = ((acc + c.toNat % 128 * 128 ^ 9 : Nat) : Int) := by
  have h := or_step acc 9 c (by omega) (fun _ => h9) hacc
  rwa [show (2 : Int) ^ (7 * 9) = 9223372036854775808 by decide +kernel] at h

def tupU (r : Nat × List UInt8 × Nat) : Value := .tuple #[.int .u64 r.1, .string (bs r.2.1), .int .i64 r.2.2]

theorem dec_e1 (s : ByteArray) (k acc : Nat) (h : k < s.size) (h1 : (k : Int) = 9) (h2 : 1 < (s[k].toNat : Int)) : Leb.dec k acc (s.data.toList.drop k) = (0, [], 3) := by
  rw [list_at s k h, Leb.dec, if_pos ⟨by omega, by omega⟩]
theorem dec_e2 (s : ByteArray) (k acc : Nat) (h : k < s.size) (h1 : 0 < k) (h2 : ((s[k].toNat : Int) == 0) = true) : Leb.dec k acc (s.data.toList.drop k) = (0, [], 3) := by
  have h3 : s[k].toNat = 0 := by simpa using h2
  rw [list_at s k h, Leb.dec, if_neg (by omega), if_pos ⟨by omega, by omega⟩]
theorem dec_ok (s : ByteArray) (k acc : Nat) (h : k < s.size) (h1 : ¬ (k = 9 ∧ 1 < s[k].toNat)) (h2 : ¬ (0 < k ∧ s[k].toNat = 0)) (h3 : (s[k].toNat : Int) < 128) :
    Leb.dec k acc (s.data.toList.drop k) = (acc + s[k].toNat % 128 * 128 ^ k, s.data.toList.drop (k + 1), 0) := by
  rw [list_at s k h, Leb.dec, if_neg h1, if_neg h2, if_pos (by omega)]
theorem dec_on (s : ByteArray) (k acc : Nat) (h : k < s.size) (h1 : ¬ (k = 9 ∧ 1 < s[k].toNat)) (h2 : ¬ (0 < k ∧ s[k].toNat = 0)) (h3 : 128 ≤ (s[k].toNat : Int)) :
    Leb.dec k acc (s.data.toList.drop k) = Leb.dec (k + 1) (acc + s[k].toNat % 128 * 128 ^ k) (s.data.toList.drop (k + 1)) := by
  rw [list_at s k h, Leb.dec, if_neg h1, if_neg h2, if_neg (by omega)]
theorem dec_nil (s : ByteArray) (k acc : Nat) (h : ¬ k < s.size) : Leb.dec k acc (s.data.toList.drop k) = (0, [], 2) := by
  have hl : s.size = s.data.toList.length := by rw [Array.length_toList]; rfl
  have : s.data.toList.drop k = [] := List.drop_eq_nil_of_le (by omega)
  rw [this]; rfl
theorem zero_test {x : Nat} {k : Nat} (h : (((x : Nat) : Int) == 0) = false) : ¬ (0 < k ∧ x = 0) := by
  rintro ⟨_, rfl⟩; simp at h
theorem pow_step (acc k c : Nat) (h : acc < 128 ^ k) : acc + c % 128 * 128 ^ k < 128 ^ (k + 1) := by
  have h1 : c % 128 ≤ 127 := by omega
  have := Nat.mul_le_mul_right (128 ^ k) h1
  rw [Nat.pow_succ]
  omega

theorem wrapb (c : UInt8) : IntKind.u64.wrap (c.toNat : Int) = (c.toNat : Int) := by
  have hw : ∀ x : Int, IntKind.u64.wrap x = x % 18446744073709551616 := fun x => by simp [IntKind.wrap, IntKind.bits, IntKind.signed]
  have hc := c.toNat_lt
  rw [hw]; omega

theorem step_bd (k acc : Nat) (c : UInt8) (hk : k ≤ 9) (h9 : k = 9 → c.toNat ≤ 1) (hacc : acc < 128 ^ k) : c.toNat % 128 * 128 ^ k < 18446744073709551616 ∧ acc + c.toNat % 128 * 128 ^ k < 18446744073709551616 := by
  rcases Nat.lt_or_ge k 9 with h | h
  · have h1 : 128 ^ k ≤ 128 ^ 8 := Nat.pow_le_pow_right (by decide) (by omega)
    have h2 : c.toNat % 128 ≤ 127 := by omega
    have := Nat.mul_le_mul h2 h1
    have h3 : 127 * 128 ^ 8 < 9223372036854775808 := by decide +kernel
    have h4 : (128 : Nat) ^ 8 < 9223372036854775808 := by decide +kernel
    omega
  · have hk' : k = 9 := by omega
    have h2 : c.toNat % 128 ≤ 1 := by have := h9 hk'; omega
    have h4 : 128 ^ k ≤ 128 ^ 9 := Nat.pow_le_pow_right (by decide) hk
    have := Nat.mul_le_mul h2 h4
    have h5 : (128 : Nat) ^ 9 = 9223372036854775808 := by decide +kernel
    omega
theorem ref_step (k acc p : Nat) (c : UInt8) (hp : p = 128 ^ k) (hk : k ≤ 9) (h9 : k = 9 → c.toNat ≤ 1) (hacc : acc < 128 ^ k) :
    IntKind.u64.wrap ((acc : Int) + IntKind.u64.wrap ((p : Int) * ((c.toNat : Int) % 128))) = ((acc + c.toNat % 128 * 128 ^ k : Nat) : Int) := by
  have hw : ∀ x : Int, IntKind.u64.wrap x = x % 18446744073709551616 := fun x => by simp [IntKind.wrap, IntKind.bits, IntKind.signed]
  obtain ⟨b1, b2⟩ := step_bd k acc c hk h9 hacc
  rw [hw, hw]
  have e1 : (p : Int) * ((c.toNat : Int) % 128) = ((c.toNat % 128 * 128 ^ k : Nat) : Int) := by
    rw [hp, Int.natCast_mul, Int.mul_comm]; rfl
  rw [e1]
  generalize c.toNat % 128 * 128 ^ k = q at *
  omega
theorem ref_unit (k p : Nat) (hp : p = 128 ^ k) (hk : k < 9) : IntKind.u64.wrap ((p : Int) * 128) = ((128 ^ (k + 1) : Nat) : Int) ∧ 128 ^ (k + 1) ≤ 9223372036854775808 := by
  have hw : ∀ x : Int, IntKind.u64.wrap x = x % 18446744073709551616 := fun x => by simp [IntKind.wrap, IntKind.bits, IntKind.signed]
  have h4 : 128 ^ (k + 1) ≤ 128 ^ 9 := Nat.pow_le_pow_right (by decide) (by omega)
  have h5 : (128 : Nat) ^ 9 = 9223372036854775808 := by decide +kernel
  rw [hw, hp]
  rw [Nat.pow_succ] at h4 ⊢
  generalize 128 ^ k = q at *
  omega
theorem ref_zero (k acc : Nat) (hk : k ≤ 9) (hacc : acc < 128 ^ k) : IntKind.u64.wrap (acc : Int) = ((acc + 0 % 128 * 128 ^ k : Nat) : Int) := by
  have hw : ∀ x : Int, IntKind.u64.wrap x = x % 18446744073709551616 := fun x => by simp [IntKind.wrap, IntKind.bits, IntKind.signed]
  have h4 : 128 ^ k ≤ 128 ^ 9 := Nat.pow_le_pow_right (by decide) hk
  have h5 : (128 : Nat) ^ 9 = 9223372036854775808 := by decide +kernel
  rw [hw, Nat.zero_mod, Nat.zero_mul, Nat.add_zero]
  generalize 128 ^ k = q at *
  omega

end Go.Proofs.Ytkialkjhjenkhaa
