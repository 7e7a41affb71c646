/- Layer 1's readers, walked. Layer 1's other readers, walked. -/
import Derived.Test.YtboiboojkomplaaDoorMY0
import Derived.Deep.QuietTactic
import Derived.BigQuiet
namespace Go.Proofs.YtboiboojkomplaaDoor
open Go.RowKit Go.Lib

theorem or_step (acc k : Nat) (c : UInt8) (hk : k ≤ 9) (h9 : k = 9 → c.toNat ≤ 1) (hacc : acc < 128 ^ k) :
    bits BinOp.or IntKind.u64 (acc : Int) (IntKind.u64.wrap (IntKind.u64.wrap (bits BinOp.and IntKind.u8 (c.toNat : Int) 127) * 2 ^ (7 * k))) = ((acc + c.toNat % 128 * 128 ^ k : Nat) : Int) := by
  have hw : ∀ x : Int, IntKind.u64.wrap x = x % 18446744073709551616 := fun x => by simp [IntKind.wrap, IntKind.bits, IntKind.signed]
  have hc := c.toNat_lt
  have e1 : bits BinOp.and IntKind.u8 (c.toNat : Int) 127 = ((c.toNat % 128 : Nat) : Int) := by
    have := u8_and_nat c.toNat 127 (by omega) (by decide)
    rw [← nat_mask7]; exact_mod_cast this
  have e2 : (2 : Int) ^ (7 * k) = ((128 ^ k : Nat) : Int) := by
    rw [Int.pow_mul]; norm_cast
  rw [e1, hw, hw, e2]
  have hlt : c.toNat % 128 * 128 ^ k < 18446744073709551616 := by
    rcases Nat.lt_or_ge k 9 with h | h
    · have h1 : 128 ^ k ≤ 128 ^ 8 := Nat.pow_le_pow_right (by decide) (by omega)
      have h2 : c.toNat % 128 ≤ 127 := by omega
      have := Nat.mul_le_mul h2 h1
      have h3 : 127 * 128 ^ 8 < 18446744073709551616 := by decide +kernel
      omega
    · have hk' : k = 9 := by omega
      have h2 : c.toNat % 128 ≤ 1 := by have := h9 hk'; omega
      have h4 : 128 ^ k ≤ 128 ^ 9 := Nat.pow_le_pow_right (by decide) hk
      exact Nat.lt_of_le_of_lt (Nat.mul_le_mul h2 h4) (by decide +kernel)
  have hacc' : acc < 18446744073709551616 := by
    have h1 : 128 ^ k ≤ 128 ^ 9 := Nat.pow_le_pow_right (by decide) hk
    have h3 : 128 ^ 9 < 18446744073709551616 := by decide +kernel
    omega
  have e3 : ((c.toNat % 128 : Nat) : Int) % 18446744073709551616 * ((128 ^ k : Nat) : Int) % 18446744073709551616 = ((c.toNat % 128 * 128 ^ k : Nat) : Int) := by
    have : ((c.toNat % 128 : Nat) : Int) % 18446744073709551616 = ((c.toNat % 128 : Nat) : Int) := by omega
    rw [this, ← Int.natCast_mul]
    generalize c.toNat % 128 * 128 ^ k = p at *
    omega
  rw [e3, bits_or_u64_nat _ _ hacc' hlt]
  congr 1
  have e4 : (128 : Nat) ^ k = 2 ^ (7 * k) := by rw [Nat.pow_mul]
  rw [e4] at hacc ⊢
  rw [Nat.or_comm, Nat.mul_comm, ← Nat.two_pow_add_eq_or_of_lt hacc, Nat.add_comm]

theorem or_step9 (acc : Nat) (c : UInt8) (h9 : c.toNat ≤ 1) (hacc : acc < 128 ^ 9) :
    bits BinOp.or IntKind.u64 (acc : Int) (IntKind.u64.wrap (IntKind.u64.wrap (bits BinOp.and IntKind.u8 (c.toNat : Int) 127) * 9223372036854775808)) = ((acc + c.toNat % 128 * 128 ^ 9 : Nat) : Int) := by
  have h := or_step acc 9 c (by omega) (fun _ => h9) hacc
  rwa [show (2 : Int) ^ (7 * 9) = 9223372036854775808 by decide +kernel] at h

def tupU (r : Nat × List UInt8 × Nat) : Value := .tuple #[.int .u64 r.1, .string (bs r.2.1), .int .i64 r.2.2]

theorem dec_e1 (s : ByteArray) (k acc : Nat) (h : k < s.size) (h1 : (k : Int) = 9) (h2 : 1 < (s[k].toNat : Int)) : Leb.dec k acc (s.data.toList.drop k) = (0, [], 3) := by
  rw [list_at s k h, Leb.dec, if_pos ⟨by omega, by omega⟩]
theorem dec_e2 (s : ByteArray) (k acc : Nat) (h : k < s.size) (h1 : 0 < k) (h2 : ((s[k].toNat : Int) == 0) = true) : Leb.dec k acc (s.data.toList.drop k) = (0, [], 3) := by
  have h3 : s[k].toNat = 0 := by simpa using h2
  rw [list_at s k h, Leb.dec, if_neg (by omega), if_pos ⟨by omega, by omega⟩]
theorem dec_ok (s : ByteArray) (k acc : Nat) (h : k < s.size) (h1 : ¬ (k = 9 ∧ 1 < s[k].toNat)) (h2 : ¬ (0 < k ∧ s[k].toNat = 0)) (h3 : (s[k].toNat : Int) < 128) :
    Leb.dec k acc (s.data.toList.drop k) = (acc + s[k].toNat % 128 * 128 ^ k, s.data.toList.drop (k + 1), 0) := by
  rw [list_at s k h, Leb.dec, if_neg h1, if_neg h2, if_pos (by omega)]
theorem dec_on (s : ByteArray) (k acc : Nat) (h : k < s.size) (h1 : ¬ (k = 9 ∧ 1 < s[k].toNat)) (h2 : ¬ (0 < k ∧ s[k].toNat = 0)) (h3 : 128 ≤ (s[k].toNat : Int)) :
    Leb.dec k acc (s.data.toList.drop k) = Leb.dec (k + 1) (acc + s[k].toNat % 128 * 128 ^ k) (s.data.toList.drop (k + 1)) := by
  rw [list_at s k h, Leb.dec, if_neg h1, if_neg h2, if_neg (by omega)]
theorem dec_nil (s : ByteArray) (k acc : Nat) (h : ¬ k < s.size) : Leb.dec k acc (s.data.toList.drop k) = (0, [], 2) := by
  have hl : s.size = s.data.toList.length := by rw [Array.length_toList]; rfl
  have : s.data.toList.drop k = [] := List.drop_eq_nil_of_le (by omega)
  rw [this]; rfl
theorem zero_test {x : Nat} {k : Nat} (h : (((x : Nat) : Int) == 0) = false) : ¬ (0 < k ∧ x = 0) := by
  rintro ⟨_, rfl⟩; simp at h
theorem pow_step (acc k c : Nat) (h : acc < 128 ^ k) : acc + c % 128 * 128 ^ k < 128 ^ (k + 1) := by
  have h1 : c % 128 ≤ 127 := by omega
  have := Nat.mul_le_mul_right (128 ^ k) h1
  rw [Nat.pow_succ]
  omega

theorem wrapb (c : UInt8) : IntKind.u64.wrap (c.toNat : Int) = (c.toNat : Int) := by
  have hw : ∀ x : Int, IntKind.u64.wrap x = x % 18446744073709551616 := fun x => by simp [IntKind.wrap, IntKind.bits, IntKind.signed]
  have hc := c.toNat_lt
  rw [hw]; omega

theorem step_bd (k acc : Nat) (c : UInt8) (hk : k ≤ 9) (h9 : k = 9 → c.toNat ≤ 1) (hacc : acc < 128 ^ k) : c.toNat % 128 * 128 ^ k < 18446744073709551616 ∧ acc + c.toNat % 128 * 128 ^ k < 18446744073709551616 := by
  rcases Nat.lt_or_ge k 9 with h | h
  · have h1 : 128 ^ k ≤ 128 ^ 8 := Nat.pow_le_pow_right (by decide) (by omega)
    have h2 : c.toNat % 128 ≤ 127 := by omega
    have := Nat.mul_le_mul h2 h1
    have h3 : 127 * 128 ^ 8 < 9223372036854775808 := by decide +kernel
    have h4 : (128 : Nat) ^ 8 < 9223372036854775808 := by decide +kernel
    omega
  · have hk' : k = 9 := by omega
    have h2 : c.toNat % 128 ≤ 1 := by have := h9 hk'; omega
    have h4 : 128 ^ k ≤ 128 ^ 9 := Nat.pow_le_pow_right (by decide) hk
    have := Nat.mul_le_mul h2 h4
    have h5 : (128 : Nat) ^ 9 = 9223372036854775808 := by decide +kernel
    omega
theorem ref_step (k acc p : Nat) (c : UInt8) (hp : p = 128 ^ k) (hk : k ≤ 9) (h9 : k = 9 → c.toNat ≤ 1) (hacc : acc < 128 ^ k) :
    IntKind.u64.wrap ((acc : Int) + IntKind.u64.wrap ((p : Int) * ((c.toNat : Int) % 128))) = ((acc + c.toNat % 128 * 128 ^ k : Nat) : Int) := by
  have hw : ∀ x : Int, IntKind.u64.wrap x = x % 18446744073709551616 := fun x => by simp [IntKind.wrap, IntKind.bits, IntKind.signed]
  obtain ⟨b1, b2⟩ := step_bd k acc c hk h9 hacc
  rw [hw, hw]
  have e1 : (p : Int) * ((c.toNat : Int) % 128) = ((c.toNat % 128 * 128 ^ k : Nat) : Int) := by
    rw [hp, Int.natCast_mul, Int.mul_comm]; rfl
  rw [e1]
  generalize c.toNat % 128 * 128 ^ k = q at *
  omega
theorem ref_unit (k p : Nat) (hp : p = 128 ^ k) (hk : k < 9) : IntKind.u64.wrap ((p : Int) * 128) = ((128 ^ (k + 1) : Nat) : Int) ∧ 128 ^ (k + 1) ≤ 9223372036854775808 := by
  have hw : ∀ x : Int, IntKind.u64.wrap x = x % 18446744073709551616 := fun x => by simp [IntKind.wrap, IntKind.bits, IntKind.signed]
  have h4 : 128 ^ (k + 1) ≤ 128 ^ 9 := Nat.pow_le_pow_right (by decide) (by omega)
  have h5 : (128 : Nat) ^ 9 = 9223372036854775808 := by decide +kernel
  rw [hw, hp]
  rw [Nat.pow_succ] at h4 ⊢
  generalize 128 ^ k = q at *
  omega
theorem ref_zero (k acc : Nat) (hk : k ≤ 9) (hacc : acc < 128 ^ k) : IntKind.u64.wrap (acc : Int) = ((acc + 0 % 128 * 128 ^ k : Nat) : Int) := by
  have hw : ∀ x : Int, IntKind.u64.wrap x = x % 18446744073709551616 := fun x => by simp [IntKind.wrap, IntKind.bits, IntKind.signed]
  have h4 : 128 ^ k ≤ 128 ^ 9 := Nat.pow_le_pow_right (by decide) hk
  have h5 : (128 : Nat) ^ 9 = 9223372036854775808 := by decide +kernel
  rw [hw, Nat.zero_mod, Nat.zero_mul, Nat.add_zero]
  generalize 128 ^ k = q at *
  omega

end Go.Proofs.YtboiboojkomplaaDoor

namespace Go.Proofs.YtboiboojkomplaaDoor
set_option maxRecDepth 100000
open Go.RowKit Go.Lib

namespace Leb
def takeI (l : List UInt8) : Int × List UInt8 × Nat := if (takeU l).2.2 ≠ 0 then (0, [], (takeU l).2.2) else (unfoldN (takeU l).1, (takeU l).2.1, 0)
theorem takeI_ok {l : List UInt8} {u : Nat} {r : List UInt8} (h : takeU l = (u, r, 0)) : takeI l = (unfoldN u, r, 0) := by unfold takeI; rw [h]; simp
theorem takeI_no {l : List UInt8} {u er : Nat} {r : List UInt8} (h : takeU l = (u, r, er)) (he : er ≠ 0) : takeI l = (0, [], er) := by unfold takeI; rw [h]; simp [he]
theorem takeM_no {l : List UInt8} {most : Int} {u er : Nat} {r : List UInt8} (h : takeU l = (u, r, er)) (he : er ≠ 0) : takeM l most = (0, [], er) := by unfold takeM; rw [h]; simp [he]
theorem takeM_big {l : List UInt8} {most : Int} {u : Nat} {r : List UInt8} (h : takeU l = (u, r, 0)) (he : (u : Int) > max most 0) : takeM l most = (0, [], 16) := by
  unfold takeM; rw [h, if_neg (by simp), if_pos (by simp only; omega)]
theorem takeM_ok {l : List UInt8} {most : Int} {u : Nat} {r : List UInt8} (h : takeU l = (u, r, 0)) (he : ¬ (u : Int) > max most 0) : takeM l most = (u, r, 0) := by
  unfold takeM; rw [h, if_neg (by simp), if_neg (by simp only; omega)]
theorem takeT_no {l : List UInt8} {most : Int} {u er : Nat} {r : List UInt8} (h : takeM l most = (u, r, er)) (he : er ≠ 0) : takeT l most = ([], [], er) := by unfold takeT; rw [h]; simp [he]
theorem takeT_end {l : List UInt8} {most : Int} {u : Nat} {r : List UInt8} (h : takeM l most = (u, r, 0)) (he : u > r.length) : takeT l most = ([], [], 2) := by unfold takeT; rw [h]; simp [he]
theorem takeT_ok {l : List UInt8} {most : Int} {u : Nat} {r : List UInt8} (h : takeM l most = (u, r, 0)) (he : ¬ u > r.length) : takeT l most = (r.take u, r.drop u, 0) := by unfold takeT; rw [h]; simp [he]
theorem takeU_none {l : List UInt8} {u er : Nat} {r : List UInt8} (h : takeU l = (u, r, er)) (he : er ≠ 0) : u = 0 ∧ r = [] := by
  have := dec_err l 0 0 (by show (takeU l).2.2 ≠ 0; rw [h]; exact he)
  have e1 : dec 0 0 l = (u, r, er) := h
  rw [e1] at this
  exact this
theorem takeU_small {l : List UInt8} {u er : Nat} {r : List UInt8} (h : takeU l = (u, r, er)) : er ≤ 3 ∧ u < 18446744073709551616 ∧ r.length ≤ l.length := by
  have h1 := dec_errs l 0 0
  have h2 := takeU_lt l
  have h3 := dec_left l 0 0
  have e1 : dec 0 0 l = (u, r, er) := h
  rw [h] at h2
  rw [e1] at h1 h3
  unfold two64 at h2
  simp only at h1 h2 h3
  omega
theorem takeM_small {l : List UInt8} {most : Int} {u er : Nat} {r : List UInt8} (h : takeM l most = (u, r, er)) (hm : most ≤ 9223372036854775807) : er ≤ 16 ∧ u ≤ 9223372036854775807 ∧ r.length ≤ l.length ∧ (er = 0 → (u : Int) ≤ max most 0) ∧ (er ≠ 0 → u = 0 ∧ r = []) := by
  obtain ⟨u', r', er', hT⟩ : ∃ u' r' er', takeU l = (u', r', er') := ⟨_, _, _, rfl⟩
  obtain ⟨b1, b2, b3⟩ := takeU_small hT
  by_cases he : er' = 0
  · subst he
    by_cases hb : (u' : Int) > max most 0
    · rw [takeM_big hT hb] at h; simp only [Prod.mk.injEq] at h; obtain ⟨rfl, rfl, rfl⟩ := h; simp
    · rw [takeM_ok hT hb] at h; simp only [Prod.mk.injEq] at h; obtain ⟨rfl, rfl, rfl⟩ := h; simp; omega
  · rw [takeM_no hT he] at h; simp only [Prod.mk.injEq] at h; obtain ⟨rfl, rfl, rfl⟩ := h; simp; omega
end Leb

def tupI (r : Int × List UInt8 × Nat) : Value := .tuple #[.int .i64 r.1, .string (bs r.2.1), .int .i64 r.2.2]
def tupM (r : Nat × List UInt8 × Nat) : Value := .tuple #[.int .i64 r.1, .string (bs r.2.1), .int .i64 r.2.2]
def tupT (r : List UInt8 × List UInt8 × Nat) : Value := .tuple #[.string (bs r.1), .string (bs r.2.1), .int .i64 r.2.2]

/-- The answer is a new slice of the bytes xs, n of them. -/
def Made (w : World) (xs : List UInt8) (n : Nat) (e : Ending) (w' : World) : Prop :=
  ∃ a cap, e = .returned (.slice a n cap) ∧ Sl w' w.heap.size 1 (.slice a n cap) n (cb xs) ∧ Below w.heap.size w w'

theorem made_of {w w' : World} {xs : List UInt8} {n : Nat} {e : Ending} (hn : xs.length = n) (h : Wrote w.heap.size w (.slice none 0 0) 0 [] xs e w') : Made w xs n e w' := by
  obtain ⟨v', rfl, hx⟩ := h
  have hb := hx.below (Nat.le_refl _) (Nat.le_refl _)
  have := hx.now
  rw [Nat.zero_add, List.nil_append, hn] at this
  obtain ⟨a, cap, rfl⟩ := this.slice
  exact ⟨a, cap, rfl, this, hb⟩

/-- .. of which there is one at least. -/
def MadeAt (w : World) (xs : List UInt8) (n : Nat) (e : Ending) (w' : World) : Prop :=
  ∃ g off cap, e = .returned (.slice (some ⟨g, off, none⟩) n cap) ∧ n ≤ cap ∧ cap ≤ maxLen ∧ Sl w' w.heap.size 1 (.slice (some ⟨g, off, none⟩) n cap) n (cb xs) ∧ Below w.heap.size w w'
theorem madeAt_of {w w' : World} {xs : List UInt8} {n : Nat} {e : Ending} (hn : 0 < n) (h : Made w xs n e w') : MadeAt w xs n e w' := by
  obtain ⟨a, cap, rfl, h, hb⟩ := h
  rcases h.2 with ⟨h0, h1⟩ | ⟨g', off', cap', he, hbg, hg, hnc, hcm, _⟩
  · omega
  · cases he
    exact ⟨g', off', cap, rfl, hnc, hcm, h, hb⟩

end Go.Proofs.YtboiboojkomplaaDoor
