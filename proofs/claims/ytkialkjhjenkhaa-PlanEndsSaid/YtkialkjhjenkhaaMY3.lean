/- Layer 1's other readers, walked. The sum in plain words, on natural numbers. No program's text. -/
import Derived.Test.YtkialkjhjenkhaaMY0
import Derived.WalkKit
import Derived.Lib.Hide
namespace Go.Proofs.Ytkialkjhjenkhaa
set_option maxRecDepth 100000
open Go.RowKit Go.Lib

namespace Leb
def takeI (l : List UInt8) : Int × List UInt8 × Nat := if (takeU l).2.2 ≠ 0 then (0, [], (takeU l).2.2) else (unfoldN (takeU l).1, (takeU l).2.1, 0)
theorem takeI_ok {l : List UInt8} {u : Nat} {r : List UInt8} (h : takeU l = (u, r, 0)) : takeI l = (unfoldN u, r, 0) := by unfold takeI; rw [h]; simp
theorem takeI_no {l : List UInt8} {u er : Nat} {r : List UInt8} (h : takeU l = (u, r, er)) (he : er ≠ 0) : takeI l = (0, [], er) := by unfold takeI; rw [h]; simp [he]
theorem takeM_no {l : List UInt8} {most : Int} {u er : Nat} {r : List UInt8} (h : takeU l = (u, r, er)) (he : er ≠ 0) : takeM l most = (0, [], er) := by unfold takeM; rw [h]; simp [he]
theorem takeM_big {l : List UInt8} {most : Int} {u : Nat} {r : List UInt8} (h : takeU l = (u, r, 0)) (he : (u : Int) > max most 0) : takeM l most = (0, [], 16) := by
  unfold takeM; rw [h, if_neg (by simp), if_pos (by simp only; omega)]
theorem takeM_ok {l : List UInt8} {most : Int} {u : Nat} {r : List UInt8} (h : takeU l = (u, r, 0)) (he : ¬ (u : Int) > max most 0) : takeM l most = (u, r, 0) := by
  unfold takeM; rw [h, if_neg (by simp), if_neg (by simp only; omega)]
theorem takeT_no {l : List UInt8} {most : Int} {u er : Nat} {r : List UInt8} (h : takeM l most = (u, r, er)) (he : er ≠ 0) : takeT l most = ([], [], er) := by unfold takeT; rw [h]; simp [he]
theorem takeT_end {l : List UInt8} {most : Int} {u : Nat} {r : List UInt8} (h : takeM l most = (u, r, 0)) (he : u > r.length) : takeT l most = ([], [], 2) := by unfold takeT; rw [h]; simp [he]
theorem takeT_ok {l : List UInt8} {most : Int} {u : Nat} {r : List UInt8} (h : takeM l most = (u, r, 0)) (he : ¬ u > r.length) : takeT l most = (r.take u, r.drop u, 0) := by unfold takeT; rw [h]; simp [he]
theorem takeU_none {l : List UInt8} {u er : Nat} {r : List UInt8} (h : takeU l = (u, r, er)) (he : er ≠ 0) : u = 0 ∧ r = [] := by
  have := dec_err l 0 0 (by show (takeU l).2.2 ≠ 0; rw [h]; exact he)
  have e1 : dec 0 0 l = (u, r, er) := h
  rw [e1] at this
  exact this
theorem takeU_small {l : List UInt8} {u er : Nat} {r : List UInt8} (h : takeU l = (u, r, er)) : er ≤ 3 ∧ u < 18446744073709551616 ∧ r.length ≤ l.length := by
  have h1 := dec_errs l 0 0
  have h2 := takeU_lt l
  have h3 := dec_left l 0 0
  have e1 : dec 0 0 l = (u, r, er) := h
  rw [h] at h2
  rw [e1] at h1 h3
  unfold two64 at h2
  simp only at h1 h2 h3
  omega
theorem takeM_small {l : List UInt8} {most : Int} {u er : Nat} {r : List UInt8} (h : takeM l most = (u, r, er)) (hm : most ≤ 9223372036854775807) : er ≤ 16 ∧ u ≤ 9223372036854775807 ∧ r.length ≤ l.length ∧ (er = 0 → (u : Int) ≤ max most 0) ∧ (er ≠ 0 → u = 0 ∧ r = []) := by
  obtain ⟨u', r', er', hT⟩ : ∃ u' r' er', takeU l = (u', r', er') := ⟨_, _, _, rfl⟩
  obtain ⟨b1, b2, b3⟩ := takeU_small hT
  by_cases he : er' = 0
  · subst he
    by_cases hb : (u' : Int) > max most 0
    · rw [takeM_big hT hb] at h; simp only [Prod.mk.injEq] at h; obtain ⟨rfl, rfl, rfl⟩ := h; simp
    · rw [takeM_ok hT hb] at h; simp only [Prod.mk.injEq] at h; obtain ⟨rfl, rfl, rfl⟩ := h; simp; omega
  · rw [takeM_no hT he] at h; simp only [Prod.mk.injEq] at h; obtain ⟨rfl, rfl, rfl⟩ := h; simp; omega
end Leb

def tupI (r : Int × List UInt8 × Nat) : Value := .tuple #[.int .i64 r.1, .string (bs r.2.1), .int .i64 r.2.2]
def tupM (r : Nat × List UInt8 × Nat) : Value := .tuple #[.int .i64 r.1, .string (bs r.2.1), .int .i64 r.2.2]
def tupT (r : List UInt8 × List UInt8 × Nat) : Value := .tuple #[.string (bs r.1), .string (bs r.2.1), .int .i64 r.2.2]

/-- The answer is a new slice of the bytes xs, n of them. -/
def Made (w : World) (xs : List UInt8) (n : Nat) (e : Ending) (w' : World) : Prop :=
  ∃ a cap, e = .returned (.slice a n cap) ∧ Sl w' w.heap.size 1 (.slice a n cap) n (cb xs) ∧ Below w.heap.size w w'

theorem made_of {w w' : World} {xs : List UInt8} {n : Nat} {e : Ending} (hn : xs.length = n) (h : Wrote w.heap.size w (.slice none 0 0) 0 [] xs e w') : Made w xs n e w' := by
  obtain ⟨v', rfl, hx⟩ := h
  have hb := hx.below (Nat.le_refl _) (Nat.le_refl _)
  have := hx.now
  rw [Nat.zero_add, List.nil_append, hn] at this
  obtain ⟨a, cap, rfl⟩ := this.slice
  exact ⟨a, cap, rfl, this, hb⟩

/-- .. of which there is one at least. -/
def MadeAt (w : World) (xs : List UInt8) (n : Nat) (e : Ending) (w' : World) : Prop :=
  ∃ g off cap, e = .returned (.slice (some ⟨g, off, none⟩) n cap) ∧ n ≤ cap ∧ cap ≤ maxLen ∧ Sl w' w.heap.size 1 (.slice (some ⟨g, off, none⟩) n cap) n (cb xs) ∧ Below w.heap.size w w'
theorem madeAt_of {w w' : World} {xs : List UInt8} {n : Nat} {e : Ending} (hn : 0 < n) (h : Made w xs n e w') : MadeAt w xs n e w' := by
  obtain ⟨a, cap, rfl, h, hb⟩ := h
  rcases h.2 with ⟨h0, h1⟩ | ⟨g', off', cap', he, hbg, hg, hnc, hcm, _⟩
  · omega
  · cases he
    exact ⟨g', off', cap, rfl, hnc, hcm, h, hb⟩

end Go.Proofs.Ytkialkjhjenkhaa

namespace Go.Proofs.Ytkialkjhjenkhaa.Crc

def poly : Nat := 2197175160
def top : Nat := 4294967296

/-- One bit. -/
def st (c : Nat) : Nat := (c / 2) ^^^ (if c % 2 = 1 then poly else 0)
/-- So many bits. -/
def sts : Nat → Nat → Nat
  | 0, c => c
  | k + 1, c => sts k (st c)
/-- One byte. -/
def byte (c b : Nat) : Nat := sts 8 (c ^^^ b)
def run (c : Nat) (l : List UInt8) : Nat := l.foldl (fun c b => byte c b.toNat) c
/-- All bits turned. -/
def turn (c : Nat) : Nat := top - 1 - c
def more (sum : Nat) (l : List UInt8) : Nat := turn (run (turn sum) l)
def sum (l : List UInt8) : Nat := more 0 l

theorem xor_lt {a b : Nat} (ha : a < top) (hb : b < top) : a ^^^ b < top := Nat.xor_lt_two_pow (n := 32) ha hb
theorem st_lt {c : Nat} (h : c < top) : st c < top := by
  unfold st
  refine xor_lt (by unfold top at *; omega) ?_
  split <;> decide
theorem sts_lt (k : Nat) : ∀ c, c < top → sts k c < top := by
  induction k with
  | zero => intro c h; exact h
  | succ k ih => intro c h; exact ih _ (st_lt h)
theorem byte_lt {c b : Nat} (h : c < top) (hb : b < 256) : byte c b < top := sts_lt 8 _ (xor_lt h (by unfold top; omega))
theorem run_lt (l : List UInt8) : ∀ c, c < top → run c l < top := by
  induction l with
  | nil => intro c h; exact h
  | cons b l ih => intro c h; exact ih _ (byte_lt h b.toNat_lt)
theorem turn_lt (c : Nat) : turn c < top := by unfold turn top; omega
theorem turn_turn {c : Nat} (h : c < top) : turn (turn c) = c := by unfold turn top at *; omega
theorem sum_lt (l : List UInt8) : sum l < top := turn_lt _
theorem more_lt (s : Nat) (l : List UInt8) : more s l < top := turn_lt _

theorem run_append (c : Nat) (l m : List UInt8) : run c (l ++ m) = run (run c l) m := List.foldl_append
theorem more_append (s : Nat) (l m : List UInt8) : more (more s l) m = more s (l ++ m) := by
  unfold more
  rw [turn_turn (run_lt l _ (turn_lt s)), run_append]
theorem sum_append (l m : List UInt8) : more (sum l) m = sum (l ++ m) := more_append 0 l m
theorem sum_nil : sum [] = 0 := by decide

/-- No two numbers go to one. -/
theorem poly_bit (i : Nat) (h : 32 ≤ i) : poly.testBit i = false := Nat.testBit_lt_two_pow (Nat.lt_of_lt_of_le (show poly < 2 ^ 32 by decide) (Nat.pow_le_pow_right (by decide) h))
theorem st_top {c : Nat} (h : c < top) : (st c).testBit 31 = decide (c % 2 = 1) := by
  unfold st
  rw [Nat.testBit_xor]
  have h1 : (c / 2).testBit 31 = false := Nat.testBit_lt_two_pow (by unfold top at h; omega)
  have h2 : poly.testBit 31 = true := by decide
  rw [h1]
  by_cases hc : c % 2 = 1
  · rw [if_pos hc, h2]; simp [hc]
  · rw [if_neg hc]; simp [hc]
theorem st_inj {c d : Nat} (hc : c < top) (hd : d < top) (h : st c = st d) : c = d := by
  have h1 := st_top hc
  have h2 := st_top hd
  rw [h] at h1
  have h3 : (decide (c % 2 = 1)) = (decide (d % 2 = 1)) := h1.symm.trans h2
  have h4 : c % 2 = d % 2 := by
    by_cases a : c % 2 = 1 <;> by_cases b : d % 2 = 1 <;> simp [a, b] at h3 <;> omega
  unfold st at h
  rw [h4] at h
  have h5 : c / 2 = d / 2 := by
    have := congrArg (fun x => x ^^^ (if d % 2 = 1 then poly else 0)) h
    simpa [Nat.xor_assoc, Nat.xor_self] using this
  omega
theorem sts_inj (k : Nat) : ∀ c d, c < top → d < top → sts k c = sts k d → c = d := by
  induction k with
  | zero => intro c d _ _ h; exact h
  | succ k ih => intro c d hc hd h; exact st_inj hc hd (ih _ _ (st_lt hc) (st_lt hd) h)
theorem xor_cancel {a b c : Nat} (h : a ^^^ c = b ^^^ c) : a = b := by
  have := congrArg (fun x => x ^^^ c) h
  simpa [Nat.xor_assoc, Nat.xor_self] using this
theorem xor_cancel' {a b c : Nat} (h : c ^^^ a = c ^^^ b) : a = b := by
  rw [Nat.xor_comm c a, Nat.xor_comm c b] at h
  exact xor_cancel h
theorem byte_inj {c d b : Nat} (hc : c < top) (hd : d < top) (hb : b < 256) (h : byte c b = byte d b) : c = d :=
  xor_cancel (sts_inj 8 _ _ (xor_lt hc (by unfold top; omega)) (xor_lt hd (by unfold top; omega)) h)
theorem byte_inj' {c b b' : Nat} (hc : c < top) (hb : b < 256) (hb' : b' < 256) (h : byte c b = byte c b') : b = b' :=
  xor_cancel' (sts_inj 8 _ _ (xor_lt hc (by unfold top; omega)) (xor_lt hc (by unfold top; omega)) h)
theorem run_inj (l : List UInt8) : ∀ c d, c < top → d < top → run c l = run d l → c = d := by
  induction l with
  | nil => intro c d _ _ h; exact h
  | cons b l ih =>
    intro c d hc hd h
    exact byte_inj hc hd b.toNat_lt (ih _ _ (byte_lt hc b.toNat_lt) (byte_lt hd b.toNat_lt) h)
theorem turn_inj {a b : Nat} (ha : a < top) (hb : b < top) (h : turn a = turn b) : a = b := by unfold turn at h; unfold top at *; omega
/-- Texts unlike in one byte have unlike sums. -/
theorem more_ne (s : Nat) (l m : List UInt8) (x y : UInt8) (h : x ≠ y) : more s (l ++ x :: m) ≠ more s (l ++ y :: m) := by
  intro e
  have h1 := turn_inj (run_lt _ _ (turn_lt _)) (run_lt _ _ (turn_lt _)) e
  rw [run_append, run_append] at h1
  have hl := run_lt l _ (turn_lt s)
  have h2 := run_inj m _ _ (byte_lt hl x.toNat_lt) (byte_lt hl y.toNat_lt) h1
  exact h (UInt8.toNat_inj.1 (byte_inj' hl x.toNat_lt y.toNat_lt h2))
theorem sum_ne (l m : List UInt8) (x y : UInt8) (h : x ≠ y) : sum (l ++ x :: m) ≠ sum (l ++ y :: m) := more_ne 0 l m x y h

/-- The document's way: c and the byte's bits side by side. -/
def two : Nat → Nat × Nat → Nat × Nat
  | 0, p => p
  | k + 1, (c, b) => two k ((c / 2) ^^^ (if (c + b) % 2 = 1 then poly else 0), b / 2)
theorem xor_mod2 (a b : Nat) : (a ^^^ b) % 2 = (a + b) % 2 := by
  have h := @Nat.xor_mod_two_eq_one a b
  generalize a ^^^ b = x at *
  omega
theorem xor_div2 (a b : Nat) : (a ^^^ b) / 2 = (a / 2) ^^^ (b / 2) := by
  apply Nat.eq_of_testBit_eq
  intro i
  rw [Nat.testBit_xor, Nat.testBit_div_two, Nat.testBit_div_two, Nat.testBit_div_two, Nat.testBit_xor]
theorem two_sts (k : Nat) : ∀ c b, (two k (c, b)).1 ^^^ (two k (c, b)).2 = sts k (c ^^^ b) ∧ (two k (c, b)).2 = b / 2 ^ k := by
  induction k with
  | zero => intro c b; simp [two, sts]
  | succ k ih =>
    intro c b
    obtain ⟨h1, h2⟩ := ih ((c / 2) ^^^ (if (c + b) % 2 = 1 then poly else 0)) (b / 2)
    refine ⟨?_, ?_⟩
    · show (two k _).1 ^^^ (two k _).2 = _
      rw [h1, sts, st, xor_mod2, xor_div2, Nat.xor_assoc, Nat.xor_assoc, Nat.xor_comm (b / 2)]
    · show (two k _).2 = _
      rw [h2, Nat.div_div_eq_div_mul, Nat.pow_succ, Nat.mul_comm]
theorem two_byte (c b : Nat) (hb : b < 256) : (two 8 (c, b)).1 = byte c b := by
  obtain ⟨h1, h2⟩ := two_sts 8 c b
  rw [h2, Nat.div_eq_of_lt hb, Nat.xor_zero] at h1
  exact h1
theorem two_snoc (k : Nat) : ∀ c b, two (k + 1) (c, b) = (((two k (c, b)).1 / 2) ^^^ (if ((two k (c, b)).1 + (two k (c, b)).2) % 2 = 1 then poly else 0), (two k (c, b)).2 / 2) := by
  induction k with
  | zero => intro c b; rfl
  | succ k ih =>
    intro c b
    rw [two, ih]
    rfl
theorem sts_snoc (k : Nat) : ∀ c, sts (k + 1) c = st (sts k c) := by
  induction k with
  | zero => intro c; rfl
  | succ k ih => intro c; rw [sts, ih]; rfl
theorem two_lt (k : Nat) : ∀ c b, c < top → b < 256 → (two k (c, b)).1 < top ∧ (two k (c, b)).2 < 256 := by
  induction k with
  | zero => intro c b h h'; exact ⟨h, h'⟩
  | succ k ih =>
    intro c b h h'
    refine ih _ _ (xor_lt (by unfold top at *; omega) ?_) (by omega)
    split <;> decide
end Go.Proofs.Ytkialkjhjenkhaa.Crc
