/- Layer 8, the program: numbers of digits; names made and read. Layer 8, the program: names made, read, split. -/
import Derived.Test.YtkialkjhjenkhaaMStr
namespace Go.Proofs.Ytkialkjhjenkhaa
open Go.RowKit Go.Lib

theorem idx_F (c : UInt8) : ∀ (l : List UInt8) (i : Nat), Lib.indexByte l c = match Idn.ixF c l i with | none => -1 | some d => (d : Int) - i
  | [], _ => rfl
  | x :: l, i => by
    have ih := idx_F c l (i + 1)
    unfold Lib.indexByte Idn.ixF
    by_cases h : x = c
    · simp [h]
    · have hb : (x == c) = false := by simpa using h
      rw [hb, if_neg h, ih]
      cases hx : Idn.ixF c l (i + 1) with
      | none => simp
      | some d =>
        have := (Idn.ixF_some c l (i + 1) d hx).1
        have h1 : ((d : Int) - ((i + 1 : Nat) : Int) == -1) = false := by simp; omega
        simp only [h1]
        simp; omega
theorem idx_none {c : UInt8} (h : Idn.ix c = none) : Lib.indexByte Idn.alpha c = -1 := by
  rw [idx_F c Idn.alpha 0]
  unfold Idn.ix at h
  rw [h]
theorem idx_some {c : UInt8} {d : Nat} (h : Idn.ix c = some d) : Lib.indexByte Idn.alpha c = d := by
  rw [idx_F c Idn.alpha 0]
  unfold Idn.ix at h
  rw [h]
  simp

/-- What number answers. -/
def numV : Option Nat → Value
  | none => .tuple #[.int .i64 0, .bool false]
  | some n => .tuple #[.int .i64 n, .bool true]

end Go.Proofs.Ytkialkjhjenkhaa

namespace Go.Proofs.Ytkialkjhjenkhaa
open Go.RowKit Go.Lib

set_option maxHeartbeats 1000000 in
set_option maxRecDepth 100000 in
theorem make_ok (t s : Nat) (w : World) (ht : t < 1099511627776) (hs : s < 1099511627776) :
    Calls Try.prog 18 #[.int .i64 t, .int .i64 s] w fun e w' => e = .returned (.tuple #[.string (bs (Idn.nam t s)), .int .i64 0]) ∧ Below w.heap.size w w' := by
  go_enter Try.func18, Try.ntmps18
  go_wp2_with fail
  refine (goes_yes t _ ht).mono ?_
  rintro e w1 ⟨rfl, rfl⟩
  go_wp2_with fail
  refine (goes_yes s _ hs).mono ?_
  rintro e w1 ⟨rfl, rfl⟩
  go_wp2_with fail
  refine (spell_any t _ ht).mono ?_
  rintro e w1 ⟨rfl, b1⟩
  go_wp2_with fail
  refine (spell_any s _ hs).mono ?_
  rintro e w2 ⟨rfl, b2⟩
  have hA := bs_append
  have l1 := bs_size_le (Idn.dg 8 t) 8 (by rw [Idn.dg_len]; omega)
  have l2 := bs_size_le (Idn.dg 8 s) 8 (by rw [Idn.dg_len]; omega)
  go_wp2
  go_ret2
  exact ⟨rfl, below_step b1 b2⟩
theorem make_no (t s : Int) (w : World) (h : t < 0 ∨ 1099511627776 ≤ t ∨ s < 0 ∨ 1099511627776 ≤ s) :
    Calls Try.prog 18 #[.int .i64 t, .int .i64 s] w fun e w' => e = .returned (.tuple #[.string (bs []), .int .i64 1]) ∧ w = w' := by
  by_cases h1 : t < 0 ∨ 1099511627776 ≤ t
  · go_enter Try.func18, Try.ntmps18
    go_wp2_with fail
    refine (goes_no t _ h1).mono ?_
    rintro e w1 ⟨rfl, rfl⟩
    go_wp2
    go_ret2
    exact ⟨rfl, rfl⟩
  · obtain ⟨t, rfl⟩ := Int.eq_ofNat_of_zero_le (show 0 ≤ t by omega)
    have h2 : s < 0 ∨ 1099511627776 ≤ s := by omega
    go_enter Try.func18, Try.ntmps18
    go_wp2_with fail
    refine (goes_yes t _ (by omega)).mono ?_
    rintro e w1 ⟨rfl, rfl⟩
    go_wp2_with fail
    refine (goes_no s _ h2).mono ?_
    rintro e w1 ⟨rfl, rfl⟩
    go_wp2
    go_ret2
    exact ⟨rfl, rfl⟩

/-- What a name says. -/
def par2 : Option Nat → Option Nat → Option (Nat × Nat)
  | some a, some b => some (a, b)
  | _, _ => none
def pars (l : List UInt8) : Option (Nat × Nat) :=
  if l.length = 16 then par2 (Idn.num (l.take 8) 0) (Idn.num (l.drop 8) 0) else none
def parsV : Option (Nat × Nat) → Value
  | none => .tuple #[.int .i64 0, .int .i64 0, .int .i64 3]
  | some (a, b) => .tuple #[.int .i64 a, .int .i64 b, .int .i64 0]

end Go.Proofs.Ytkialkjhjenkhaa
