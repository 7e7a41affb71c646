/- Layer 8, the program: numbers of digits; names made and read. -/
import Derived.Test.YthambhcladobjaaI2
namespace Go.Proofs.Ythambhcladobjaa
open Go.RowKit Go.Lib

theorem idx_F (c : UInt8) : ∀ (l : List UInt8) (i : Nat), Lib.indexByte l c = match Idn.ixF c l i with | none => -1 | some d => (d : Int) - i
  | [], _ => rfl
  | x :: l, i => by
    have ih := idx_F c l (i + 1)
    unfold Lib.indexByte Idn.ixF
    by_cases h : x = c
    · simp [h]
    · have hb : (x == c) = false := by simpa using h
      rw [hb, if_neg h, ih]
      cases hx : Idn.ixF c l (i + 1) with
      | none => simp
      | some d =>
        have := (Idn.ixF_some c l (i + 1) d hx).1
        have h1 : ((d : Int) - ((i + 1 : Nat) : Int) == -1) = false := by simp; omega
        simp only [h1]
        simp; omega
theorem idx_none {c : UInt8} (h : Idn.ix c = none) : Lib.indexByte Idn.alpha c = -1 := by
  rw [idx_F c Idn.alpha 0]
  unfold Idn.ix at h
  rw [h]
theorem idx_some {c : UInt8} {d : Nat} (h : Idn.ix c = some d) : Lib.indexByte Idn.alpha c = d := by
  rw [idx_F c Idn.alpha 0]
  unfold Idn.ix at h
  rw [h]
  simp

/-- What number answers. -/
def numV : Option Nat → Value
  | none => .tuple #[.int .i64 0, .bool false]
  | some n => .tuple #[.int .i64 n, .bool true]

theorem ibyte_dig (c : UInt8) (r : Int) (hr : Lib.indexByte Idn.alpha c = r) (w : World) : Calls Try.prog 89 #[.string ⟨#[48, 49, 50, 51, 52, 53, 54, 55, 56, 57, 97, 98, 99, 100, 101, 102, 103, 104, 106, 107, 109, 110, 112, 113, 114, 115, 116, 118, 119, 120, 121, 122]⟩, .int .u8 c.toNat] w fun e w' => e = .returned (.int .i64 r) ∧ w = w' := by
  subst hr
  exact ibyte2_any _ c w

set_option maxHeartbeats 1000000 in
set_option maxRecDepth 100000 in
theorem number_any (s : ByteArray) (w : World) (hl : s.size ≤ 8) :
    Calls Try.prog 87 #[.string s] w fun e w' => e = .returned (numV (Idn.num s.data.toList 0)) ∧ w = w' := by
  go_enter Try.func87, Try.ntmps87
  go_wp2_with fail
  go_loopw [4, 9] (fun v' i' wr => ∃ (k u : Nat), v' = .int .i64 u ∧ i' = .int .i64 k ∧ k ≤ s.size ∧ u < 32 ^ k ∧ Hid (Idn.num s.data.toList 0 = Idn.num (s.data.toList.drop k) u) ∧ w = wr) (fun _ i' _ => s.size - (intOf i').toNat)
  case atStart => exact ⟨0, 0, rfl, rfl, by omega, by simp, rfl, rfl⟩
  case round =>
    obtain ⟨k, u, rfl, rfl, hk, hu, hn, rfl⟩ := hrel
    by_cases hlt : k < s.size
    · have hat := Lib.hid (list_at s k hlt)
      obtain ⟨c, hc⟩ : ∃ c, c = s[k] := ⟨_, rfl⟩
      have hkp : (32:Nat) ^ k ≤ 32 ^ 7 := Nat.pow_le_pow_right (by decide) (by omega)
      have hu' : u < 34359738368 := Nat.lt_of_lt_of_le hu hkp
      have HU := Lib.hid hu
      clear hkp hu
      cases hx : Idn.ix c with
      | none =>
        have hq := hn.out
        rw [hat.out, ← hc, Idn.num, hx] at hq
        have HQ := Lib.hid hq
        have HX := Lib.hid (idx_none hx)
        have HC := Lib.hid hc
        clear hq hn hat hx hc
        go_wp2_with fail
        rw [← HC.out]
        refine (ibyte_dig c _ HX.out _).mono ?_
        rintro e w1 ⟨rfl, rfl⟩
        go_wp2
        go_ret2
        exact ⟨by rw [HQ.out]; rfl, rfl⟩
      | some d =>
        have hd := (Idn.ix_some hx).1
        have hq := hn.out
        rw [hat.out, ← hc, Idn.num, hx] at hq
        have HQ := Lib.hid hq
        have HX := Lib.hid (idx_some hx)
        have HC := Lib.hid hc
        clear hq hn hat hx hc
        go_wp2_with fail
        rw [← HC.out]
        refine (ibyte_dig c _ HX.out _).mono ?_
        rintro e w1 ⟨rfl, rfl⟩
        go_wp2
        refine ⟨⟨k + 1, u * 32 + d, by simp, by simp, by omega, ?_, HQ.out, trivial⟩, by simp [intOf]; omega⟩
        rw [Nat.pow_succ]
        have := HU.out
        omega
    · have he : s.data.toList.drop k = [] := List.drop_eq_nil_of_le (by rw [Array.length_toList]; show s.size ≤ k; omega)
      have hq := hn.out
      rw [he, Idn.num] at hq
      have HQ := Lib.hid hq
      clear hq hn he hu
      go_wp2
      go_ret2
      exact ⟨by rw [HQ.out]; rfl, rfl⟩
end Go.Proofs.Ythambhcladobjaa
