/- Layer 8, the program: numbers of digits; names made and read. Layer 8, the program: names made, read, split. -/
import Derived.Test.YtiegokjdnlhlcaaMI1
namespace Go.Proofs.Ytiegokjdnlhlcaa
open Go.RowKit Go.Lib

theorem idx_F (c : UInt8) : ∀ (l : List UInt8) (i : Nat), Lib.indexByte l c = match Idn.ixF c l i with | none => -1 | some d => (d : Int) - i
  | [], _ => rfl
  | x :: l, i => by
    have ih := idx_F c l (i + 1)
    unfold Lib.indexByte Idn.ixF
    by_cases h : x = c
    · simp [h]
    · have hb : (x == c) = false := by simpa using h
      rw [hb, if_neg h, ih]
      cases hx : Idn.ixF c l (i + 1) with
      | none => simp
      | some d =>
        have := (Idn.ixF_some c l (i + 1) d hx).1
        have h1 : ((d : Int) - ((i + 1 : Nat) : Int) == -1) = false := by simp; omega
        simp only [h1]
        simp; omega
theorem idx_none {c : UInt8} (h : Idn.ix c = none) : Lib.indexByte Idn.alpha c = -1 := by
  rw [idx_F c Idn.alpha 0]
  unfold Idn.ix at h
  rw [h]
theorem idx_some {c : UInt8} {d : Nat} (h : Idn.ix c = some d) : Lib.indexByte Idn.alpha c = d := by
  rw [idx_F c Idn.alpha 0]
  unfold Idn.ix at h
  rw [h]
  simp

/-- What number answers. -/
def numV : Option Nat → Value
  | none => .tuple #[.int .i64 0, .bool false]
  | some n => .tuple #[.int .i64 n, .bool true]

theorem ibyte_dig (c : UInt8) (r : Int) (hr : Lib.indexByte Idn.alpha c = r) (w : World) : Calls Try.prog 46 #[.string ⟨#[48, 49, 50, 51, 52, 53, 54, 55, 56, 57, 97, 98, 99, 100, 101, 102, 103, 104, 106, 107, 109, 110, 112, 113, 114, 115, 116, 118, 119, 120, 121, 122]⟩, .int .u8 c.toNat] w fun e w' => e = .returned (.int .i64 r) ∧ w = w' := by
  subst hr
  exact ibyte2_any _ c w

set_option maxHeartbeats 1000000 in
set_option maxRecDepth 100000 in
theorem number_any (s : ByteArray) (w : World) (hl : s.size ≤ 8) :
    Calls Try.prog 33 #[.string s] w fun e w' => e = .returned (numV (Idn.num s.data.toList 0)) ∧ w = w' := by
  go_enter Try.func33, Try.ntmps33
  go_wp2_with fail
  go_loopw [4, 9] (fun v' i' wr => ∃ (k u : Nat), v' = .int .i64 u ∧ i' = .int .i64 k ∧ k ≤ s.size ∧ u < 32 ^ k ∧ Hid (Idn.num s.data.toList 0 = Idn.num (s.data.toList.drop k) u) ∧ w = wr) (fun _ i' _ => s.size - (intOf i').toNat)
  case atStart => exact ⟨0, 0, rfl, rfl, by omega, by simp, rfl, rfl⟩
  case round =>
    obtain ⟨k, u, rfl, rfl, hk, hu, hn, rfl⟩ := hrel
    by_cases hlt : k < s.size
    · have hat := Lib.hid (list_at s k hlt)
      obtain ⟨c, hc⟩ : ∃ c, c = s[k] := ⟨_, rfl⟩
      have hkp : (32:Nat) ^ k ≤ 32 ^ 7 := Nat.pow_le_pow_right (by decide) (by omega)
      have hu' : u < 34359738368 := Nat.lt_of_lt_of_le hu hkp
      have HU := Lib.hid hu
      clear hkp hu
      cases hx : Idn.ix c with
      | none =>
        have hq := hn.out
        rw [hat.out, ← hc, Idn.num, hx] at hq
        have HQ := Lib.hid hq
        have HX := Lib.hid (idx_none hx)
        have HC := Lib.hid hc
        clear hq hn hat hx hc
        go_wp2_with fail
        rw [← HC.out]
        refine (ibyte_dig c _ HX.out _).mono ?_
        rintro e w1 ⟨rfl, rfl⟩
        go_wp2
        go_ret2
        exact ⟨by rw [HQ.out]; rfl, rfl⟩
      | some d =>
        have hd := (Idn.ix_some hx).1
        have hq := hn.out
        rw [hat.out, ← hc, Idn.num, hx] at hq
        have HQ := Lib.hid hq
        have HX := Lib.hid (idx_some hx)
        have HC := Lib.hid hc
        clear hq hn hat hx hc
        go_wp2_with fail
        rw [← HC.out]
        refine (ibyte_dig c _ HX.out _).mono ?_
        rintro e w1 ⟨rfl, rfl⟩
        go_wp2
        refine ⟨⟨k + 1, u * 32 + d, by simp, by simp, by omega, ?_, HQ.out, trivial⟩, by simp [intOf]; omega⟩
        rw [Nat.pow_succ]
        have := HU.out
        omega
    · have he : s.data.toList.drop k = [] := List.drop_eq_nil_of_le (by rw [Array.length_toList]; show s.size ≤ k; omega)
      have hq := hn.out
      rw [he, Idn.num] at hq
      have HQ := Lib.hid hq
      clear hq hn he hu
      go_wp2
      go_ret2
      exact ⟨by rw [HQ.out]; rfl, rfl⟩
end Go.Proofs.Ytiegokjdnlhlcaa

namespace Go.Proofs.Ytiegokjdnlhlcaa
open Go.RowKit Go.Lib

set_option maxHeartbeats 1000000 in
set_option maxRecDepth 100000 in
theorem make_ok (t s : Nat) (w : World) (ht : t < 1099511627776) (hs : s < 1099511627776) :
    Calls Try.prog 12 #[.int .i64 t, .int .i64 s] w fun e w' => e = .returned (.tuple #[.string (bs (Idn.nam t s)), .int .i64 0]) ∧ Below w.heap.size w w' := by
  go_enter Try.func12, Try.ntmps12
  go_wp2_with fail
  refine (goes_yes t _ ht).mono ?_
  rintro e w1 ⟨rfl, rfl⟩
  go_wp2_with fail
  refine (goes_yes s _ hs).mono ?_
  rintro e w1 ⟨rfl, rfl⟩
  go_wp2_with fail
  refine (spell_any t _ ht).mono ?_
  rintro e w1 ⟨rfl, b1⟩
  go_wp2_with fail
  refine (spell_any s _ hs).mono ?_
  rintro e w2 ⟨rfl, b2⟩
  have hA := bs_append
  have l1 := bs_size_le (Idn.dg 8 t) 8 (by rw [Idn.dg_len]; omega)
  have l2 := bs_size_le (Idn.dg 8 s) 8 (by rw [Idn.dg_len]; omega)
  go_wp2
  go_ret2
  exact ⟨rfl, below_step b1 b2⟩
theorem make_no (t s : Int) (w : World) (h : t < 0 ∨ 1099511627776 ≤ t ∨ s < 0 ∨ 1099511627776 ≤ s) :
    Calls Try.prog 12 #[.int .i64 t, .int .i64 s] w fun e w' => e = .returned (.tuple #[.string (bs []), .int .i64 1]) ∧ w = w' := by
  by_cases h1 : t < 0 ∨ 1099511627776 ≤ t
  · go_enter Try.func12, Try.ntmps12
    go_wp2_with fail
    refine (goes_no t _ h1).mono ?_
    rintro e w1 ⟨rfl, rfl⟩
    go_wp2
    go_ret2
    exact ⟨rfl, rfl⟩
  · obtain ⟨t, rfl⟩ := Int.eq_ofNat_of_zero_le (show 0 ≤ t by omega)
    have h2 : s < 0 ∨ 1099511627776 ≤ s := by omega
    go_enter Try.func12, Try.ntmps12
    go_wp2_with fail
    refine (goes_yes t _ (by omega)).mono ?_
    rintro e w1 ⟨rfl, rfl⟩
    go_wp2_with fail
    refine (goes_no s _ h2).mono ?_
    rintro e w1 ⟨rfl, rfl⟩
    go_wp2
    go_ret2
    exact ⟨rfl, rfl⟩

/-- What a name says. -/
def par2 : Option Nat → Option Nat → Option (Nat × Nat)
  | some a, some b => some (a, b)
  | _, _ => none
def pars (l : List UInt8) : Option (Nat × Nat) :=
  if l.length = 16 then par2 (Idn.num (l.take 8) 0) (Idn.num (l.drop 8) 0) else none
def parsV : Option (Nat × Nat) → Value
  | none => .tuple #[.int .i64 0, .int .i64 0, .int .i64 3]
  | some (a, b) => .tuple #[.int .i64 a, .int .i64 b, .int .i64 0]

set_option maxHeartbeats 1000000 in
set_option maxRecDepth 100000 in
theorem parse_any (s : ByteArray) (w : World) :
    Calls Try.prog 20 #[.string s] w fun e w' => e = .returned (parsV (pars s.data.toList)) ∧ w = w' := by
  have hls : s.data.toList.length = s.size := by rw [Array.length_toList]; rfl
  by_cases h : s.size = 16
  · obtain ⟨a, ha⟩ : ∃ a, a = Idn.num (s.data.toList.take 8) 0 := ⟨_, rfl⟩
    obtain ⟨b, hb⟩ : ∃ b, b = Idn.num (s.data.toList.drop 8) 0 := ⟨_, rfl⟩
    have hp : pars s.data.toList = par2 a b := by
      unfold pars
      rw [if_pos (by omega), ha, hb]
    have N1 := Lib.hid (fun W => show Calls Try.prog 33 #[.string (s.extract 0 8)] W (fun e w' => e = .returned (numV a) ∧ W = w') by
      have := number_any (s.extract 0 8) W (by rw [ByteArray.size_extract]; omega)
      rwa [extract_bs0, bs_list, ← ha, ← extract_bs0] at this)
    have N2 := Lib.hid (fun W => show Calls Try.prog 33 #[.string (s.extract 8 s.size)] W (fun e w' => e = .returned (numV b) ∧ W = w') by
      have := number_any (s.extract 8 s.size) W (by rw [ByteArray.size_extract]; omega)
      rwa [extract_bs, bs_list, ← hb, ← extract_bs] at this)
    have HP := Lib.hid hp
    have hz : (s.size : Int) = 16 := by omega
    clear hp ha hb hls h
    go_enter Try.func20, Try.ntmps20
    go_wp2_with fail

    with_reducible refine (N1.out _).mono ?_
    rintro e w1 ⟨rfl, rfl⟩
    cases a with
    | none =>
      unfold numV
      go_wp2_with fail
      with_reducible refine (N2.out _).mono ?_
      rintro e w1 ⟨rfl, rfl⟩
      cases b <;> (unfold numV; go_wp2; go_ret3; exact ⟨by rw [HP.out]; rfl, rfl⟩)
    | some a =>
      unfold numV
      go_wp2_with fail
      with_reducible refine (N2.out _).mono ?_
      rintro e w1 ⟨rfl, rfl⟩
      cases b <;> (unfold numV; go_wp2; go_ret3; exact ⟨by rw [HP.out]; rfl, rfl⟩)
  · have hp : pars s.data.toList = none := by
      unfold pars
      rw [if_neg (by omega)]
    have hz : ¬ (s.size : Int) = 16 := by omega
    have HP := Lib.hid hp
    clear hp hls h
    go_enter Try.func20, Try.ntmps20
    go_wp2
    go_ret3
    exact ⟨by rw [HP.out]; rfl, rfl⟩

end Go.Proofs.Ytiegokjdnlhlcaa
