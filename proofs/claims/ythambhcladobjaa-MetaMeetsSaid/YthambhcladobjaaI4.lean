/- Layer 8, the program: names made, read, split. -/
import Derived.Test.YthambhcladobjaaI3
namespace Go.Proofs.Ythambhcladobjaa
open Go.RowKit Go.Lib

set_option maxHeartbeats 1000000 in
set_option maxRecDepth 100000 in
theorem make_ok (t s : Nat) (w : World) (ht : t < 1099511627776) (hs : s < 1099511627776) :
    Calls Try.prog 30 #[.int .i64 t, .int .i64 s] w fun e w' => e = .returned (.tuple #[.string (bs (Idn.nam t s)), .int .i64 0]) ∧ Below w.heap.size w w' := by
  go_enter Try.func30, Try.ntmps30
  go_wp2_with fail
  refine (goes_yes t _ ht).mono ?_
  rintro e w1 ⟨rfl, rfl⟩
  go_wp2_with fail
  refine (goes_yes s _ hs).mono ?_
  rintro e w1 ⟨rfl, rfl⟩
  go_wp2_with fail
  refine (spell_any t _ ht).mono ?_
  rintro e w1 ⟨rfl, b1⟩
  go_wp2_with fail
  refine (spell_any s _ hs).mono ?_
  rintro e w2 ⟨rfl, b2⟩
  have hA := bs_append
  have l1 := bs_size_le (Idn.dg 8 t) 8 (by rw [Idn.dg_len]; omega)
  have l2 := bs_size_le (Idn.dg 8 s) 8 (by rw [Idn.dg_len]; omega)
  go_wp2
  go_ret2
  exact ⟨rfl, below_step b1 b2⟩
theorem make_no (t s : Int) (w : World) (h : t < 0 ∨ 1099511627776 ≤ t ∨ s < 0 ∨ 1099511627776 ≤ s) :
    Calls Try.prog 30 #[.int .i64 t, .int .i64 s] w fun e w' => e = .returned (.tuple #[.string (bs []), .int .i64 1]) ∧ w = w' := by
  by_cases h1 : t < 0 ∨ 1099511627776 ≤ t
  · go_enter Try.func30, Try.ntmps30
    go_wp2_with fail
    refine (goes_no t _ h1).mono ?_
    rintro e w1 ⟨rfl, rfl⟩
    go_wp2
    go_ret2
    exact ⟨rfl, rfl⟩
  · obtain ⟨t, rfl⟩ := Int.eq_ofNat_of_zero_le (show 0 ≤ t by omega)
    have h2 : s < 0 ∨ 1099511627776 ≤ s := by omega
    go_enter Try.func30, Try.ntmps30
    go_wp2_with fail
    refine (goes_yes t _ (by omega)).mono ?_
    rintro e w1 ⟨rfl, rfl⟩
    go_wp2_with fail
    refine (goes_no s _ h2).mono ?_
    rintro e w1 ⟨rfl, rfl⟩
    go_wp2
    go_ret2
    exact ⟨rfl, rfl⟩

/-- What a name says. -/
def par2 : Option Nat → Option Nat → Option (Nat × Nat)
  | some a, some b => some (a, b)
  | _, _ => none
def pars (l : List UInt8) : Option (Nat × Nat) :=
  if l.length = 16 then par2 (Idn.num (l.take 8) 0) (Idn.num (l.drop 8) 0) else none
def parsV : Option (Nat × Nat) → Value
  | none => .tuple #[.int .i64 0, .int .i64 0, .int .i64 3]
  | some (a, b) => .tuple #[.int .i64 a, .int .i64 b, .int .i64 0]

set_option maxHeartbeats 1000000 in
set_option maxRecDepth 100000 in
theorem parse_any (s : ByteArray) (w : World) :
    Calls Try.prog 77 #[.string s] w fun e w' => e = .returned (parsV (pars s.data.toList)) ∧ w = w' := by
  have hls : s.data.toList.length = s.size := by rw [Array.length_toList]; rfl
  by_cases h : s.size = 16
  · obtain ⟨a, ha⟩ : ∃ a, a = Idn.num (s.data.toList.take 8) 0 := ⟨_, rfl⟩
    obtain ⟨b, hb⟩ : ∃ b, b = Idn.num (s.data.toList.drop 8) 0 := ⟨_, rfl⟩
    have hp : pars s.data.toList = par2 a b := by
      unfold pars
      rw [if_pos (by omega), ha, hb]
    have N1 := Lib.hid (fun W => show Calls Try.prog 87 #[.string (s.extract 0 8)] W (fun e w' => e = .returned (numV a) ∧ W = w') by
      have := number_any (s.extract 0 8) W (by rw [ByteArray.size_extract]; omega)
      rwa [extract_bs0, bs_list, ← ha, ← extract_bs0] at this)
    have N2 := Lib.hid (fun W => show Calls Try.prog 87 #[.string (s.extract 8 s.size)] W (fun e w' => e = .returned (numV b) ∧ W = w') by
      have := number_any (s.extract 8 s.size) W (by rw [ByteArray.size_extract]; omega)
      rwa [extract_bs, bs_list, ← hb, ← extract_bs] at this)
    have HP := Lib.hid hp
    have hz : (s.size : Int) = 16 := by omega
    clear hp ha hb hls h
    go_enter Try.func77, Try.ntmps77
    go_wp2_with fail

    with_reducible refine (N1.out _).mono ?_
    rintro e w1 ⟨rfl, rfl⟩
    cases a with
    | none =>
      unfold numV
      go_wp2_with fail
      with_reducible refine (N2.out _).mono ?_
      rintro e w1 ⟨rfl, rfl⟩
      cases b <;> (unfold numV; go_wp2; go_ret3; exact ⟨by rw [HP.out]; rfl, rfl⟩)
    | some a =>
      unfold numV
      go_wp2_with fail
      with_reducible refine (N2.out _).mono ?_
      rintro e w1 ⟨rfl, rfl⟩
      cases b <;> (unfold numV; go_wp2; go_ret3; exact ⟨by rw [HP.out]; rfl, rfl⟩)
  · have hp : pars s.data.toList = none := by
      unfold pars
      rw [if_neg (by omega)]
    have hz : ¬ (s.size : Int) = 16 := by omega
    have HP := Lib.hid hp
    clear hp hls h
    go_enter Try.func77, Try.ntmps77
    go_wp2
    go_ret3
    exact ⟨by rw [HP.out]; rfl, rfl⟩

end Go.Proofs.Ythambhcladobjaa
