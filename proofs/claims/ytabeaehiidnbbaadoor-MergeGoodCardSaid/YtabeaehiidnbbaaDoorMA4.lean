/- Layer 14: the five sets of labels. -/
import Derived.Test.YtabeaehiidnbbaaDoorMA3
import Derived.Test.YtabeaehiidnbbaaDoorML8
namespace Go.Proofs.YtabeaehiidnbbaaDoor
open Go.RowKit Go.Lib
set_option linter.unusedVariables false

def lab5 : Nat → List Pr
  | 0 => [⟨[97], [49]⟩]
  | 1 => [⟨[97], [49]⟩, ⟨[98], [50]⟩]
  | 2 => [⟨[97], [50]⟩]
  | 3 => [⟨[98], [49]⟩]
  | _ => [⟨[106, 111, 98], [120]⟩]
def txt5 : Nat → List UInt8
  | 0 => [97, 61, 49]
  | 1 => [97, 61, 49, 44, 98, 61, 50]
  | 2 => [97, 61, 50]
  | 3 => [98, 61, 49]
  | _ => [106, 111, 98, 61, 120]
/-- Of a name: one of five. -/
def labs (n : Int) : List Pr := lab5 (n.tmod 5).toNat
theorem lab5_len (k : Nat) : (lab5 k).length ≤ 2 := by
  unfold lab5
  split <;> decide
theorem labs_len (n : Int) : (labs n).length ≤ 2 := lab5_len _

theorem parse5 (k : Nat) (hk : k < 5) (W : World) : Calls Tryd.prog 35 #[.string (bs (txt5 k))] W (fun e w' => ∃ v, e = .returned (.tuple #[v, .int .i64 0]) ∧ Sl w' W.heap.size 2 v (lab5 k).length (prc (lab5 k)) ∧ Below W.heap.size W w') := by
  have hs : sortP (lab5 k) = lab5 k := by
    have : k = 0 ∨ k = 1 ∨ k = 2 ∨ k = 3 ∨ k = 4 := by omega
    rcases this with rfl | rfl | rfl | rfl | rfl <;> exact (sortP_of (List.Perm.refl _) (by unfold Rising; decide)).symm
  have hl : (txt5 k).length ≤ 900000 := by unfold txt5; split <;> decide
  refine (parse_lb (txt5 k) W hl).mono ?_
  rintro e w' ⟨v, er, rfl, hb, hm⟩
  have hp : pairsL (parts 44 (txt5 k)) = some (lab5 k) := by
    have : k = 0 ∨ k = 1 ∨ k = 2 ∨ k = 3 ∨ k = 4 := by omega
    rcases this with rfl | rfl | rfl | rfl | rfl <;> decide
  rw [hp] at hm
  simp only [hs] at hm
  rw [if_pos (by
    have : k = 0 ∨ k = 1 ∨ k = 2 ∨ k = 3 ∨ k = 4 := by omega
    rcases this with rfl | rfl | rfl | rfl | rfl <;> decide)] at hm
  obtain ⟨rfl, h2⟩ := hm
  exact ⟨v, rfl, h2, hb⟩

set_option maxHeartbeats 2000000 in
set_option maxRecDepth 100000 in
theorem labels14_any (n : Int) (w : World) (h0 : 0 ≤ n) (h1 : n ≤ 255) :
    Calls Tryd.prog 23 #[.int .u8 n] w fun e w' => ∃ v, e = .returned v ∧ Sl w' w.heap.size 2 v (labs n).length (prc (labs n)) ∧ Below w.heap.size w w' := by
  obtain ⟨r, hr⟩ : ∃ r, n.tmod 5 = r := ⟨_, rfl⟩
  have hr0 : 0 ≤ r := by rw [← hr]; exact Int.tmod_nonneg _ h0
  have hr5 : r < 5 := by rw [← hr]; exact Int.tmod_lt_of_pos _ (by decide)
  have HR := Lib.hid (show labs n = lab5 r.toNat by unfold labs; rw [hr])
  have hcase : r = 0 ∨ r = 1 ∨ r = 2 ∨ r = 3 ∨ r = 4 := by omega
  clear hr0 hr5
  rcases hcase with rfl | rfl | rfl | rfl | rfl
  · obtain ⟨T, hT⟩ : ∃ T, T = txt5 0 := ⟨_, rfl⟩
    obtain ⟨L, hL⟩ : ∃ L, L = lab5 0 := ⟨_, rfl⟩
    have k0 : ByteArray.mk #[97, 61, 49] = bs T := by rw [hT]; rfl
    have P := Lib.hid (fun W => parse5 0 (by decide) W)
    have HL := Lib.hid (show labs n = L by rw [HR.out, hL]; rfl)
    rw [← hT, ← hL] at P
    clear hT hL HR
    go_enter Tryd.func23, Tryd.ntmps23
    go_wp2_with fail
    refine (P.out _).mono ?_
    rintro e w1 ⟨v, rfl, s1, b1⟩
    obtain ⟨a1, c1, e1⟩ := s1.slice
    subst e1
    have S1 := Lib.hid s1
    have B1 := Lib.hid b1
    clear s1 b1
    go_wp2
    go_ret
    rw [HL.out]
    exact ⟨_, rfl, S1.out.mono (by simp), ((Below.refl _ _).alloc (Nat.le_refl _) _).trans (B1.out.mono (by simp))⟩
  · obtain ⟨T, hT⟩ : ∃ T, T = txt5 1 := ⟨_, rfl⟩
    obtain ⟨L, hL⟩ : ∃ L, L = lab5 1 := ⟨_, rfl⟩
    have k0 : ByteArray.mk #[97, 61, 49, 44, 98, 61, 50] = bs T := by rw [hT]; rfl
    have P := Lib.hid (fun W => parse5 1 (by decide) W)
    have HL := Lib.hid (show labs n = L by rw [HR.out, hL]; rfl)
    rw [← hT, ← hL] at P
    clear hT hL HR
    go_enter Tryd.func23, Tryd.ntmps23
    go_wp2_with fail
    refine (P.out _).mono ?_
    rintro e w1 ⟨v, rfl, s1, b1⟩
    obtain ⟨a1, c1, e1⟩ := s1.slice
    subst e1
    have S1 := Lib.hid s1
    have B1 := Lib.hid b1
    clear s1 b1
    go_wp2
    go_ret
    rw [HL.out]
    exact ⟨_, rfl, S1.out.mono (by simp), ((Below.refl _ _).alloc (Nat.le_refl _) _).trans (B1.out.mono (by simp))⟩
  · obtain ⟨T, hT⟩ : ∃ T, T = txt5 2 := ⟨_, rfl⟩
    obtain ⟨L, hL⟩ : ∃ L, L = lab5 2 := ⟨_, rfl⟩
    have k0 : ByteArray.mk #[97, 61, 50] = bs T := by rw [hT]; rfl
    have P := Lib.hid (fun W => parse5 2 (by decide) W)
    have HL := Lib.hid (show labs n = L by rw [HR.out, hL]; rfl)
    rw [← hT, ← hL] at P
    clear hT hL HR
    go_enter Tryd.func23, Tryd.ntmps23
    go_wp2_with fail
    refine (P.out _).mono ?_
    rintro e w1 ⟨v, rfl, s1, b1⟩
    obtain ⟨a1, c1, e1⟩ := s1.slice
    subst e1
    have S1 := Lib.hid s1
    have B1 := Lib.hid b1
    clear s1 b1
    go_wp2
    go_ret
    rw [HL.out]
    exact ⟨_, rfl, S1.out.mono (by simp), ((Below.refl _ _).alloc (Nat.le_refl _) _).trans (B1.out.mono (by simp))⟩
  · obtain ⟨T, hT⟩ : ∃ T, T = txt5 3 := ⟨_, rfl⟩
    obtain ⟨L, hL⟩ : ∃ L, L = lab5 3 := ⟨_, rfl⟩
    have k0 : ByteArray.mk #[98, 61, 49] = bs T := by rw [hT]; rfl
    have P := Lib.hid (fun W => parse5 3 (by decide) W)
    have HL := Lib.hid (show labs n = L by rw [HR.out, hL]; rfl)
    rw [← hT, ← hL] at P
    clear hT hL HR
    go_enter Tryd.func23, Tryd.ntmps23
    go_wp2_with fail
    refine (P.out _).mono ?_
    rintro e w1 ⟨v, rfl, s1, b1⟩
    obtain ⟨a1, c1, e1⟩ := s1.slice
    subst e1
    have S1 := Lib.hid s1
    have B1 := Lib.hid b1
    clear s1 b1
    go_wp2
    go_ret
    rw [HL.out]
    exact ⟨_, rfl, S1.out.mono (by simp), ((Below.refl _ _).alloc (Nat.le_refl _) _).trans (B1.out.mono (by simp))⟩
  · obtain ⟨T, hT⟩ : ∃ T, T = txt5 4 := ⟨_, rfl⟩
    obtain ⟨L, hL⟩ : ∃ L, L = lab5 4 := ⟨_, rfl⟩
    have k0 : ByteArray.mk #[106, 111, 98, 61, 120] = bs T := by rw [hT]; rfl
    have P := Lib.hid (fun W => parse5 4 (by decide) W)
    have HL := Lib.hid (show labs n = L by rw [HR.out, hL]; rfl)
    rw [← hT, ← hL] at P
    clear hT hL HR
    go_enter Tryd.func23, Tryd.ntmps23
    go_wp2_with fail
    refine (P.out _).mono ?_
    rintro e w1 ⟨v, rfl, s1, b1⟩
    obtain ⟨a1, c1, e1⟩ := s1.slice
    subst e1
    have S1 := Lib.hid s1
    have B1 := Lib.hid b1
    clear s1 b1
    go_wp2
    go_ret
    rw [HL.out]
    exact ⟨_, rfl, S1.out.mono (by simp), ((Below.refl _ _).alloc (Nat.le_refl _) _).trans (B1.out.mono (by simp))⟩
end Go.Proofs.YtabeaehiidnbbaaDoor
