/- Layer 13: a sign; what stands behind a prefix; where a sign begins. -/
import Derived.Test.YtobdlfikomnmcaaGreatDoorMTM1
import Derived.Test.YtobdlfikomnmcaaGreatDoorMFC
namespace Go.Proofs.YtobdlfikomnmcaaGreatDoor
open Go.RowKit Go.Lib
set_option linter.unusedVariables false

def sgn : Nat → List UInt8
  | 1 => [61]
  | 2 => [33, 61]
  | 3 => [94]
  | 4 => [64]
  | _ => []
theorem cutpre0_any (s p : List UInt8) (w : World) :
    Calls Tryz.prog 48 #[.string (bs s), .string (bs p)] w fun e w' => e = .returned (if pre p s then .tuple #[.string (bs (s.drop p.length)), .bool true] else .tuple #[.string (bs s), .bool false]) ∧ w = w' := by
  have H := Lib.hid (fun W => has0_any (bs s) (bs p) W)
  have hd := bs_drop s p.length
  have hz : (bs p).size = p.length := bs_size p
  have hz2 : (bs s).size = s.length := bs_size s
  rw [bs_list, bs_list] at H
  obtain ⟨d, hd'⟩ : ∃ d, d = s.drop p.length := ⟨_, rfl⟩
  rw [← hd'] at hd ⊢
  clear hd'
  cases hp : pre p s with
  | true =>
    have hle : p.length ≤ s.length := by
      have := hp
      unfold pre at this
      exact (of_decide_eq_true this).length_le
    rw [hp] at H
    rw [hz2] at hd
    go_enter Tryz.func48, Tryz.ntmps48
    go_wp2_with fail
    refine (H.out _).mono ?_
    rintro e w1 ⟨rfl, rfl⟩
    go_wp2_with fail
    go_ret2
    exact ⟨by first | rfl | (rw [if_pos rfl]), rfl⟩
  | false =>
    rw [hp] at H
    go_enter Tryz.func48, Tryz.ntmps48
    go_wp2_with fail
    refine (H.out _).mono ?_
    rintro e w1 ⟨rfl, rfl⟩
    go_wp2_with fail
    go_ret2
    exact ⟨by first | rfl | (rw [if_neg (by decide)]), rfl⟩
theorem cutpre_any (s p : List UInt8) (w : World) :
    Calls Tryz.prog 28 #[.string (bs s), .string (bs p)] w fun e w' => e = .returned (if pre p s then .tuple #[.string (bs (s.drop p.length)), .bool true] else .tuple #[.string (bs s), .bool false]) ∧ w = w' := by
  have H := Lib.hid (fun W => cutpre0_any s p W)
  obtain ⟨d, hd⟩ : ∃ d, d = s.drop p.length := ⟨_, rfl⟩
  rw [← hd] at H ⊢
  clear hd
  cases hp : pre p s with
  | true =>
    rw [hp] at H
    simp only [if_true] at H ⊢
    go_enter Tryz.func28, Tryz.ntmps28
    go_wp2_with fail
    refine (H.out _).mono ?_
    rintro e w1 ⟨rfl, rfl⟩
    go_wp2_with fail
    go_ret2
    exact ⟨rfl, rfl⟩
  | false =>
    rw [hp] at H
    simp only [Bool.false_eq_true, if_false] at H ⊢
    go_enter Tryz.func28, Tryz.ntmps28
    go_wp2_with fail
    refine (H.out _).mono ?_
    rintro e w1 ⟨rfl, rfl⟩
    go_wp2_with fail
    go_ret2
    exact ⟨rfl, rfl⟩
theorem sign_any (k : Nat) (w : World) (h1 : 1 ≤ k) (h4 : k ≤ 4) :
    Calls Tryz.prog 24 #[.int .i64 k] w fun e w' => e = .returned (.string (bs (sgn k))) ∧ w = w' := by
  have hc : k = 1 ∨ k = 2 ∨ k = 3 ∨ k = 4 := by omega
  rcases hc with rfl | rfl | rfl | rfl
  all_goals
    go_enter Tryz.func24, Tryz.ntmps24
    go_wp2
    go_ret
    exact ⟨rfl, rfl⟩
/-- Plain bytes. -/
def Asc (s : List UInt8) : Prop := ∀ (j : Nat) b, s[j]? = some b → b.toNat < 128
theorem Asc.of_all {s : List UInt8} (h : s.all (fun b => decide (b.toNat < 128)) = true) : Asc s := fun j b hb => by
  have := List.all_eq_true.1 h b (List.mem_of_getElem? hb)
  exact of_decide_eq_true this
theorem idxany_any (s c : List UInt8) (w : World) (hs : s.length < 1000000) (hc : c.length < 100) (h1 : Asc s) (h2 : Asc c) :
    Calls Tryz.prog 27 #[.string (bs s), .string (bs c)] w fun e w' => e = .returned (.int .i64 (Lib.indexAny s c)) ∧ Below w.heap.size w w' :=
  Any.strings_IndexAny_laid anyIdx (by kernel_rfl) (bs s) (bs c) w (by rw [bs_size]; omega) (by rw [bs_size]; omega) h1 h2
theorem hasany_any (s c : List UInt8) (w : World) (hs : s.length < 1000000) (hc : c.length < 100) (h1 : Asc s) (h2 : Asc c) :
    Calls Tryz.prog 37 #[.string (bs s), .string (bs c)] w fun e w' => e = .returned (.bool (Lib.containsAny s c)) ∧ Below w.heap.size w w' :=
  Any.strings_ContainsAny_laid anyHas (by kernel_rfl) (bs s) (bs c) w (by rw [bs_size]; omega) (by rw [bs_size]; omega) h1 h2
end Go.Proofs.YtobdlfikomnmcaaGreatDoor
