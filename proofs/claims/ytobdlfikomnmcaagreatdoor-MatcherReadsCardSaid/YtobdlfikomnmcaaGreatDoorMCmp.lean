/- Texts compared: plain maths. -/
import Derived.Test.YtobdlfikomnmcaaGreatDoorMSl
import Derived.Lib.Bytealg
import Derived.Sort.Statements
namespace Go.Proofs.YtobdlfikomnmcaaGreatDoor
open Go.RowKit

theorem cmp_spec : ∀ a b : List UInt8, (Lib.compareBytes a b < 0 ↔ a < b) ∧ (Lib.compareBytes a b = 0 ↔ a = b) ∧ (0 < Lib.compareBytes a b ↔ b < a)
  | [], [] => by simp [Lib.compareBytes]
  | [], _ :: _ => by simp [Lib.compareBytes]
  | _ :: _, [] => by simp [Lib.compareBytes]
  | x :: a, y :: b => by
    obtain ⟨h1, h2, h3⟩ := cmp_spec a b
    unfold Lib.compareBytes
    rw [List.cons_lt_cons_iff, List.cons_lt_cons_iff]
    by_cases hxy : x < y
    · have hne : x ≠ y := fun e => by rw [e] at hxy; exact absurd hxy (UInt8.lt_irrefl _)
      have hyx : ¬ y < x := fun h => absurd (UInt8.lt_trans hxy h) (UInt8.lt_irrefl _)
      simp [hxy, hne, hyx, Ne.symm hne]
    · by_cases hyx : y < x
      · have hne : x ≠ y := fun e => by rw [e] at hyx; exact absurd hyx (UInt8.lt_irrefl _)
        simp [hxy, hyx, hne, Ne.symm hne]
      · have he : x = y := UInt8.le_antisymm (UInt8.not_lt.1 hyx) (UInt8.not_lt.1 hxy)
        subst he
        simp [h1, h2, h3]
theorem cmp_lt (a b : List UInt8) : Lib.compareBytes a b < 0 ↔ a < b := (cmp_spec a b).1
theorem cmp_eq (a b : List UInt8) : Lib.compareBytes a b = 0 ↔ a = b := (cmp_spec a b).2.1
theorem cmp_gt (a b : List UInt8) : 0 < Lib.compareBytes a b ↔ b < a := (cmp_spec a b).2.2
theorem cmp_val : ∀ a b : List UInt8, Lib.compareBytes a b = -1 ∨ Lib.compareBytes a b = 0 ∨ Lib.compareBytes a b = 1
  | [], [] => by simp [Lib.compareBytes]
  | [], _ :: _ => by simp [Lib.compareBytes]
  | _ :: _, [] => by simp [Lib.compareBytes]
  | x :: a, y :: b => by
    have := cmp_val a b
    unfold Lib.compareBytes
    split
    · simp
    · split
      · simp
      · exact this
theorem bytes_lt_irrefl (a : List UInt8) : ¬ a < a := List.lt_irrefl a
theorem bytes_lt_trans {a b c : List UInt8} (h : a < b) (k : b < c) : a < c := List.lt_trans h k
theorem bytes_tri (a b : List UInt8) : a < b ∨ a = b ∨ b < a := by
  rcases cmp_val a b with h | h | h
  · exact .inl ((cmp_lt a b).1 (by omega))
  · exact .inr (.inl ((cmp_eq a b).1 h))
  · exact .inr (.inr ((cmp_gt a b).1 (by omega)))
theorem bytes_not_lt {a b : List UInt8} (h : ¬ a < b) : a = b ∨ b < a := (bytes_tri a b).resolve_left h
/-- Texts by rising bytes, as a strict weak order on whatever has one. -/
theorem swo_by {α : Type} (key : α → List UInt8) : Sort.SWO fun x y : α => decide (Lib.compareBytes (key x) (key y) < 0) where
  irrefl x := by
    rw [decide_eq_false_iff_not, cmp_lt]
    exact bytes_lt_irrefl _
  trans x y z h k := by
    rw [decide_eq_true_iff, cmp_lt] at *
    exact bytes_lt_trans h k
  ntrans x y z h k := by
    rw [decide_eq_false_iff_not, cmp_lt] at *
    intro hz
    rcases bytes_not_lt h with e | e
    · exact k (e ▸ hz)
    · rcases bytes_not_lt k with e2 | e2
      · exact h (e2 ▸ hz)
      · exact bytes_lt_irrefl _ (bytes_lt_trans hz (bytes_lt_trans e2 e))
end Go.Proofs.YtobdlfikomnmcaaGreatDoor
