/- Layer 6: a text's parts between two bytes: plain maths. -/
import Derived.Test.YtobdlfikomnmcaaDoorMStr
namespace Go.Proofs.YtobdlfikomnmcaaDoor
open Go.RowKit Go.Lib

/-- A text's parts between bytes c. -/
def parts (c : UInt8) : List UInt8 → List (List UInt8)
  | [] => [[]]
  | x :: l => if x = c then [] :: parts c l else match parts c l with
    | [] => [[x]]
    | p :: ps => (x :: p) :: ps
theorem parts_ne (c : UInt8) : ∀ l, parts c l ≠ []
  | [] => by simp [parts]
  | x :: l => by
    unfold parts
    split
    · simp
    · split <;> simp
theorem parts_none (c : UInt8) : ∀ l, c ∉ l → parts c l = [l]
  | [], _ => rfl
  | x :: l, h => by
    have hx : ¬ x = c := fun e => h (by simp [e])
    rw [parts, if_neg hx, parts_none c l (fun e => h (by simp [e]))]
theorem parts_app (c : UInt8) : ∀ l r, c ∉ l → parts c (l ++ c :: r) = l :: parts c r
  | [], r, _ => by simp [parts]
  | x :: l, r, h => by
    have hx : ¬ x = c := fun e => h (by simp [e])
    rw [List.cons_append, parts, if_neg hx, parts_app c l r (fun e => h (by simp [e]))]
theorem parts_index {c : UInt8} {l : List UInt8} {i : Nat} (h3 : l[i]? = some c) (h4 : c ∉ l.take i) : parts c l = l.take i :: parts c (l.drop (i + 1)) := by
  have hi : i < l.length := (List.getElem?_eq_some_iff.1 h3).1
  have he : l = l.take i ++ c :: l.drop (i + 1) := by
    have := List.take_append_drop i l
    rw [List.drop_eq_getElem_cons hi] at this
    rw [show l[i] = c by rw [List.getElem?_eq_getElem hi] at h3; exact Option.some.inj h3] at this
    exact this.symm
  have := parts_app c (l.take i) (l.drop (i + 1)) h4
  rw [← he] at this
  exact this
theorem parts_len (c : UInt8) : ∀ l p, p ∈ parts c l → p.length ≤ l.length
  | [], p, h => by simp [parts] at h; simp [h]
  | x :: l, p, h => by
    have ih := parts_len c l
    unfold parts at h
    split at h
    · rcases List.mem_cons.1 h with rfl | h
      · simp
      · have := ih p h; simp; omega
    · split at h
      · simp at h; simp [h]
      · rename_i q qs hq
        rcases List.mem_cons.1 h with rfl | h
        · have := ih q (by rw [hq]; simp); simp; omega
        · have := ih p (by rw [hq]; simp [h]); simp; omega
theorem parts_count (c : UInt8) : ∀ l, (parts c l).length ≤ l.length + 1
  | [] => by simp [parts]
  | x :: l => by
    have ih := parts_count c l
    unfold parts
    split
    · simp; omega
    · split
      · simp
      · rename_i q qs hq
        rw [hq] at ih
        simp at *; omega
end Go.Proofs.YtobdlfikomnmcaaDoor
