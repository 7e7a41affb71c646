/- Layer 6: the document's Parse in plain words; it is the parts' pairs. -/
import Derived.Test.YtmgnmppdeiflbaaDoorLQ
import Derived.Test.YtmgnmppdeiflbaaDoorLU
namespace Go.Proofs.YtmgnmppdeiflbaaDoor
open Go.RowKit Go.Lib

/-- Byte by byte: the pairs so far, the one under way, is its = behind. -/
def pgo : List UInt8 → List Pr → Pr → Bool → Option (List Pr)
  | [], l, p, eq => if eq = true then some (l ++ [p]) else none
  | c :: r, l, p, eq =>
    if c = 44 then (if eq = true then pgo r (l ++ [p]) ⟨[], []⟩ false else none)
    else if eq = false ∧ c = 61 then pgo r l p true
    else if eq = true then pgo r l ⟨p.n, p.v ++ [c]⟩ true
    else pgo r l ⟨p.n ++ [c], p.v⟩ false
theorem cutP_no (p : List UInt8) (h : 61 ∉ p) : cutP p = none := by
  unfold cutP cutL
  rw [if_neg h]
theorem pgo_is : ∀ (s : List UInt8) (q : List UInt8) (qs : List (List UInt8)), parts 44 s = q :: qs →
    (∀ l n v, pgo s l ⟨n, v⟩ true = match pairsL qs with | some xs => some (l ++ ⟨n, v ++ q⟩ :: xs) | none => none) ∧
    (∀ l n, 61 ∉ n → pgo s l ⟨n, []⟩ false = match cutP (n ++ q), pairsL qs with | some x, some xs => some (l ++ x :: xs) | _, _ => none)
  | [], q, qs, h => by
    simp only [parts, List.cons.injEq] at h
    obtain ⟨rfl, rfl⟩ := h
    refine ⟨fun l n v => by simp [pgo, pairsL], fun l n hn => ?_⟩
    rw [List.append_nil, cutP_no n hn]
    simp [pgo]
  | c :: r, q, qs, h => by
    obtain ⟨p, ps, hp⟩ : ∃ p ps, parts 44 r = p :: ps := by
      cases he : parts 44 r with
      | nil => exact absurd he (parts_ne 44 r)
      | cons p ps => exact ⟨p, ps, rfl⟩
    obtain ⟨i1, i2⟩ := pgo_is r p ps hp
    unfold parts at h
    by_cases hc : c = 44
    · rw [if_pos hc, hp] at h
      simp only [List.cons.injEq] at h
      obtain ⟨rfl, rfl⟩ := h
      refine ⟨fun l n v => ?_, fun l n hn => ?_⟩
      · rw [pgo, if_pos hc, if_pos rfl, i2 _ [] (by simp), List.nil_append, List.append_nil, pairsL]
        cases cutP p <;> cases pairsL ps <;> simp
      · rw [List.append_nil, cutP_no n hn, pgo, if_pos hc, if_neg (by simp)]
    · rw [if_neg hc, hp] at h
      simp only [List.cons.injEq] at h
      obtain ⟨rfl, rfl⟩ := h
      refine ⟨fun l n v => ?_, fun l n hn => ?_⟩
      · rw [pgo, if_neg hc, if_neg (by simp), if_pos rfl, i1]
        simp
      · by_cases he : c = 61
        · subst he
          have hcp := cutP_pair ⟨n, p⟩ hn
          unfold pairT at hcp
          simp only at hcp
          rw [pgo, if_neg hc, if_pos ⟨rfl, rfl⟩, i1, hcp]
          cases pairsL ps <;> simp
        · rw [pgo, if_neg hc, if_neg (by simp [he]), if_neg (by simp), i2 _ (n ++ [c]) (by simp [hn, Ne.symm he])]
          rw [List.append_assoc, List.singleton_append]
theorem pgo_parts (s : List UInt8) : pgo s [] ⟨[], []⟩ false = pairsL (parts 44 s) := by
  obtain ⟨p, ps, hp⟩ : ∃ p ps, parts 44 s = p :: ps := by
    cases he : parts 44 s with
    | nil => exact absurd he (parts_ne 44 s)
    | cons p ps => exact ⟨p, ps, rfl⟩
  rw [(pgo_is s p ps hp).2 [] [] (by simp), hp, pairsL, List.nil_append]
  cases cutP p <;> cases pairsL ps <;> simp

/-- A pair of the document's in block P. -/
def PBr (P : Nat) (x : Pr) (w : World) : Prop := w.heap[P]? = some (.cells #[.string (bs x.n), .string (bs x.v)] 54 (0, 0))
theorem PBr.c0 {P : Nat} {x : Pr} {w : World} (h : PBr P x w) : w.cell? ⟨P, 0, none⟩ = some (.string (bs x.n)) := by rw [Lib.cell_of_heap h]; rfl
theorem PBr.c1 {P : Nat} {x : Pr} {w : World} (h : PBr P x w) : w.cell? ⟨P, 1, none⟩ = some (.string (bs x.v)) := by rw [Lib.cell_of_heap h]; rfl
theorem PBr.f {P : Nat} {x : Pr} {w : World} (h : PBr P x w) (j : Nat) : w.frozen? ⟨P, j, none⟩ = false := by
  simp only [World.frozen?, show w.heap[P]? = _ from h]
  simp
theorem PBr.lt {P : Nat} {x : Pr} {w : World} (h : PBr P x w) : P < w.heap.size := (Array.getElem?_eq_some_iff.1 h).1
theorem PBr.set0 {P : Nat} {x : Pr} {w : World} (h : PBr P x w) (l : List UInt8) : PBr P ⟨l, x.v⟩ (w.setCell ⟨P, 0, none⟩ (.string (bs l))) := by
  unfold PBr at h ⊢
  rw [heap_setCell_same w P 0 _ _ _ h]
  rfl
theorem PBr.set1 {P : Nat} {x : Pr} {w : World} (h : PBr P x w) (l : List UInt8) : PBr P ⟨x.n, l⟩ (w.setCell ⟨P, 1, none⟩ (.string (bs l))) := by
  unfold PBr at h ⊢
  rw [heap_setCell_same w P 1 _ _ _ h]
  rfl
theorem PBr.keep {P : Nat} {x : Pr} {w w' : World} (h : PBr P x w) (k : w'.heap[P]? = w.heap[P]?) : PBr P x w' := k.trans h
end Go.Proofs.YtmgnmppdeiflbaaDoor
