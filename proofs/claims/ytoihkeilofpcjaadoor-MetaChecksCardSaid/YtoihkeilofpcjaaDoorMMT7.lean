/- Layer 9: Few: a meta with short texts and lists. -/
import Derived.Test.YtoihkeilofpcjaaDoorMMT6
namespace Go.Proofs.YtoihkeilofpcjaaDoor
open Go.RowKit Go.Lib
set_option linter.unusedVariables false

theorem sl_put {w : World} {base size g off n cap c : Nat} {xs : List Value} (h : Sl w base size (.slice (some ⟨g, off, none⟩) n cap) n xs) (u : Value) (hc : c < n * size) :
    Sl (w.setCell ⟨g, off + c, none⟩ u) base size (.slice (some ⟨g, off, none⟩) n cap) n (xs.set c u) := by
  obtain ⟨h1, h2⟩ := h
  refine ⟨by rw [List.length_set]; exact h1, ?_⟩
  rcases h2 with ⟨e, _⟩ | ⟨g', off', cap', e, a1, a2, a3, a4, a5, a6⟩
  · cases e
  · cases e
    have hcc : c < cap * size := Nat.lt_of_lt_of_le hc (Nat.mul_le_mul_right _ a3)
    refine .inr ⟨g, off, cap, rfl, a1, by simpa [World.setCell] using a2, a3, a4, fun j hj => ⟨?_, ?_⟩, fun j hj => ?_⟩
    · by_cases hj' : j = c
      · subst hj'
        rw [cell_setCell_same _ _ _ _ (a5 j hj).1]; rfl
      · rw [cell_setCell_other _ _ _ _ _ (.inr (by simp only; omega))]
        exact (a5 j hj).1
    · rw [frozen_setCell]
      exact (a5 j hj).2
    · by_cases hj' : j = c
      · subst hj'
        rw [cell_setCell_same _ _ _ _ (a5 j hcc).1, List.getElem?_set_self (by omega)]
      · rw [cell_setCell_other _ _ _ _ _ (.inr (by simp only; omega)), List.getElem?_set_ne (fun e => hj' e.symm)]
        exact a6 j hj
/-- A file with a short name; a meta with short texts and lists. -/
def fewF (f : Mt.Fl) : Mt.Fl := { f with name := f.name.take 20 }
def fewM (m : Mt.Me) : Mt.Me := { m with id := m.id.take 20, files := m.files.map fewF, src := m.src.map fun s => s.take 20 }
theorem cutB_bs (l : List UInt8) (n : Nat) : cutB (bs l) n = bs (l.take n) := by
  unfold cutB
  rw [bs_size]
  split
  · refine ByteArray.ext ?_
    simp [bs]
  · rw [List.take_of_length_le (by omega)]
theorem cut20_any (l : List UInt8) (w : World) : Calls Tryd.prog 5 #[.string (bs l), .int .i64 20] w fun e w' => e = .returned (.string (bs (l.take 20))) ∧ w = w' := by
  rw [← cutB_bs l 20]
  exact cut_any (bs l) 20 w (by omega)
theorem flc_set (l : List Mt.Fl) (i : Nat) (f : Mt.Fl) (nm : List UInt8) (h : l[i]? = some f) : (flc l).set (i * 3) (.string (bs nm)) = flc (l.set i { f with name := nm }) := by
  induction l generalizing i with
  | nil => simp at h
  | cons x l ih =>
    cases i with
    | zero =>
      simp only [List.getElem?_cons_zero, Option.some.injEq] at h
      subst h
      simp [flc]
    | succ i =>
      have := ih i (by simpa using h)
      simp only [List.set_cons_succ]
      show ((.string (bs x.name) : Value) :: .int .i64 x.size :: .int .u32 x.sum :: flc l).set ((i + 1) * 3) _ = .string (bs x.name) :: .int .i64 x.size :: .int .u32 x.sum :: flc (l.set i _)
      rw [show (i + 1) * 3 = i * 3 + 1 + 1 + 1 by omega]
      simp only [List.set_cons_succ, this]
/-- The first ones are short. -/
def fewsF (l : List Mt.Fl) (i : Nat) : List Mt.Fl := (l.take i).map fewF ++ l.drop i
def fewsS (l : List (List UInt8)) (i : Nat) : List (List UInt8) := (l.take i).map (fun s => s.take 20) ++ l.drop i
theorem few_set {α : Type} (f : α → α) (l : List α) (i : Nat) (x : α) (h : l[i]? = some x) : ((l.take i).map f ++ l.drop i).set i (f x) = (l.take (i + 1)).map f ++ l.drop (i + 1) := by
  obtain ⟨h1, h2⟩ := List.getElem?_eq_some_iff.1 h
  have hl : ((l.take i).map f).length = i := by rw [List.length_map, List.length_take]; omega
  rw [List.set_append_right _ _ (by omega), hl, Nat.sub_self, List.drop_eq_getElem_cons h1, List.set_cons_zero, List.take_add_one, h, List.map_append]
  simp
theorem few_at {α : Type} (f : α → α) (l : List α) (i : Nat) (x : α) (h : l[i]? = some x) : ((l.take i).map f ++ l.drop i)[i]? = some x := by
  obtain ⟨h1, h2⟩ := List.getElem?_eq_some_iff.1 h
  have hl : ((l.take i).map f).length = i := by rw [List.length_map, List.length_take]; omega
  rw [List.getElem?_append_right (by omega), hl, Nat.sub_self, List.drop_eq_getElem_cons h1, h2]
  rfl
end Go.Proofs.YtoihkeilofpcjaaDoor
