/- Layer 13 in plain words: a text's parts, one by one; the document's matcher of a text, and the program's. -/
import Derived.Test.YtobdlfikomnmcaaGreatDoorMTB2
namespace Go.Proofs.YtobdlfikomnmcaaGreatDoor
open Go.RowKit Go.Lib
set_option linter.unusedVariables false

/-- The parts that are done, and the one that isn't. -/
def stepC (c : UInt8) (r : List (List UInt8) × List UInt8) (x : UInt8) : List (List UInt8) × List UInt8 := if x = c then (r.1 ++ [r.2], []) else (r.1, r.2 ++ [x])
def cutF (c : UInt8) (s : List UInt8) : List (List UInt8) × List UInt8 := s.foldl (stepC c) ([], [])
theorem cutF_snoc (c : UInt8) (s : List UInt8) (x : UInt8) : cutF c (s ++ [x]) = stepC c (cutF c s) x := by simp [cutF, List.foldl_append]
theorem cutF_go (c : UInt8) : ∀ (l : List UInt8) (d : List (List UInt8)) (p : List UInt8), c ∉ p → (l.foldl (stepC c) (d, p)).1 ++ [(l.foldl (stepC c) (d, p)).2] = d ++ parts c (p ++ l)
  | [], d, p, h => by rw [List.append_nil, parts_none c p h]; rfl
  | x :: l, d, p, h => by
    rw [List.foldl_cons]
    by_cases hx : x = c
    · have e : stepC c (d, p) x = (d ++ [p], []) := by unfold stepC; rw [if_pos hx]
      rw [e, cutF_go c l (d ++ [p]) [] (by simp), hx, parts_app c p l h]
      simp
    · have e : stepC c (d, p) x = (d, p ++ [x]) := by unfold stepC; rw [if_neg hx]
      rw [e, cutF_go c l d (p ++ [x]) (by simp only [List.mem_append, List.mem_singleton, not_or]; exact ⟨h, fun e => hx e.symm⟩)]
      simp
theorem cutF_is (c : UInt8) (s : List UInt8) : (cutF c s).1 ++ [(cutF c s).2] = parts c s := by
  have := cutF_go c s [] [] (by simp)
  simpa [cutF] using this
theorem cutF_len (c : UInt8) (s : List UInt8) : (cutF c s).1.length ≤ s.length ∧ (cutF c s).2.length ≤ s.length := by
  have go : ∀ (l : List UInt8) (d : List (List UInt8)) (p : List UInt8), (l.foldl (stepC c) (d, p)).1.length ≤ d.length + l.length ∧ (l.foldl (stepC c) (d, p)).2.length ≤ p.length + l.length := by
    intro l
    induction l with
    | nil => intro d p; simp
    | cons x l ih =>
      intro d p
      rw [List.foldl_cons]
      by_cases hx : x = c
      · have e : stepC c (d, p) x = (d ++ [p], []) := by unfold stepC; rw [if_pos hx]
        rw [e]
        have := ih (d ++ [p]) []
        simp only [List.length_append, List.length_cons, List.length_nil] at this ⊢
        exact ⟨by omega, by omega⟩
      · have e : stepC c (d, p) x = (d, p ++ [x]) := by unfold stepC; rw [if_neg hx]
        rw [e]
        have := ih d (p ++ [x])
        simp only [List.length_append, List.length_cons, List.length_nil] at this ⊢
        exact ⟨by omega, by omega⟩
  have := go s [] []
  simpa [cutF] using this

theorem isT_is (s : List UInt8) : isT s = plainB s := by
  unfold isT plainB Lib.containsAny
  have h : (decide (0 ≤ Lib.indexAny s sg6)) = !(s.all fun b => !sg6.contains b) := by
    by_cases ha : (s.all fun b => !sg6.contains b) = true
    · rw [ha]
      have hn : Lib.indexAny s sg6 = -1 := indexAny_none fun j b _ hb => by
        have := List.all_eq_true.1 ha b (List.mem_of_getElem? hb)
        simpa using this
      rw [hn]; rfl
    · have hf : (s.all fun b => !sg6.contains b) = false := by simpa using ha
      rw [hf]
      have hge := Lib.indexAny_ge sg6 s
      by_cases h0 : 0 ≤ Lib.indexAny s sg6
      · exact decide_eq_true h0
      · exfalso
        have key : ∀ l : List UInt8, Lib.indexAny l sg6 < 0 → (l.all fun b => !sg6.contains b) = true := by
          intro l
          induction l with
          | nil => intro _; rfl
          | cons b l ih =>
            intro h
            unfold Lib.indexAny at h
            by_cases hb : sg6.contains b = true
            · rw [if_pos hb] at h; omega
            · have hb' : sg6.contains b = false := by simpa using hb
              rw [if_neg hb] at h
              have hg := Lib.indexAny_ge sg6 l
              split at h
              · rename_i he
                have : Lib.indexAny l sg6 = -1 := by simpa using he
                rw [List.all_cons, hb', ih (by omega)]; rfl
              · rename_i he
                have : Lib.indexAny l sg6 ≠ -1 := by simpa using he
                omega
        exact ha (key s (by omega))
  rw [h, Bool.not_not, Bool.and_comm]
theorem mOk_is (m : Mr) (hk : m.k ≤ 4) : mOk m = rOk m.k m.n m.vs := by
  obtain ⟨k, n, vs⟩ := m
  simp only at hk
  by_cases hr : rOk k n vs = true
  · rw [hr]
    exact mOk_of (rOk_out (m := ⟨k, n, vs⟩) hr)
  · rw [show rOk (k : Int) n vs = false by simpa using hr]
    rw [Bool.eq_false_iff]
    intro hm
    apply hr
    unfold mOk at hm
    simp only [Bool.and_eq_true, Bool.not_eq_true', List.all_eq_true, isT_is] at hm
    obtain ⟨⟨⟨h1, h2⟩, h3⟩, h4⟩ := hm
    unfold rOk rVal
    have hg : 1 ≤ k ∧ 1 ≤ vs.length ∧ vs.length ≤ 10 ∧ (k < 4 → vs.length = 1) := by
      unfold goodC at h1
      split at h1
      · have := of_decide_eq_true h1; exact ⟨by omega, by omega, by omega, fun _ => by omega⟩
      · split at h1
        · have := of_decide_eq_true h1; exact ⟨by omega, by omega, by omega, fun _ => by omega⟩
        · cases h1
    simp only [Bool.and_eq_true, Bool.not_eq_true', decide_eq_false_iff_not, Bool.and_eq_false_iff, List.all_eq_true, beq_eq_false_iff_ne]
    refine ⟨by omega, by omega, by simpa using h2, h3, by omega, by omega, ?_, fun v hv => ?_⟩
    · by_cases h : k < 4
      · right; have := hg.2.2.2 h; omega
      · left; omega
    · have := h4 v hv
      unfold okV at this
      simp only [Bool.and_eq_true, Bool.not_eq_true', Bool.and_eq_false_iff, beq_eq_false_iff_ne, isT_is] at this
      refine ⟨this.1, ?_⟩
      rcases this.2 with h | h
      · left; omega
      · right; exact h
end Go.Proofs.YtobdlfikomnmcaaGreatDoor
