/- Layer 13 in plain words: the document's matcher of a text is the program's. -/
import Derived.Test.YtobdlfikomnmcaaGreatDoorMTB5
namespace Go.Proofs.YtobdlfikomnmcaaGreatDoor
open Go.RowKit Go.Lib
set_option linter.unusedVariables false

/-- What the document's one makes where a sign begins. -/
def onK (s : List UInt8) (i : Nat) : Nat := if s[i]? = some 61 then 1 else if s[i]? = some 94 then 3 else if s[i]? = some 64 then 4 else if s[i + 1]? = some 61 then 2 else 0
def onV (s : List UInt8) (i : Nat) : List (List UInt8) := if s[i]? = some 64 then parts 124 (s.drop (i + 1)) else if s[i]? = some 33 ∧ s[i + 1]? = some 61 then [s.drop (i + 2)] else [s.drop (i + 1)]
theorem parts_two (c : UInt8) : ∀ l : List UInt8, c ∈ l → 2 ≤ (parts c l).length
  | [], h => by cases h
  | x :: l, h => by
    unfold parts
    split
    · have := List.length_pos_iff.2 (parts_ne c l)
      rw [List.length_cons]; omega
    · rename_i hx
      have hm : c ∈ l := by
        rcases List.mem_cons.1 h with h | h
        · exact absurd h.symm hx
        · exact h
      have ih := parts_two c l hm
      split
      · rename_i e
        exact absurd e (parts_ne c l)
      · rename_i p ps e
        rw [e] at ih
        exact ih
theorem one_single (k : Nat) (n d : List UInt8) (h1 : 1 ≤ k) (h3 : k ≤ 3) : rOk k n [d] = mOk ⟨k, n, parts 124 d⟩ ∧ (mOk ⟨k, n, parts 124 d⟩ = true → (⟨k, n, parts 124 d⟩ : Mr) = ⟨k, n, [d]⟩) := by
  by_cases hd : (124 : UInt8) ∈ d
  · have hp := parts_two 124 d hd
    have hm : mOk ⟨k, n, parts 124 d⟩ = false := by
      unfold mOk goodC
      rw [if_pos (by simp only; omega), decide_eq_false (by simp only; omega)]
      rfl
    refine ⟨?_, fun h => by rw [hm] at h; cases h⟩
    rw [hm, Bool.eq_false_iff]
    intro hr
    have := (rOk_out (m := ⟨k, n, [d]⟩) hr).vs d (by simp)
    have h2 := (plain_out this.1).1 124 hd
    revert h2
    decide
  · rw [parts_none 124 d hd]
    exact ⟨(mOk_is ⟨k, n, [d]⟩ (by simp only; omega)).symm, fun _ => rfl⟩
theorem one_math {s : List UInt8} {i : Nat} {x : UInt8} (hno : NoAny s sgs i) (hx : s[i]? = some x) (hxs : sgs.contains x = true) :
    rOk (onK s i) (s.take i) (onV s i) = mOk (mrOf s) ∧ (mOk (mrOf s) = true → mrOf s = ⟨onK s i, s.take i, onV s i⟩) := by
  have hi : Lib.indexAny s sgs = i := indexAny_hit hno hx hxs
  have hlt := (List.getElem?_eq_some_iff.1 hx).1
  have hd : s.drop i = x :: s.drop (i + 1) := by
    rw [List.drop_eq_getElem_cons hlt, (List.getElem?_eq_some_iff.1 hx).2]
  have hmr : mrOf s = match firstK (s.drop i) ks4 with
    | none => ⟨0, [], []⟩
    | some k => ⟨k, s.take i, parts 124 ((s.drop i).drop (sgn k).length)⟩ := by
    unfold mrOf
    rw [hi, if_neg (by omega), Int.toNat_natCast]
    rfl
  have hc : x = 61 ∨ x = 33 ∨ x = 94 ∨ x = 64 := by
    simp only [sgs, List.contains_cons, List.contains_nil, Bool.or_false, Bool.or_eq_true, beq_iff_eq] at hxs
    exact hxs
  rcases hc with rfl | rfl | rfl | rfl
  · have hf : firstK (s.drop i) ks4 = some 1 := by rw [hd]; simp [firstK, ks4, sgn, pre]
    have hk : onK s i = 1 := by unfold onK; rw [if_pos hx]
    have hv : onV s i = [s.drop (i + 1)] := by unfold onV; rw [hx, if_neg (by decide), if_neg (by rintro ⟨h, _⟩; revert h; decide)]
    rw [hf] at hmr
    simp only at hmr
    have hdd : (s.drop i).drop (sgn 1).length = s.drop (i + 1) := by rw [hd]; rfl
    rw [hdd] at hmr
    rw [hmr, hk, hv]
    exact one_single 1 _ _ (by omega) (by omega)
  · by_cases h2 : s[i + 1]? = some 61
    · have hd2 : s.drop (i + 1) = 61 :: s.drop (i + 2) := by
        have hlt2 := (List.getElem?_eq_some_iff.1 h2).1
        rw [List.drop_eq_getElem_cons hlt2, (List.getElem?_eq_some_iff.1 h2).2]
      have hf : firstK (s.drop i) ks4 = some 2 := by rw [hd, hd2]; simp [firstK, ks4, sgn, pre]
      have hk : onK s i = 2 := by unfold onK; rw [hx, if_neg (by decide), if_neg (by decide), if_neg (by decide), if_pos h2]
      have hv : onV s i = [s.drop (i + 2)] := by unfold onV; rw [hx, if_neg (by decide), if_pos ⟨rfl, h2⟩]
      rw [hf] at hmr
      simp only at hmr
      have hdd : (s.drop i).drop (sgn 2).length = s.drop (i + 2) := by rw [hd, hd2]; rfl
      rw [hdd] at hmr
      rw [hmr, hk, hv]
      exact one_single 2 _ _ (by omega) (by omega)
    · have hf : firstK (s.drop i) ks4 = none := by
        rw [hd]
        have hne : ¬ [33, 61] <+: (33 : UInt8) :: s.drop (i + 1) := by
          intro hp
          rw [List.cons_prefix_cons] at hp
          obtain ⟨t, ht⟩ := hp.2
          apply h2
          have : (s.drop (i + 1))[0]? = some 61 := by rw [← ht]; rfl
          rw [List.getElem?_drop, Nat.add_zero] at this
          exact this
        simp [firstK, ks4, sgn, pre, hne]
      have hk : onK s i = 0 := by unfold onK; rw [hx, if_neg (by decide), if_neg (by decide), if_neg (by decide), if_neg h2]
      rw [hf] at hmr
      simp only at hmr
      have hm : mOk (mrOf s) = false := by rw [hmr]; rfl
      refine ⟨?_, fun h => by rw [hm] at h; cases h⟩
      rw [hm, hk]
      rfl
  · have hf : firstK (s.drop i) ks4 = some 3 := by rw [hd]; simp [firstK, ks4, sgn, pre]
    have hk : onK s i = 3 := by unfold onK; rw [hx, if_neg (by decide), if_pos rfl]
    have hv : onV s i = [s.drop (i + 1)] := by unfold onV; rw [hx, if_neg (by decide), if_neg (by rintro ⟨h, _⟩; revert h; decide)]
    rw [hf] at hmr
    simp only at hmr
    have hdd : (s.drop i).drop (sgn 3).length = s.drop (i + 1) := by rw [hd]; rfl
    rw [hdd] at hmr
    rw [hmr, hk, hv]
    exact one_single 3 _ _ (by omega) (by omega)
  · have hf : firstK (s.drop i) ks4 = some 4 := by rw [hd]; simp [firstK, ks4, sgn, pre]
    have hk : onK s i = 4 := by unfold onK; rw [hx, if_neg (by decide), if_neg (by decide), if_pos rfl]
    have hv : onV s i = parts 124 (s.drop (i + 1)) := by unfold onV; rw [if_pos hx]
    rw [hf] at hmr
    simp only at hmr
    have hdd : (s.drop i).drop (sgn 4).length = s.drop (i + 1) := by rw [hd]; rfl
    rw [hdd] at hmr
    rw [hmr, hk, hv]
    exact ⟨(mOk_is ⟨4, s.take i, parts 124 (s.drop (i + 1))⟩ (by simp only; omega)).symm, fun _ => rfl⟩
/-- Without a sign it is none. -/
theorem one_none {s : List UInt8} (h : NoAny s sgs s.length) : mOk (mrOf s) = false := by
  have hi : Lib.indexAny s sgs = -1 := indexAny_none h
  unfold mrOf
  rw [hi]
  rfl
end Go.Proofs.YtobdlfikomnmcaaGreatDoor
