/- Layer 13: a matcher's text in plain words, and back. -/
import Derived.Test.YtobdlfikomnmcaaGreatDoorMTMC
import Derived.Test.YtobdlfikomnmcaaGreatDoorMTM5
import Derived.Lib.Join
namespace Go.Proofs.YtobdlfikomnmcaaGreatDoor
open Go.RowKit Go.Lib
set_option linter.unusedVariables false

def joinB (c : UInt8) : List (List UInt8) → List UInt8
  | [] => []
  | [x] => x
  | x :: y :: r => x ++ c :: joinB c (y :: r)
theorem joinB_is (c : UInt8) : ∀ xs, Lib.join xs [c] = joinB c xs
  | [] => rfl
  | [x] => by rw [Lib.join_one]; rfl
  | x :: y :: r => by
    have ih := joinB_is c (y :: r)
    rw [Lib.join_cons] at ih ⊢
    rw [joinB, ← ih]
    simp [Lib.joinTail]
theorem parts_join (c : UInt8) : ∀ xs, xs ≠ [] → (∀ x ∈ xs, c ∉ x) → parts c (joinB c xs) = xs
  | [], h, _ => absurd rfl h
  | [x], _, h => parts_none c x (h x (by simp))
  | x :: y :: r, _, h => by
    rw [joinB, parts_app c x _ (h x (by simp)), parts_join c (y :: r) (by simp) (fun z hz => h z (List.mem_cons_of_mem _ hz))]
theorem joinB_len (c : UInt8) (B : Nat) : ∀ xs : List (List UInt8), (∀ x ∈ xs, x.length ≤ B) → (joinB c xs).length ≤ xs.length * (B + 1)
  | [], _ => by simp [joinB]
  | [x], h => by have := h x (by simp); simp [joinB]; omega
  | x :: y :: r, h => by
    have h1 := h x (by simp)
    have h2 := joinB_len c B (y :: r) (fun z hz => h z (List.mem_cons_of_mem _ hz))
    rw [joinB, List.length_append, List.length_cons]
    have e : (x :: y :: r).length * (B + 1) = (B + 1) + (y :: r).length * (B + 1) := by rw [List.length_cons, Nat.add_mul, Nat.one_mul, Nat.add_comm]
    omega
theorem joinB_mem (c b : UInt8) : ∀ xs : List (List UInt8), b ∈ joinB c xs → b = c ∨ ∃ x ∈ xs, b ∈ x
  | [], h => by simp [joinB] at h
  | [x], h => Or.inr ⟨x, by simp, h⟩
  | x :: y :: r, h => by
    rw [joinB] at h
    rcases List.mem_append.1 h with h | h
    · exact Or.inr ⟨x, by simp, h⟩
    · rcases List.mem_cons.1 h with h | h
      · exact Or.inl h
      · rcases joinB_mem c b (y :: r) h with h | ⟨z, hz, hb⟩
        · exact Or.inl h
        · exact Or.inr ⟨z, List.mem_cons_of_mem _ hz, hb⟩
/-- A matcher's text. -/
def tOf (m : Mr) : List UInt8 := m.n ++ (sgn m.k ++ joinB 124 m.vs)
theorem plain_out {s : List UInt8} (h : plainB s = true) : (∀ b ∈ s, sg6.contains b = false) ∧ s.length ≤ 40 := by
  unfold plainB at h
  simp only [Bool.and_eq_true, List.all_eq_true, Bool.not_eq_true', decide_eq_true_eq] at h
  exact h
theorem isT_plain {s : List UInt8} (h : plainB s = true) : isT s = true := by
  obtain ⟨h1, h2⟩ := plain_out h
  have hn : Lib.indexAny s sg6 = -1 := indexAny_none fun j b _ hb => h1 b (List.mem_of_getElem? hb)
  unfold isT Lib.containsAny
  rw [hn, decide_eq_true h2]
  rfl
structure OkM (m : Mr) : Prop where
  k1 : 1 ≤ m.k
  k4 : m.k ≤ 4
  ne : m.n ≠ []
  pn : plainB m.n = true
  v0 : m.vs ≠ []
  v10 : m.vs.length ≤ 10
  v1 : m.k < 4 → m.vs.length = 1
  vs : ∀ v ∈ m.vs, plainB v = true ∧ (m.k = 3 → v ≠ [])
theorem rOk_out {m : Mr} (h : rOk m.k m.n m.vs = true) : OkM m := by
  obtain ⟨k, n, vs⟩ := m
  unfold rOk rVal at h
  simp only [Bool.and_eq_true, Bool.not_eq_true', decide_eq_false_iff_not, Bool.and_eq_false_iff, List.all_eq_true, beq_eq_false_iff_ne] at h
  obtain ⟨h1, h2, h3, h4, h5, h6, h7, h8⟩ := h
  refine ⟨by simp only; omega, by simp only; omega, h3, h4, fun e => h5 (by simp only at e; rw [e]; rfl), by simp only; omega, fun hk => ?_, fun v hv => ⟨(h8 v hv).1, fun hk => ?_⟩⟩
  · simp only at hk ⊢
    have : vs.length ≠ 0 := h5
    rcases h7 with h7 | h7 <;> omega
  · simp only at hk
    rcases (h8 v hv).2 with e | e
    · exact absurd (by omega : (k : Int) = 3) e
    · exact e
theorem mOk_of {m : Mr} (h : OkM m) : mOk m = true := by
  have hg : goodC m.k m.vs.length = true := by
    unfold goodC
    have h0 : m.vs.length ≠ 0 := fun e => h.v0 (List.eq_nil_of_length_eq_zero e)
    by_cases hk : m.k < 4
    · rw [if_pos (by have := h.k1; omega), decide_eq_true (h.v1 hk)]
    · rw [if_neg (by omega), if_pos (by have := h.k4; omega)]
      have := h.v10
      exact decide_eq_true ⟨by omega, by omega⟩
  have hn : (m.n == []) = false := by rw [beq_eq_false_iff_ne]; exact h.ne
  have hv : m.vs.all (okV m.k) = true := by
    rw [List.all_eq_true]
    intro v hv
    obtain ⟨h1, h2⟩ := h.vs v hv
    unfold okV
    rw [isT_plain h1, Bool.true_and, Bool.not_eq_true', Bool.and_eq_false_iff]
    by_cases hk : m.k = 3
    · exact Or.inr (by rw [beq_eq_false_iff_ne]; exact h2 hk)
    · exact Or.inl (by rw [beq_eq_false_iff_ne]; exact hk)
  unfold mOk
  rw [hg, hn, isT_plain h.pn, hv]
  rfl
theorem sgn_first {k : Nat} (h1 : 1 ≤ k) (h4 : k ≤ 4) (r : List UInt8) : firstK (sgn k ++ r) ks4 = some k ∧ ∃ x, (sgn k ++ r)[0]? = some x ∧ sgs.contains x = true := by
  rcases (by omega : k = 1 ∨ k = 2 ∨ k = 3 ∨ k = 4) with rfl | rfl | rfl | rfl
  all_goals exact ⟨by simp [firstK, ks4, sgn, pre], _, rfl, by decide⟩
theorem mrOf_tOf {m : Mr} (h : OkM m) : mrOf (tOf m) = m := by
  obtain ⟨k, n, vs⟩ := m
  have hp := plain_out h.pn
  simp only at hp
  obtain ⟨hf, x, hx0, hxs⟩ := sgn_first h.k1 h.k4 (joinB 124 vs)
  simp only at hf hx0
  have hsub : ∀ b : UInt8, sg6.contains b = false → sgs.contains b = false := by
    intro b hb
    rw [Bool.eq_false_iff] at hb ⊢
    intro hc
    apply hb
    simp only [sg6, sgs, List.contains_cons, List.contains_nil, Bool.or_false, Bool.or_eq_true] at hc ⊢
    rcases hc with h | h | h | h
    · exact Or.inl h
    · exact Or.inr (Or.inl h)
    · exact Or.inr (Or.inr (Or.inl h))
    · exact Or.inr (Or.inr (Or.inr (Or.inl h)))
  have hi : Lib.indexAny (tOf ⟨k, n, vs⟩) sgs = n.length := by
    refine indexAny_hit (x := x) (fun j b hj hb => ?_) ?_ hxs
    · unfold tOf at hb
      simp only at hb
      rw [List.getElem?_append_left hj] at hb
      exact hsub b (hp.1 b (List.mem_of_getElem? hb))
    · unfold tOf
      simp only
      rw [List.getElem?_append_right (Nat.le_refl _), Nat.sub_self]
      exact hx0
  have hd : (tOf ⟨k, n, vs⟩).drop n.length = sgn k ++ joinB 124 vs := by unfold tOf; simp
  have ht : (tOf ⟨k, n, vs⟩).take n.length = n := by unfold tOf; simp
  unfold mrOf
  rw [hi, if_neg (by omega), Int.toNat_natCast, hd, hf, ht]
  simp only
  congr 1
  rw [List.drop_left]
  refine parts_join 124 vs h.v0 fun v hv hc => ?_
  have := (plain_out (h.vs v hv).1).1 124 hc
  revert this
  decide
theorem tOf_free {m : Mr} (h : OkM m) : (44 : UInt8) ∉ tOf m := by
  intro hc
  have hno : ∀ s : List UInt8, plainB s = true → (44 : UInt8) ∉ s := fun s hs hc => by
    have := (plain_out hs).1 44 hc
    revert this
    decide
  unfold tOf at hc
  rcases List.mem_append.1 hc with hc | hc
  · exact hno _ h.pn hc
  · rcases List.mem_append.1 hc with hc | hc
    · have h1 := h.k1; have h4 := h.k4
      revert hc
      rcases (by omega : m.k = 1 ∨ m.k = 2 ∨ m.k = 3 ∨ m.k = 4) with e | e | e | e <;> rw [e] <;> decide
    · rcases joinB_mem 124 44 _ hc with hc | ⟨v, hv, hc⟩
      · exact absurd hc (by decide)
      · exact hno v (h.vs v hv).1 hc
theorem tOf_len {m : Mr} (h : OkM m) : (tOf m).length ≤ 500 ∧ tOf m ≠ [] := by
  have h1 := (plain_out h.pn).2
  have h2 := joinB_len 124 40 m.vs (fun v hv => (plain_out (h.vs v hv).1).2)
  have h3 := h.v10
  have h4 : (sgn m.k).length ≤ 2 := by
    have h1 := h.k1; have h4 := h.k4
    rcases (by omega : m.k = 1 ∨ m.k = 2 ∨ m.k = 3 ∨ m.k = 4) with e | e | e | e <;> rw [e] <;> decide
  refine ⟨by unfold tOf; simp only [List.length_append]; omega, fun e => h.ne ?_⟩
  unfold tOf at e
  exact (List.append_eq_nil_iff.1 e).1
/-- All of them, and back. -/
theorem parts_all {ms : List Mr} (h : ∀ m ∈ ms, OkM m) (h0 : ms ≠ []) : parts 44 (joinB 44 (ms.map tOf)) = ms.map tOf :=
  parts_join 44 _ (by simpa using h0) fun x hx => by
    obtain ⟨m, hm, rfl⟩ := List.mem_map.1 hx
    exact tOf_free (h m hm)
theorem mrs_back {ms : List Mr} (h : ∀ m ∈ ms, OkM m) : (ms.map tOf).map mrOf = ms := by
  rw [List.map_map]
  conv => rhs; rw [← List.map_id ms]
  exact List.map_congr_left fun m hm => mrOf_tOf (h m hm)
end Go.Proofs.YtobdlfikomnmcaaGreatDoor
