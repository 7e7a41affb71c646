/- Layer 2 in plain words: many records. No program's text. -/
import Derived.Test.YtajkleknjjpldaaDoorMFrM
namespace Go.Proofs.YtajkleknjjpldaaDoor.Fr

abbrev Rc := UInt8 × List UInt8

theorem takeM_left {l : List UInt8} {most : Int} {u : Nat} {r : List UInt8} (h : Leb.takeM l most = (u, r, 0)) : r.length ≤ l.length := by
  unfold Leb.takeM at h
  split at h
  · rename_i h1
    simp only [Prod.mk.injEq] at h
    exact absurd h.2.2 h1
  · split at h
    · simp at h
    · have := Leb.dec_left l 0 0
      have e : Leb.dec 0 0 l = (u, r, 0) := h
      rw [e] at this
      exact this
theorem next_left (l : List UInt8) (h : (next l).2.2 = 0) : (next l).2.1.length < l.length := by
  cases l with
  | nil => simp [next] at h
  | cons k r =>
    rw [next] at h ⊢
    split
    · rename_i h1
      rw [if_pos h1] at h
      exact absurd h h1
    · rename_i h1
      have h0 : (Leb.takeM r 1048576).2.2 = 0 := by omega
      have hl := takeM_left (show Leb.takeM r 1048576 = ((Leb.takeM r 1048576).1, (Leb.takeM r 1048576).2.1, 0) by rw [← h0])
      split
      · simp
      · split
        · simp
        · simp only [List.length_drop, List.length_cons]
          omega

/-- The records at the beginning of bytes, what is left. -/
def allF : Nat → List UInt8 → List Rc × List UInt8
  | 0, l => ([], l)
  | f + 1, l => if (next l).2.2 = 0 then ((next l).1 :: (allF f (next l).2.1).1, (allF f (next l).2.1).2) else ([], l)
def all (l : List UInt8) : List Rc × List UInt8 := allF (l.length + 1) l
theorem allF_fuel : ∀ (f : Nat) (l : List UInt8) (g : Nat), l.length < f → l.length < g → allF f l = allF g l := by
  intro f
  induction f with
  | zero => intro l g h; omega
  | succ f ih =>
    intro l g h hg
    obtain ⟨g, rfl⟩ : ∃ g', g = g' + 1 := ⟨g - 1, by omega⟩
    rw [allF, allF]
    split
    · rename_i h0
      have := next_left l h0
      rw [ih (next l).2.1 g (by omega) (by omega)]
    · rfl
theorem all_step {l rest : List UInt8} {r : Rc} (h : next l = (r, rest, 0)) : all l = (r :: (all rest).1, (all rest).2) := by
  have hl := next_left l (by rw [h])
  rw [h] at hl
  have h0 : (next l).2.2 = 0 := by rw [h]
  unfold all
  rw [allF, if_pos h0, h]
  simp only
  rw [allF_fuel l.length rest (rest.length + 1) hl (by omega)]
theorem all_stop {l : List UInt8} (h : (next l).2.2 ≠ 0) : all l = ([], l) := by
  unfold all
  rw [allF, if_neg h]
theorem all_left (l : List UInt8) : (all l).2.length ≤ l.length := by
  have : ∀ (n : Nat) (l : List UInt8), l.length ≤ n → (all l).2.length ≤ l.length := by
    intro n
    induction n with
    | zero =>
      intro l hl
      have : l = [] := List.eq_nil_of_length_eq_zero (by omega)
      subst this
      rw [all_stop (by simp [next])]
      simp
    | succ n ih =>
      intro l hl
      by_cases h : (next l).2.2 = 0
      · have h1 := next_left l h
        have h2 := ih (next l).2.1 (by omega)
        rw [all_step (show next l = ((next l).1, (next l).2.1, 0) by rw [← h])]
        simp only
        omega
      · rw [all_stop h]; exact Nat.le_refl _
  exact this l.length l (Nat.le_refl _)

/-- Records, one behind the other. -/
def laid (rs : List Rc) : List UInt8 := rs.flatMap fun r => rec r.1 r.2
theorem laid_append (a b : List Rc) : laid (a ++ b) = laid a ++ laid b := by simp [laid]
theorem laid_cons (r : Rc) (b : List Rc) : laid (r :: b) = rec r.1 r.2 ++ laid b := by simp [laid]
theorem all_laid (t : List UInt8) : ∀ (rs : List Rc), (∀ r ∈ rs, r.2.length ≤ 1048576) → all (laid rs ++ t) = (rs ++ (all t).1, (all t).2) := by
  intro rs
  induction rs with
  | nil => intro _; simp [laid]
  | cons r rs ih =>
    intro h
    rw [laid_cons, List.append_assoc, all_step (next_rec r.1 r.2 (laid rs ++ t) (h r (by simp))), ih (fun x hx => h x (by simp [hx]))]
    rfl

/-- A record that is cut off is none. -/
theorem next_cut (k : UInt8) (d : List UInt8) (m : Nat) (hd : d.length ≤ 1048576) (h : m < (rec k d).length) : (next ((rec k d).take m)).2.2 ≠ 0 := by
  cases m with
  | zero => simp [next]
  | succ m =>
    rw [rec, List.take_succ_cons, next]
    rw [rec, List.length_cons] at h
    by_cases hm : m < (Leb.encU d.length).length
    · have h1 : Leb.takeM ((Leb.encU d.length ++ (le (rsum k d) 4 ++ d)).take m) 1048576 = (0, [], 2) := by
        rw [List.take_append_of_le_length (by omega)]
        unfold Leb.takeM
        rw [Leb.takeU_cut _ _ hm]
        simp
      rw [h1]
      simp
    · have h1 : Leb.takeM ((Leb.encU d.length ++ (le (rsum k d) 4 ++ d)).take m) 1048576 = (d.length, (le (rsum k d) 4 ++ d).take (m - (Leb.encU d.length).length), 0) := by
        rw [List.take_append, List.take_of_length_le (by omega)]
        exact takeM_enc _ _ hd
      rw [h1]
      simp only [List.length_append, le_len] at h
      rw [if_neg (by simp), if_pos (by simp only [List.length_take, List.length_append, le_len]; omega)]
      simp

/-- How far whole records go. -/
theorem all_cut (rs : List Rc) (hs : ∀ r ∈ rs, r.2.length ≤ 1048576) (cut j : Nat) (hj : j ≤ rs.length) (h1 : (laid (rs.take j)).length ≤ cut) (h2 : j < rs.length → cut < (laid (rs.take (j + 1))).length) :
    all ((laid rs).take cut) = (rs.take j, ((laid rs).take cut).drop (laid (rs.take j)).length) := by
  have e1 : laid rs = laid (rs.take j) ++ laid (rs.drop j) := by rw [← laid_append, List.take_append_drop]
  have e2 : (laid rs).take cut = laid (rs.take j) ++ (laid (rs.drop j)).take (cut - (laid (rs.take j)).length) := by
    rw [e1, List.take_append, List.take_of_length_le h1]
  have hstop : (next ((laid (rs.drop j)).take (cut - (laid (rs.take j)).length))).2.2 ≠ 0 := by
    by_cases hj' : j < rs.length
    · have hd : rs.drop j = rs[j] :: rs.drop (j + 1) := List.drop_eq_getElem_cons hj'
      have ht : rs.take (j + 1) = rs.take j ++ [rs[j]] := List.take_succ_eq_append_getElem hj'
      have h3 := h2 hj'
      rw [ht, laid_append, List.length_append] at h3
      have h4 : laid [rs[j]] = rec rs[j].1 rs[j].2 := by simp [laid]
      rw [h4] at h3
      rw [hd, laid_cons, List.take_append_of_le_length (by omega)]
      exact next_cut _ _ _ (hs _ (List.getElem_mem hj')) (by omega)
    · have hd : rs.drop j = [] := List.drop_eq_nil_of_le (by omega)
      rw [hd]
      simp [laid, next]
  have e3 : ((laid rs).take cut).drop (laid (rs.take j)).length = (laid (rs.drop j)).take (cut - (laid (rs.take j)).length) := by
    rw [e2, List.drop_left]
  rw [e3, e2, all_laid _ _ (fun r hr => hs r (List.mem_of_mem_take hr)), all_stop hstop]
  simp

/-- The first six, cut to 60 bytes. -/
def few (rs : List Rc) : List Rc := (rs.take 6).map fun r => (r.1, r.2.take 60)
theorem few_len (rs : List Rc) : (few rs).length ≤ 6 ∧ (few rs).length ≤ rs.length := by simp [few]; omega
theorem few_mem (rs : List Rc) : ∀ r ∈ few rs, r.2.length ≤ 60 := by
  intro r hr
  simp only [few, List.mem_map] at hr
  obtain ⟨x, _, rfl⟩ := hr
  simp only [List.length_take]; omega
theorem laid_le : ∀ (rs : List Rc), (∀ r ∈ rs, r.2.length ≤ 60) → (laid rs).length ≤ 75 * rs.length := by
  intro rs
  induction rs with
  | nil => intro _; simp [laid]
  | cons r rs ih =>
    intro h
    have h1 := (rec_len r.1 r.2).2
    have h2 := h r (by simp)
    have h3 := ih (fun x hx => h x (by simp [hx]))
    rw [laid_cons, List.length_append, List.length_cons]
    omega
end Go.Proofs.YtajkleknjjpldaaDoor.Fr
