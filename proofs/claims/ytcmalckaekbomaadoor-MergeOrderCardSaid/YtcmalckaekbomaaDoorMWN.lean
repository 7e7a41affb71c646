/- Layer 14: what is between two times, in plain words. -/
import Derived.Test.YtcmalckaekbomaaDoorMWG
namespace Go.Proofs.YtcmalckaekbomaaDoor
open Go.RowKit Go.Lib Hp
set_option linter.unusedVariables false

def inB (f t : Int) (s : Sp) : Bool := decide (f ≤ s.t) && decide (s.t < t)
def betw (f t : Int) : List Rw → List Rw
  | [] => []
  | r :: l => if (r.ss.filter (inB f t)).length = 0 then betw f t l else ⟨r.ls, r.ss.filter (inB f t)⟩ :: betw f t l
theorem betw_snoc (f t : Int) (r : Rw) : ∀ l : List Rw, betw f t (l ++ [r]) = betw f t l ++ (if (r.ss.filter (inB f t)).length = 0 then [] else [⟨r.ls, r.ss.filter (inB f t)⟩])
  | [] => by simp only [List.nil_append, betw]
  | x :: l => by
    simp only [List.cons_append, betw]
    rw [betw_snoc f t r l]
    split <;> simp
theorem betw_len (f t : Int) : ∀ l : List Rw, (betw f t l).length ≤ l.length
  | [] => by simp [betw]
  | x :: l => by
    have := betw_len f t l
    unfold betw
    split
    · simp only [List.length_cons]; omega
    · simp only [List.length_cons]; omega
theorem betw_mem (f t : Int) {l : List Rw} {r : Rw} (h : r ∈ betw f t l) : r.ss ≠ [] ∧ ∃ x ∈ l, r.ls = x.ls ∧ r.ss = x.ss.filter (inB f t) := by
  induction l with
  | nil => simp [betw] at h
  | cons x l ih =>
    unfold betw at h
    split at h
    · obtain ⟨h1, y, hy, h2⟩ := ih h
      exact ⟨h1, y, by simp [hy], h2⟩
    · rename_i hn
      simp only [List.mem_cons] at h
      rcases h with rfl | h
      · exact ⟨fun e => hn (by rw [show x.ss.filter (inB f t) = [] from e]; rfl), x, by simp, rfl, rfl⟩
      · obtain ⟨h1, y, hy, h2⟩ := ih h
        exact ⟨h1, y, by simp [hy], h2⟩
theorem look_filter (f t a : Int) : ∀ l : List Sp, look (l.filter (inB f t)) a = if f ≤ a ∧ a < t then look l a else none
  | [] => by simp [look]
  | x :: l => by
    have ih := look_filter f t a l
    by_cases hx : inB f t x = true
    · rw [List.filter_cons_of_pos hx, look, ih, look]
      by_cases ha : x.t = a
      · have : f ≤ a ∧ a < t := by simpa [inB, ha] using hx
        simp [ha, this]
      · simp [ha]
    · rw [List.filter_cons_of_neg hx, ih, look]
      by_cases ha : x.t = a
      · have : ¬ (f ≤ a ∧ a < t) := by simpa [inB, ha] using hx
        rw [if_neg this, if_neg this]
      · simp [ha]
theorem betw_up (f t : Int) {l : List Rw} (h : UpT l) : UpT (betw f t l) := by
  refine ⟨?_, fun r hr => ?_⟩
  · induction l with
    | nil => exact List.Pairwise.nil
    | cons x l ih =>
      obtain ⟨h1, h2⟩ := List.pairwise_cons.1 h.1
      have ih' := ih ⟨h2, fun r hr => h.2 r (by simp [hr])⟩
      unfold betw
      split
      · exact ih'
      · refine List.pairwise_cons.2 ⟨fun y hy => ?_, ih'⟩
        obtain ⟨_, z, hz, e, _⟩ := betw_mem f t hy
        rw [e]
        exact h1 z hz
  · obtain ⟨_, x, hx, _, e⟩ := betw_mem f t hr
    rw [e]
    exact List.Pairwise.sublist List.filter_sublist (h.2 x hx)
theorem betw_look (f t : Int) (ls : List Pr) (a : Int) : ∀ l : List Rw, lookT (betw f t l) ls a = if f ≤ a ∧ a < t then lookT l ls a else none
  | [] => by simp [betw, lookT]
  | x :: l => by
    have ih := betw_look f t ls a l
    have hf := look_filter f t a x.ss
    unfold betw
    split
    · rename_i h0
      rw [List.eq_nil_of_length_eq_zero h0] at hf
      rw [ih, lookT]
      by_cases hr : f ≤ a ∧ a < t
      · rw [if_pos hr] at hf
        rw [if_pos hr, if_pos hr, ← hf]
        simp [look]
      · rw [if_neg hr, if_neg hr]
    · rw [lookT, ih, hf, lookT]
      by_cases hr : f ≤ a ∧ a < t
      · simp [hr]
      · simp [hr]
theorem lookP_filter (f t : Int) (ls : List Pr) (a : Int) : ∀ ps : Ps, lookP (ps.filter fun p => inB f t p.2) ls a = if f ≤ a ∧ a < t then lookP ps ls a else none
  | [] => by simp [lookP]
  | p :: ps => by
    have ih := lookP_filter f t ls a ps
    by_cases hx : inB f t p.2 = true
    · rw [List.filter_cons_of_pos (p := fun p : List Pr × Sp => inB f t p.2) hx, lookP, ih, lookP]
      by_cases ha : p.1 = ls ∧ p.2.t = a
      · have : f ≤ a ∧ a < t := by simpa [inB, ha.2] using hx
        simp [ha, this]
      · by_cases hr : f ≤ a ∧ a < t <;> simp [ha, hr]
    · rw [List.filter_cons_of_neg (p := fun p : List Pr × Sp => inB f t p.2) hx, ih, lookP]
      by_cases ha : p.1 = ls ∧ p.2.t = a
      · have : ¬ (f ≤ a ∧ a < t) := by simpa [inB, ha.2] using hx
        rw [if_neg this, if_neg this]
      · simp [ha]
theorem betw_P (f t : Int) (ps : Ps) : betw f t (addF [] ps) = addF [] (ps.filter fun p => inB f t p.2) := by
  obtain ⟨a1, a2, a3⟩ := addF_nil ps
  obtain ⟨b1, b2, b3⟩ := addF_nil (ps.filter fun p => inB f t p.2)
  refine upT_one (betw_up f t a1) b1 (fun r hr => (betw_mem f t hr).1) b2 fun ls a => ?_
  rw [betw_look, a3, b3, lookP_filter]
/-- Two parts together. -/
theorem betw_split {f m t : Int} (h1 : f ≤ m) (h2 : m ≤ t) (ps : Ps) : addF [] ([ps.filter fun p => inB f m p.2, ps.filter fun p => inB m t p.2]).flatten = addF [] (ps.filter fun p => inB f t p.2) := addF_one fun ls a => by
  rw [List.flatten_cons, List.flatten_cons, List.flatten_nil, List.append_nil, lookP_append, lookP_filter, lookP_filter, lookP_filter]
  by_cases c1 : f ≤ a
  · by_cases c2 : a < m
    · rw [if_pos ⟨c1, c2⟩, if_neg (by omega), if_pos ⟨c1, by omega⟩]; simp
    · by_cases c3 : a < t
      · rw [if_neg (by omega), if_pos ⟨by omega, c3⟩, if_pos ⟨c1, c3⟩]; simp
      · rw [if_neg (by omega), if_neg (by omega), if_neg (by omega)]; rfl
  · rw [if_neg (by omega), if_neg (by omega), if_neg (by omega)]; rfl
end Go.Proofs.YtcmalckaekbomaaDoor
