/- Layer 6: the document's order of pairs, in plain words. -/
import Derived.Test.YtmgnmppdeiflbaaDoorLI
import Derived.Test.YtmgnmppdeiflbaaDoorLM
namespace Go.Proofs.YtmgnmppdeiflbaaDoor
open Go.RowKit Go.Lib

/-- Ahead of the first one of a greater name. -/
def insS (p : Pr) : List Pr → List Pr
  | [] => [p]
  | q :: r => if p.n < q.n then p :: q :: r else q :: insS p r
def sortS (ds : List Pr) : List Pr := ds.foldl (fun out p => insS p out) []
theorem sortS_snoc (ds : List Pr) (p : Pr) : sortS (ds ++ [p]) = insS p (sortS ds) := by simp [sortS, List.foldl_append]
theorem insS_perm (p : Pr) : ∀ l, (insS p l).Perm (p :: l)
  | [] => List.Perm.refl _
  | q :: r => by
    unfold insS
    split
    · exact List.Perm.refl _
    · exact ((insS_perm p r).cons q).trans (List.Perm.swap p q r)
theorem insS_len (p : Pr) (l : List Pr) : (insS p l).length = l.length + 1 := (insS_perm p l).length_eq
theorem sortS_go : ∀ (ds acc : List Pr), (ds.foldl (fun out p => insS p out) acc).Perm (acc ++ ds)
  | [], acc => by simp
  | p :: r, acc => by
    rw [List.foldl_cons]
    refine (sortS_go r (insS p acc)).trans ?_
    exact ((insS_perm p acc).append_right r).trans (List.perm_middle.symm)
theorem sortS_perm (ds : List Pr) : (sortS ds).Perm ds := by simpa [sortS] using sortS_go ds []
theorem sortS_len (ds : List Pr) : (sortS ds).length = ds.length := (sortS_perm ds).length_eq
/-- No name falls. -/
def NameUp (l : List Pr) : Prop := l.Pairwise fun x y => ¬ y.n < x.n
theorem insS_mem (p : Pr) (l : List Pr) (y : Pr) (h : y ∈ insS p l) : y = p ∨ y ∈ l := by
  have := (insS_perm p l).subset h
  simpa using this
theorem insS_up (p : Pr) : ∀ l, NameUp l → NameUp (insS p l)
  | [], _ => by simp [insS, NameUp]
  | q :: r, h => by
    obtain ⟨h1, h2⟩ := List.pairwise_cons.1 h
    unfold insS
    split
    · rename_i hlt
      refine List.pairwise_cons.2 ⟨fun y hy hyp => ?_, h⟩
      rcases List.mem_cons.1 hy with rfl | hy
      · exact bytes_lt_irrefl _ (bytes_lt_trans hyp hlt)
      · exact h1 y hy (bytes_lt_trans hyp hlt)
    · rename_i hlt
      refine List.pairwise_cons.2 ⟨fun y hy => ?_, insS_up p r h2⟩
      rcases insS_mem p r y hy with rfl | hy
      · exact hlt
      · exact h1 y hy
theorem sortS_upgo : ∀ (ds acc : List Pr), NameUp acc → NameUp (ds.foldl (fun out p => insS p out) acc)
  | [], _, h => h
  | p :: r, acc, h => by rw [List.foldl_cons]; exact sortS_upgo r _ (insS_up p acc h)
theorem sortS_up (ds : List Pr) : NameUp (sortS ds) := sortS_upgo ds [] List.Pairwise.nil
/-- Each name once. -/
def Diff (l : List Pr) : Prop := l.Pairwise fun x y => x.n ≠ y.n
theorem Diff.perm {a b : List Pr} (h : Diff a) (p : a.Perm b) : Diff b := (p.pairwise_iff fun h => Ne.symm h).1 h
theorem sortS_diff (ds : List Pr) (h : Diff ds) : sortS ds = sortP ds := by
  refine sorted_unique _ _ ((sortS_perm ds).trans (sortP_perm ds).symm) ?_ (sortP_rising ds)
  have h1 := h.perm (sortS_perm ds).symm
  have h2 := sortS_up ds
  refine List.Pairwise.imp₂ (fun x y (hd : x.n ≠ y.n) (hu : ¬ y.n < x.n) => ?_) h1 h2
  rintro (hl | ⟨hl, _⟩)
  · exact hu hl
  · exact hd hl.symm
theorem chk_diff {l : List Pr} (h : chk l = true) : Diff l :=
  (chkR_rising l none (chk_parts h).2.2).imp fun hlt e => by rw [e] at hlt; exact bytes_lt_irrefl _ hlt
theorem chk_sortS (ds : List Pr) : chk (sortS ds) = chk (sortP ds) := by
  cases h1 : chk (sortS ds)
  · cases h2 : chk (sortP ds)
    · rfl
    · rw [sortS_diff ds ((chk_diff h2).perm (sortP_perm ds)), h2] at h1
      cases h1
  · rw [← sortS_diff ds ((chk_diff h1).perm (sortS_perm ds)), h1]

/-- The loop that puts one more in: is it in, what is laid out. -/
def stepI (p : Pr) (r : Bool × List Pr) (q : Pr) : Bool × List Pr := if r.1 = false ∧ p.n < q.n then (true, r.2 ++ [p, q]) else (r.1, r.2 ++ [q])
def insF (p : Pr) (l : List Pr) : Bool × List Pr := l.foldl (stepI p) (false, [])
theorem insF_snoc (p : Pr) (l : List Pr) (q : Pr) : insF p (l ++ [q]) = stepI p (insF p l) q := by simp [insF, List.foldl_append]
theorem insF_in (p : Pr) : ∀ (l acc : List Pr), l.foldl (stepI p) (true, acc) = (true, acc ++ l)
  | [], acc => by simp
  | q :: r, acc => by rw [List.foldl_cons, stepI, if_neg (by simp), insF_in p r]; simp
theorem insF_go (p : Pr) : ∀ (l acc : List Pr), (if (l.foldl (stepI p) (false, acc)).1 = true then (l.foldl (stepI p) (false, acc)).2 else (l.foldl (stepI p) (false, acc)).2 ++ [p]) = acc ++ insS p l
  | [], acc => by simp [insS]
  | q :: r, acc => by
    rw [List.foldl_cons]
    by_cases h : p.n < q.n
    · have e : stepI p (false, acc) q = (true, acc ++ [p, q]) := by unfold stepI; rw [if_pos ⟨rfl, h⟩]
      rw [e, insF_in p r, insS, if_pos h]; simp
    · have e : stepI p (false, acc) q = (false, acc ++ [q]) := by unfold stepI; rw [if_neg (by simp [h])]
      rw [e, insF_go p r, insS, if_neg h]; simp
theorem insF_is (p : Pr) (l : List Pr) : (if (insF p l).1 = true then (insF p l).2 else (insF p l).2 ++ [p]) = insS p l := by
  have h := insF_go p l []
  rw [List.nil_append] at h
  exact h
theorem insF_len (p : Pr) (l : List Pr) : (insF p l).2.length ≤ l.length + 1 := by
  have h := congrArg List.length (insF_is p l)
  rw [insS_len] at h
  split at h
  · omega
  · rw [List.length_append] at h; omega
end Go.Proofs.YtmgnmppdeiflbaaDoor
