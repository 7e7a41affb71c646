/- Layer 6: Make; a list of pairs has one sorted spelling. -/
import Derived.Test.YtobdlfikomnmcaaDoorML6
namespace Go.Proofs.YtobdlfikomnmcaaDoor
open Go.RowKit Go.Lib

instance (x y : Pr) : Decidable (ltP x y) := by unfold ltP; infer_instance
def Rising (l : List Pr) : Prop := l.Pairwise fun x y => ¬ ltP y x
theorem sorted_unique : ∀ (a b : List Pr), a.Perm b → Rising a → Rising b → a = b
  | [], b, hp, _, _ => (List.Perm.nil_eq hp)
  | x :: a, [], hp, _, _ => absurd hp (by simp)
  | x :: a, y :: b, hp, ha, hb => by
    have hxy : x = y := by
      have h1 := List.pairwise_cons.1 ha
      have h2 := List.pairwise_cons.1 hb
      have m1 : x ∈ y :: b := hp.subset (by simp)
      have m2 : y ∈ x :: a := hp.symm.subset (by simp)
      rcases List.mem_cons.1 m1 with e | m1
      · exact e
      · rcases List.mem_cons.1 m2 with e | m2
        · exact e.symm
        · rcases ltP_tri x y with h | h | h
          · exact absurd h (h2.1 x m1)
          · exact h
          · exact absurd h (h1.1 y m2)
    subst hxy
    rw [sorted_unique a b (List.Perm.cons_inv hp) (List.pairwise_cons.1 ha).2 (List.pairwise_cons.1 hb).2]
/-- Pairs, sorted. -/
def sortP (ds : List Pr) : List Pr := ds.mergeSort fun x y => !decide (ltP y x)
theorem sortP_perm (ds : List Pr) : (sortP ds).Perm ds := List.mergeSort_perm _ _
theorem sortP_rising (ds : List Pr) : Rising (sortP ds) := by
  have := List.pairwise_mergeSort (le := fun x y => !decide (ltP y x)) (fun a b c hab hbc => by
    simp only [Bool.not_eq_true', decide_eq_false_iff_not] at *
    intro h
    rcases ltP_tri b c with k | k | k
    · exact hab (ltP_trans k h)
    · subst k; exact hab h
    · exact hbc k) (fun a b => by
    simp only [Bool.or_eq_true, Bool.not_eq_true', decide_eq_false_iff_not]
    by_cases h : ltP b a
    · exact .inr fun k => ltP_irrefl _ (ltP_trans h k)
    · exact .inl h) ds
  refine this.imp ?_
  intro a b h
  simpa using h
theorem sortP_of {a ds : List Pr} (hp : a.Perm ds) (hr : Rising a) : a = sortP ds :=
  sorted_unique _ _ (hp.trans (sortP_perm ds).symm) hr (sortP_rising ds)

/-- What Make answers. -/
def MadeP (w : World) (ds : List Pr) (e : Ending) (w' : World) : Prop :=
  ∃ v', e = .returned (.tuple #[v', .int .i64 (cE (chk (sortP ds)))]) ∧ Sl w' w.heap.size 2 v' (sortP ds).length (prc (sortP ds)) ∧ Below w.heap.size w w'

set_option maxHeartbeats 1000000 in
set_option maxRecDepth 100000 in
theorem make_any (v : Value) (ds : List Pr) (base : Nat) (w : World) (hs : Sl w base 2 v ds.length (prc ds)) (hm : ds.length ≤ 1000000) :
    Calls Tryd.prog 32 #[v] w (MadeP w ds) := by
  go_enter Tryd.func32, Tryd.ntmps32
  go_wp2_with fail
  refine (clone_any v ds base _ hs hm).mono ?_
  rintro e w1 ⟨v1, rfl, s1, b1⟩
  go_wp2_with fail
  refine (sort_pr v1 ds w.heap.size _ s1 hm).mono ?_
  rintro e w2 ⟨rfl, ds', hp, hr, s2, t2⟩
  have hd := sortP_of hp hr
  subst hd
  rw [← (sortP_perm ds).length_eq] at s2
  have b2 : Below w.heap.size w w2 := b1.trans (t2.below b1.size fun k hk => (s1.lt k hk).1)
  go_wp2_with fail
  refine (check_any v1 (sortP ds) _ (Rd.of_sl s2) (by rw [(sortP_perm ds).length_eq]; exact hm)).mono ?_
  rintro e w3 ⟨rfl, b3⟩
  go_wp2
  go_ret2
  exact ⟨_, rfl, s2.below b3 (fun k hk => (s2.lt k hk).2), b2.trans (b3.mono b2.size)⟩
end Go.Proofs.YtobdlfikomnmcaaDoor
