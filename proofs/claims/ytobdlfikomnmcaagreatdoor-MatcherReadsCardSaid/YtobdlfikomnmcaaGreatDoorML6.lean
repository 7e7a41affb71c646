/- Layer 6: slices cloned; Make. Layer 6: Make; a list of pairs has one sorted spelling. -/
import Derived.Test.YtobdlfikomnmcaaGreatDoorML5
import Derived.Test.YtobdlfikomnmcaaGreatDoorMSl3
namespace Go.Proofs.YtobdlfikomnmcaaGreatDoor
open Go.RowKit Go.Lib

theorem zc_pair : (Tryz.prog.info? 65).map (fun i => (i.zero, i.size, i.bytes)) = some (some (.agg #[.string ⟨#[]⟩, .string ⟨#[]⟩]), 2, 32) := by kernel_rfl
theorem prc_one (ds : List Pr) : ∀ u ∈ prc ds, u.oneCell' = true := by
  intro u hu
  simp only [prc, List.mem_flatMap, encP, List.mem_cons, List.mem_nil_iff, or_false] at hu
  obtain ⟨x, _, rfl | rfl⟩ := hu <;> rfl

/-- A slice of pairs, laid anew. -/
def NewP (w : World) (ds : List Pr) (e : Ending) (w' : World) : Prop := ∃ v', e = .returned v' ∧ Sl w' w.heap.size 2 v' ds.length (prc ds) ∧ Below w.heap.size w w'

theorem run_isnil (a : Option Addr) (n c : Nat) (w : World) : (binOp BinOp.eql 49 (.slice a n c) (.slice none 0 0)).run Tryz.prog w = .ok (.bool a.isNone) w := by
  have hu := run_underlying Tryz.underlying49
  have he : (Op.equal 49 (.slice a n c) (.slice none 0 0)).run Tryz.prog w = .ok a.isNone w := by
    show (Op.equalIn (9999 + 1) _ _ _).run _ _ = _
    unfold Op.equalIn
    simp only [Sem.run_bind, hu, Result.andThen]
    cases a <;> rfl
  simp [binOp, go_sem, he]

set_option maxHeartbeats 1000000 in
set_option maxRecDepth 100000 in
theorem clone_any (v : Value) (ds : List Pr) (base : Nat) (w : World) (hs : Sl w base 2 v ds.length (prc ds)) (hm : ds.length ≤ 1000000) :
    Calls Tryz.prog 51 #[v] w (NewP w ds) := by
  obtain ⟨i0, hi, hz0, hz1, hz2⟩ := info_parts zc_pair
  have Hz := Lib.hid hz0; have Hs := Lib.hid hz1; have Hb := Lib.hid hz2; have Hi := Lib.hid hi
  clear hz0 hz1 hz2 hi
  rcases hs.2 with ⟨rfl, h0⟩ | ⟨g, off, cap, rfl, _⟩
  · have hn := Lib.hid (List.eq_nil_of_length_eq_zero h0)
    clear hs h0
    have hq := fun W => run_isnil none 0 0 W
    go_enter Tryz.func51, Tryz.ntmps51
    go_wp2
    go_ret
    exact ⟨_, rfl, by rw [hn.out]; exact Sl.nil _ _ _, Below.refl _ _⟩
  · obtain ⟨n, hn⟩ : ∃ n, n = ds.length := ⟨_, rfl⟩
    rw [← hn] at hs
    have HN := Lib.hid hn
    have n1 : 0 + n ≤ maxLen := by unfold maxLen; omega
    have n2 : (0 + n) * 32 ≤ 140737488355328 := by omega
    rw [← hn] at hm ⊢
    clear hn
    have hq := fun W => run_isnil (some ⟨g, off, none⟩) n cap W
    go_enter Tryz.func51, Tryz.ntmps51
    go_wp2_with (at_builtin; refine wpList_append_sl2 _ rfl _ _ 49 rfl w.heap.size 65 i0 (.agg #[.string ⟨#[]⟩, .string ⟨#[]⟩]) 2 32 Tryz.underlying49 Hi.out Hz.out Hs.out Hb.out rfl (by decide) _ 0 _ rfl (Sl.lit w w.heap.size 2 0 #[] _ (Nat.le_refl _) (by decide) rfl) base _ n _ rfl (hs.alloc _) (prc_one _) n1 n2 (by simp) ?_; intro v' w1 hx)
    go_ret
    have hx1 := hx.now
    rw [Nat.zero_add] at hx1
    refine ⟨_, rfl, by rw [← HN.out]; exact hx1, ?_⟩
    exact ((Below.refl _ w).alloc (Nat.le_refl _) _).grown hx.grown (by simp) (fun k e => by have e2 : w.heap.size = k := Option.some.inj e; omega)
end Go.Proofs.YtobdlfikomnmcaaGreatDoor

namespace Go.Proofs.YtobdlfikomnmcaaGreatDoor
open Go.RowKit Go.Lib

instance (x y : Pr) : Decidable (ltP x y) := by unfold ltP; infer_instance
def Rising (l : List Pr) : Prop := l.Pairwise fun x y => ¬ ltP y x
theorem sorted_unique : ∀ (a b : List Pr), a.Perm b → Rising a → Rising b → a = b
  | [], b, hp, _, _ => (List.Perm.nil_eq hp)
  | x :: a, [], hp, _, _ => absurd hp (by simp)
  | x :: a, y :: b, hp, ha, hb => by
    have hxy : x = y := by
      have h1 := List.pairwise_cons.1 ha
      have h2 := List.pairwise_cons.1 hb
      have m1 : x ∈ y :: b := hp.subset (by simp)
      have m2 : y ∈ x :: a := hp.symm.subset (by simp)
      rcases List.mem_cons.1 m1 with e | m1
      · exact e
      · rcases List.mem_cons.1 m2 with e | m2
        · exact e.symm
        · rcases ltP_tri x y with h | h | h
          · exact absurd h (h2.1 x m1)
          · exact h
          · exact absurd h (h1.1 y m2)
    subst hxy
    rw [sorted_unique a b (List.Perm.cons_inv hp) (List.pairwise_cons.1 ha).2 (List.pairwise_cons.1 hb).2]
/-- Pairs, sorted. -/
def sortP (ds : List Pr) : List Pr := ds.mergeSort fun x y => !decide (ltP y x)
theorem sortP_perm (ds : List Pr) : (sortP ds).Perm ds := List.mergeSort_perm _ _
theorem sortP_rising (ds : List Pr) : Rising (sortP ds) := by
  have := List.pairwise_mergeSort (le := fun x y => !decide (ltP y x)) (fun a b c hab hbc => by
    simp only [Bool.not_eq_true', decide_eq_false_iff_not] at *
    intro h
    rcases ltP_tri b c with k | k | k
    · exact hab (ltP_trans k h)
    · subst k; exact hab h
    · exact hbc k) (fun a b => by
    simp only [Bool.or_eq_true, Bool.not_eq_true', decide_eq_false_iff_not]
    by_cases h : ltP b a
    · exact .inr fun k => ltP_irrefl _ (ltP_trans h k)
    · exact .inl h) ds
  refine this.imp ?_
  intro a b h
  simpa using h
theorem sortP_of {a ds : List Pr} (hp : a.Perm ds) (hr : Rising a) : a = sortP ds :=
  sorted_unique _ _ (hp.trans (sortP_perm ds).symm) hr (sortP_rising ds)

/-- What Make answers. -/
def MadeP (w : World) (ds : List Pr) (e : Ending) (w' : World) : Prop :=
  ∃ v', e = .returned (.tuple #[v', .int .i64 (cE (chk (sortP ds)))]) ∧ Sl w' w.heap.size 2 v' (sortP ds).length (prc (sortP ds)) ∧ Below w.heap.size w w'

set_option maxHeartbeats 1000000 in
set_option maxRecDepth 100000 in
theorem make_any (v : Value) (ds : List Pr) (base : Nat) (w : World) (hs : Sl w base 2 v ds.length (prc ds)) (hm : ds.length ≤ 1000000) :
    Calls Tryz.prog 31 #[v] w (MadeP w ds) := by
  go_enter Tryz.func31, Tryz.ntmps31
  go_wp2_with fail
  refine (clone_any v ds base _ hs hm).mono ?_
  rintro e w1 ⟨v1, rfl, s1, b1⟩
  go_wp2_with fail
  refine (sort_pr v1 ds w.heap.size _ s1 hm).mono ?_
  rintro e w2 ⟨rfl, ds', hp, hr, s2, t2⟩
  have hd := sortP_of hp hr
  subst hd
  rw [← (sortP_perm ds).length_eq] at s2
  have b2 : Below w.heap.size w w2 := b1.trans (t2.below b1.size fun k hk => (s1.lt k hk).1)
  go_wp2_with fail
  refine (check_any v1 (sortP ds) _ (Rd.of_sl s2) (by rw [(sortP_perm ds).length_eq]; exact hm)).mono ?_
  rintro e w3 ⟨rfl, b3⟩
  go_wp2
  go_ret2
  exact ⟨_, rfl, s2.below b3 (fun k hk => (s2.lt k hk).2), b2.trans (b3.mono b2.size)⟩
end Go.Proofs.YtobdlfikomnmcaaGreatDoor
