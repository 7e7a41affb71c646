/- Layer 12: the statement PostingLaws, walked. -/
import Derived.Test.YtjmpmaonebbgaaaDoorTD
import Derived.Test.YtjmpmaonebbgaaaDoorTH
namespace Go.Proofs.YtjmpmaonebbgaaaDoor
open Go.RowKit Go.Lib

theorem whole_is (a b : List Int) (ha : Up a) (hb : Up b) : anyZ [bothP [a, b], pickZ a b false] = a := by
  refine up_unique _ _ (anyZ_up _) ha fun y => ?_
  rw [anyZ_mem, both_same _ (by simp [ha, hb])]
  simp only [List.mem_cons, List.not_mem_nil, or_false, exists_eq_or_imp, exists_eq_left, bothZ_mem, pickZ_mem, forall_eq_or_imp, forall_eq, decide_eq_false_iff_not]
  constructor
  · rintro (h | h)
    · exact h.2.1
    · exact h.1
  · intro h
    by_cases hy : y ∈ b
    · exact .inl ⟨.inl h, h, hy⟩
    · exact .inr ⟨h, hy⟩
theorem both_turn (a b c : List Int) (ha : Up a) (hb : Up b) (hc : Up c) : bothP [a, b, c] = bothP [c, a, b] := by
  rw [both_same _ (by simp [ha, hb, hc]), both_same _ (by simp [ha, hb, hc])]
  refine up_unique _ _ (bothZ_up _) (bothZ_up _) fun y => ?_
  simp only [bothZ_mem, List.mem_cons, List.not_mem_nil, or_false, exists_eq_or_imp, exists_eq_left, forall_eq_or_imp, forall_eq]
  constructor
  · rintro ⟨_, h1, h2, h3⟩; exact ⟨.inl h3, h3, h1, h2⟩
  · rintro ⟨_, h1, h2, h3⟩; exact ⟨.inl h2, h2, h3, h1⟩
theorem any_turn (a b c : List Int) : anyZ [a, b, c] = anyZ [anyZ [b, c], a] := by
  refine up_unique _ _ (anyZ_up _) (anyZ_up _) fun y => ?_
  simp only [anyZ_mem, List.mem_cons, List.not_mem_nil, or_false, exists_eq_or_imp, exists_eq_left]
  constructor
  · rintro (h | h | h)
    · exact .inr h
    · exact .inl (.inl h)
    · exact .inl (.inr h)
  · rintro ((h | h) | h)
    · exact .inr (.inl h)
    · exact .inr (.inr h)
    · exact .inl h
theorem both_none (a b : List Int) (ha : Up a) (hb : Up b) : bothP [a, pickZ b a false] = [] := by
  rw [both_same _ (by simp [ha, pickZ_up a false hb])]
  refine List.eq_nil_iff_forall_not_mem.2 fun y hy => ?_
  simp only [bothZ_mem, List.mem_cons, List.not_mem_nil, or_false, exists_eq_or_imp, exists_eq_left, forall_eq_or_imp, forall_eq, pickZ_mem, decide_eq_false_iff_not] at hy
  exact hy.2.2.2 hy.2.1
theorem anyZ_len (ls : List (List Int)) : (anyZ ls).length ≤ ls.flatten.length := by
  have := foldP_len ls.flatten []
  unfold anyZ
  simpa using this
theorem bothP_len (l : List Int) (ls : List (List Int)) : (bothP (l :: ls)).length ≤ l.length := accZ_len ls l
theorem pickZ_len (l o : List Int) (b : Bool) : (pickZ l o b).length ≤ l.length := List.length_filter_le _ _

/-- The answer of a call whose list was laid out just ahead of it: a list in new memory. -/
def NewL (W : World) (R : List Int) (e : Ending) (w' : World) : Prop := ∃ a c, e = .returned (.slice a R.length c) ∧ Nc w' (.slice a R.length c) R ∧ Below W.heap.size W w'
theorem newL_of {W V : World} {R : List Int} {e : Ending} {w' : World} (h : NewN V R e w') (hb : Below W.heap.size W V) (hr : R.length ≤ 100000) : NewL W R e w' := by
  obtain ⟨v, rfl, s, b⟩ := h
  obtain ⟨a, c, rfl⟩ := s.slice
  exact ⟨a, c, rfl, Nc.of_sl s hr, hb.trans (b.mono hb.size)⟩
theorem ncs_two (W : World) (v0 v1 : Value) (l0 l1 : List Int) (h0 : Nc W v0 l0) (h1 : Nc W v1 l1) : Ncs (W.alloc (.cells #[v0, v1] 29)) (.slice (some ⟨W.heap.size, 0, none⟩) 2 2) [l0, l1] := by
  have l3 := Sl.lit W 0 1 2 #[v0, v1] 29 (Nat.zero_le _) (by decide) rfl
  have hb : Below W.heap.size W (W.alloc (.cells #[v0, v1] 29)) := (Below.refl _ _).alloc (Nat.le_refl _) _
  refine ⟨by simp, _, 2, W.heap.size, 0, rfl, by simp, fun _ => ⟨rfl, by simp⟩, fun j l hl => ?_⟩
  match j, hl with
  | 0, hl => cases hl; exact ⟨_, l3.cells 0 _ rfl, h0.on hb⟩
  | 1, hl => cases hl; exact ⟨_, l3.cells 1 _ rfl, h1.on hb⟩
theorem ncs_three (W : World) (v0 v1 v2 : Value) (l0 l1 l2 : List Int) (h0 : Nc W v0 l0) (h1 : Nc W v1 l1) (h2 : Nc W v2 l2) : Ncs (W.alloc (.cells #[v0, v1, v2] 29)) (.slice (some ⟨W.heap.size, 0, none⟩) 3 3) [l0, l1, l2] := by
  have l3 := Sl.lit W 0 1 3 #[v0, v1, v2] 29 (Nat.zero_le _) (by decide) rfl
  have hb : Below W.heap.size W (W.alloc (.cells #[v0, v1, v2] 29)) := (Below.refl _ _).alloc (Nat.le_refl _) _
  refine ⟨by simp, _, 3, W.heap.size, 0, rfl, by simp, fun _ => ⟨rfl, by simp⟩, fun j l hl => ?_⟩
  match j, hl with
  | 0, hl => cases hl; exact ⟨_, l3.cells 0 _ rfl, h0.on hb⟩
  | 1, hl => cases hl; exact ⟨_, l3.cells 1 _ rfl, h1.on hb⟩
  | 2, hl => cases hl; exact ⟨_, l3.cells 2 _ rfl, h2.on hb⟩
theorem ncs_none (W : World) : Ncs W (.slice none 0 0) [] := ⟨by simp, none, 0, 0, 0, rfl, Nat.le_refl _, fun h => absurd h (by simp), fun j l hl => by simp at hl⟩

theorem both2 (W : World) (v0 v1 : Value) (l0 l1 R : List Int) (h0 : Nc W v0 l0) (h1 : Nc W v1 l1) (u0 : Up l0) (u1 : Up l1) (hR : bothP [l0, l1] = R) :
    Calls Tryd.prog 9 #[.slice (some ⟨W.heap.size, 0, none⟩) 2 2] (W.alloc (.cells #[v0, v1] 29)) (NewL W R) := by
  subst hR
  exact (both_any _ _ _ (ncs_two W v0 v1 l0 l1 h0 h1) (by simp [u0, u1])).mono fun e w' h => newL_of h ((Below.refl _ _).alloc (Nat.le_refl _) _) (Nat.le_trans (bothP_len _ _) h0.1)
theorem both3 (W : World) (v0 v1 v2 : Value) (l0 l1 l2 R : List Int) (h0 : Nc W v0 l0) (h1 : Nc W v1 l1) (h2 : Nc W v2 l2) (u0 : Up l0) (u1 : Up l1) (u2 : Up l2) (hR : bothP [l0, l1, l2] = R) :
    Calls Tryd.prog 9 #[.slice (some ⟨W.heap.size, 0, none⟩) 3 3] (W.alloc (.cells #[v0, v1, v2] 29)) (NewL W R) := by
  subst hR
  exact (both_any _ _ _ (ncs_three W v0 v1 v2 l0 l1 l2 h0 h1 h2) (by simp [u0, u1, u2])).mono fun e w' h => newL_of h ((Below.refl _ _).alloc (Nat.le_refl _) _) (Nat.le_trans (bothP_len _ _) h0.1)
theorem any2 (W : World) (v0 v1 : Value) (l0 l1 R : List Int) (h0 : Nc W v0 l0) (h1 : Nc W v1 l1) (hl : l0.length + l1.length ≤ 1000) (hR : anyZ [l0, l1] = R) :
    Calls Tryd.prog 11 #[.slice (some ⟨W.heap.size, 0, none⟩) 2 2] (W.alloc (.cells #[v0, v1] 29)) (NewL W R) := by
  subst hR
  have hf : [l0, l1].flatten.length ≤ 1000 := by simp; omega
  exact (any_any _ _ _ (ncs_two W v0 v1 l0 l1 h0 h1) (by omega)).mono fun e w' h => newL_of h ((Below.refl _ _).alloc (Nat.le_refl _) _) (by have := anyZ_len [l0, l1]; omega)
theorem any3 (W : World) (v0 v1 v2 : Value) (l0 l1 l2 R : List Int) (h0 : Nc W v0 l0) (h1 : Nc W v1 l1) (h2 : Nc W v2 l2) (hl : l0.length + l1.length + l2.length ≤ 1000) (hR : anyZ [l0, l1, l2] = R) :
    Calls Tryd.prog 11 #[.slice (some ⟨W.heap.size, 0, none⟩) 3 3] (W.alloc (.cells #[v0, v1, v2] 29)) (NewL W R) := by
  subst hR
  have hf : [l0, l1, l2].flatten.length ≤ 1000 := by simp; omega
  exact (any_any _ _ _ (ncs_three W v0 v1 v2 l0 l1 l2 h0 h1 h2) (by omega)).mono fun e w' h => newL_of h ((Below.refl _ _).alloc (Nat.le_refl _) _) (by have := anyZ_len [l0, l1, l2]; omega)
theorem less2 (W : World) (v0 v1 : Value) (l0 l1 R : List Int) (h0 : Nc W v0 l0) (h1 : Nc W v1 l1) (u0 : Up l0) (u1 : Up l1) (hR : pickZ l0 l1 false = R) :
    Calls Tryd.prog 13 #[v0, v1] W (NewL W R) := by
  subst hR
  exact (less_any v0 v1 l0 l1 W h0 h1 u0 u1).mono fun e w' h => newL_of h (Below.refl _ _) (Nat.le_trans (pickZ_len _ _ _) h0.1)
theorem same2 (W : World) (v0 v1 : Value) (l : List Int) (h0 : Nc W v0 l) (h1 : Nc W v1 l) : Calls Tryd.prog 8 #[v0, v1] W fun e w' => e = .returned (.int .i64 0) ∧ Below W.heap.size W w' :=
  same12_any v0 v1 l W h0.ns h1.ns
theorem both0 (W : World) : Calls Tryd.prog 9 #[.slice none 0 0] W fun e w' => ∃ a c, e = .returned (.slice a 0 c) ∧ Below W.heap.size W w' :=
  (both_any _ _ _ (ncs_none W) (by simp)).mono fun e w' ⟨v, he, s, b⟩ => by
    obtain ⟨a, c, rfl⟩ := s.slice
    exact ⟨a, c, he, b⟩
theorem any0 (W : World) : Calls Tryd.prog 11 #[.slice none 0 0] W fun e w' => ∃ a c, e = .returned (.slice a 0 c) ∧ Below W.heap.size W w' :=
  (any_any _ _ _ (ncs_none W) (by simp)).mono fun e w' ⟨v, he, s, b⟩ => by
    obtain ⟨a, c, rfl⟩ := s.slice
    exact ⟨a, c, he, b⟩
end Go.Proofs.YtjmpmaonebbgaaaDoor
