/- Layer 12: Values, whatever is in the index: the shelf's contracts on slices.Sorted(maps.Keys(m)). Layer 12 in plain words: what the document answers of series that are told. -/
import Derived.Test.YtefhnjepocbodaaGreatDoorMIX7
import Derived.Test.YtefhnjepocbodaaGreatDoorMIY5
namespace Go.Proofs.YtefhnjepocbodaaGreatDoor
open Go.RowKit Go.Lib Go.Maps Go.Sort Go.Shelf
set_option linter.unusedVariables false

/-- The values of a name. -/
def valsH (H : List HEn) (x : List UInt8) : List (List UInt8) := ((lookK HEn.x x H).map fun h => h.vs.map VEn.y).getD []
/-- Texts in rising order, in new memory. -/
def TextsN (w : World) (xs : List (List UInt8)) (e : Ending) (w' : World) : Prop :=
  ∃ (v : Value) (ss : List (List UInt8)), e = .returned v ∧ ss.Perm xs ∧ w'.ownsRow w.heap.size 9 1 v ss.length ((ss.mergeSort (fun x y => decide (x ≤ y))).map Go.Proofs.encStr) ∧ (v = .slice none 0 0 ↔ ss = []) ∧ Below w.heap.size w w'

set_option maxHeartbeats 1000000 in
set_option maxRecDepth 100000 in
theorem values_any (base b mh ml ch cl : Nat) (va : Value) (A : List Int) (H : List HEn) (L : List LEn) (o : Own) (x : List UInt8) (w : World) (h : IxW base b mh ml va A H ch L cl o w) (hx : ∀ a ∈ H, ∀ e ∈ a.vs, e.y.length ≤ maxLen) (hl : ∀ a ∈ H, a.vs.length ≤ 1000000) :
    Calls Tryz.prog 70 #[.pointer (some ⟨b, 0, none⟩), .string (bs x)] w (TextsN w (valsH H x)) := by
  have k1 : w.cell? ⟨b, 1, none⟩ = some (.map (some mh)) := Lib.cell_of_heap h.box 1
  have l1 := lkH mh ch x h.mapH
  rcases e0 : lookK HEn.x x H with _ | k
  · have hv : valsH H x = [] := by unfold valsH; rw [e0]; rfl
    rw [e0] at l1
    simp only [Option.map_none, Option.getD_none] at l1
    rw [hv]
    clear h e0 hv hx hl
    refine (callsIn_wide (n := 6)).1 ?_
    have hfK : Fence.wide.fn 94 := trivial
    have hfS : Fence.wide.fn 93 := trivial
    refine callsIn_of_wp Tryz.func70 rfl trivial ?_ rfl
    simp only [Tryz.ntmps70, List.size_toArray, List.length_cons, List.length_nil, Nat.reduceAdd, Nat.reduceSub, Array.replicate_succ, Array.replicate_zero, List.push_toArray, List.append_toArray, List.nil_append, List.cons_append]
    gi_wp2_with (first
      | (gi_at_call 94; refine (Tryz.maps_Keys_94 _ _).mono ?_; rintro e w' ⟨rfl, rfl⟩)
      | (gi_at_call 93; refine (Tryz.slices_Sorted_keys_nil_93_94 w).mono ?_; rintro e w' ⟨v, ss, rfl, hS, hrow, hnil, hb⟩))
    go_ret
    exact ⟨v, ss, rfl, by rw [hS], ownsRow_base_a hrow (by simp), hnil, ((Below.refl _ w).alloc (Nat.le_refl _) _).trans (hb.mono (by simp))⟩
  · have hk := (lookK_mem HEn.x e0).1
    have K := h.inner k hk
    have hv : valsH H x = k.vs.map VEn.y := by unfold valsH; rw [e0]; rfl
    rw [e0] at l1
    simp only [Option.map_some, Option.getD_some] at l1
    obtain ⟨D, hown, hsz, hpm⟩ := mapIs_owns VEn.y VEn.born VEn.en (fun _ => rfl) (fun _ => rfl) K.2.1 K.2.2.2.2 K.2.2.2.1 (hx k hk) (by have := hl k hk; unfold maxLen; omega)
    have hmax : Maps.size D ≤ maxLen := by rw [hsz]; have := hl k hk; unfold maxLen; omega
    have hbytes : Maps.size D * 16 ≤ 140737488355328 := by have := hl k hk; omega
    have HP := Lib.hid hpm
    rw [hv]
    obtain ⟨n, hn⟩ : ∃ n, n = k.vs.length := ⟨_, rfl⟩
    rw [← hn] at hown
    obtain ⟨mi, hmi⟩ : ∃ mi, mi = k.mi := ⟨_, rfl⟩
    rw [← hmi] at hown l1
    clear h hpm e0 hv hx hl K hk hn hmi
    refine (callsIn_wide (n := 6)).1 ?_
    have hfK : Fence.wide.fn 94 := trivial
    have hfS : Fence.wide.fn 93 := trivial
    refine callsIn_of_wp Tryz.func70 rfl trivial ?_ rfl
    simp only [Tryz.ntmps70, List.size_toArray, List.length_cons, List.length_nil, Nat.reduceAdd, Nat.reduceSub, Array.replicate_succ, Array.replicate_zero, List.push_toArray, List.append_toArray, List.nil_append, List.cons_append]
    gi_wp2_with (first
      | (gi_at_call 94; refine (Tryz.maps_Keys_94 _ _).mono ?_; rintro e w' ⟨rfl, rfl⟩)
      | (gi_at_call 93; refine (Tryz.slices_Sorted_keys_93_94 mi n D _ w hown hmax hbytes).mono ?_; rintro e w' ⟨v, ss, rfl, hS, hrow, hnil, hb⟩))
    go_ret
    exact ⟨v, ss, rfl, hS.trans HP.out, ownsRow_base_a hrow (by simp), hnil, ((Below.refl _ w).alloc (Nat.le_refl _) _).trans (hb.mono (by simp))⟩
end Go.Proofs.YtefhnjepocbodaaGreatDoor

namespace Go.Proofs.YtefhnjepocbodaaGreatDoor
open Go.RowKit Go.Lib
set_option linter.unusedVariables false

/-- Texts, rising, each once. -/
def UpS (l : List (List UInt8)) : Prop := l.Pairwise (· < ·)
theorem upS_unique : ∀ (a b : List (List UInt8)), UpS a → UpS b → (∀ x, x ∈ a ↔ x ∈ b) → a = b
  | [], [], _, _, _ => rfl
  | [], y :: b, _, _, h => by have := (h y).2 (by simp); simp at this
  | x :: a, [], _, _, h => by have := (h x).1 (by simp); simp at this
  | x :: a, y :: b, ha, hb, h => by
    obtain ⟨a1, a2⟩ := List.pairwise_cons.1 ha
    obtain ⟨b1, b2⟩ := List.pairwise_cons.1 hb
    have hxy : x = y := by
      rcases List.mem_cons.1 ((h x).1 (by simp)) with e | m1
      · exact e
      · rcases List.mem_cons.1 ((h y).2 (by simp)) with e | m2
        · exact e.symm
        · exact absurd (bytes_lt_trans (b1 x m1) (a1 y m2)) (bytes_lt_irrefl _)
    subst hxy
    rw [upS_unique a b a2 b2 fun z => ?_]
    constructor
    · intro hz
      rcases List.mem_cons.1 ((h z).1 (by simp [hz])) with e | m
      · have := a1 z hz; rw [e] at this; exact absurd this (bytes_lt_irrefl _)
      · exact m
    · intro hz
      rcases List.mem_cons.1 ((h z).2 (by simp [hz])) with e | m
      · have := b1 z hz; rw [e] at this; exact absurd this (bytes_lt_irrefl _)
      · exact m
/-- With a text, rising. -/
def insT (s : List UInt8) : List (List UInt8) → List (List UInt8)
  | [] => [s]
  | x :: l => if x = s then x :: l else if s < x then s :: x :: l else x :: insT s l
theorem insT_mem (s : List UInt8) : ∀ l y, y ∈ insT s l ↔ y ∈ l ∨ s = y
  | [], y => by simp [insT, eq_comm]
  | x :: l, y => by
    unfold insT
    split
    · rename_i e
      subst e
      simp only [List.mem_cons]
      constructor
      · exact fun h => .inl h
      · rintro (h | rfl)
        · exact h
        · exact .inl rfl
    · split
      · simp only [List.mem_cons]
        constructor
        · rintro (rfl | h)
          · exact .inr rfl
          · exact .inl h
        · rintro (h | rfl)
          · exact .inr h
          · exact .inl rfl
      · rw [List.mem_cons, insT_mem s l y, List.mem_cons]
        constructor
        · rintro (h | h | h) <;> simp [h]
        · rintro ((h | h) | h) <;> simp [h]
theorem insT_up (s : List UInt8) : ∀ l, UpS l → UpS (insT s l)
  | [], _ => List.pairwise_singleton _ _
  | x :: l, h => by
    obtain ⟨h1, h2⟩ := List.pairwise_cons.1 h
    unfold insT
    split
    · exact h
    · rename_i hne
      split
      · rename_i hlt
        refine List.pairwise_cons.2 ⟨fun y hy => ?_, h⟩
        rcases List.mem_cons.1 hy with rfl | hy
        · exact hlt
        · exact bytes_lt_trans hlt (h1 y hy)
      · rename_i hlt
        refine List.pairwise_cons.2 ⟨fun y hy => ?_, insT_up s l h2⟩
        rcases (insT_mem s l y).1 hy with hy | rfl
        · exact h1 y hy
        · rcases bytes_tri x s with e | e | e
          · exact e
          · exact absurd e hne
          · exact absurd e hlt
theorem insT_len (s : List UInt8) : ∀ l, (insT s l).length ≤ l.length + 1
  | [] => Nat.le_refl _
  | x :: l => by
    unfold insT
    split
    · simp
    · split
      · simp
      · have := insT_len s l; simp; omega
/-- As it is written, step by step. -/
def stepT (s : List UInt8) (r : Bool × List (List UInt8)) (x : List UInt8) : Bool × List (List UInt8) :=
  if r.1 = true ∨ x = s then (true, r.2 ++ [x]) else if s < x then (true, r.2 ++ [s] ++ [x]) else (false, r.2 ++ [x])
def txtF (s : List UInt8) (l : List (List UInt8)) : Bool × List (List UInt8) := l.foldl (stepT s) (false, [])
theorem txtF_snoc (s : List UInt8) (l : List (List UInt8)) (x : List UInt8) : txtF s (l ++ [x]) = stepT s (txtF s l) x := by simp [txtF, List.foldl_append]
theorem txtF_in (s : List UInt8) : ∀ (l acc : List (List UInt8)), l.foldl (stepT s) (true, acc) = (true, acc ++ l)
  | [], acc => by simp
  | x :: l, acc => by
    rw [List.foldl_cons]
    have : stepT s (true, acc) x = (true, acc ++ [x]) := by unfold stepT; simp
    rw [this, txtF_in s l]; simp
theorem txtF_go (s : List UInt8) : ∀ (l acc : List (List UInt8)), (if (l.foldl (stepT s) (false, acc)).1 = true then (l.foldl (stepT s) (false, acc)).2 else (l.foldl (stepT s) (false, acc)).2 ++ [s]) = acc ++ insT s l
  | [], acc => by simp [insT]
  | x :: l, acc => by
    rw [List.foldl_cons]
    unfold insT
    by_cases e : x = s
    · have : stepT s (false, acc) x = (true, acc ++ [x]) := by unfold stepT; simp [e]
      rw [this, txtF_in, if_pos rfl, if_pos e]; simp
    · by_cases h : s < x
      · have : stepT s (false, acc) x = (true, acc ++ [s] ++ [x]) := by unfold stepT; simp [e, h]
        rw [this, txtF_in, if_pos rfl, if_neg e, if_pos h]; simp
      · have : stepT s (false, acc) x = (false, acc ++ [x]) := by unfold stepT; simp [e, h]
        rw [this, txtF_go s l, if_neg e, if_neg h]; simp
theorem txtF_is (s : List UInt8) (l : List (List UInt8)) : (if (txtF s l).1 = true then (txtF s l).2 else (txtF s l).2 ++ [s]) = insT s l := by
  have := txtF_go s l []
  rw [List.nil_append] at this
  exact this

/-- Something made of all labels of all series, one by one. -/
def foldB {β : Type} (f : List β → Int → Pr → List β) (n : Int) (ps : List Pr) (a : List β) : List β := ps.foldl (fun a p => f a n p) a
def foldD {β : Type} (f : List β → Int → Pr → List β) (T : List Sr) : List β := T.foldl (fun a s => foldB f s.n s.ps a) []
theorem foldD_snoc {β : Type} (f : List β → Int → Pr → List β) (T : List Sr) (s : Sr) : foldD f (T ++ [s]) = foldB f s.n s.ps (foldD f T) := by simp [foldD, List.foldl_append]
theorem foldB_snoc {β : Type} (f : List β → Int → Pr → List β) (n : Int) (ps : List Pr) (p : Pr) (a : List β) : foldB f n (ps ++ [p]) a = f (foldB f n ps a) n p := by simp [foldB, List.foldl_append]
theorem foldB_spec {β : Type} (f : List β → Int → Pr → List β) (I : List β → Prop) (Q : Int → Pr → β → Prop) (h1 : ∀ a n p, I a → I (f a n p) ∧ ∀ m, m ∈ f a n p ↔ m ∈ a ∨ Q n p m) (n : Int) :
    ∀ (ps : List Pr) (a : List β), I a → I (foldB f n ps a) ∧ ∀ m, m ∈ foldB f n ps a ↔ m ∈ a ∨ ∃ p ∈ ps, Q n p m
  | [], a, h => ⟨h, fun m => by simp [foldB]⟩
  | p :: ps, a, h => by
    obtain ⟨i1, m1⟩ := h1 a n p h
    obtain ⟨i2, m2⟩ := foldB_spec f I Q h1 n ps (f a n p) i1
    refine ⟨i2, fun m => ?_⟩
    show m ∈ foldB f n ps (f a n p) ↔ _
    rw [m2, m1]
    simp only [List.mem_cons, exists_eq_or_imp]
    exact or_assoc
theorem foldD_spec {β : Type} (f : List β → Int → Pr → List β) (I : List β → Prop) (Q : Int → Pr → β → Prop) (h0 : I []) (h1 : ∀ a n p, I a → I (f a n p) ∧ ∀ m, m ∈ f a n p ↔ m ∈ a ∨ Q n p m) (T : List Sr) :
    I (foldD f T) ∧ ∀ m, m ∈ foldD f T ↔ ∃ s ∈ T, ∃ p ∈ s.ps, Q s.n p m := by
  have go : ∀ (T : List Sr) (a : List β), I a → I (T.foldl (fun a s => foldB f s.n s.ps a) a) ∧ ∀ m, m ∈ T.foldl (fun a s => foldB f s.n s.ps a) a ↔ m ∈ a ∨ ∃ s ∈ T, ∃ p ∈ s.ps, Q s.n p m := by
    intro T
    induction T with
    | nil => exact fun a h => ⟨h, fun m => by simp⟩
    | cons s T ih =>
      intro a h
      obtain ⟨i1, m1⟩ := foldB_spec f I Q h1 s.n s.ps a h
      obtain ⟨i2, m2⟩ := ih _ i1
      refine ⟨i2, fun m => ?_⟩
      rw [List.foldl_cons, m2, m1]
      simp only [List.mem_cons, exists_eq_or_imp]
      exact or_assoc
  obtain ⟨i1, m1⟩ := go T [] h0
  refine ⟨i1, fun m => ?_⟩
  have := m1 m
  simp only [List.not_mem_nil, false_or] at this
  exact this
theorem foldB_len {β : Type} (f : List β → Int → Pr → List β) (h : ∀ a n p, (f a n p).length ≤ a.length + 1) (n : Int) : ∀ (ps : List Pr) (a : List β), (foldB f n ps a).length ≤ a.length + ps.length
  | [], a => by simp [foldB]
  | p :: ps, a => by
    have h1 := foldB_len f h n ps (f a n p)
    have h2 := h a n p
    show (foldB f n ps (f a n p)).length ≤ _
    rw [List.length_cons]; omega
theorem foldD_len {β : Type} (f : List β → Int → Pr → List β) (h : ∀ a n p, (f a n p).length ≤ a.length + 1) (T : List Sr) (hT : ∀ s ∈ T, s.ps.length ≤ 10) : (foldD f T).length ≤ 10 * T.length := by
  have go : ∀ (T : List Sr) (a : List β), (∀ s ∈ T, s.ps.length ≤ 10) → (T.foldl (fun a s => foldB f s.n s.ps a) a).length ≤ a.length + 10 * T.length := by
    intro T
    induction T with
    | nil => exact fun a _ => by simp
    | cons s T ih =>
      intro a hs
      have h1 := ih (foldB f s.n s.ps a) (fun s' h' => hs s' (by simp [h']))
      have h2 := foldB_len f h s.n s.ps a
      have h3 := hs s (by simp)
      rw [List.foldl_cons, List.length_cons]; omega
  have := go T [] hT
  rw [List.length_nil, Nat.zero_add] at this
  exact this

def fG (x y : List UInt8) (a : List Int) (n : Int) (p : Pr) : List Int := if p.n = x ∧ p.v = y then putZ a n else a
def fV (x : List UInt8) (a : List (List UInt8)) (_ : Int) (p : Pr) : List (List UInt8) := if p.n = x then insT p.v a else a
def fN (a : List (List UInt8)) (_ : Int) (p : Pr) : List (List UInt8) := insT p.n a
theorem fG_len (x y : List UInt8) (a : List Int) (n : Int) (p : Pr) : (fG x y a n p).length ≤ a.length + 1 := by unfold fG; split; exact putZ_len _ _; omega
theorem fV_len (x : List UInt8) (a : List (List UInt8)) (n : Int) (p : Pr) : (fV x a n p).length ≤ a.length + 1 := by unfold fV; split; exact insT_len _ _; omega
theorem fN_len (a : List (List UInt8)) (n : Int) (p : Pr) : (fN a n p).length ≤ a.length + 1 := insT_len _ _
theorem fG_spec (x y : List UInt8) (T : List Sr) : Up (foldD (fG x y) T) ∧ ∀ m, m ∈ foldD (fG x y) T ↔ ∃ s ∈ T, s.n = m ∧ (⟨x, y⟩ : Pr) ∈ s.ps := by
  obtain ⟨h1, h2⟩ := foldD_spec (fG x y) Up (fun n p m => (p.n = x ∧ p.v = y) ∧ n = m) up_nil (fun a n p h => by
    unfold fG
    split
    · rename_i e
      exact ⟨putZ_up _ _ h, fun m => by rw [putZ_mem]; constructor
                                        · rintro (h | h)
                                          · exact .inr ⟨e, h.symm⟩
                                          · exact .inl h
                                        · rintro (h | h)
                                          · exact .inr h
                                          · exact .inl h.2.symm⟩
    · rename_i e
      exact ⟨h, fun m => ⟨.inl, fun h => h.elim id fun h => absurd h.1 e⟩⟩) T
  refine ⟨h1, fun m => ?_⟩
  rw [h2]
  constructor
  · rintro ⟨s, hs, p, hp, ⟨rfl, rfl⟩, rfl⟩
    exact ⟨s, hs, rfl, hp⟩
  · rintro ⟨s, hs, rfl, hp⟩
    exact ⟨s, hs, _, hp, ⟨rfl, rfl⟩, rfl⟩
theorem fV_spec (x : List UInt8) (T : List Sr) : UpS (foldD (fV x) T) ∧ ∀ y, y ∈ foldD (fV x) T ↔ ∃ s ∈ T, (⟨x, y⟩ : Pr) ∈ s.ps := by
  obtain ⟨h1, h2⟩ := foldD_spec (fV x) UpS (fun n p m => p.n = x ∧ p.v = m) List.Pairwise.nil (fun a n p h => by
    unfold fV
    split
    · rename_i e
      exact ⟨insT_up _ _ h, fun m => by rw [insT_mem]; simp [e]⟩
    · rename_i e
      exact ⟨h, fun m => by simp [e]⟩) T
  refine ⟨h1, fun m => ?_⟩
  rw [h2]
  constructor
  · rintro ⟨s, hs, p, hp, rfl, rfl⟩
    exact ⟨s, hs, hp⟩
  · rintro ⟨s, hs, hp⟩
    exact ⟨s, hs, _, hp, rfl, rfl⟩
theorem fN_spec (T : List Sr) : UpS (foldD fN T) ∧ ∀ x, x ∈ foldD fN T ↔ ∃ s ∈ T, ∃ y, (⟨x, y⟩ : Pr) ∈ s.ps := by
  obtain ⟨h1, h2⟩ := foldD_spec fN UpS (fun n p m => p.n = m) List.Pairwise.nil (fun a n p h => by
    unfold fN
    exact ⟨insT_up _ _ h, fun m => by rw [insT_mem]⟩) T
  refine ⟨h1, fun m => ?_⟩
  rw [h2]
  constructor
  · rintro ⟨s, hs, p, hp, rfl⟩
    exact ⟨s, hs, p.v, hp⟩
  · rintro ⟨s, hs, y, hp⟩
    exact ⟨s, hs, _, hp, rfl⟩

section
variable {T : List Sr} {A : List Int} {H : List HEn} {L : List LEn}
theorem Grown.get_is (g : Grown T A H L) (x y : List UInt8) : getH H x y = foldD (fG x y) T :=
  up_unique _ _ (g.get x y) (fG_spec x y T).1 fun m => by rw [g.gmem, (fG_spec x y T).2]
theorem mem_valsH (F : Full H) (hk : (H.map HEn.x).Nodup) (hv : ∀ h ∈ H, (h.vs.map VEn.y).Nodup) (x y : List UInt8) : y ∈ valsH H x ↔ getH H x y ≠ [] := by
  unfold valsH getH
  cases e : lookK HEn.x x H with
  | none => simp
  | some k =>
    have hm := (lookK_mem HEn.x e).1
    simp only [Option.map_some, Option.getD_some, List.mem_map]
    unfold getV
    constructor
    · rintro ⟨v, h1, rfl⟩
      rw [lookK_of_mem VEn.y (hv k hm) h1]
      exact (F k hm).2 v h1
    · intro h
      cases e2 : lookK VEn.y y k.vs with
      | none => rw [e2] at h; exact absurd rfl h
      | some v => exact ⟨v, (lookK_mem VEn.y e2).1, (lookK_mem VEn.y e2).2⟩
theorem mem_namesH (F : Full H) (hk : (H.map HEn.x).Nodup) (hv : ∀ h ∈ H, (h.vs.map VEn.y).Nodup) (x : List UInt8) : x ∈ H.map HEn.x ↔ ∃ y, getH H x y ≠ [] := by
  constructor
  · intro h
    obtain ⟨k, hm, rfl⟩ := List.mem_map.1 h
    obtain ⟨h1, h2⟩ := F k hm
    obtain ⟨v, vs, e⟩ := List.exists_cons_of_ne_nil h1
    have hv1 : v ∈ k.vs := by rw [e]; simp
    refine ⟨v.y, (mem_valsH F hk hv k.x v.y).1 ?_⟩
    unfold valsH
    rw [lookK_of_mem HEn.x hk hm]
    exact List.mem_map_of_mem hv1
  · rintro ⟨y, h⟩
    unfold getH at h
    cases e : lookK HEn.x x H with
    | none => rw [e] at h; exact absurd rfl h
    | some k => exact List.mem_map.2 ⟨k, (lookK_mem HEn.x e).1, (lookK_mem HEn.x e).2⟩
theorem Grown.some (g : Grown T A H L) (x y : List UInt8) : getH H x y ≠ [] ↔ ∃ s ∈ T, (⟨x, y⟩ : Pr) ∈ s.ps := by
  constructor
  · intro h
    obtain ⟨m, l, e⟩ := List.exists_cons_of_ne_nil h
    obtain ⟨s, hs, _, hp⟩ := (g.gmem x y m).1 (by rw [e]; simp)
    exact ⟨s, hs, hp⟩
  · rintro ⟨s, hs, hp⟩ e
    have := (g.gmem x y s.n).2 ⟨s, hs, rfl, hp⟩
    rw [e] at this; cases this
/-- Texts in rising order, each once. -/
theorem sorted_is {ss xs l : List (List UInt8)} (hp : ss.Perm xs) (hn : xs.Nodup) (hl : UpS l) (hm : ∀ y, y ∈ xs ↔ y ∈ l) : ss.mergeSort (fun x y => decide (x ≤ y)) = l := by
  have hperm := List.mergeSort_perm ss (fun x y => decide (x ≤ y))
  have hnd : (ss.mergeSort (fun x y => decide (x ≤ y))).Nodup := (hperm.trans hp).nodup_iff.2 hn
  have hpw : (ss.mergeSort (fun x y => decide (x ≤ y))).Pairwise (fun x y => decide (x ≤ y) = true) := List.pairwise_mergeSort (fun a b c h1 h2 => by
      simp only [decide_eq_true_eq] at h1 h2 ⊢
      exact List.le_trans h1 h2) (fun a b => by
      simp only [Bool.or_eq_true, decide_eq_true_eq]
      exact List.le_total a b) ss
  refine upS_unique _ _ ?_ hl fun y => by rw [(hperm.trans hp).mem_iff, hm]
  have := List.Pairwise.and hpw hnd
  refine List.Pairwise.imp (fun {x y} h => ?_) this
  obtain ⟨h1, h2⟩ := h
  rw [decide_eq_true_eq] at h1
  rcases bytes_tri x y with e | e | e
  · exact e
  · exact absurd e h2
  · exact absurd e h1
end
end Go.Proofs.YtefhnjepocbodaaGreatDoor
