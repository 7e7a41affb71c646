/- Layer 12 in plain words: the values of a name part the series that have it; numbers that are counted in a map. -/
import Derived.Test.YtefhnjepocbodaaGreatDoorMIYC
import Derived.Maps.RangeRun
namespace Go.Proofs.YtefhnjepocbodaaGreatDoor
open Go.RowKit Go.Lib
set_option linter.unusedVariables false

theorem nodup_len {α : Type} [DecidableEq α] : ∀ (a b : List α), a.Nodup → (∀ x ∈ a, x ∈ b) → a.length ≤ b.length
  | [], b, _, _ => Nat.zero_le _
  | x :: a, b, hn, hs => by
    obtain ⟨h1, h2⟩ := List.nodup_cons.1 hn
    have hx : x ∈ b := hs x (by simp)
    have h3 := nodup_len a (b.erase x) h2 fun y hy => by
      have hne : y ≠ x := fun e => h1 (e ▸ hy)
      exact (List.mem_erase_of_ne hne).2 (hs y (by simp [hy]))
    rw [List.length_erase_of_mem hx] at h3
    have : 0 < b.length := List.length_pos_of_mem hx
    rw [List.length_cons]; omega
/-- The numbers of all values of a name, one value's behind the other's. -/
def partsU (T : List Sr) (x : List UInt8) (V : List (List UInt8)) : List Int := (V.map fun y => foldD (fG x y) T).flatten
def cntP (x : List UInt8) (ps : List Pr) : Nat := (ps.filter fun p => decide (p.n = x)).length
def cntT (x : List UInt8) (T : List Sr) : Nat := T.foldl (fun c s => c + cntP x s.ps) 0
theorem cntT_snoc (x : List UInt8) (T : List Sr) (s : Sr) : cntT x (T ++ [s]) = cntT x T + cntP x s.ps := by simp [cntT, List.foldl_append]
theorem cntP_snoc (x : List UInt8) (ps : List Pr) (p : Pr) : cntP x (ps ++ [p]) = cntP x ps + (if p.n = x then 1 else 0) := by
  unfold cntP
  rw [List.filter_append, List.length_append]
  by_cases h : p.n = x <;> simp [h]
def hasN (x : List UInt8) (s : Sr) : Bool := s.ps.any fun p => decide (p.n = x)
theorem hasN_iff (x : List UInt8) (s : Sr) : hasN x s = true ↔ ∃ y, (⟨x, y⟩ : Pr) ∈ s.ps := by
  unfold hasN
  rw [List.any_eq_true]
  constructor
  · rintro ⟨p, hp, h⟩
    rw [decide_eq_true_eq] at h
    exact ⟨p.v, by rw [← h]; exact hp⟩
  · rintro ⟨y, h⟩
    exact ⟨_, h, by simp⟩
theorem cntP_one (x : List UInt8) : ∀ (ps : List Pr), (ps.map Pr.n).Nodup → cntP x ps = if (ps.any fun p => decide (p.n = x)) = true then 1 else 0
  | [], _ => rfl
  | p :: ps, h => by
    rw [List.map_cons, List.nodup_cons] at h
    have ih := cntP_one x ps h.2
    by_cases e : p.n = x
    · have h0 : (ps.any fun p => decide (p.n = x)) = false := by
        rw [List.any_eq_false]
        intro q hq hd
        rw [decide_eq_true_eq] at hd
        exact h.1 (by rw [e, ← hd]; exact List.mem_map_of_mem hq)
      unfold cntP at ih ⊢
      rw [h0] at ih
      simp [e] at ih ⊢
      exact ih
    · unfold cntP at ih ⊢
      simp [e] at ih ⊢
      exact ih
theorem cntT_is (x : List UInt8) (T : List Sr) (h : ∀ s ∈ T, (s.ps.map Pr.n).Nodup) : cntT x T = (T.filter (hasN x)).length := by
  have go : ∀ (T : List Sr) (c : Nat), (∀ s ∈ T, (s.ps.map Pr.n).Nodup) → T.foldl (fun c s => c + cntP x s.ps) c = c + (T.filter (hasN x)).length := by
    intro T
    induction T with
    | nil => exact fun c _ => rfl
    | cons s T ih =>
      intro c hs
      rw [List.foldl_cons, ih _ (fun s' h' => hs s' (by simp [h'])), cntP_one x s.ps (hs s (by simp))]
      by_cases e : hasN x s = true
      · have e2 : (s.ps.any fun p => decide (p.n = x)) = true := e
        rw [if_pos e2, List.filter_cons_of_pos e, List.length_cons]; omega
      · have e2 : ¬ (s.ps.any fun p => decide (p.n = x)) = true := e
        rw [if_neg e2, List.filter_cons_of_neg e]; omega
  have := go T 0 h
  rw [Nat.zero_add] at this
  exact this
theorem sr_eq {T : List Sr} (hn : (T.map Sr.n).Nodup) {s t : Sr} (hs : s ∈ T) (ht : t ∈ T) (h : s.n = t.n) : s = t := by
  induction T with
  | nil => cases hs
  | cons a T ih =>
    rw [List.map_cons, List.nodup_cons] at hn
    rcases List.mem_cons.1 hs with e1 | hs1
    · rcases List.mem_cons.1 ht with e2 | ht1
      · rw [e1, e2]
      · exact absurd (by rw [← e1, h]; exact List.mem_map_of_mem ht1) hn.1
    · rcases List.mem_cons.1 ht with e2 | ht1
      · exact absurd (by rw [← e2, ← h]; exact List.mem_map_of_mem hs1) hn.1
      · exact ih hn.2 hs1 ht1
theorem pr_eq {ps : List Pr} (hn : (ps.map Pr.n).Nodup) {p q : Pr} (hp : p ∈ ps) (hq : q ∈ ps) (h : p.n = q.n) : p = q := by
  induction ps with
  | nil => cases hp
  | cons a ps ih =>
    rw [List.map_cons, List.nodup_cons] at hn
    rcases List.mem_cons.1 hp with e1 | hp1
    · rcases List.mem_cons.1 hq with e2 | hq1
      · rw [e1, e2]
      · exact absurd (by rw [← e1, h]; exact List.mem_map_of_mem hq1) hn.1
    · rcases List.mem_cons.1 hq with e2 | hq1
      · exact absurd (by rw [← e2, ← h]; exact List.mem_map_of_mem hp1) hn.1
      · exact ih hn.2 hp1 hq1
theorem Up.nodup {l : List Int} (h : Up l) : l.Nodup := List.Pairwise.imp (fun h => by omega) h
section
variable {base b mh ml : Nat} {T : List Sr} {w : World}
theorem vparts_nodup (h : Told base b mh ml T w) (x : List UInt8) : (partsU T x (foldD (fV x) T)).Nodup := by
  unfold partsU
  refine List.pairwise_flatten.2 ⟨fun l hl => ?_, ?_⟩
  · obtain ⟨y, _, rfl⟩ := List.mem_map.1 hl
    exact (fG_spec x y T).1.nodup
  · rw [List.pairwise_map]
    refine List.Pairwise.imp (fun {y z} hyz n hn m hm e => ?_) (fV_spec x T).1
    subst e
    obtain ⟨s, hs, h1, h2⟩ := ((fG_spec x y T).2 n).1 hn
    obtain ⟨t, ht, h3, h4⟩ := ((fG_spec x z T).2 n).1 hm
    have e1 := sr_eq h.nums hs ht (h1.trans h3.symm)
    subst e1
    have e2 := pr_eq (h.small s hs).2.1 h2 h4 rfl
    injection e2 with _ e3
    subst e3
    exact bytes_lt_irrefl _ hyz
theorem vparts_len (h : Told base b mh ml T w) (x : List UInt8) : (partsU T x (foldD (fV x) T)).length = cntT x T := by
  have hm : ∀ n, n ∈ partsU T x (foldD (fV x) T) ↔ n ∈ (T.filter (hasN x)).map Sr.n := fun n => by
    unfold partsU
    rw [List.mem_flatten]
    constructor
    · rintro ⟨l, hl, hn⟩
      obtain ⟨y, _, rfl⟩ := List.mem_map.1 hl
      obtain ⟨s, hs, h1, h2⟩ := ((fG_spec x y T).2 n).1 hn
      exact List.mem_map.2 ⟨s, List.mem_filter.2 ⟨hs, (hasN_iff x s).2 ⟨y, h2⟩⟩, h1⟩
    · intro hn
      obtain ⟨s, hs, h1⟩ := List.mem_map.1 hn
      obtain ⟨hs, hx⟩ := List.mem_filter.1 hs
      obtain ⟨y, hy⟩ := (hasN_iff x s).1 hx
      exact ⟨_, List.mem_map.2 ⟨y, ((fV_spec x T).2 y).2 ⟨s, hs, hy⟩, rfl⟩, ((fG_spec x y T).2 n).2 ⟨s, hs, h1, hy⟩⟩
  have h1 := nodup_len _ _ (vparts_nodup h x) fun n hn => (hm n).1 hn
  have hnd : ((T.filter (hasN x)).map Sr.n).Nodup := h.nums.sublist (List.filter_sublist.map Sr.n)
  have h2 := nodup_len _ _ hnd fun n hn => (hm n).2 hn
  rw [cntT_is x T fun s hs => (h.small s hs).2.1]
  rw [List.length_map] at h1 h2
  omega
theorem vparts_some (x : List UInt8) (y : List UInt8) (hy : y ∈ foldD (fV x) T) : foldD (fG x y) T ≠ [] := by
  obtain ⟨s, hs, hp⟩ := ((fV_spec x T).2 y).1 hy
  intro e
  have := ((fG_spec x y T).2 s.n).2 ⟨s, hs, rfl, hp⟩
  rw [e] at this; cases this
end
/-- The next number isn't there yet. -/
theorem vparts_new {T : List Sr} {x : List UInt8} {V : List (List UInt8)} {k : Nat} {y : List UInt8} (hn : (partsU T x V).Nodup) (hy : V[k]? = some y) {j : Nat} {n : Int} (hj : (foldD (fG x y) T)[j]? = some n) :
    n ∉ partsU T x (V.take k) ++ (foldD (fG x y) T).take j := by
  have hV : V = V.take k ++ y :: V.drop (k + 1) := by
    obtain ⟨h1, h2⟩ := List.getElem?_eq_some_iff.1 hy
    conv => lhs; rw [← List.take_append_drop k V]
    congr 1
    rw [← h2]; exact List.drop_eq_getElem_cons h1
  have e : partsU T x V = partsU T x (V.take k) ++ (foldD (fG x y) T ++ partsU T x (V.drop (k + 1))) := by
    conv => lhs; rw [hV]
    unfold partsU
    rw [List.map_append, List.flatten_append, List.map_cons, List.flatten_cons]
  have e2 : foldD (fG x y) T = (foldD (fG x y) T).take j ++ n :: (foldD (fG x y) T).drop (j + 1) := by
    obtain ⟨h1, h2⟩ := List.getElem?_eq_some_iff.1 hj
    conv => lhs; rw [← List.take_append_drop j (foldD (fG x y) T)]
    congr 1
    rw [← h2]; exact List.drop_eq_getElem_cons h1
  rw [e, e2, List.append_assoc, ← List.append_assoc] at hn
  have h3 := (List.nodup_append.1 hn).2.2
  exact fun hm => h3 n hm n (by simp) rfl
theorem partsU_take {T : List Sr} {x : List UInt8} {V : List (List UInt8)} {k : Nat} {y : List UInt8} (hy : V[k]? = some y) : partsU T x (V.take (k + 1)) = partsU T x (V.take k) ++ foldD (fG x y) T := by
  rw [List.take_add_one, hy]
  unfold partsU
  simp

/-- A map that has these numbers, each counted once. -/
structure NEn where
  n : Int
  born : Nat
def NEn.en (e : NEn) : EnJ := ⟨e.n, .int .i64 1, e.born⟩
def SeenJ (m : Nat) (U : List Int) (w : World) : Prop := ∃ es ck, MapIsJ m (es.map NEn.en) ck w ∧ es.map NEn.n = U ∧ BornK NEn.born ck es
theorem SeenJ.new {m : Nat} {w : World} (h : MapIsJ m [] 0 w) : SeenJ m [] w := ⟨[], 0, h, rfl, BornK.nil _ _⟩
theorem SeenJ.turn {S : Nat → Prop} {m : Nat} {U : List Int} {w w' : World} (h : SeenJ m U w) (t : Turn S w w') (hS : ¬ S m) : SeenJ m U w' := by
  obtain ⟨es, ck, h1, h2⟩ := h
  exact ⟨es, ck, h1.turn t hS, h2⟩
theorem SeenJ.lt {m : Nat} {U : List Int} {w : World} (h : SeenJ m U w) : m < w.heap.size := by obtain ⟨es, ck, h1, _⟩ := h; exact mapIsJ_lt h1
theorem SeenJ.step {m : Nat} {U : List Int} {w : World} (h : SeenJ m U w) {n : Int} (hn : n ∉ U) :
    ∃ W, (Instr.lookup 43 (.map (some m)) (.int .i64 n) false).run Tryz.prog w = .ok (.int .i64 0) w ∧
      (Instr.mapUpdate 43 (.map (some m)) (.int .i64 n) (.int .i64 1)).run Tryz.prog w = .ok () W ∧ Turn (fun k => k = m) w W ∧ SeenJ m (U ++ [n]) W := by
  obtain ⟨es, ck, h1, h2, h3⟩ := h
  have hl : lookK NEn.n n es = none := (lookK_none NEn.n).2 fun a ha e => hn (by rw [← h2, ← e]; exact List.mem_map_of_mem ha)
  have l1 := run_lookJ (P := Tryz.prog) Tryz.underlying43 Tryz.underlying3 (.int .i64 0) zv_int h1 n false
  rw [lookJ_map NEn.n NEn.en (fun _ => rfl), hl] at l1
  have st := run_storeJ (P := Tryz.prog) Tryz.underlying43 Tryz.underlying3 h1 n (.int .i64 1)
  rw [lookJ_map NEn.n NEn.en (fun _ => rfl), hl, setJ_map NEn.n NEn.en (fun _ => rfl) n (.int .i64 1) ck id ⟨n, ck⟩ rfl es (fun a _ _ => rfl)] at st
  refine ⟨_, l1, st, turn_putJ (S := fun k => k = m) rfl _ _, _, _, mapIsJ_put (w := w) (mapIsJ_lt h1) _ _, ?_, ?_⟩
  · rw [putK_keys NEn.n (k := n) (f := id) (b := ⟨n, ck⟩) (fun _ => rfl) rfl es, hl, h2]; rfl
  · have := h3.put NEn.n (k := n) (f := id) (b := ⟨n, ck⟩) (fun _ => rfl) rfl
    rw [hl] at this
    exact this
theorem SeenJ.len {m : Nat} {U : List Int} {w : World} (h : SeenJ m U w) (ty : TypeId) : (Builtin.len_ #[43] ty #[.map (some m)]).run Tryz.prog w = .ok (goInt U.length) w := by
  obtain ⟨es, ck, h1, h2, _⟩ := h
  have := run_len_map (P := Tryz.prog) w 43 ty m _ _ (by kernel_rfl) h1
  rw [this, ← h2]
  simp
end Go.Proofs.YtefhnjepocbodaaGreatDoor
