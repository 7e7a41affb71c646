/- Layer 12 in plain words: series as they are told; what an index says behind Adds and Drops of them. -/
import Derived.Test.YteheojiokbdgmaaGreatDoorMIX8
namespace Go.Proofs.YteheojiokbdgmaaGreatDoor
open Go.RowKit Go.Lib
set_option linter.unusedVariables false

/-- A series: its number, its labels. -/
structure Sr where
  n : Int
  ps : List Pr
instance : Inhabited Sr := ⟨⟨0, []⟩⟩

/-- Of each name the first label. -/
def uniqStep (acc : List Pr) (p : Pr) : List Pr := if p.n ∈ acc.map Pr.n then acc else acc ++ [p]
def uniqN (l : List Pr) : List Pr := l.foldl uniqStep []
theorem uniqN_snoc (l : List Pr) (p : Pr) : uniqN (l ++ [p]) = uniqStep (uniqN l) p := by simp [uniqN, List.foldl_append]
theorem uniqStep_nodup {acc : List Pr} (p : Pr) (h : (acc.map Pr.n).Nodup) : ((uniqStep acc p).map Pr.n).Nodup := by
  unfold uniqStep
  split
  · exact h
  · rename_i hp
    rw [List.map_append, List.nodup_append]
    refine ⟨h, by simp, fun x hx y hy e => ?_⟩
    simp at hy
    exact hp (by rw [← hy, ← e]; exact hx)
theorem uniqF_nodup : ∀ (l acc : List Pr), (acc.map Pr.n).Nodup → ((l.foldl uniqStep acc).map Pr.n).Nodup
  | [], _, h => h
  | p :: l, _, h => uniqF_nodup l _ (uniqStep_nodup p h)
theorem uniqN_names (l : List Pr) : ((uniqN l).map Pr.n).Nodup := uniqF_nodup l [] List.nodup_nil
theorem uniqN_nodup (l : List Pr) : (uniqN l).Nodup := by
  have := uniqN_names l
  exact List.Pairwise.of_map Pr.n (fun a b h e => h (by rw [e])) this
theorem uniqF_len : ∀ (l acc : List Pr), (l.foldl uniqStep acc).length ≤ acc.length + l.length
  | [], _ => by simp
  | p :: l, acc => by
    have h1 := uniqF_len l (uniqStep acc p)
    have h2 : (uniqStep acc p).length ≤ acc.length + 1 := by unfold uniqStep; split <;> simp
    rw [List.foldl_cons, List.length_cons]; omega
theorem uniqN_len (l : List Pr) : (uniqN l).length ≤ l.length := by
  have h := uniqF_len l []
  rw [List.length_nil, Nat.zero_add] at h
  exact h
theorem uniqF_mem : ∀ (l acc : List Pr) (p : Pr), p ∈ l.foldl uniqStep acc → p ∈ acc ∨ p ∈ l
  | [], _, _, h => .inl h
  | q :: l, acc, p, h => by
    rcases uniqF_mem l _ p h with h | h
    · unfold uniqStep at h
      split at h
      · exact .inl h
      · rcases List.mem_append.1 h with h | h
        · exact .inl h
        · rw [List.mem_singleton] at h; exact .inr (by simp [h])
    · exact .inr (by simp [h])
theorem uniqN_mem {l : List Pr} {p : Pr} (h : p ∈ uniqN l) : p ∈ l := (uniqF_mem l [] p h).resolve_left (by simp)

theorem out_put {l : List Int} {n : Int} (hu : Up l) (h : n ∉ l) : outZ (putZ l n) n = l := by
  refine up_unique _ _ (outZ_up n (putZ_up l n hu)) hu fun x => ?_
  rw [outZ_mem, putZ_mem]
  constructor
  · rintro ⟨h1 | h1, h2⟩
    · exact absurd h1 h2
    · exact h1
  · exact fun hx => ⟨.inr hx, fun e => h (e ▸ hx)⟩

/-- What an index says of series that were added. -/
structure Grown (T : List Sr) (A : List Int) (H : List HEn) (L : List LEn) : Prop where
  up : Up A
  mem : ∀ m, m ∈ A ↔ ∃ s ∈ T, s.n = m
  len : A.length ≤ T.length
  get : ∀ x y, Up (getH H x y)
  gmem : ∀ x y m, m ∈ getH H x y ↔ ∃ s ∈ T, s.n = m ∧ (⟨x, y⟩ : Pr) ∈ s.ps
  glen : ∀ x y, (getH H x y).length ≤ T.length
  lab0 : ∀ m, (∀ s ∈ T, s.n ≠ m) → getL L m = []
  labl : ∀ m, (getL L m).length ≤ 10
  full : Full H

theorem Grown.nil : Grown [] [] [] [] :=
  ⟨up_nil, fun m => by simp, Nat.le_refl _, fun x y => up_nil, fun x y m => by simp [getH, lookK], fun x y => Nat.le_refl _, fun m _ => rfl, fun m => Nat.zero_le _, fun h hh => by cases hh⟩
theorem Grown.out {T : List Sr} {A : List Int} {H : List HEn} {L : List LEn} {n : Int} (g : Grown T A H L) (hn : ∀ s ∈ T, s.n ≠ n) : n ∉ A ∧ ∀ x y, n ∉ getH H x y :=
  ⟨fun h => by obtain ⟨s, hs, e⟩ := (g.mem n).1 h; exact hn s hs e, fun x y h => by obtain ⟨s, hs, e, _⟩ := (g.gmem x y n).1 h; exact hn s hs e⟩
/-- A series was added. -/
theorem Grown.kept {T : List Sr} {A : List Int} {H H' : List HEn} {L L' : List LEn} {n : Int} {ps : List Pr} (g : Grown T A H L) (hn : ∀ s ∈ T, s.n ≠ n) (hl : ps.length ≤ 10) (a : AddIn n ps H L H' L') :
    Grown (T ++ [⟨n, ps⟩]) (putZ A n) H' L' := by
  refine ⟨putZ_up _ _ g.up, fun m => ?_, ?_, fun x y => ?_, fun x y m => ?_, fun x y => ?_, fun m hm => ?_, fun m => ?_, a.full g.full⟩
  · rw [putZ_mem, g.mem]
    constructor
    · rintro (rfl | ⟨s, hs, e⟩)
      · exact ⟨⟨m, ps⟩, by simp, rfl⟩
      · exact ⟨s, by simp [hs], e⟩
    · rintro ⟨s, hs, e⟩
      rcases List.mem_append.1 hs with hs | hs
      · exact .inr ⟨s, hs, e⟩
      · rw [List.mem_singleton] at hs; subst hs; exact .inl e.symm
  · have := putZ_len A n; have := g.len; simp; omega
  · rw [a.get]; split
    · exact putZ_up _ _ (g.get x y)
    · exact g.get x y
  · rw [a.get]
    by_cases hp : (⟨x, y⟩ : Pr) ∈ ps
    · rw [if_pos hp, putZ_mem, g.gmem]
      constructor
      · rintro (rfl | ⟨s, hs, e⟩)
        · exact ⟨⟨m, ps⟩, by simp, rfl, hp⟩
        · exact ⟨s, by simp [hs], e⟩
      · rintro ⟨s, hs, e⟩
        rcases List.mem_append.1 hs with hs | hs
        · exact .inr ⟨s, hs, e⟩
        · rw [List.mem_singleton] at hs; subst hs; exact .inl e.1.symm
    · rw [if_neg hp, g.gmem]
      constructor
      · rintro ⟨s, hs, e⟩
        exact ⟨s, by simp [hs], e⟩
      · rintro ⟨s, hs, e⟩
        rcases List.mem_append.1 hs with hs | hs
        · exact ⟨s, hs, e⟩
        · rw [List.mem_singleton] at hs; subst hs; exact absurd e.2 hp
  · have := putZ_len (getH H x y) n; have := g.glen x y
    rw [a.get]; split <;> simp <;> omega
  · rw [a.lab, if_neg (fun e => hm ⟨n, ps⟩ (by simp) e.symm)]
    exact g.lab0 m fun s hs => hm s (by simp [hs])
  · rw [a.lab]
    split
    · rename_i e
      rw [g.lab0 m (by rw [e]; exact hn)]; simpa using hl
    · exact g.labl m
/-- A series was added and dropped. -/
theorem Grown.gone {T : List Sr} {A : List Int} {H H' H2 : List HEn} {L L' L2 : List LEn} {n : Int} {ps : List Pr} (g : Grown T A H L) (hn : ∀ s ∈ T, s.n ≠ n) (a : AddIn n ps H L H' L') (d : DropIn n (getL L' n) H' H2)
    (hL : ∀ m, getL L2 m = if m = n then [] else getL L' m) : Grown T (outZ (putZ A n) n) H2 L2 := by
  obtain ⟨hA, hH⟩ := g.out hn
  have hp : getL L' n = ps := by rw [a.lab, if_pos rfl, g.lab0 n hn]; rfl
  have hget : ∀ x y, getH H2 x y = getH H x y := fun x y => by
    rw [d.get, hp, a.get]
    split
    · exact out_put (g.get x y) (hH x y)
    · rfl
  have hlab : ∀ m, getL L2 m = getL L m := fun m => by
    rw [hL, a.lab]
    split
    · rename_i e; rw [e, g.lab0 n hn]
    · rfl
  rw [out_put g.up hA]
  exact ⟨g.up, g.mem, g.len, fun x y => by rw [hget]; exact g.get x y, fun x y => by rw [hget]; exact g.gmem x y, fun x y => by rw [hget]; exact g.glen x y, fun m => by rw [hlab]; exact g.lab0 m, fun m => by rw [hlab]; exact g.labl m, d.full (a.full g.full)⟩
/-- What was just added can be dropped. -/
theorem Grown.drops {T : List Sr} {A : List Int} {H H' : List HEn} {L L' : List LEn} {n : Int} {ps : List Pr} (g : Grown T A H L) (hn : ∀ s ∈ T, s.n ≠ n) (a : AddIn n ps H L H' L') :
    getL L' n = ps ∧ ∀ p ∈ getL L' n, n ∈ getH H' p.n p.v := by
  have hp : getL L' n = ps := by rw [a.lab, if_pos rfl, g.lab0 n hn]; rfl
  refine ⟨hp, fun p hm => ?_⟩
  rw [hp] at hm
  rw [a.get, if_pos hm, putZ_mem]
  exact .inl rfl

/-- Numbers that are given out: each once. -/
def num12 (i : Nat) : Int := ((i : Int) * 7 + 3) % 12
theorem num12_inj {i j : Nat} (hi : i < 12) (hj : j < 12) (h : num12 i = num12 j) : i = j := by
  have hall : ∀ a : Fin 12, ∀ b : Fin 12, num12 a.1 = num12 b.1 → a.1 = b.1 := by decide
  exact hall ⟨i, hi⟩ ⟨j, hj⟩ h
theorem num12_bd (i : Nat) (hi : i < 12) : 0 ≤ num12 i ∧ num12 i ≤ 11 := by
  have hall : ∀ a : Fin 12, 0 ≤ num12 a.1 ∧ num12 a.1 ≤ 11 := by decide
  exact hall ⟨i, hi⟩
end Go.Proofs.YteheojiokbdgmaaGreatDoor
