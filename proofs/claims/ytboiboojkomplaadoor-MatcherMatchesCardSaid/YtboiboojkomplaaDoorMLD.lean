/- Layer 6: a set's key. Layer 6: the order of sets, their keys: plain maths; the statement LabelOrder walked. -/
import Derived.Test.YtboiboojkomplaaDoorMLC
import Derived.Test.YtboiboojkomplaaDoorMY2
namespace Go.Proofs.YtboiboojkomplaaDoor
open Go.RowKit Go.Lib

def keyP (p : Pr) : List UInt8 := Leb.encT p.n ++ Leb.encT p.v
/-- A set's key. -/
def keyL (ds : List Pr) : List UInt8 := Leb.encU ds.length ++ ds.flatMap keyP
theorem key_take (ds : List Pr) (i : Nat) : (((ds.take i).flatMap keyP)).length ≤ (ds.flatMap keyP).length := by
  conv => rhs; rw [← List.take_append_drop i ds, List.flatMap_append, List.length_append]
  omega

end Go.Proofs.YtboiboojkomplaaDoor

namespace Go.Proofs.YtboiboojkomplaaDoor
open Go.RowKit Go.Lib

theorem cmpb_neg (a b : List UInt8) : Lib.compareBytes b a = -Lib.compareBytes a b := by
  have h1 := cmp_val a b; have h2 := cmp_val b a
  have l1 := cmp_lt a b; have l2 := cmp_lt b a
  have g1 := cmp_gt a b; have g2 := cmp_gt b a
  have e1 := cmp_eq a b; have e2 := cmp_eq b a
  rcases h1 with h1 | h1 | h1
  · have := g2.2 (l1.1 (by omega)); omega
  · have := e2.2 (e1.1 h1).symm; omega
  · have := l2.2 (g1.1 (by omega)); omega
theorem cfP_neg (x y : Pr) : cfP y x = -cfP x y := by
  unfold cfP
  rw [cmpb_neg x.n y.n, cmpb_neg x.v y.v]
  by_cases h : Lib.compareBytes x.n y.n = 0
  · rw [if_pos h, if_pos (by omega)]
  · rw [if_neg h, if_neg (by omega)]
theorem cfP_val (x y : Pr) : cfP x y = -1 ∨ cfP x y = 0 ∨ cfP x y = 1 := by
  unfold cfP
  split
  · exact cmp_val _ _
  · exact cmp_val _ _
theorem cfP_zero (x y : Pr) : cfP x y = 0 ↔ x = y := by
  constructor
  · intro h
    rcases ltP_tri x y with k | k | k
    · have := (cfP_lt x y).2 k; omega
    · exact k
    · have := (cfP_lt y x).2 k; rw [cfP_neg] at this; omega
  · rintro rfl
    have := cfP_neg x x
    omega
theorem cmpS_neg : ∀ a b : List Pr, cmpS b a = -cmpS a b
  | [], [] => rfl
  | [], _ :: _ => rfl
  | _ :: _, [] => rfl
  | x :: a, y :: b => by
    rw [cmpS, cmpS, cfP_neg x y, cmpS_neg a b]
    by_cases h : cfP x y = 0
    · rw [if_pos (by omega), if_pos h]
    · rw [if_neg (by omega), if_neg h]
theorem cmpS_val : ∀ a b : List Pr, cmpS a b = -1 ∨ cmpS a b = 0 ∨ cmpS a b = 1
  | [], [] => .inr (.inl rfl)
  | [], _ :: _ => .inl rfl
  | _ :: _, [] => .inr (.inr rfl)
  | x :: a, y :: b => by
    rw [cmpS]
    split
    · exact cmpS_val a b
    · exact cfP_val x y
theorem cmpS_self (a : List Pr) : cmpS a a = 0 := by have := cmpS_neg a a; omega
theorem cmpS_zero : ∀ a b : List Pr, cmpS a b = 0 → a = b
  | [], [], _ => rfl
  | [], _ :: _, h => by simp [cmpS] at h
  | _ :: _, [], h => by simp [cmpS] at h
  | x :: a, y :: b, h => by
    rw [cmpS] at h
    by_cases hc : cfP x y = 0
    · rw [if_pos hc] at h
      rw [(cfP_zero x y).1 hc, cmpS_zero a b h]
    · rw [if_neg hc] at h
      exact absurd h hc
theorem cmpS_trans : ∀ a b c : List Pr, cmpS a b ≤ 0 → cmpS b c ≤ 0 → cmpS a c ≤ 0
  | [], _, [], _, _ => by simp [cmpS]
  | [], _, _ :: _, _, _ => by simp [cmpS]
  | _ :: _, [], _, h, _ => by simp [cmpS] at h
  | _ :: _, _ :: _, [], _, h => by simp [cmpS] at h
  | x :: a, y :: b, z :: c, h, k => by
    rw [cmpS] at h k ⊢
    by_cases h1 : cfP x y = 0
    · obtain rfl := (cfP_zero x y).1 h1
      rw [if_pos h1] at h
      by_cases h2 : cfP x z = 0
      · rw [if_pos h2] at k ⊢
        exact cmpS_trans a b c h k
      · rw [if_neg h2] at k ⊢
        exact k
    · rw [if_neg h1] at h
      have l1 : ltP x y := (cfP_lt x y).1 (by omega)
      by_cases h2 : cfP y z = 0
      · obtain rfl := (cfP_zero y z).1 h2
        rw [if_neg h1]; exact h
      · rw [if_neg h2] at k
        have l2 : ltP y z := (cfP_lt y z).1 (by omega)
        have l3 := (cfP_lt x z).2 (ltP_trans l1 l2)
        rw [if_neg (by omega)]
        omega

theorem encT_inj {s s' r r' : List UInt8} (hs : s.length ≤ 1000) (hs' : s'.length ≤ 1000) (h : Leb.encT s ++ r = Leb.encT s' ++ r') : s = s' ∧ r = r' := by
  have h1 := Leb.takeT_enc s r 1000 (by omega) (by unfold Leb.two64; omega)
  have h2 := Leb.takeT_enc s' r' 1000 (by omega) (by unfold Leb.two64; omega)
  rw [h, h2] at h1
  simp only [Prod.mk.injEq] at h1
  exact ⟨h1.1.symm, h1.2.1.symm⟩
def Short (ds : List Pr) : Prop := ∀ x ∈ ds, x.n.length ≤ 1000 ∧ x.v.length ≤ 1000
theorem keys_inj : ∀ (a b : List Pr), Short a → Short b → a.length = b.length → a.flatMap keyP = b.flatMap keyP → a = b
  | [], [], _, _, _, _ => rfl
  | [], _ :: _, _, _, h, _ => by simp at h
  | _ :: _, [], _, _, h, _ => by simp at h
  | x :: a, y :: b, ha, hb, hl, h => by
    rw [List.flatMap_cons, List.flatMap_cons, keyP, keyP, List.append_assoc, List.append_assoc] at h
    obtain ⟨h1, h2⟩ := encT_inj (ha x (by simp)).1 (hb y (by simp)).1 h
    obtain ⟨h3, h4⟩ := encT_inj (ha x (by simp)).2 (hb y (by simp)).2 h2
    have hxy : x = y := by cases x; cases y; simp at h1 h3; rw [h1, h3]
    rw [hxy, keys_inj a b (fun z hz => ha z (by simp [hz])) (fun z hz => hb z (by simp [hz])) (by simpa using hl) h4]
theorem keyL_inj (a b : List Pr) (ha : Short a) (hb : Short b) (la : a.length ≤ 1000) (lb : b.length ≤ 1000) (h : keyL a = keyL b) : a = b := by
  unfold keyL at h
  have h1 := Leb.takeU_enc a.length (by unfold Leb.two64; omega) (a.flatMap keyP)
  have h2 := Leb.takeU_enc b.length (by unfold Leb.two64; omega) (b.flatMap keyP)
  rw [h, h2] at h1
  simp only [Prod.mk.injEq] at h1
  exact keys_inj a b ha hb h1.1.symm h1.2.1.symm
theorem f42_short (ds : List Pr) : Short (f42 ds) := by
  intro x hx
  obtain ⟨y, _, rfl⟩ := List.mem_map.1 hx
  simp; omega
theorem key_small : ∀ (ds : List Pr), Short ds → (ds.flatMap keyP).length ≤ ds.length * 2020
  | [], _ => by simp
  | x :: ds, h => by
    have ih := key_small ds (fun z hz => h z (by simp [hz]))
    obtain ⟨h1, h2⟩ := h x (by simp)
    have e1 : (Leb.encT x.n).length ≤ 1010 := by unfold Leb.encT; rw [List.length_append]; have := (Leb.encU_len x.n.length).2; omega
    have e2 : (Leb.encT x.v).length ≤ 1010 := by unfold Leb.encT; rw [List.length_append]; have := (Leb.encU_len x.v.length).2; omega
    rw [List.flatMap_cons, List.length_append, keyP, List.length_append, List.length_cons]
    omega
end Go.Proofs.YtboiboojkomplaaDoor
