/- Layer 1's other readers, walked. Layer 6: a set's key. Layer 6: the order of sets, their keys: plain maths; the statement LabelOrder walked. The statement LabelOrder, walked. -/
import Derived.Test.YtefhnjepocbodaaGreatDoorMY0
import Derived.Test.YtefhnjepocbodaaGreatDoorMLB
namespace Go.Proofs.YtefhnjepocbodaaGreatDoor
set_option maxRecDepth 100000
open Go.RowKit Go.Lib

namespace Leb
def takeI (l : List UInt8) : Int × List UInt8 × Nat := if (takeU l).2.2 ≠ 0 then (0, [], (takeU l).2.2) else (unfoldN (takeU l).1, (takeU l).2.1, 0)
theorem takeI_ok {l : List UInt8} {u : Nat} {r : List UInt8} (h : takeU l = (u, r, 0)) : takeI l = (unfoldN u, r, 0) := by unfold takeI; rw [h]; simp
theorem takeI_no {l : List UInt8} {u er : Nat} {r : List UInt8} (h : takeU l = (u, r, er)) (he : er ≠ 0) : takeI l = (0, [], er) := by unfold takeI; rw [h]; simp [he]
theorem takeM_no {l : List UInt8} {most : Int} {u er : Nat} {r : List UInt8} (h : takeU l = (u, r, er)) (he : er ≠ 0) : takeM l most = (0, [], er) := by unfold takeM; rw [h]; simp [he]
theorem takeM_big {l : List UInt8} {most : Int} {u : Nat} {r : List UInt8} (h : takeU l = (u, r, 0)) (he : (u : Int) > max most 0) : takeM l most = (0, [], 16) := by
  unfold takeM; rw [h, if_neg (by simp), if_pos (by simp only; omega)]
theorem takeM_ok {l : List UInt8} {most : Int} {u : Nat} {r : List UInt8} (h : takeU l = (u, r, 0)) (he : ¬ (u : Int) > max most 0) : takeM l most = (u, r, 0) := by
  unfold takeM; rw [h, if_neg (by simp), if_neg (by simp only; omega)]
theorem takeT_no {l : List UInt8} {most : Int} {u er : Nat} {r : List UInt8} (h : takeM l most = (u, r, er)) (he : er ≠ 0) : takeT l most = ([], [], er) := by unfold takeT; rw [h]; simp [he]
theorem takeT_end {l : List UInt8} {most : Int} {u : Nat} {r : List UInt8} (h : takeM l most = (u, r, 0)) (he : u > r.length) : takeT l most = ([], [], 2) := by unfold takeT; rw [h]; simp [he]
theorem takeT_ok {l : List UInt8} {most : Int} {u : Nat} {r : List UInt8} (h : takeM l most = (u, r, 0)) (he : ¬ u > r.length) : takeT l most = (r.take u, r.drop u, 0) := by unfold takeT; rw [h]; simp [he]
theorem takeU_none {l : List UInt8} {u er : Nat} {r : List UInt8} (h : takeU l = (u, r, er)) (he : er ≠ 0) : u = 0 ∧ r = [] := by
  have := dec_err l 0 0 (by show (takeU l).2.2 ≠ 0; rw [h]; exact he)
  have e1 : dec 0 0 l = (u, r, er) := h
  rw [e1] at this
  exact this
theorem takeU_small {l : List UInt8} {u er : Nat} {r : List UInt8} (h : takeU l = (u, r, er)) : er ≤ 3 ∧ u < 18446744073709551616 ∧ r.length ≤ l.length := by
  have h1 := dec_errs l 0 0
  have h2 := takeU_lt l
  have h3 := dec_left l 0 0
  have e1 : dec 0 0 l = (u, r, er) := h
  rw [h] at h2
  rw [e1] at h1 h3
  unfold two64 at h2
  simp only at h1 h2 h3
  omega
theorem takeM_small {l : List UInt8} {most : Int} {u er : Nat} {r : List UInt8} (h : takeM l most = (u, r, er)) (hm : most ≤ 9223372036854775807) : er ≤ 16 ∧ u ≤ 9223372036854775807 ∧ r.length ≤ l.length ∧ (er = 0 → (u : Int) ≤ max most 0) ∧ (er ≠ 0 → u = 0 ∧ r = []) := by
  obtain ⟨u', r', er', hT⟩ : ∃ u' r' er', takeU l = (u', r', er') := ⟨_, _, _, rfl⟩
  obtain ⟨b1, b2, b3⟩ := takeU_small hT
  by_cases he : er' = 0
  · subst he
    by_cases hb : (u' : Int) > max most 0
    · rw [takeM_big hT hb] at h; simp only [Prod.mk.injEq] at h; obtain ⟨rfl, rfl, rfl⟩ := h; simp
    · rw [takeM_ok hT hb] at h; simp only [Prod.mk.injEq] at h; obtain ⟨rfl, rfl, rfl⟩ := h; simp; omega
  · rw [takeM_no hT he] at h; simp only [Prod.mk.injEq] at h; obtain ⟨rfl, rfl, rfl⟩ := h; simp; omega
end Leb

def tupI (r : Int × List UInt8 × Nat) : Value := .tuple #[.int .i64 r.1, .string (bs r.2.1), .int .i64 r.2.2]
def tupM (r : Nat × List UInt8 × Nat) : Value := .tuple #[.int .i64 r.1, .string (bs r.2.1), .int .i64 r.2.2]
def tupT (r : List UInt8 × List UInt8 × Nat) : Value := .tuple #[.string (bs r.1), .string (bs r.2.1), .int .i64 r.2.2]

/-- The answer is a new slice of the bytes xs, n of them. -/
def Made (w : World) (xs : List UInt8) (n : Nat) (e : Ending) (w' : World) : Prop :=
  ∃ a cap, e = .returned (.slice a n cap) ∧ Sl w' w.heap.size 1 (.slice a n cap) n (cb xs) ∧ Below w.heap.size w w'

theorem made_of {w w' : World} {xs : List UInt8} {n : Nat} {e : Ending} (hn : xs.length = n) (h : Wrote w.heap.size w (.slice none 0 0) 0 [] xs e w') : Made w xs n e w' := by
  obtain ⟨v', rfl, hx⟩ := h
  have hb := hx.below (Nat.le_refl _) (Nat.le_refl _)
  have := hx.now
  rw [Nat.zero_add, List.nil_append, hn] at this
  obtain ⟨a, cap, rfl⟩ := this.slice
  exact ⟨a, cap, rfl, this, hb⟩

/-- .. of which there is one at least. -/
def MadeAt (w : World) (xs : List UInt8) (n : Nat) (e : Ending) (w' : World) : Prop :=
  ∃ g off cap, e = .returned (.slice (some ⟨g, off, none⟩) n cap) ∧ n ≤ cap ∧ cap ≤ maxLen ∧ Sl w' w.heap.size 1 (.slice (some ⟨g, off, none⟩) n cap) n (cb xs) ∧ Below w.heap.size w w'
theorem madeAt_of {w w' : World} {xs : List UInt8} {n : Nat} {e : Ending} (hn : 0 < n) (h : Made w xs n e w') : MadeAt w xs n e w' := by
  obtain ⟨a, cap, rfl, h, hb⟩ := h
  rcases h.2 with ⟨h0, h1⟩ | ⟨g', off', cap', he, hbg, hg, hnc, hcm, _⟩
  · omega
  · cases he
    exact ⟨g', off', cap, rfl, hnc, hcm, h, hb⟩

end Go.Proofs.YtefhnjepocbodaaGreatDoor

namespace Go.Proofs.YtefhnjepocbodaaGreatDoor
open Go.RowKit Go.Lib

def keyP (p : Pr) : List UInt8 := Leb.encT p.n ++ Leb.encT p.v
/-- A set's key. -/
def keyL (ds : List Pr) : List UInt8 := Leb.encU ds.length ++ ds.flatMap keyP
theorem key_take (ds : List Pr) (i : Nat) : (((ds.take i).flatMap keyP)).length ≤ (ds.flatMap keyP).length := by
  conv => rhs; rw [← List.take_append_drop i ds, List.flatMap_append, List.length_append]
  omega

end Go.Proofs.YtefhnjepocbodaaGreatDoor

namespace Go.Proofs.YtefhnjepocbodaaGreatDoor
open Go.RowKit Go.Lib

theorem cmpb_neg (a b : List UInt8) : Lib.compareBytes b a = -Lib.compareBytes a b := by
  have h1 := cmp_val a b; have h2 := cmp_val b a
  have l1 := cmp_lt a b; have l2 := cmp_lt b a
  have g1 := cmp_gt a b; have g2 := cmp_gt b a
  have e1 := cmp_eq a b; have e2 := cmp_eq b a
  rcases h1 with h1 | h1 | h1
  · have := g2.2 (l1.1 (by omega)); omega
  · have := e2.2 (e1.1 h1).symm; omega
  · have := l2.2 (g1.1 (by omega)); omega
theorem cfP_neg (x y : Pr) : cfP y x = -cfP x y := by
  unfold cfP
  rw [cmpb_neg x.n y.n, cmpb_neg x.v y.v]
  by_cases h : Lib.compareBytes x.n y.n = 0
  · rw [if_pos h, if_pos (by omega)]
  · rw [if_neg h, if_neg (by omega)]
theorem cfP_val (x y : Pr) : cfP x y = -1 ∨ cfP x y = 0 ∨ cfP x y = 1 := by
  unfold cfP
  split
  · exact cmp_val _ _
  · exact cmp_val _ _
theorem cfP_zero (x y : Pr) : cfP x y = 0 ↔ x = y := by
  constructor
  · intro h
    rcases ltP_tri x y with k | k | k
    · have := (cfP_lt x y).2 k; omega
    · exact k
    · have := (cfP_lt y x).2 k; rw [cfP_neg] at this; omega
  · rintro rfl
    have := cfP_neg x x
    omega
theorem cmpS_neg : ∀ a b : List Pr, cmpS b a = -cmpS a b
  | [], [] => rfl
  | [], _ :: _ => rfl
  | _ :: _, [] => rfl
  | x :: a, y :: b => by
    rw [cmpS, cmpS, cfP_neg x y, cmpS_neg a b]
    by_cases h : cfP x y = 0
    · rw [if_pos (by omega), if_pos h]
    · rw [if_neg (by omega), if_neg h]
theorem cmpS_val : ∀ a b : List Pr, cmpS a b = -1 ∨ cmpS a b = 0 ∨ cmpS a b = 1
  | [], [] => .inr (.inl rfl)
  | [], _ :: _ => .inl rfl
  | _ :: _, [] => .inr (.inr rfl)
  | x :: a, y :: b => by
    rw [cmpS]
    split
    · exact cmpS_val a b
    · exact cfP_val x y
theorem cmpS_self (a : List Pr) : cmpS a a = 0 := by have := cmpS_neg a a; omega
theorem cmpS_zero : ∀ a b : List Pr, cmpS a b = 0 → a = b
  | [], [], _ => rfl
  | [], _ :: _, h => by simp [cmpS] at h
  | _ :: _, [], h => by simp [cmpS] at h
  | x :: a, y :: b, h => by
    rw [cmpS] at h
    by_cases hc : cfP x y = 0
    · rw [if_pos hc] at h
      rw [(cfP_zero x y).1 hc, cmpS_zero a b h]
    · rw [if_neg hc] at h
      exact absurd h hc
theorem cmpS_trans : ∀ a b c : List Pr, cmpS a b ≤ 0 → cmpS b c ≤ 0 → cmpS a c ≤ 0
  | [], _, [], _, _ => by simp [cmpS]
  | [], _, _ :: _, _, _ => by simp [cmpS]
  | _ :: _, [], _, h, _ => by simp [cmpS] at h
  | _ :: _, _ :: _, [], _, h => by simp [cmpS] at h
  | x :: a, y :: b, z :: c, h, k => by
    rw [cmpS] at h k ⊢
    by_cases h1 : cfP x y = 0
    · obtain rfl := (cfP_zero x y).1 h1
      rw [if_pos h1] at h
      by_cases h2 : cfP x z = 0
      · rw [if_pos h2] at k ⊢
        exact cmpS_trans a b c h k
      · rw [if_neg h2] at k ⊢
        exact k
    · rw [if_neg h1] at h
      have l1 : ltP x y := (cfP_lt x y).1 (by omega)
      by_cases h2 : cfP y z = 0
      · obtain rfl := (cfP_zero y z).1 h2
        rw [if_neg h1]; exact h
      · rw [if_neg h2] at k
        have l2 : ltP y z := (cfP_lt y z).1 (by omega)
        have l3 := (cfP_lt x z).2 (ltP_trans l1 l2)
        rw [if_neg (by omega)]
        omega

theorem encT_inj {s s' r r' : List UInt8} (hs : s.length ≤ 1000) (hs' : s'.length ≤ 1000) (h : Leb.encT s ++ r = Leb.encT s' ++ r') : s = s' ∧ r = r' := by
  have h1 := Leb.takeT_enc s r 1000 (by omega) (by unfold Leb.two64; omega)
  have h2 := Leb.takeT_enc s' r' 1000 (by omega) (by unfold Leb.two64; omega)
  rw [h, h2] at h1
  simp only [Prod.mk.injEq] at h1
  exact ⟨h1.1.symm, h1.2.1.symm⟩
def Short (ds : List Pr) : Prop := ∀ x ∈ ds, x.n.length ≤ 1000 ∧ x.v.length ≤ 1000
theorem keys_inj : ∀ (a b : List Pr), Short a → Short b → a.length = b.length → a.flatMap keyP = b.flatMap keyP → a = b
  | [], [], _, _, _, _ => rfl
  | [], _ :: _, _, _, h, _ => by simp at h
  | _ :: _, [], _, _, h, _ => by simp at h
  | x :: a, y :: b, ha, hb, hl, h => by
    rw [List.flatMap_cons, List.flatMap_cons, keyP, keyP, List.append_assoc, List.append_assoc] at h
    obtain ⟨h1, h2⟩ := encT_inj (ha x (by simp)).1 (hb y (by simp)).1 h
    obtain ⟨h3, h4⟩ := encT_inj (ha x (by simp)).2 (hb y (by simp)).2 h2
    have hxy : x = y := by cases x; cases y; simp at h1 h3; rw [h1, h3]
    rw [hxy, keys_inj a b (fun z hz => ha z (by simp [hz])) (fun z hz => hb z (by simp [hz])) (by simpa using hl) h4]
theorem keyL_inj (a b : List Pr) (ha : Short a) (hb : Short b) (la : a.length ≤ 1000) (lb : b.length ≤ 1000) (h : keyL a = keyL b) : a = b := by
  unfold keyL at h
  have h1 := Leb.takeU_enc a.length (by unfold Leb.two64; omega) (a.flatMap keyP)
  have h2 := Leb.takeU_enc b.length (by unfold Leb.two64; omega) (b.flatMap keyP)
  rw [h, h2] at h1
  simp only [Prod.mk.injEq] at h1
  exact keys_inj a b ha hb h1.1.symm h1.2.1.symm
theorem f42_short (ds : List Pr) : Short (f42 ds) := by
  intro x hx
  obtain ⟨y, _, rfl⟩ := List.mem_map.1 hx
  simp; omega
theorem key_small : ∀ (ds : List Pr), Short ds → (ds.flatMap keyP).length ≤ ds.length * 2020
  | [], _ => by simp
  | x :: ds, h => by
    have ih := key_small ds (fun z hz => h z (by simp [hz]))
    obtain ⟨h1, h2⟩ := h x (by simp)
    have e1 : (Leb.encT x.n).length ≤ 1010 := by unfold Leb.encT; rw [List.length_append]; have := (Leb.encU_len x.n.length).2; omega
    have e2 : (Leb.encT x.v).length ≤ 1010 := by unfold Leb.encT; rw [List.length_append]; have := (Leb.encU_len x.v.length).2; omega
    rw [List.flatMap_cons, List.length_append, keyP, List.length_append, List.length_cons]
    omega
end Go.Proofs.YtefhnjepocbodaaGreatDoor

namespace Go.Proofs.YtefhnjepocbodaaGreatDoor
open Go.RowKit Go.Lib

theorem PrsAt.len {w : World} {ao : Option Addr} {len : Nat} {ds : List Pr} (h : PrsAt w ao len ds) : (f42 ds).length ≤ 10 := by rw [f42_len, h.1]; omega
theorem Sl.bl {w w' : World} {base size n : Nat} {v : Value} {xs : List Value} (h : Sl w base size v n xs) (b : Below w.heap.size w w') : Sl w' base size v n xs := h.below b (fun k hk => (h.lt k hk).2)

end Go.Proofs.YtefhnjepocbodaaGreatDoor
