/- Layer 12: addPair, whatever is in the index (plain maths first). -/
import Derived.Test.YteheojiokbdgmaaGreatDoorMK8
import Derived.Deep.DeepCutAuto
import Derived.Deep.CutRange
import Derived.Deep.RegionHeld3
namespace Go.Proofs.YteheojiokbdgmaaGreatDoor
open Go.RowKit Go.Lib

def Full (H : List HEn) : Prop := ∀ h ∈ H, h.vs ≠ [] ∧ ∀ e ∈ h.vs, e.l ≠ []
/-- There is an inner map for a name. -/
structure First (x : List UInt8) (H H1 : List HEn) (k : HEn) : Prop where
  look : lookK HEn.x x H1 = some k
  same : ∀ x' y', getH H1 x' y' = getH H x' y'
  full : Full H → (∀ h ∈ H1, h.x ≠ x → h.vs ≠ [] ∧ ∀ e ∈ h.vs, e.l ≠ []) ∧ ∀ e ∈ k.vs, e.l ≠ []
  was : (∃ y, getH H x y ≠ []) → H1 = H
theorem First.refl {x : List UInt8} {H : List HEn} {k : HEn} (h : lookK HEn.x x H = some k) : First x H H k :=
  ⟨h, fun _ _ => rfl, fun F => ⟨fun e he _ => F e he, (F k (lookK_mem HEn.x h).1).2⟩, fun _ => rfl⟩
theorem First.new {x : List UInt8} {H : List HEn} (mi ch : Nat) (h : lookK HEn.x x H = none) (hn : (H.map HEn.x).Nodup) : First x H (putK HEn.x x id ⟨x, mi, ch, 0, []⟩ H) ⟨x, mi, ch, 0, []⟩ := by
  have hl := fun k' => lookK_put HEn.x (k := x) (k' := k') (f := id) (b := (⟨x, mi, ch, 0, []⟩ : HEn)) (fun _ => rfl) rfl H
  refine ⟨by rw [hl, if_pos rfl, h]; rfl, fun x' y' => ?_, fun F => ⟨fun e he hne => ?_, fun e he => (by cases he)⟩, fun ⟨y, hy⟩ => absurd (by unfold getH; rw [h]; rfl) hy⟩
  · unfold getH
    rw [hl]
    by_cases e : x' = x
    · subst e; rw [if_pos rfl, h]; rfl
    · rw [if_neg e]
  · rcases putK_mem HEn.x hn he with ⟨h2, _⟩ | ⟨c, hc, _⟩ | ⟨_, rfl⟩
    · exact F e h2
    · rw [h] at hc; cases hc
    · exact absurd rfl hne
theorem getV_put (y : List UInt8) (v : Value) (l : List Int) (c : Nat) (vs : List VEn) (y' : List UInt8) : getV (putV y v l c vs) y' = if y' = y then l else getV vs y' := by
  unfold getV putV
  rw [lookK_put VEn.y (k := y) (k' := y') (f := fun e => { e with v := v, l := l }) (b := (⟨y, v, c, l⟩ : VEn)) (fun _ => rfl) rfl vs]
  by_cases e : y' = y
  · rw [if_pos e, if_pos e]; cases lookK VEn.y y vs <;> rfl
  · rw [if_neg e, if_neg e]
theorem putV_ne (y : List UInt8) (v : Value) (l : List Int) (c : Nat) (vs : List VEn) : putV y v l c vs ≠ [] := by
  intro h
  have h1 := lookK_put VEn.y (k := y) (k' := y) (f := fun e => { e with v := v, l := l }) (b := (⟨y, v, c, l⟩ : VEn)) (fun _ => rfl) rfl vs
  unfold putV at h
  rw [h, if_pos rfl] at h1
  cases h1
theorem First.set {x y : List UInt8} {H H1 : List HEn} {k : HEn} (F : First x H H1 k) (hn : (H1.map HEn.x).Nodup) (hv : (k.vs.map VEn.y).Nodup) (v : Value) (l : List Int) (hl : l ≠ []) (c c' : Nat) :
    (∀ x' y', getH (putK HEn.x k.x (fun a => { a with vs := putV y v l c k.vs, ci := c' }) k H1) x' y' = if x' = x ∧ y' = y then l else getH H x' y') ∧
      (Full H → Full (putK HEn.x k.x (fun a => { a with vs := putV y v l c k.vs, ci := c' }) k H1)) := by
  have hkx := (lookK_mem HEn.x F.look).2
  have hlk := F.look
  rw [← hkx] at hlk
  refine ⟨fun x' y' => ?_, fun hF e he => ?_⟩
  · rw [← F.same]
    conv => lhs; unfold getH
    rw [lookK_put HEn.x (k := k.x) (k' := x') (f := fun a => { a with vs := putV y v l c k.vs, ci := c' }) (b := k) (fun _ => rfl) rfl H1, hlk, hkx]
    by_cases e : x' = x
    · subst e
      rw [if_pos rfl]
      show getV (putV y v l c k.vs) y' = _
      rw [getV_put]
      by_cases e2 : y' = y
      · rw [if_pos e2, if_pos ⟨rfl, e2⟩]
      · rw [if_neg e2, if_neg (fun h => e2 h.2)]
        unfold getH
        rw [F.look]; rfl
    · rw [if_neg e, if_neg (fun h => e h.1)]
      rfl
  · rcases putK_mem HEn.x hn he with ⟨h2, h3⟩ | ⟨a, ha, rfl⟩ | ⟨h1, _⟩
    · exact (F.full hF).1 e h2 (by rw [← hkx]; exact h3)
    · refine ⟨putV_ne _ _ _ _ _, fun e he => ?_⟩
      rcases putK_mem VEn.y hv he with ⟨h2, _⟩ | ⟨c, _, rfl⟩ | ⟨_, rfl⟩
      · exact (F.full hF).2 e h2
      · exact hl
      · exact hl
    · rw [hlk] at h1; cases h1
theorem getL_put (n : Int) (v : Value) (ps : List Pr) (c : Nat) (L : List LEn) (m : Int) : getL (putL n v ps c L) m = if m = n then ps else getL L m := by
  unfold getL putL
  rw [lookK_put LEn.n (k := n) (k' := m) (f := fun e => { e with v := v, ps := ps }) (b := (⟨n, v, c, ps⟩ : LEn)) (fun _ => rfl) rfl L]
  by_cases e : m = n
  · rw [if_pos e, if_pos e]; cases lookK LEn.n n L <;> rfl
  · rw [if_neg e, if_neg e]
theorem putZ_ne (l : List Int) (n : Int) : putZ l n ≠ [] := fun h => by
  have := (putZ_mem l n n).2 (.inl rfl)
  rw [h] at this
  cases this
end Go.Proofs.YteheojiokbdgmaaGreatDoor
