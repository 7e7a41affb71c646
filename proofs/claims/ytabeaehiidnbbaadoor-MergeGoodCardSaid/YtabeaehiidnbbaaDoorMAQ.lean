/- Layer 14: the library's Pop over the front, walked. Layer 14: which place comes first, in plain words; a front that is a heap. Layer 14: put; walked. -/
import Derived.Test.YtabeaehiidnbbaaDoorMAO
namespace Go.Proofs.YtabeaehiidnbbaaDoor
open Go.RowKit Go.Lib Hp
set_option linter.unusedVariables false

theorem ptc_cut (P f : Nat → Nat) (m j : Nat) (hj : j < m) : (ptc P f m)[j]? = (ptc P f (m + 1))[j]? := by
  rw [ptc_at P f m j hj, ptc_at P f (m + 1) j (by omega)]
theorem sl_cut14 {w : World} {base g off m cap : Nat} {P f : Nat → Nat} (h : Sl w base 1 (.slice (some ⟨g, off, none⟩) (m + 1) cap) (m + 1) (ptc P f (m + 1))) : Sl w base 1 (.slice (some ⟨g, off, none⟩) m cap) m (ptc P f m) := by
  obtain ⟨h1, h2⟩ := h
  refine ⟨by simp [ptc], ?_⟩
  rcases h2 with ⟨e, _⟩ | ⟨g', off', cap', e, a1, a2, a3, a4, a5, a6⟩
  · cases e
  · cases e
    refine .inr ⟨g, off, cap, rfl, a1, a2, by omega, a4, a5, fun j hj => ?_⟩
    rw [Nat.mul_one] at hj
    rw [a6 j (by omega), ptc_cut P f m j hj]

set_option maxHeartbeats 2000000 in
set_option maxRecDepth 100000 in
theorem fpop_FrS {w0 w : World} {F m : Nat} {P f : Nat → Nat} {rv : Value} {cur : Nat → List Sp} {iv : Nat → Value} (h : FrS w0 w F P rv (m + 1) f cur iv) (hm : m ≤ 100000) :
    Calls Tryd.prog 109 #[.pointer (some ⟨F, 0, none⟩)] w fun e w' => e = .returned (.iface 77 (.pointer (some ⟨P (f m), 0, none⟩))) ∧ ∃ rv', FrS w0 w' F P rv' m f cur iv ∧ Bk F rv w w' ∧ rv'.ownBlock = rv.ownBlock := by
  have hF : F < w.heap.size := (Array.getElem?_eq_some_iff.1 h.box).1
  obtain ⟨G, o, cp, he, hGb, hncp, hcpm⟩ := h.sl.somewhere (by omega)
  subst he
  have cm := h.sl.cells (m * 1) _ (by rw [Nat.mul_one]; exact ptc_at P f (m + 1) m (by omega))
  rw [Addr.add_lit, Nat.mul_one] at cm
  have c0 := Lib.cell_of_heap h.box 0
  have f0 := Lib.frozen_of_heap h.box 0
  simp at c0
  obtain ⟨q, hq⟩ : ∃ q, q = P (f m) := ⟨_, rfl⟩
  rw [← hq] at cm ⊢
  have FIN := Lib.hid (show ∃ rv', FrS w0 (w.setCell ⟨F, 0, none⟩ (.slice (some ⟨G, o, none⟩) m cp)) F P rv' m f cur iv ∧ Bk F (.slice (some ⟨G, o, none⟩) (m + 1) cp) w (w.setCell ⟨F, 0, none⟩ (.slice (some ⟨G, o, none⟩) m cp)) ∧ rv'.ownBlock = (Value.slice (some ⟨G, o, none⟩) (m + 1) cp).ownBlock from by
    have hb : Below F w (w.setCell ⟨F, 0, none⟩ (.slice (some ⟨G, o, none⟩) m cp)) := (Below.refl F w).setCell (p := ⟨F, 0, none⟩) (Nat.le_refl _) _
    have hlt : ∀ p, Has f m p → Has f (m + 1) p := fun p ⟨k, hk, e⟩ => ⟨k, by omega, e⟩
    refine ⟨.slice (some ⟨G, o, none⟩) m cp, ⟨?_, sl_else (sl_cut14 h.sl) _ _ (by simp), fun g hg p hp => h.own g hg p (hlt p hp), fun p hp => ?_, h.below.trans (hb.mono h.big), h.big⟩, ⟨hb, fun b _ hbF _ => by rw [Below.heap_setCell _ _ _ _ (by simp only; omega)]⟩, rfl⟩
    · rw [heap_setCell_same w F 0 _ _ (.slice (some ⟨G, o, none⟩) m cp) h.box]; rfl
    · obtain ⟨r1, r2, r3, r4⟩ := h.rest p (hlt p hp)
      refine ⟨?_, r2, r3, r4⟩
      rw [Below.heap_setCell _ _ _ _ (by simp only; omega)]
      exact r1)
  have e1 : ((m + 1 : Nat) : Int) - 1 = (m : Int) := by omega
  have i1 : (m : Int) < (m : Int) + 1 := by omega
  have hmc : m ≤ cp := by omega
  have hmc2 : (m : Int) ≤ (cp : Int) := by omega
  clear h hq
  go_enter Tryd.func109, Tryd.ntmps109
  go_wp2
  go_ret
  exact ⟨rfl, FIN.out⟩

/-- What a Pop leaves, of m + 1. -/
def popF (lt : Nat → Nat → Bool) (f : Nat → Nat) (m : Nat) : Nat → Nat := down lt (swp f 0 m) 0 m
theorem popF_out (lt : Nat → Nat → Bool) (f : Nat → Nat) (m : Nat) : popF lt f m m = f 0 := by
  unfold popF
  by_cases hm : 0 < m
  · rw [down_out lt m (m - 0) 0 (swp f 0 m) rfl hm m (Nat.le_refl _), swp_r]
  · have : m = 0 := by omega
    subst this
    rw [down_stop _ _ _ _ (by omega), swp_l]

set_option maxHeartbeats 2000000 in
set_option maxRecDepth 100000 in
theorem hpop_FrS {w0 w : World} {F m : Nat} {P f : Nat → Nat} {rv : Value} {cur : Nat → List Sp} {iv : Nat → Value} (h : FrS w0 w F P rv (m + 1) f cur iv) (hm : m ≤ 100000) :
    Calls Tryd.prog 33 #[.iface 72 (.pointer (some ⟨F, 0, none⟩))] w fun e w' => e = .returned (.iface 77 (.pointer (some ⟨P (f 0), 0, none⟩))) ∧ ∃ rv', FrS w0 w' F P rv' m (popF (ltS cur) f m) cur iv ∧ Bk F rv w w' ∧ rv'.ownBlock = rv.ownBlock := by
  have LN := Lib.hid (flen_FrS h)
  have SW := Lib.hid (fswap_FrS h 0 m (by omega) (by omega))
  have mS := fun k W => mSwap_S k F W
  have mL := fun k W => mLen_S k F W
  have mO := fun k W => mPop_S k F W
  obtain ⟨q, hq⟩ : ∃ q, q = P (f 0) := ⟨_, rfl⟩
  have HQ := Lib.hid hq
  rw [← hq]
  have e1 : ((m + 1 : Nat) : Int) - 1 = (m : Int) := by omega
  clear h hq
  go_enter Tryd.func33, Tryd.ntmps33
  go_wp2_with fail
  refine LN.out.mono ?_
  rintro e w1 ⟨rfl, rfl⟩
  clear LN
  go_wp2_with fail
  refine SW.out.mono ?_
  rintro e w2 ⟨rfl, f2, b2⟩
  have B2 := Lib.hid b2
  have DN := Lib.hid (down_FrS f2 0 m (by omega) (by omega) (by omega))
  clear f2 b2 SW
  go_wp2_with fail
  refine DN.out.mono ?_
  rintro e w3 ⟨⟨b, rfl⟩, f3, b3⟩
  have B3 := Lib.hid (B2.out.trans b3)
  have PO := Lib.hid (show Calls Tryd.prog 109 #[.pointer (some ⟨F, 0, none⟩)] w3 (fun e w' => e = .returned (.iface 77 (.pointer (some ⟨q, 0, none⟩))) ∧ ∃ rv', FrS w0 w' F P rv' m (popF (ltS cur) f m) cur iv ∧ Bk F rv w3 w' ∧ rv'.ownBlock = rv.ownBlock) by
    have h := fpop_FrS (f := popF (ltS cur) f m) f3 hm
    rw [popF_out, ← HQ.out] at h
    exact h)
  clear f3 b3 DN B2
  go_wp2_with fail
  refine PO.out.mono ?_
  rintro e w4 ⟨rfl, rv', f4, b4, o4⟩
  go_wp2
  go_ret
  exact ⟨rfl, rv', f4, B3.out.trans b4, o4⟩
end Go.Proofs.YtabeaehiidnbbaaDoor

namespace Go.Proofs.YtabeaehiidnbbaaDoor
open Go.RowKit Go.Lib Hp
set_option linter.unusedVariables false

theorem ltS_iff (cur : Nat → List Sp) (p q : Nat) : ltS cur p q = true ↔ ((cur p).headD default).t < ((cur q).headD default).t ∨ (((cur p).headD default).t = ((cur q).headD default).t ∧ p < q) := by
  unfold ltS orI cmpI
  rw [decide_eq_true_iff]
  generalize ((cur p).headD default).t = a
  generalize ((cur q).headD default).t = b
  by_cases h1 : a < b
  · simp [h1]
  · by_cases h2 : b < a
    · have : ¬ a = b := by omega
      simp [h1, h2, this]
    · have : a = b := by omega
      subst this
      by_cases h3 : (p : Int) < q
      · have : p < q := by omega
        simp [h3, this]
      · have : ¬ p < q := by omega
        by_cases h4 : (q : Int) < p
        · simp [h3, h4, this]
        · simp [h3, h4, this]
theorem ltS_not (cur : Nat → List Sp) (p q : Nat) : ltS cur p q = false ↔ ¬ (((cur p).headD default).t < ((cur q).headD default).t ∨ (((cur p).headD default).t = ((cur q).headD default).t ∧ p < q)) := by
  rw [← ltS_iff]
  simp
theorem ltS_swo (cur : Nat → List Sp) : Swo (ltS cur) := by
  refine ⟨fun a b h => ?_, fun a b c h1 h2 => ?_⟩
  · rw [ltS_iff] at h
    rw [ltS_not]
    omega
  · rw [ltS_not] at h1 h2 ⊢
    omega

theorem ltS_irr (cur : Nat → List Sp) (p : Nat) : ltS cur p p = false := by rw [ltS_not]; omega
theorem ltS_tot {cur : Nat → List Sp} {p q : Nat} (h1 : ltS cur p q = false) (h2 : ltS cur q p = false) : p = q := by
  rw [ltS_not] at h1 h2
  omega

theorem heap_congr {lt lt' : Nat → Nat → Bool} {f : Nat → Nat} {n : Nat} (h : Heap lt f n) (he : ∀ p q, Has f n p → Has f n q → lt p q = lt' p q) : Heap lt' f n := by
  intro k hk hkn
  have := h k hk hkn
  unfold Ok at this ⊢
  rw [← he _ _ ⟨k, hkn, rfl⟩ ⟨(k - 1) / 2, by omega, rfl⟩]
  exact this
/-- In order, each place once. -/
structure Good (lt : Nat → Nat → Bool) (f : Nat → Nat) (n : Nat) : Prop where
  heap : Heap lt f n
  inj : Inj f n
theorem snoc_inj {f : Nat → Nat} {n p : Nat} (h : Inj f n) (hp : ¬ Has f n p) : Inj (snocF f n p) (n + 1) := by
  intro i j hi hj e
  unfold snocF at e
  by_cases h1 : i = n <;> by_cases h2 : j = n
  · omega
  · rw [if_pos h1, if_neg h2] at e
    exact absurd ⟨j, by omega, e.symm⟩ hp
  · rw [if_neg h1, if_pos h2] at e
    exact absurd ⟨i, by omega, e⟩ hp
  · rw [if_neg h1, if_neg h2] at e
    exact h i j (by omega) (by omega) e
theorem push_good {lt : Nat → Nat → Bool} (hs : Swo lt) {f : Nat → Nat} {n p : Nat} (h : Good lt f n) (hp : ¬ Has f n p) : Good lt (up lt (snocF f n p) n) (n + 1) := by
  refine ⟨up_heap lt hs (n + 1) n _ (by omega) (fun k hk hkn hkp => ?_) (fun k hk hkn hkp hn0 => by omega), up_inj lt (n + 1) n _ (by omega) (snoc_inj h.inj hp)⟩
  unfold Ok snocF
  rw [if_neg hkp, if_neg (by omega)]
  exact h.heap k hk (by omega)
theorem push_has {lt : Nat → Nat → Bool} {f : Nat → Nat} {n p : Nat} (x : Nat) : Has (up lt (snocF f n p) n) (n + 1) x ↔ Has f n x ∨ x = p := by
  rw [up_has lt (n + 1) n _ (by omega) x, snocF_has]
theorem pop_has_all {lt : Nat → Nat → Bool} {f : Nat → Nat} {m : Nat} (x : Nat) : Has (popF lt f m) (m + 1) x ↔ Has f (m + 1) x := by
  have key : Has (popF lt f m) (m + 1) x ↔ Has (swp f 0 m) (m + 1) x := by
    unfold popF
    by_cases hm : 0 < m
    · have ho := down_out lt m (m - 0) 0 (swp f 0 m) rfl hm m (Nat.le_refl _)
      have hh := down_has lt m (m - 0) 0 (swp f 0 m) rfl hm x
      constructor
      · rintro ⟨k, hk, e⟩
        by_cases h : k = m
        · subst h; exact ⟨k, hk, by rw [← ho]; exact e⟩
        · obtain ⟨k', hk', e'⟩ := hh.1 ⟨k, by omega, e⟩
          exact ⟨k', by omega, e'⟩
      · rintro ⟨k, hk, e⟩
        by_cases h : k = m
        · subst h; exact ⟨k, hk, by rw [ho]; exact e⟩
        · obtain ⟨k', hk', e'⟩ := hh.2 ⟨k, by omega, e⟩
          exact ⟨k', by omega, e'⟩
    · have : m = 0 := by omega
      subst this
      rw [down_stop _ _ _ _ (by omega)]
  rw [key, swp_has f (m + 1) 0 m (by omega) (by omega) x]
theorem pop_inj {lt : Nat → Nat → Bool} {f : Nat → Nat} {m : Nat} (h : Inj f (m + 1)) : Inj (popF lt f m) m := by
  have h1 := swp_inj f (m + 1) 0 m (by omega) (by omega) h
  by_cases hm : 0 < m
  · unfold popF
    exact down_inj lt m (m - 0) 0 _ rfl hm (fun i j hi hj e => h1 i j (by omega) (by omega) e)
  · intro i j hi
    omega
theorem pop_good {lt : Nat → Nat → Bool} (hs : Swo lt) {f : Nat → Nat} {m : Nat} (h : Good lt f (m + 1)) : Good lt (popF lt f m) m := by
  refine ⟨?_, pop_inj h.inj⟩
  by_cases hm : 0 < m
  · unfold popF
    refine down_heap lt hs m (m - 0) 0 _ rfl hm (fun k hk hkn hkp => ?_) (fun k hk hkn hkp h0 => absurd h0 (Nat.lt_irrefl 0))
    unfold Ok
    rw [swp_o f 0 m k (by omega) (by omega), swp_o f 0 m _ hkp (by omega)]
    exact h.heap k hk (by omega)
  · intro k hk hkn
    omega
/-- The one that was on top is no more there; all others are. -/
theorem pop_has {lt : Nat → Nat → Bool} {f : Nat → Nat} {m : Nat} (h : Inj f (m + 1)) (x : Nat) : Has (popF lt f m) m x ↔ Has f (m + 1) x ∧ x ≠ f 0 := by
  have ho := popF_out lt f m
  constructor
  · rintro ⟨k, hk, rfl⟩
    refine ⟨(pop_has_all _).1 ⟨k, by omega, rfl⟩, fun e => ?_⟩
    -- the place k of the pop holds what stood on top: so does place m
    have hinj : Inj (popF lt f m) (m + 1) := by
      have h1 := swp_inj f (m + 1) 0 m (by omega) (by omega) h
      have hm : 0 < m := by omega
      intro i j hi hj e2
      by_cases hi2 : i = m <;> by_cases hj2 : j = m
      · omega
      · exfalso
        subst hi2
        rw [ho] at e2
        obtain ⟨k', hk', e'⟩ := (down_has lt i (i - 0) 0 (swp f 0 i) rfl hm (popF lt f i j)).1 ⟨j, by omega, rfl⟩
        have : swp f 0 i k' = swp f 0 i i := by rw [swp_r, e', ← e2]
        have := h1 k' i (by omega) (by omega) this
        omega
      · exfalso
        subst hj2
        rw [ho] at e2
        obtain ⟨k', hk', e'⟩ := (down_has lt j (j - 0) 0 (swp f 0 j) rfl hm (popF lt f j i)).1 ⟨i, by omega, rfl⟩
        have : swp f 0 j k' = swp f 0 j j := by rw [swp_r, e', e2]
        have := h1 k' j (by omega) (by omega) this
        omega
      · exact pop_inj h i j (by omega) (by omega) e2
    have := hinj k m (by omega) (by omega) (by rw [e, ho])
    omega
  · rintro ⟨hx, hne⟩
    obtain ⟨k, hk, e⟩ := (pop_has_all (lt := lt) x).2 hx
    by_cases hkm : k = m
    · subst hkm
      rw [ho] at e
      exact absurd e.symm hne
    · exact ⟨k, by omega, e⟩
end Go.Proofs.YtabeaehiidnbbaaDoor

namespace Go.Proofs.YtabeaehiidnbbaaDoor
open Go.RowKit Go.Lib Hp
set_option linter.unusedVariables false

/-- How many there are behind a put, and in which order. -/
def putN (cur : Nat → List Sp) (n p : Nat) : Nat := if (cur p).length = 0 then n else n + 1
def putF (cur : Nat → List Sp) (f : Nat → Nat) (n p : Nat) : Nat → Nat := if (cur p).length = 0 then f else up (ltS cur) (snocF f n p) n

set_option maxHeartbeats 2000000 in
set_option maxRecDepth 100000 in
theorem put_FrS {w0 w : World} {F n p : Nat} {P f : Nat → Nat} {rv : Value} {cur : Nat → List Sp} {iv : Nat → Value} (h : FrS w0 w F P rv n f cur iv) (hn : n ≤ 100000)
    (hr : w.heap[P p]? = some (.cells #[.int .i64 p, iv p] 79) ∧ F < P p ∧ Rd w0 2 (iv p) (cur p).length (spc (cur p))) (ho : ∀ g, rv.ownBlock = some g → P p ≠ g) :
    Calls Tryd.prog 31 #[.pointer (some ⟨F, 0, none⟩), .pointer (some ⟨P p, 0, none⟩)] w fun e w' => e = .returned (.tuple #[]) ∧ ∃ rv', FrS w0 w' F P rv' (putN cur n p) (putF cur f n p) cur iv ∧ Bk F rv w w' ∧ ∀ g, rv'.ownBlock = some g → rv.ownBlock = some g ∨ w.heap.size ≤ g := by
  obtain ⟨r1, r2, r3⟩ := hr
  obtain ⟨a, c, ei⟩ := r3.slice
  have r1' := r1
  rw [ei] at r1'
  have c1 := Lib.cell_of_heap r1' 1
  simp at c1
  obtain ⟨q, hq⟩ : ∃ q, q = P p := ⟨_, rfl⟩
  by_cases h0 : (cur p).length = 0
  · have FIN := Lib.hid (show ∃ rv', FrS w0 w F P rv' (putN cur n p) (putF cur f n p) cur iv ∧ Bk F rv w w ∧ ∀ g, rv'.ownBlock = some g → rv.ownBlock = some g ∨ w.heap.size ≤ g by
      refine ⟨rv, ?_, Bk.refl _ _ _, fun g hg => .inl hg⟩
      unfold putN putF
      rw [if_pos h0, if_pos h0]
      exact h)
    rw [← hq] at c1 ⊢
    rw [h0] at c1
    clear h r1 r1' r3 ei ho hq h0 r2
    go_enter Tryd.func31, Tryd.ntmps31
    go_wp2
    go_end0
    exact ⟨rfl, FIN.out⟩
  · have hpos : 0 < (cur p).length := by omega
    have HP := Lib.hid (show Calls Tryd.prog 40 #[.iface 72 (.pointer (some ⟨F, 0, none⟩)), .iface 77 (.pointer (some ⟨P p, 0, none⟩))] w (fun e w' => e = .returned (.tuple #[]) ∧ ∃ rv', FrS w0 w' F P rv' (putN cur n p) (putF cur f n p) cur iv ∧ Bk F rv w w' ∧ ∀ g, rv'.ownBlock = some g → rv.ownBlock = some g ∨ w.heap.size ≤ g) by
      unfold putN putF
      rw [if_neg h0, if_neg h0]
      exact hpush_FrS h hn ⟨r1, r2, r3, hpos⟩ ho)
    obtain ⟨L, hL⟩ : ∃ L, L = (cur p).length := ⟨_, rfl⟩
    rw [← hq] at c1 HP ⊢
    rw [← hL] at c1 hpos
    clear h r1 r1' r3 ei ho hq h0 r2 hL
    go_enter Tryd.func31, Tryd.ntmps31
    go_wp2_with fail
    refine HP.out.mono ?_
    rintro e w1 ⟨rfl, FIN⟩
    have FIN := Lib.hid FIN
    go_wp2
    go_end0
    exact ⟨rfl, FIN.out⟩
end Go.Proofs.YtabeaehiidnbbaaDoor
