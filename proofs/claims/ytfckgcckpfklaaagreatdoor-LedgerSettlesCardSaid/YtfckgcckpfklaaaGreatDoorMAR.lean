/- Layer 14: which place comes first, in plain words; a front that is a heap. Layer 14: put; walked. Layer 14: lists merged, in plain words. Layer 14: lists put into a front, one by one: the first loop of merged, in these words. -/
import Derived.Test.YtfckgcckpfklaaaGreatDoorMAM
namespace Go.Proofs.YtfckgcckpfklaaaGreatDoor
open Go.RowKit Go.Lib Hp
set_option linter.unusedVariables false

theorem ltS_iff (cur : Nat → List Sp) (p q : Nat) : ltS cur p q = true ↔ ((cur p).headD default).t < ((cur q).headD default).t ∨ (((cur p).headD default).t = ((cur q).headD default).t ∧ p < q) := by
  unfold ltS orI cmpI
  rw [decide_eq_true_iff]
  generalize ((cur p).headD default).t = a
  generalize ((cur q).headD default).t = b
  by_cases h1 : a < b
  · simp [h1]
  · by_cases h2 : b < a
    · have : ¬ a = b := by omega
      simp [h1, h2, this]
    · have : a = b := by omega
      subst this
      by_cases h3 : (p : Int) < q
      · have : p < q := by omega
        simp [h3, this]
      · have : ¬ p < q := by omega
        by_cases h4 : (q : Int) < p
        · simp [h3, h4, this]
        · simp [h3, h4, this]
theorem ltS_not (cur : Nat → List Sp) (p q : Nat) : ltS cur p q = false ↔ ¬ (((cur p).headD default).t < ((cur q).headD default).t ∨ (((cur p).headD default).t = ((cur q).headD default).t ∧ p < q)) := by
  rw [← ltS_iff]
  simp
theorem ltS_swo (cur : Nat → List Sp) : Swo (ltS cur) := by
  refine ⟨fun a b h => ?_, fun a b c h1 h2 => ?_⟩
  · rw [ltS_iff] at h
    rw [ltS_not]
    omega
  · rw [ltS_not] at h1 h2 ⊢
    omega

theorem ltS_irr (cur : Nat → List Sp) (p : Nat) : ltS cur p p = false := by rw [ltS_not]; omega
theorem ltS_tot {cur : Nat → List Sp} {p q : Nat} (h1 : ltS cur p q = false) (h2 : ltS cur q p = false) : p = q := by
  rw [ltS_not] at h1 h2
  omega

theorem heap_congr {lt lt' : Nat → Nat → Bool} {f : Nat → Nat} {n : Nat} (h : Heap lt f n) (he : ∀ p q, Has f n p → Has f n q → lt p q = lt' p q) : Heap lt' f n := by
  intro k hk hkn
  have := h k hk hkn
  unfold Ok at this ⊢
  rw [← he _ _ ⟨k, hkn, rfl⟩ ⟨(k - 1) / 2, by omega, rfl⟩]
  exact this
/-- In order, each place once. -/
structure Good (lt : Nat → Nat → Bool) (f : Nat → Nat) (n : Nat) : Prop where
  heap : Heap lt f n
  inj : Inj f n
theorem snoc_inj {f : Nat → Nat} {n p : Nat} (h : Inj f n) (hp : ¬ Has f n p) : Inj (snocF f n p) (n + 1) := by
  intro i j hi hj e
  unfold snocF at e
  by_cases h1 : i = n <;> by_cases h2 : j = n
  · omega
  · rw [if_pos h1, if_neg h2] at e
    exact absurd ⟨j, by omega, e.symm⟩ hp
  · rw [if_neg h1, if_pos h2] at e
    exact absurd ⟨i, by omega, e⟩ hp
  · rw [if_neg h1, if_neg h2] at e
    exact h i j (by omega) (by omega) e
theorem push_good {lt : Nat → Nat → Bool} (hs : Swo lt) {f : Nat → Nat} {n p : Nat} (h : Good lt f n) (hp : ¬ Has f n p) : Good lt (up lt (snocF f n p) n) (n + 1) := by
  refine ⟨up_heap lt hs (n + 1) n _ (by omega) (fun k hk hkn hkp => ?_) (fun k hk hkn hkp hn0 => by omega), up_inj lt (n + 1) n _ (by omega) (snoc_inj h.inj hp)⟩
  unfold Ok snocF
  rw [if_neg hkp, if_neg (by omega)]
  exact h.heap k hk (by omega)
theorem push_has {lt : Nat → Nat → Bool} {f : Nat → Nat} {n p : Nat} (x : Nat) : Has (up lt (snocF f n p) n) (n + 1) x ↔ Has f n x ∨ x = p := by
  rw [up_has lt (n + 1) n _ (by omega) x, snocF_has]
theorem pop_has_all {lt : Nat → Nat → Bool} {f : Nat → Nat} {m : Nat} (x : Nat) : Has (popF lt f m) (m + 1) x ↔ Has f (m + 1) x := by
  have key : Has (popF lt f m) (m + 1) x ↔ Has (swp f 0 m) (m + 1) x := by
    unfold popF
    by_cases hm : 0 < m
    · have ho := down_out lt m (m - 0) 0 (swp f 0 m) rfl hm m (Nat.le_refl _)
      have hh := down_has lt m (m - 0) 0 (swp f 0 m) rfl hm x
      constructor
      · rintro ⟨k, hk, e⟩
        by_cases h : k = m
        · subst h; exact ⟨k, hk, by rw [← ho]; exact e⟩
        · obtain ⟨k', hk', e'⟩ := hh.1 ⟨k, by omega, e⟩
          exact ⟨k', by omega, e'⟩
      · rintro ⟨k, hk, e⟩
        by_cases h : k = m
        · subst h; exact ⟨k, hk, by rw [ho]; exact e⟩
        · obtain ⟨k', hk', e'⟩ := hh.2 ⟨k, by omega, e⟩
          exact ⟨k', by omega, e'⟩
    · have : m = 0 := by omega
      subst this
      rw [down_stop _ _ _ _ (by omega)]
  rw [key, swp_has f (m + 1) 0 m (by omega) (by omega) x]
theorem pop_inj {lt : Nat → Nat → Bool} {f : Nat → Nat} {m : Nat} (h : Inj f (m + 1)) : Inj (popF lt f m) m := by
  have h1 := swp_inj f (m + 1) 0 m (by omega) (by omega) h
  by_cases hm : 0 < m
  · unfold popF
    exact down_inj lt m (m - 0) 0 _ rfl hm (fun i j hi hj e => h1 i j (by omega) (by omega) e)
  · intro i j hi
    omega
theorem pop_good {lt : Nat → Nat → Bool} (hs : Swo lt) {f : Nat → Nat} {m : Nat} (h : Good lt f (m + 1)) : Good lt (popF lt f m) m := by
  refine ⟨?_, pop_inj h.inj⟩
  by_cases hm : 0 < m
  · unfold popF
    refine down_heap lt hs m (m - 0) 0 _ rfl hm (fun k hk hkn hkp => ?_) (fun k hk hkn hkp h0 => absurd h0 (Nat.lt_irrefl 0))
    unfold Ok
    rw [swp_o f 0 m k (by omega) (by omega), swp_o f 0 m _ hkp (by omega)]
    exact h.heap k hk (by omega)
  · intro k hk hkn
    omega
/-- The one that was on top is no more there; all others are. -/
theorem pop_has {lt : Nat → Nat → Bool} {f : Nat → Nat} {m : Nat} (h : Inj f (m + 1)) (x : Nat) : Has (popF lt f m) m x ↔ Has f (m + 1) x ∧ x ≠ f 0 := by
  have ho := popF_out lt f m
  constructor
  · rintro ⟨k, hk, rfl⟩
    refine ⟨(pop_has_all _).1 ⟨k, by omega, rfl⟩, fun e => ?_⟩
    -- the place k of the pop holds what stood on top: so does place m
    have hinj : Inj (popF lt f m) (m + 1) := by
      have h1 := swp_inj f (m + 1) 0 m (by omega) (by omega) h
      have hm : 0 < m := by omega
      intro i j hi hj e2
      by_cases hi2 : i = m <;> by_cases hj2 : j = m
      · omega
      · exfalso
        subst hi2
        rw [ho] at e2
        obtain ⟨k', hk', e'⟩ := (down_has lt i (i - 0) 0 (swp f 0 i) rfl hm (popF lt f i j)).1 ⟨j, by omega, rfl⟩
        have : swp f 0 i k' = swp f 0 i i := by rw [swp_r, e', ← e2]
        have := h1 k' i (by omega) (by omega) this
        omega
      · exfalso
        subst hj2
        rw [ho] at e2
        obtain ⟨k', hk', e'⟩ := (down_has lt j (j - 0) 0 (swp f 0 j) rfl hm (popF lt f j i)).1 ⟨i, by omega, rfl⟩
        have : swp f 0 j k' = swp f 0 j j := by rw [swp_r, e', e2]
        have := h1 k' j (by omega) (by omega) this
        omega
      · exact pop_inj h i j (by omega) (by omega) e2
    have := hinj k m (by omega) (by omega) (by rw [e, ho])
    omega
  · rintro ⟨hx, hne⟩
    obtain ⟨k, hk, e⟩ := (pop_has_all (lt := lt) x).2 hx
    by_cases hkm : k = m
    · subst hkm
      rw [ho] at e
      exact absurd e.symm hne
    · exact ⟨k, by omega, e⟩
end Go.Proofs.YtfckgcckpfklaaaGreatDoor

namespace Go.Proofs.YtfckgcckpfklaaaGreatDoor
open Go.RowKit Go.Lib Hp
set_option linter.unusedVariables false

/-- How many there are behind a put, and in which order. -/
def putN (cur : Nat → List Sp) (n p : Nat) : Nat := if (cur p).length = 0 then n else n + 1
def putF (cur : Nat → List Sp) (f : Nat → Nat) (n p : Nat) : Nat → Nat := if (cur p).length = 0 then f else up (ltS cur) (snocF f n p) n

set_option maxHeartbeats 2000000 in
set_option maxRecDepth 100000 in
theorem put_FrS {w0 w : World} {F n p : Nat} {P f : Nat → Nat} {rv : Value} {cur : Nat → List Sp} {iv : Nat → Value} (h : FrS w0 w F P rv n f cur iv) (hn : n ≤ 100000)
    (hr : w.heap[P p]? = some (.cells #[.int .i64 p, iv p] 171) ∧ F < P p ∧ Rd w0 2 (iv p) (cur p).length (spc (cur p))) (ho : ∀ g, rv.ownBlock = some g → P p ≠ g) :
    Calls Tryz.prog 95 #[.pointer (some ⟨F, 0, none⟩), .pointer (some ⟨P p, 0, none⟩)] w fun e w' => e = .returned (.tuple #[]) ∧ ∃ rv', FrS w0 w' F P rv' (putN cur n p) (putF cur f n p) cur iv ∧ Bk F rv w w' ∧ ∀ g, rv'.ownBlock = some g → rv.ownBlock = some g ∨ w.heap.size ≤ g := by
  obtain ⟨r1, r2, r3⟩ := hr
  obtain ⟨a, c, ei⟩ := r3.slice
  have r1' := r1
  rw [ei] at r1'
  have c1 := Lib.cell_of_heap r1' 1
  simp at c1
  obtain ⟨q, hq⟩ : ∃ q, q = P p := ⟨_, rfl⟩
  by_cases h0 : (cur p).length = 0
  · have FIN := Lib.hid (show ∃ rv', FrS w0 w F P rv' (putN cur n p) (putF cur f n p) cur iv ∧ Bk F rv w w ∧ ∀ g, rv'.ownBlock = some g → rv.ownBlock = some g ∨ w.heap.size ≤ g by
      refine ⟨rv, ?_, Bk.refl _ _ _, fun g hg => .inl hg⟩
      unfold putN putF
      rw [if_pos h0, if_pos h0]
      exact h)
    rw [← hq] at c1 ⊢
    rw [h0] at c1
    clear h r1 r1' r3 ei ho hq h0 r2
    go_enter Tryz.func95, Tryz.ntmps95
    go_wp2
    go_end0
    exact ⟨rfl, FIN.out⟩
  · have hpos : 0 < (cur p).length := by omega
    have HP := Lib.hid (show Calls Tryz.prog 71 #[.iface 164 (.pointer (some ⟨F, 0, none⟩)), .iface 169 (.pointer (some ⟨P p, 0, none⟩))] w (fun e w' => e = .returned (.tuple #[]) ∧ ∃ rv', FrS w0 w' F P rv' (putN cur n p) (putF cur f n p) cur iv ∧ Bk F rv w w' ∧ ∀ g, rv'.ownBlock = some g → rv.ownBlock = some g ∨ w.heap.size ≤ g) by
      unfold putN putF
      rw [if_neg h0, if_neg h0]
      exact hpush_FrS h hn ⟨r1, r2, r3, hpos⟩ ho)
    obtain ⟨L, hL⟩ : ∃ L, L = (cur p).length := ⟨_, rfl⟩
    rw [← hq] at c1 HP ⊢
    rw [← hL] at c1 hpos
    clear h r1 r1' r3 ei ho hq h0 r2 hL
    go_enter Tryz.func95, Tryz.ntmps95
    go_wp2_with fail
    refine HP.out.mono ?_
    rintro e w1 ⟨rfl, FIN⟩
    have FIN := Lib.hid FIN
    go_wp2
    go_end0
    exact ⟨rfl, FIN.out⟩
end Go.Proofs.YtfckgcckpfklaaaGreatDoor

namespace Go.Proofs.YtfckgcckpfklaaaGreatDoor
open Go.RowKit Go.Lib Hp
set_option linter.unusedVariables false

/-- The place that comes first among those of the first k whose list isn't at its end. -/
def pickS (cur : Nat → List Sp) : Nat → Option Nat
  | 0 => none
  | k + 1 => if (cur k).length = 0 then pickS cur k else match pickS cur k with
    | none => some k
    | some p => if ltS cur k p = true then some k else some p
def updS (cur : Nat → List Sp) (p : Nat) (l : List Sp) : Nat → List Sp := fun q => if q = p then l else cur q
/-- All of k lists, the least first. -/
def kmg (cur : Nat → List Sp) (k : Nat) : Nat → List Sp
  | 0 => []
  | fuel + 1 => match pickS cur k with
    | none => []
    | some p => (cur p).headD default :: kmg (updS cur p (cur p).tail) k fuel
def LeastS (cur : Nat → List Sp) (k p : Nat) : Prop := p < k ∧ 0 < (cur p).length ∧ ∀ q, q < k → 0 < (cur q).length → ltS cur q p = false
theorem pickS_some (cur : Nat → List Sp) : ∀ (k p : Nat), pickS cur k = some p → LeastS cur k p
  | 0, p, h => by simp [pickS] at h
  | k + 1, p, h => by
    unfold pickS at h
    split at h
    · rename_i h0
      obtain ⟨h1, h2, h3⟩ := pickS_some cur k p h
      refine ⟨by omega, h2, fun q hq hl => ?_⟩
      by_cases hqk : q = k
      · subst hqk; omega
      · exact h3 q (by omega) hl
    · rename_i h0
      split at h
      · rename_i hn
        obtain rfl : k = p := Option.some.inj h
        refine ⟨by omega, by omega, fun q hq hl => ?_⟩
        by_cases hqk : q = k
        · subst hqk
          exact ltS_irr cur q
        · exact absurd hn (pickS_none cur k q (by omega) hl)
      · rename_i p' hp'
        obtain ⟨h1, h2, h3⟩ := pickS_some cur k p' hp'
        split at h
        · rename_i hlt
          obtain rfl : k = p := Option.some.inj h
          refine ⟨by omega, by omega, fun q hq hl => ?_⟩
          by_cases hqk : q = k
          · subst hqk
            exact ltS_irr cur q
          · exact (ltS_swo cur).trans _ _ _ ((ltS_swo cur).asym _ _ hlt) (h3 q (by omega) hl)
        · rename_i hlt
          obtain rfl : p' = p := Option.some.inj h
          refine ⟨by omega, h2, fun q hq hl => ?_⟩
          by_cases hqk : q = k
          · subst hqk
            simpa using hlt
          · exact h3 q (by omega) hl
where
  pickS_none (cur : Nat → List Sp) : ∀ (k q : Nat), q < k → 0 < (cur q).length → ¬ pickS cur k = none
    | 0, q, hq, _ => absurd hq (Nat.not_lt_zero _)
    | k + 1, q, hq, hl => by
      unfold pickS
      split
      · rename_i h0
        have : q ≠ k := fun e => by subst e; omega
        exact pickS_none cur k q (by omega) hl
      · split
        · simp
        · split <;> simp
/-- There is but one. -/
theorem leastS_one {cur : Nat → List Sp} {k p q : Nat} (h : LeastS cur k p) (h' : LeastS cur k q) : p = q := by
  have h1 := h.2.2 q h'.1 h'.2.1
  have h2 := h'.2.2 p h.1 h.2.1
  exact ltS_tot h2 h1
theorem pickS_of {cur : Nat → List Sp} {k p : Nat} (h : LeastS cur k p) : pickS cur k = some p := by
  cases hp : pickS cur k with
  | none => exact absurd hp (pickS_some.pickS_none cur k p h.1 h.2.1)
  | some q => rw [leastS_one (pickS_some cur k q hp) h]
theorem pickS_end {cur : Nat → List Sp} {k : Nat} (h : ∀ q, q < k → (cur q).length = 0) : pickS cur k = none := by
  cases hp : pickS cur k with
  | none => rfl
  | some q =>
    have := pickS_some cur k q hp
    have := h q this.1
    have := (pickS_some cur k q hp).2.1
    omega
theorem kmg_end {cur : Nat → List Sp} {k : Nat} (h : ∀ q, q < k → (cur q).length = 0) (fuel : Nat) : kmg cur k fuel = [] := by
  cases fuel with
  | zero => rfl
  | succ n => unfold kmg; rw [pickS_end h]
theorem kmg_step {cur : Nat → List Sp} {k p : Nat} (h : LeastS cur k p) (fuel : Nat) : kmg cur k (fuel + 1) = (cur p).headD default :: kmg (updS cur p (cur p).tail) k fuel := by
  rw [kmg, pickS_of h]
/-- What is on top of a front that is a heap. -/
theorem top_least {cur : Nat → List Sp} {f : Nat → Nat} {n k : Nat} (h : Good (ltS cur) f (n + 1)) (hh : ∀ p, Has f (n + 1) p ↔ p < k ∧ 0 < (cur p).length) : LeastS cur k (f 0) := by
  obtain ⟨h1, h2⟩ := (hh (f 0)).1 ⟨0, by omega, rfl⟩
  refine ⟨h1, h2, fun q hq hl => ?_⟩
  obtain ⟨j, hj, rfl⟩ := (hh q).2 ⟨hq, hl⟩
  exact heap_top (ltS cur) (ltS_swo cur) f (n + 1) h.heap j hj
/-- Behind a Pop, a step in one list, and a put of it: again a heap of all that is left. -/
theorem round_good {cur : Nat → List Sp} {f : Nat → Nat} {m k : Nat} (h : Good (ltS cur) f (m + 1)) (hh : ∀ p, Has f (m + 1) p ↔ p < k ∧ 0 < (cur p).length) :
    Good (ltS (updS cur (f 0) (cur (f 0)).tail)) (putF (updS cur (f 0) (cur (f 0)).tail) (popF (ltS cur) f m) m (f 0)) (putN (updS cur (f 0) (cur (f 0)).tail) m (f 0)) ∧
    ∀ p, Has (putF (updS cur (f 0) (cur (f 0)).tail) (popF (ltS cur) f m) m (f 0)) (putN (updS cur (f 0) (cur (f 0)).tail) m (f 0)) p ↔ p < k ∧ 0 < ((updS cur (f 0) (cur (f 0)).tail) p).length := by
  obtain ⟨c2, hc2⟩ : ∃ c2, c2 = updS cur (f 0) (cur (f 0)).tail := ⟨_, rfl⟩
  have hpop := pop_good (ltS_swo cur) h
  have hph := fun p => pop_has (lt := ltS cur) h.inj p
  obtain ⟨g, hg⟩ : ∃ g, g = popF (ltS cur) f m := ⟨_, rfl⟩
  rw [← hg] at hpop hph
  rw [← hc2, ← hg]
  have hoth : ∀ p, p ≠ f 0 → c2 p = cur p := fun p hp => by rw [hc2]; simp [updS, hp]
  have hlt : ∀ p q, Has g m p → Has g m q → ltS cur p q = ltS c2 p q := fun p q hp hq => by
    unfold ltS
    rw [hoth p ((hph p).1 hp).2, hoth q ((hph q).1 hq).2]
  have hgood : Good (ltS c2) g m := ⟨heap_congr hpop.heap hlt, hpop.inj⟩
  have h0k := ((hh (f 0)).1 ⟨0, by omega, rfl⟩).1
  unfold putF putN
  by_cases h0 : (c2 (f 0)).length = 0
  · rw [if_pos h0, if_pos h0]
    refine ⟨hgood, fun p => ?_⟩
    rw [hph p, hh p]
    by_cases hp : p = f 0
    · subst hp
      constructor
      · rintro ⟨_, hn⟩; exact absurd rfl hn
      · rintro ⟨_, hl⟩; omega
    · rw [hoth p hp]
      constructor
      · rintro ⟨h1, _⟩; exact h1
      · intro h1; exact ⟨h1, hp⟩
  · rw [if_neg h0, if_neg h0]
    have hnot : ¬ Has g m (f 0) := fun e => ((hph (f 0)).1 e).2 rfl
    refine ⟨push_good (ltS_swo c2) hgood hnot, fun p => ?_⟩
    rw [push_has, hph p, hh p]
    by_cases hp : p = f 0
    · subst hp
      constructor
      · intro _; exact ⟨h0k, by omega⟩
      · intro _; exact .inr rfl
    · rw [hoth p hp]
      constructor
      · rintro (⟨h1, _⟩ | h1)
        · exact h1
        · exact absurd h1 hp
      · intro h1; exact .inl ⟨h1, hp⟩
/-- All lengths added up. -/
def tot (c : Nat → List Sp) : Nat → Nat
  | 0 => 0
  | k + 1 => tot c k + (c k).length
theorem tot_same (c : Nat → List Sp) (p : Nat) (l : List Sp) : ∀ k, k ≤ p → tot (updS c p l) k = tot c k
  | 0, _ => rfl
  | k + 1, h => by
    have hk : k ≠ p := by omega
    simp only [tot]
    rw [tot_same c p l k (by omega)]
    simp [updS, hk]
theorem tot_upd (c : Nat → List Sp) (p : Nat) : ∀ k, p < k → 0 < (c p).length → tot (updS c p (c p).tail) k + 1 = tot c k
  | 0, h, _ => absurd h (Nat.not_lt_zero _)
  | k + 1, h, hl => by
    by_cases hp : p = k
    · subst hp
      simp only [tot]
      rw [tot_same c p _ p (Nat.le_refl _)]
      simp [updS]
      omega
    · have := tot_upd c p k (by omega) hl
      simp only [tot]
      have hk : k ≠ p := fun e => hp e.symm
      have e : (updS c p (c p).tail k) = c k := by simp [updS, hk]
      rw [e]
      omega
theorem tot_end (c : Nat → List Sp) : ∀ k, (∀ q, q < k → (c q).length = 0) → tot c k = 0
  | 0, _ => rfl
  | k + 1, h => by
    simp only [tot]
    rw [tot_end c k (fun q hq => h q (by omega)), h k (by omega)]
end Go.Proofs.YtfckgcckpfklaaaGreatDoor

namespace Go.Proofs.YtfckgcckpfklaaaGreatDoor
open Go.RowKit Go.Lib Hp
set_option linter.unusedVariables false

/-- Lists of samples in a slice, only read. -/
structure LsR (w : World) (v : Value) (k : Nat) (cur : Nat → List Sp) (iv : Nat → Value) : Prop where
  hv : ∃ a cap g off, v = .slice a k cap ∧ (0 < k → a = some ⟨g, off, none⟩ ∧ g < w.heap.size) ∧ ∀ p, p < k → w.cell? ⟨g, off + p, none⟩ = some (iv p)
  rd : ∀ p, p < k → Rd w 2 (iv p) (cur p).length (spc (cur p))
  cap : ∀ p, p < k → Capd (iv p) (cur p).length
theorem FrS.congrP {w0 w : World} {F n : Nat} {P P' f : Nat → Nat} {rv : Value} {cur : Nat → List Sp} {iv : Nat → Value} (h : FrS w0 w F P rv n f cur iv) (he : ∀ p, Has f n p → P p = P' p) : FrS w0 w F P' rv n f cur iv := by
  have hp : ptc P f n = ptc P' f n := by
    unfold ptc
    apply List.map_congr_left
    intro k hk
    rw [he (f k) ⟨k, List.mem_range.1 hk, rfl⟩]
  refine ⟨h.box, by rw [← hp]; exact h.sl, fun g hg p hp => ?_, fun p hp => ?_, h.below, h.big⟩
  · rw [← he p hp]; exact h.own g hg p hp
  · rw [← he p hp]; exact h.rest p hp
theorem FrS.congrC {w0 w : World} {F n : Nat} {P f : Nat → Nat} {rv : Value} {cur cur' : Nat → List Sp} {iv iv' : Nat → Value} (h : FrS w0 w F P rv n f cur iv) (he : ∀ p, Has f n p → cur p = cur' p ∧ iv p = iv' p) : FrS w0 w F P rv n f cur' iv' := by
  refine ⟨h.box, h.sl, h.own, fun p hp => ?_, h.below, h.big⟩
  obtain ⟨e1, e2⟩ := he p hp
  rw [← e1, ← e2]
  exact h.rest p hp
/-- The front of the first i lists. -/
structure Fst (w0 w : World) (F : Nat) (P : Nat → Nat) (rv : Value) (n : Nat) (f : Nat → Nat) (cur : Nat → List Sp) (iv : Nat → Value) (i : Nat) : Prop where
  fr : FrS w0 w F P rv n f cur iv
  good : Good (ltS cur) f n
  has : ∀ p, Has f n p ↔ p < i ∧ 0 < (cur p).length
  le : n ≤ i
theorem Fst.zero {w0 w : World} {F : Nat} {P : Nat → Nat} {cur : Nat → List Sp} {iv : Nat → Value} (hbox : w.heap[F]? = some (.cells #[.slice none 0 0, .func (.func 77) #[] #[]] 167)) (hb : Below w0.heap.size w0 w) (hF : w0.heap.size ≤ F) : Fst w0 w F P (.slice none 0 0) 0 id cur iv 0 :=
  ⟨⟨hbox, Sl.nil _ _ _, (fun g hg => by cases hg), (fun p ⟨k, hk, _⟩ => absurd hk (Nat.not_lt_zero _)), hb, hF⟩, ⟨fun k _ hk => absurd hk (Nat.not_lt_zero _), fun i j hi => absurd hi (Nat.not_lt_zero _)⟩, fun p => ⟨fun ⟨k, hk, _⟩ => absurd hk (Nat.not_lt_zero _), fun h => absurd h.1 (Nat.not_lt_zero _)⟩, Nat.le_refl _⟩
theorem has_put {cur : Nat → List Sp} {f : Nat → Nat} {n i : Nat} (h : ∀ p, Has f n p ↔ p < i ∧ 0 < (cur p).length) (p : Nat) : Has (putF cur f n i) (putN cur n i) p ↔ p < i + 1 ∧ 0 < (cur p).length := by
  unfold putF putN
  by_cases h0 : (cur i).length = 0
  · rw [if_pos h0, if_pos h0, h p]
    constructor
    · rintro ⟨h1, h2⟩; exact ⟨by omega, h2⟩
    · rintro ⟨h1, h2⟩
      have : p ≠ i := fun e => by subst e; omega
      exact ⟨by omega, h2⟩
  · rw [if_neg h0, if_neg h0, push_has, h p]
    constructor
    · rintro (⟨h1, h2⟩ | rfl)
      · exact ⟨by omega, h2⟩
      · exact ⟨by omega, by omega⟩
    · rintro ⟨h1, h2⟩
      by_cases e : p = i
      · exact .inr e
      · exact .inl ⟨by omega, h2⟩
theorem good_put {cur : Nat → List Sp} {f : Nat → Nat} {n i : Nat} (h : Good (ltS cur) f n) (hh : ∀ p, Has f n p ↔ p < i ∧ 0 < (cur p).length) : Good (ltS cur) (putF cur f n i) (putN cur n i) := by
  unfold putF putN
  by_cases h0 : (cur i).length = 0
  · rw [if_pos h0, if_pos h0]; exact h
  · rw [if_neg h0, if_neg h0]
    exact push_good (ltS_swo cur) h (fun e => by have := ((hh i).1 e).1; omega)
/-- One list more. -/
theorem Fst.step {w0 w : World} {F n i : Nat} {P f : Nat → Nat} {rv : Value} {cur : Nat → List Sp} {iv : Nat → Value} (h : Fst w0 w F P rv n f cur iv i) (hi : i ≤ 100000) (hr : Rd w0 2 (iv i) (cur i).length (spc (cur i))) :
    ∃ P', P' i = w.heap.size ∧ Calls Tryz.prog 95 #[.pointer (some ⟨F, 0, none⟩), .pointer (some ⟨w.heap.size, 0, none⟩)] (w.alloc (.cells #[.int .i64 i, iv i] 171)) fun e w' => e = .returned (.tuple #[]) ∧ ∃ rv', Fst w0 w' F P' rv' (putN cur n i) (putF cur f n i) cur iv (i + 1) ∧ Below F w w' := by
  have hF : F < w.heap.size := (Array.getElem?_eq_some_iff.1 h.fr.box).1
  refine ⟨fun p => if p = i then w.heap.size else P p, by simp, ?_⟩
  have hb : Below w.heap.size w (w.alloc (.cells #[.int .i64 i, iv i] 171)) := (Below.refl _ _).alloc (Nat.le_refl _) _
  have h1 := (h.fr.on hb).congrP (P' := fun p => if p = i then w.heap.size else P p) (fun p hp => by
    have := ((h.has p).1 hp).1
    rw [if_neg (by omega)])
  have hP := put_FrS (p := i) h1 (by have := h.le; omega) ⟨by rw [if_pos rfl]; exact heap_alloc_new w _, by rw [if_pos rfl]; exact hF, hr⟩ (fun g hg => by
    rw [if_pos rfl]
    have := (h.fr.sl.lt g hg).2
    omega)
  simp only [if_true] at hP
  refine hP.mono ?_
  rintro e w' ⟨rfl, rv', f1, b1, _⟩
  refine ⟨rfl, rv', ⟨f1, good_put h.good h.has, has_put h.has, ?_⟩, (hb.mono (Nat.le_of_lt hF)).trans b1.b⟩
  have := h.le
  unfold putN
  split <;> omega
end Go.Proofs.YtfckgcckpfklaaaGreatDoor
