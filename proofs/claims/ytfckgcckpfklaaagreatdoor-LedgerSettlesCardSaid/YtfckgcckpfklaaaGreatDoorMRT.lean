/- Layer 14, rows: lists merged, in plain words. Layer 14, rows: lists put into a front, one by one: the first loop of merged, in these words. Layer 14, rows: the second loop's round of merged, in the worlds' words. -/
import Derived.Test.YtfckgcckpfklaaaGreatDoorMAR
import Derived.Test.YtfckgcckpfklaaaGreatDoorMRP
import Derived.Test.YtfckgcckpfklaaaGreatDoorMAW
namespace Go.Proofs.YtfckgcckpfklaaaGreatDoor
open Go.RowKit Go.Lib Hp
set_option linter.unusedVariables false

/-- The place that comes first among those of the first k whose list isn't at its end. -/
def pickSR (cur : Nat → List Rq) : Nat → Option Nat
  | 0 => none
  | k + 1 => if (cur k).length = 0 then pickSR cur k else match pickSR cur k with
    | none => some k
    | some p => if ltSR cur k p = true then some k else some p
def updSR (cur : Nat → List Rq) (p : Nat) (l : List Rq) : Nat → List Rq := fun q => if q = p then l else cur q
/-- All of k lists, the least first. -/
def kmgR (cur : Nat → List Rq) (k : Nat) : Nat → List Rq
  | 0 => []
  | fuel + 1 => match pickSR cur k with
    | none => []
    | some p => (cur p).headD default :: kmgR (updSR cur p (cur p).tail) k fuel
def LeastSR (cur : Nat → List Rq) (k p : Nat) : Prop := p < k ∧ 0 < (cur p).length ∧ ∀ q, q < k → 0 < (cur q).length → ltSR cur q p = false
theorem pickS_someR (cur : Nat → List Rq) : ∀ (k p : Nat), pickSR cur k = some p → LeastSR cur k p
  | 0, p, h => by simp [pickSR] at h
  | k + 1, p, h => by
    unfold pickSR at h
    split at h
    · rename_i h0
      obtain ⟨h1, h2, h3⟩ := pickS_someR cur k p h
      refine ⟨by omega, h2, fun q hq hl => ?_⟩
      by_cases hqk : q = k
      · subst hqk; omega
      · exact h3 q (by omega) hl
    · rename_i h0
      split at h
      · rename_i hn
        obtain rfl : k = p := Option.some.inj h
        refine ⟨by omega, by omega, fun q hq hl => ?_⟩
        by_cases hqk : q = k
        · subst hqk
          exact ltS_irrR cur q
        · exact absurd hn (pickS_none cur k q (by omega) hl)
      · rename_i p' hp'
        obtain ⟨h1, h2, h3⟩ := pickS_someR cur k p' hp'
        split at h
        · rename_i hlt
          obtain rfl : k = p := Option.some.inj h
          refine ⟨by omega, by omega, fun q hq hl => ?_⟩
          by_cases hqk : q = k
          · subst hqk
            exact ltS_irrR cur q
          · exact (ltS_swoR cur).trans _ _ _ ((ltS_swoR cur).asym _ _ hlt) (h3 q (by omega) hl)
        · rename_i hlt
          obtain rfl : p' = p := Option.some.inj h
          refine ⟨by omega, h2, fun q hq hl => ?_⟩
          by_cases hqk : q = k
          · subst hqk
            simpa using hlt
          · exact h3 q (by omega) hl
where
  pickS_none (cur : Nat → List Rq) : ∀ (k q : Nat), q < k → 0 < (cur q).length → ¬ pickSR cur k = none
    | 0, q, hq, _ => absurd hq (Nat.not_lt_zero _)
    | k + 1, q, hq, hl => by
      unfold pickSR
      split
      · rename_i h0
        have : q ≠ k := fun e => by subst e; omega
        exact pickS_none cur k q (by omega) hl
      · split
        · simp
        · split <;> simp
/-- There is but one. -/
theorem leastS_oneR {cur : Nat → List Rq} {k p q : Nat} (h : LeastSR cur k p) (h' : LeastSR cur k q) : p = q := by
  have h1 := h.2.2 q h'.1 h'.2.1
  have h2 := h'.2.2 p h.1 h.2.1
  exact ltS_totR h2 h1
theorem pickS_ofR {cur : Nat → List Rq} {k p : Nat} (h : LeastSR cur k p) : pickSR cur k = some p := by
  cases hp : pickSR cur k with
  | none => exact absurd hp (pickS_someR.pickS_none cur k p h.1 h.2.1)
  | some q => rw [leastS_oneR (pickS_someR cur k q hp) h]
theorem pickS_endR {cur : Nat → List Rq} {k : Nat} (h : ∀ q, q < k → (cur q).length = 0) : pickSR cur k = none := by
  cases hp : pickSR cur k with
  | none => rfl
  | some q =>
    have := pickS_someR cur k q hp
    have := h q this.1
    have := (pickS_someR cur k q hp).2.1
    omega
theorem kmg_endR {cur : Nat → List Rq} {k : Nat} (h : ∀ q, q < k → (cur q).length = 0) (fuel : Nat) : kmgR cur k fuel = [] := by
  cases fuel with
  | zero => rfl
  | succ n => unfold kmgR; rw [pickS_endR h]
theorem kmg_stepR {cur : Nat → List Rq} {k p : Nat} (h : LeastSR cur k p) (fuel : Nat) : kmgR cur k (fuel + 1) = (cur p).headD default :: kmgR (updSR cur p (cur p).tail) k fuel := by
  rw [kmgR, pickS_ofR h]
/-- What is on top of a front that is a heap. -/
theorem top_leastR {cur : Nat → List Rq} {f : Nat → Nat} {n k : Nat} (h : Good (ltSR cur) f (n + 1)) (hh : ∀ p, Has f (n + 1) p ↔ p < k ∧ 0 < (cur p).length) : LeastSR cur k (f 0) := by
  obtain ⟨h1, h2⟩ := (hh (f 0)).1 ⟨0, by omega, rfl⟩
  refine ⟨h1, h2, fun q hq hl => ?_⟩
  obtain ⟨j, hj, rfl⟩ := (hh q).2 ⟨hq, hl⟩
  exact heap_top (ltSR cur) (ltS_swoR cur) f (n + 1) h.heap j hj
/-- Behind a Pop, a step in one list, and a put of it: again a heap of all that is left. -/
theorem round_goodR {cur : Nat → List Rq} {f : Nat → Nat} {m k : Nat} (h : Good (ltSR cur) f (m + 1)) (hh : ∀ p, Has f (m + 1) p ↔ p < k ∧ 0 < (cur p).length) :
    Good (ltSR (updSR cur (f 0) (cur (f 0)).tail)) (putFR (updSR cur (f 0) (cur (f 0)).tail) (popF (ltSR cur) f m) m (f 0)) (putNR (updSR cur (f 0) (cur (f 0)).tail) m (f 0)) ∧
    ∀ p, Has (putFR (updSR cur (f 0) (cur (f 0)).tail) (popF (ltSR cur) f m) m (f 0)) (putNR (updSR cur (f 0) (cur (f 0)).tail) m (f 0)) p ↔ p < k ∧ 0 < ((updSR cur (f 0) (cur (f 0)).tail) p).length := by
  obtain ⟨c2, hc2⟩ : ∃ c2, c2 = updSR cur (f 0) (cur (f 0)).tail := ⟨_, rfl⟩
  have hpop := pop_good (ltS_swoR cur) h
  have hph := fun p => pop_has (lt := ltSR cur) h.inj p
  obtain ⟨g, hg⟩ : ∃ g, g = popF (ltSR cur) f m := ⟨_, rfl⟩
  rw [← hg] at hpop hph
  rw [← hc2, ← hg]
  have hoth : ∀ p, p ≠ f 0 → c2 p = cur p := fun p hp => by rw [hc2]; simp [updSR, hp]
  have hlt : ∀ p q, Has g m p → Has g m q → ltSR cur p q = ltSR c2 p q := fun p q hp hq => by
    unfold ltSR
    rw [hoth p ((hph p).1 hp).2, hoth q ((hph q).1 hq).2]
  have hgood : Good (ltSR c2) g m := ⟨heap_congr hpop.heap hlt, hpop.inj⟩
  have h0k := ((hh (f 0)).1 ⟨0, by omega, rfl⟩).1
  unfold putFR putNR
  by_cases h0 : (c2 (f 0)).length = 0
  · rw [if_pos h0, if_pos h0]
    refine ⟨hgood, fun p => ?_⟩
    rw [hph p, hh p]
    by_cases hp : p = f 0
    · subst hp
      constructor
      · rintro ⟨_, hn⟩; exact absurd rfl hn
      · rintro ⟨_, hl⟩; omega
    · rw [hoth p hp]
      constructor
      · rintro ⟨h1, _⟩; exact h1
      · intro h1; exact ⟨h1, hp⟩
  · rw [if_neg h0, if_neg h0]
    have hnot : ¬ Has g m (f 0) := fun e => ((hph (f 0)).1 e).2 rfl
    refine ⟨push_good (ltS_swoR c2) hgood hnot, fun p => ?_⟩
    rw [push_has, hph p, hh p]
    by_cases hp : p = f 0
    · subst hp
      constructor
      · intro _; exact ⟨h0k, by omega⟩
      · intro _; exact .inr rfl
    · rw [hoth p hp]
      constructor
      · rintro (⟨h1, _⟩ | h1)
        · exact h1
        · exact absurd h1 hp
      · intro h1; exact .inl ⟨h1, hp⟩
/-- All lengths added up. -/
def totR (c : Nat → List Rq) : Nat → Nat
  | 0 => 0
  | k + 1 => totR c k + (c k).length
theorem tot_sameR (c : Nat → List Rq) (p : Nat) (l : List Rq) : ∀ k, k ≤ p → totR (updSR c p l) k = totR c k
  | 0, _ => rfl
  | k + 1, h => by
    have hk : k ≠ p := by omega
    simp only [totR]
    rw [tot_sameR c p l k (by omega)]
    simp [updSR, hk]
theorem tot_updR (c : Nat → List Rq) (p : Nat) : ∀ k, p < k → 0 < (c p).length → totR (updSR c p (c p).tail) k + 1 = totR c k
  | 0, h, _ => absurd h (Nat.not_lt_zero _)
  | k + 1, h, hl => by
    by_cases hp : p = k
    · subst hp
      simp only [totR]
      rw [tot_sameR c p _ p (Nat.le_refl _)]
      simp [updSR]
      omega
    · have := tot_updR c p k (by omega) hl
      simp only [totR]
      have hk : k ≠ p := fun e => hp e.symm
      have e : (updSR c p (c p).tail k) = c k := by simp [updSR, hk]
      rw [e]
      omega
theorem tot_endR (c : Nat → List Rq) : ∀ k, (∀ q, q < k → (c q).length = 0) → totR c k = 0
  | 0, _ => rfl
  | k + 1, h => by
    simp only [totR]
    rw [tot_endR c k (fun q hq => h q (by omega)), h k (by omega)]
end Go.Proofs.YtfckgcckpfklaaaGreatDoor

namespace Go.Proofs.YtfckgcckpfklaaaGreatDoor
open Go.RowKit Go.Lib Hp
set_option linter.unusedVariables false

/-- Lists of samples in a slice, only read. -/
structure LsRR (w : World) (v : Value) (k : Nat) (cur : Nat → List Rq) (iv : Nat → Value) : Prop where
  hv : ∃ a cap g off, v = .slice a k cap ∧ (0 < k → a = some ⟨g, off, none⟩ ∧ g < w.heap.size) ∧ ∀ p, p < k → w.cell? ⟨g, off + p, none⟩ = some (iv p)
  rd : ∀ p, p < k → RdQ w (iv p) (cur p)
  cap : ∀ p, p < k → Capd (iv p) (cur p).length
theorem FrSR.congrP {w0 w : World} {F n : Nat} {P P' f : Nat → Nat} {rv : Value} {cur : Nat → List Rq} {iv : Nat → Value} (h : FrSR w0 w F P rv n f cur iv) (he : ∀ p, Has f n p → P p = P' p) : FrSR w0 w F P' rv n f cur iv := by
  have hp : ptc P f n = ptc P' f n := by
    unfold ptc
    apply List.map_congr_left
    intro k hk
    rw [he (f k) ⟨k, List.mem_range.1 hk, rfl⟩]
  refine ⟨h.box, by rw [← hp]; exact h.sl, fun g hg p hp => ?_, fun p hp => ?_, h.below, h.big⟩
  · rw [← he p hp]; exact h.own g hg p hp
  · rw [← he p hp]; exact h.rest p hp
theorem FrSR.congrC {w0 w : World} {F n : Nat} {P f : Nat → Nat} {rv : Value} {cur cur' : Nat → List Rq} {iv iv' : Nat → Value} (h : FrSR w0 w F P rv n f cur iv) (he : ∀ p, Has f n p → cur p = cur' p ∧ iv p = iv' p) : FrSR w0 w F P rv n f cur' iv' := by
  refine ⟨h.box, h.sl, h.own, fun p hp => ?_, h.below, h.big⟩
  obtain ⟨e1, e2⟩ := he p hp
  rw [← e1, ← e2]
  exact h.rest p hp
/-- The front of the first i lists. -/
structure FstR (w0 w : World) (F : Nat) (P : Nat → Nat) (rv : Value) (n : Nat) (f : Nat → Nat) (cur : Nat → List Rq) (iv : Nat → Value) (i : Nat) : Prop where
  fr : FrSR w0 w F P rv n f cur iv
  good : Good (ltSR cur) f n
  has : ∀ p, Has f n p ↔ p < i ∧ 0 < (cur p).length
  le : n ≤ i
theorem FstR.zero {w0 w : World} {F : Nat} {P : Nat → Nat} {cur : Nat → List Rq} {iv : Nat → Value} (hbox : w.heap[F]? = some (.cells #[.slice none 0 0, .func (.func 28) #[] #[]] 107)) (hb : Below w0.heap.size w0 w) (hF : w0.heap.size ≤ F) : FstR w0 w F P (.slice none 0 0) 0 id cur iv 0 :=
  ⟨⟨hbox, Sl.nil _ _ _, (fun g hg => by cases hg), (fun p ⟨k, hk, _⟩ => absurd hk (Nat.not_lt_zero _)), hb, hF⟩, ⟨fun k _ hk => absurd hk (Nat.not_lt_zero _), fun i j hi => absurd hi (Nat.not_lt_zero _)⟩, fun p => ⟨fun ⟨k, hk, _⟩ => absurd hk (Nat.not_lt_zero _), fun h => absurd h.1 (Nat.not_lt_zero _)⟩, Nat.le_refl _⟩
theorem has_putR {cur : Nat → List Rq} {f : Nat → Nat} {n i : Nat} (h : ∀ p, Has f n p ↔ p < i ∧ 0 < (cur p).length) (p : Nat) : Has (putFR cur f n i) (putNR cur n i) p ↔ p < i + 1 ∧ 0 < (cur p).length := by
  unfold putFR putNR
  by_cases h0 : (cur i).length = 0
  · rw [if_pos h0, if_pos h0, h p]
    constructor
    · rintro ⟨h1, h2⟩; exact ⟨by omega, h2⟩
    · rintro ⟨h1, h2⟩
      have : p ≠ i := fun e => by subst e; omega
      exact ⟨by omega, h2⟩
  · rw [if_neg h0, if_neg h0, push_has, h p]
    constructor
    · rintro (⟨h1, h2⟩ | rfl)
      · exact ⟨by omega, h2⟩
      · exact ⟨by omega, by omega⟩
    · rintro ⟨h1, h2⟩
      by_cases e : p = i
      · exact .inr e
      · exact .inl ⟨by omega, h2⟩
theorem good_putR {cur : Nat → List Rq} {f : Nat → Nat} {n i : Nat} (h : Good (ltSR cur) f n) (hh : ∀ p, Has f n p ↔ p < i ∧ 0 < (cur p).length) : Good (ltSR cur) (putFR cur f n i) (putNR cur n i) := by
  unfold putFR putNR
  by_cases h0 : (cur i).length = 0
  · rw [if_pos h0, if_pos h0]; exact h
  · rw [if_neg h0, if_neg h0]
    exact push_good (ltS_swoR cur) h (fun e => by have := ((hh i).1 e).1; omega)
/-- One list more. -/
theorem FstR.step {w0 w : World} {F n i : Nat} {P f : Nat → Nat} {rv : Value} {cur : Nat → List Rq} {iv : Nat → Value} (h : FstR w0 w F P rv n f cur iv i) (hi : i ≤ 100000) (hr : RdQ w0 (iv i) (cur i)) :
    ∃ P', P' i = w.heap.size ∧ Calls Tryz.prog 50 #[.pointer (some ⟨F, 0, none⟩), .pointer (some ⟨w.heap.size, 0, none⟩)] (w.alloc (.cells #[.int .i64 i, iv i] 111)) fun e w' => e = .returned (.tuple #[]) ∧ ∃ rv', FstR w0 w' F P' rv' (putNR cur n i) (putFR cur f n i) cur iv (i + 1) ∧ Below F w w' := by
  have hF : F < w.heap.size := (Array.getElem?_eq_some_iff.1 h.fr.box).1
  refine ⟨fun p => if p = i then w.heap.size else P p, by simp, ?_⟩
  have hb : Below w.heap.size w (w.alloc (.cells #[.int .i64 i, iv i] 111)) := (Below.refl _ _).alloc (Nat.le_refl _) _
  have h1 := (h.fr.on hb).congrP (P' := fun p => if p = i then w.heap.size else P p) (fun p hp => by
    have := ((h.has p).1 hp).1
    rw [if_neg (by omega)])
  have hP := put_FrSR (p := i) h1 (by have := h.le; omega) ⟨by rw [if_pos rfl]; exact heap_alloc_new w _, by rw [if_pos rfl]; exact hF, hr⟩ (fun g hg => by
    rw [if_pos rfl]
    have := (h.fr.sl.lt g hg).2
    omega)
  simp only [if_true] at hP
  refine hP.mono ?_
  rintro e w' ⟨rfl, rv', f1, b1, _⟩
  refine ⟨rfl, rv', ⟨f1, good_putR h.good h.has, has_putR h.has, ?_⟩, (hb.mono (Nat.le_of_lt hF)).trans b1.b⟩
  have := h.le
  unfold putNR
  split <;> omega
end Go.Proofs.YtfckgcckpfklaaaGreatDoor

namespace Go.Proofs.YtfckgcckpfklaaaGreatDoor
open Go.RowKit Go.Lib Hp
set_option linter.unusedVariables false

/-- What the second loop keeps: what came out so far, and what is left. -/
structure MgSR (w0 wr : World) (F k T : Nat) (cur0 : Nat → List Rq) (P : Nat → Nat) (rv : Value) (n : Nat) (f : Nat → Nat) (cur : Nat → List Rq) (iv : Nat → Value) (v : Value) (out : List Rq) : Prop where
  fr : FrSR w0 wr F P rv n f cur iv
  good : Good (ltSR cur) f n
  has : ∀ p, Has f n p ↔ p < k ∧ 0 < (cur p).length
  le : n ≤ k
  sl : Sl wr w0.heap.size 2 v out.length (rqc out)
  own : ∀ g, v.ownBlock = some g → g ≠ F ∧ rv.ownBlock ≠ some g ∧ ∀ p, Has f n p → P p ≠ g
  cap : ∀ p, p < k → Capd (iv p) (cur p).length
  cnt : out.length + totR cur k = T
  all : kmgR cur0 k T = out ++ kmgR cur k (totR cur k)
theorem MgSR.zero {w0 w : World} {F k : Nat} {P : Nat → Nat} {rv : Value} {n : Nat} {f : Nat → Nat} {cur : Nat → List Rq} {iv : Nat → Value} (h : FstR w0 w F P rv n f cur iv k) (hc : ∀ p, p < k → Capd (iv p) (cur p).length) : MgSR w0 w F k (totR cur k) cur P rv n f cur iv (.slice none 0 0) [] :=
  ⟨h.fr, h.good, h.has, h.le, Sl.nil _ _ _, fun g hg => (by cases hg), hc, by simp, by simp⟩
/-- The list on top. -/
theorem MgSR.top {w0 w w1 : World} {F k T m : Nat} {cur0 : Nat → List Rq} {P : Nat → Nat} {rv v : Value} {f : Nat → Nat} {cur : Nat → List Rq} {iv : Nat → Value} {out : List Rq} (h : MgSR w0 w F k T cur0 P rv (m + 1) f cur iv v out) (b : Bk F rv w w1) :
    ∃ g off cap x xs, cur (f 0) = x :: xs ∧ iv (f 0) = .slice (some ⟨g, off, none⟩) (cur (f 0)).length cap ∧ (cur (f 0)).length ≤ cap ∧ F < P (f 0) ∧ w1.heap[P (f 0)]? = some (.cells #[.int .i64 (f 0), iv (f 0)] 111) ∧
      (g < w1.heap.size ∧ w1.cell? ⟨g, off, none⟩ = some x.a ∧ w1.cell? ⟨g, off + 1, none⟩ = some x.b) ∧ Sl w1 w0.heap.size 2 v out.length (rqc out) ∧
      (∀ a c, (0 < xs.length → a = some ⟨g, off + 2, none⟩) → RdQ w0 (.slice a xs.length c) xs) := by
  obtain ⟨r1, r2, ⟨⟨hl, ai, ki, sp, op, ei, hgi, hci⟩, hok⟩, r4⟩ := h.fr.rest (f 0) ⟨0, by omega, rfl⟩
  obtain ⟨rfl, hsp⟩ := hgi r4
  obtain ⟨x, xs, hx⟩ : ∃ x xs, cur (f 0) = x :: xs := List.exists_cons_of_length_pos r4
  have hx0 := rqc_at (cur (f 0)) 0 x (by rw [hx]; rfl)
  have hb := h.fr.below.trans (b.b.mono h.fr.big)
  have hcap : (cur (f 0)).length ≤ ki := by
    obtain ⟨a', c', e1, e2⟩ := h.cap (f 0) ((h.has (f 0)).1 ⟨0, by omega, rfl⟩).1
    rw [ei] at e1
    cases e1
    exact e2
  refine ⟨sp, op, ki, x, xs, hx, ei, hcap, r2, (b.k _ (Array.getElem?_eq_some_iff.1 r1).1 (by omega) (fun g hg => h.fr.own g hg (f 0) ⟨0, by omega, rfl⟩)).trans r1, ⟨?_, ?_, ?_⟩, ?_, fun a c ha => ?_⟩
  · exact Nat.lt_of_lt_of_le hsp hb.size
  · exact (hb.cell (p := ⟨sp, op + 0, none⟩) hsp).trans ((hci 0 (by omega)).trans hx0.1)
  · exact (hb.cell (p := ⟨sp, op + 1, none⟩) hsp).trans ((hci 1 (by omega)).trans hx0.2)
  · refine h.sl.same b.b.size fun g hg => b.k g (h.sl.lt g hg).2 (h.own g hg).1 (fun g' hg' e => ?_)
    subst e
    exact (h.own g hg).2.1 hg'
  · refine ⟨⟨rqc_len _, a, c, sp, op + 2, rfl, fun hn => ⟨ha hn, hsp⟩, fun j hj => ?_⟩, fun q hq => hok q (by rw [hx]; simp [hq])⟩
    rw [Nat.add_assoc, hci (2 + j) (by rw [hx]; simp only [List.length_cons]; omega), hx]
    have e : rqc (x :: xs) = x.a :: x.b :: rqc xs := rfl
    rw [e, show 2 + j = j + 1 + 1 by omega]
    rfl
theorem MgSR.one {w0 w : World} {F k T m : Nat} {cur0 : Nat → List Rq} {P : Nat → Nat} {rv v : Value} {f : Nat → Nat} {cur : Nat → List Rq} {iv : Nat → Value} {out xs : List Rq} {x : Rq} (h : MgSR w0 w F k T cur0 P rv (m + 1) f cur iv v out) (hx : cur (f 0) = x :: xs) : ∀ v ∈ [x.a, x.b], v.oneCell' = true := by
  obtain ⟨_, _, ⟨_, hok⟩, _⟩ := h.fr.rest (f 0) ⟨0, by omega, rfl⟩
  have ok := hok x (by rw [hx]; simp)
  obtain ⟨a1, c1, e1⟩ := ok.l.slice
  obtain ⟨a2, c2, e2⟩ := ok.s.slice
  rw [e1, e2]
  exact row_one _ _ _ _ _ _
/-- One round. -/
theorem MgSR.round {w0 w w1 Y w2 : World} {F k T m : Nat} {cur0 : Nat → List Rq} {P : Nat → Nat} {rv rv1 v v' ri : Value} {f : Nat → Nat} {cur : Nat → List Rq} {iv : Nat → Value} {out xs : List Rq} {x : Rq} {N : Nat} (h : MgSR w0 w F k T cur0 P rv (m + 1) f cur iv v out)
    (f1 : FrSR w0 w1 F P rv1 m (popF (ltSR cur) f m) cur iv) (b1 : Bk F rv w w1) (o1 : rv1.ownBlock = rv.ownBlock) (bY : Below w1.heap.size w1 Y) (hN : N = out.length) (hx : cur (f 0) = x :: xs)
    (hE : Ext w0.heap.size 2 Y v N (rqc out) w2 v' (N + 1) (rqc out ++ [x.a, x.b])) (hri : RdQ w0 ri xs) (hrc : Capd ri xs.length) :
    ∃ cur' iv', FrSR w0 (w2.setCell ⟨P (f 0), 1, none⟩ ri) F P rv1 m (popF (ltSR cur) f m) cur' iv' ∧
      ((w2.setCell ⟨P (f 0), 1, none⟩ ri).heap[P (f 0)]? = some (.cells #[.int .i64 (f 0), iv' (f 0)] 111) ∧ F < P (f 0) ∧ RdQ w0 (iv' (f 0)) (cur' (f 0))) ∧ (∀ g, rv1.ownBlock = some g → P (f 0) ≠ g) ∧
      ∀ w4 rv2, FrSR w0 w4 F P rv2 (putNR cur' m (f 0)) (putFR cur' (popF (ltSR cur) f m) m (f 0)) cur' iv' → Bk F rv1 (w2.setCell ⟨P (f 0), 1, none⟩ ri) w4 → (∀ g, rv2.ownBlock = some g → rv1.ownBlock = some g ∨ (w2.setCell ⟨P (f 0), 1, none⟩ ri).heap.size ≤ g) →
        MgSR w0 w4 F k T cur0 P rv2 (putNR cur' m (f 0)) (putFR cur' (popF (ltSR cur) f m) m (f 0)) cur' iv' v' (out ++ [x]) := by
  subst hN
  have h00 : Has f (m + 1) (f 0) := ⟨0, by omega, rfl⟩
  obtain ⟨r1, r2, r3, r4⟩ := h.fr.rest (f 0) h00
  have hFw : F < w.heap.size := (Array.getElem?_eq_some_iff.1 h.fr.box).1
  have hPw : P (f 0) < w.heap.size := (Array.getElem?_eq_some_iff.1 r1).1
  have z1 := b1.b.size
  have zY := bY.size
  have z2 := hE.grown.size
  have blk : ∀ b, b < w1.heap.size → (∀ g, v.ownBlock = some g → g ≠ b) → w2.heap[b]? = w1.heap[b]? := fun b hb hv => (Ext.block_old hE b (by omega) hv).trans (bY.block b hb)
  have rest1 : ∀ p, Has f (m + 1) p → w1.heap[P p]? = some (.cells #[.int .i64 p, iv p] 111) := fun p hp => by
    obtain ⟨q1, q2, _, _⟩ := h.fr.rest p hp
    exact (b1.k _ (Array.getElem?_eq_some_iff.1 q1).1 (by omega) (fun g hg => h.fr.own g hg p hp)).trans q1
  have rest2 : ∀ p, Has f (m + 1) p → w2.heap[P p]? = some (.cells #[.int .i64 p, iv p] 111) := fun p hp => by
    have q := rest1 p hp
    exact (blk _ (Array.getElem?_eq_some_iff.1 q).1 (fun g hg e => (h.own g hg).2.2 p hp e.symm)).trans q
  have hPne : ∀ p, Has f (m + 1) p → p ≠ f 0 → P p ≠ P (f 0) := fun p hp hne e => by
    have q := rest1 p hp
    rw [e, rest1 (f 0) h00] at q
    simp only [Option.some.injEq, Obj.cells.injEq, Array.mk.injEq, List.cons.injEq, Value.int.injEq] at q
    omega
  have hph := fun p => pop_has (lt := ltSR cur) h.good.inj p
  refine ⟨updSR cur (f 0) (cur (f 0)).tail, fun q => if q = f 0 then ri else iv q, ⟨?_, ?_, f1.own, fun p hp => ?_, ?_, f1.big⟩, ⟨?_, r2, ?_⟩, fun g hg => ?_, fun w4 rv2 f4 b4 o4 => ?_⟩
  · rw [Below.heap_setCell _ _ _ _ (by simp only; omega)]
    exact (blk F (by omega) (fun g hg e => (h.own g hg).1 e)).trans f1.box
  · refine f1.sl.same (by simp [World.setCell]; omega) fun g hg => ?_
    have hg' : rv.ownBlock = some g := by rw [← o1]; exact hg
    rw [Below.heap_setCell _ _ _ _ (by simp only; exact fun e => h.fr.own g hg' (f 0) h00 e.symm)]
    exact blk g (f1.sl.lt g hg).2 (fun g' hg1 e => by subst e; exact (h.own g' hg1).2.1 hg')
  · obtain ⟨hp1, hp2⟩ := (hph p).1 hp
    obtain ⟨q1, q2, q3, q4⟩ := f1.rest p hp
    have e1 : updSR cur (f 0) (cur (f 0)).tail p = cur p := by simp [updSR, hp2]
    simp only [e1, if_neg hp2]
    refine ⟨?_, q2, q3, q4⟩
    rw [Below.heap_setCell _ _ _ _ (by simp only; exact hPne p hp1 hp2)]
    exact rest2 p hp1
  · have bb : Below w0.heap.size w1 w2 := (bY.mono (by have := h.fr.below.size; omega)).trans (hE.below (Nat.le_refl _) (by have := h.fr.below.size; omega))
    exact (f1.below.trans bb).setCell (p := ⟨P (f 0), 1, none⟩) (by have := h.fr.big; show w0.heap.size ≤ P (f 0); omega) _
  · rw [heap_setCell_same w2 (P (f 0)) 1 _ _ ri (rest2 (f 0) h00)]
    simp
  · simp only [if_true]
    have e1 : updSR cur (f 0) (cur (f 0)).tail (f 0) = xs := by simp [updSR, hx]
    rw [e1]
    exact hri
  · exact h.fr.own g (by rw [← o1]; exact hg) (f 0) h00
  · obtain ⟨g1, g2⟩ := round_goodR h.good h.has
    have ht := tot_updR cur (f 0) k ((h.has (f 0)).1 h00).1 r4
    have htot := h.cnt
    have hlo : (out ++ [x]).length = out.length + 1 := by simp
    have hcase : ∀ g, v'.ownBlock = some g → (v.ownBlock = some g ∨ Y.heap.size ≤ g) ∧ g < w2.heap.size := fun g hg => by
      refine ⟨?_, (hE.now.lt g hg).2⟩
      rcases hE.alias with ⟨a, cap, e0, e1, _⟩ | hnew
      · refine .inl ?_
        rw [e0]
        rw [e1] at hg
        rw [ownBlock_slice a _ (out.length + 1) cap cap]
        exact hg
      · exact .inr (hnew g hg)
    have hz3 : (w2.setCell ⟨P (f 0), 1, none⟩ ri).heap.size = w2.heap.size := by simp [World.setCell]
    have hold : ∀ g, v'.ownBlock = some g → g ≠ F ∧ rv1.ownBlock ≠ some g ∧ ∀ p, Has f (m + 1) p → P p ≠ g := fun g hg => by
      obtain ⟨hc, hlt⟩ := hcase g hg
      rcases hc with hc | hc
      · obtain ⟨c1, c2, c3⟩ := h.own g hc
        exact ⟨c1, by rw [o1]; exact c2, c3⟩
      · refine ⟨by omega, fun e => ?_, fun p hp e => ?_⟩
        · rw [o1] at e
          have := (h.fr.sl.lt g e).2
          omega
        · have := (Array.getElem?_eq_some_iff.1 (rest1 p hp)).1
          omega
    refine ⟨f4, g1, g2, ?_, ?_, fun g hg => ?_, fun p hp => ?_, ?_, ?_⟩
    · have := h.le
      unfold putNR
      split <;> omega
    · rw [hlo, rqc_append]
      show Sl w4 w0.heap.size 2 v' (out.length + 1) (rqc out ++ [x.a, x.b])
      refine hE.now.same (by have := b4.b.size; omega) fun g hg => ?_
      obtain ⟨hc, hlt⟩ := hcase g hg
      obtain ⟨n1, n2, n3⟩ := hold g hg
      rw [b4.k g (by omega) n1 (fun g' hg' e => by subst e; exact n2 hg'), Below.heap_setCell _ _ _ _ (by simp only; exact fun e => n3 (f 0) h00 e.symm)]
    · obtain ⟨hc, hlt⟩ := hcase g hg
      obtain ⟨n1, n2, n3⟩ := hold g hg
      refine ⟨n1, fun e => ?_, fun p hp => n3 p ?_⟩
      · rcases o4 g e with h4 | h4
        · exact n2 h4
        · omega
      · obtain ⟨hpk, hpl⟩ := (g2 p).1 hp
        refine (h.has p).2 ⟨hpk, ?_⟩
        by_cases hp0 : p = f 0
        · subst hp0; exact r4
        · simpa [updSR, hp0] using hpl
    · by_cases hp0 : p = f 0
      · subst hp0
        simp only [updSR, if_true]
        rw [hx]
        exact hrc
      · simp only [updSR, if_neg hp0]
        exact h.cap p hp
    · rw [hlo]; omega
    · rw [h.all, ← ht, kmg_stepR (top_leastR h.good h.has), hx]
      simp
theorem MgSR.put {w0 w w1 Y w2 : World} {F k T m q L N cp : Nat} {cur0 : Nat → List Rq} {P : Nat → Nat} {rv rv1 v v' : Value} {f : Nat → Nat} {cur : Nat → List Rq} {iv : Nat → Value} {out xs : List Rq} {x : Rq} {X : List Value} {a : Option Addr} (h : MgSR w0 w F k T cur0 P rv (m + 1) f cur iv v out) (hk : k ≤ 1000)
    (f1 : FrSR w0 w1 F P rv1 m (popF (ltSR cur) f m) cur iv) (b1 : Bk F rv w w1) (o1 : rv1.ownBlock = rv.ownBlock) (bY : Below w1.heap.size w1 Y) (hN : N = out.length) (hx : cur (f 0) = x :: xs) (hq : q = P (f 0)) (hL : L = xs.length) (hX : X = [x.a, x.b])
    (hE : Ext w0.heap.size 2 Y v N (rqc out) w2 v' (N + 1) (rqc out ++ X)) (hri : RdQ w0 (.slice a L cp) xs) (hcp : L ≤ cp) :
    Calls Tryz.prog 50 #[.pointer (some ⟨F, 0, none⟩), .pointer (some ⟨q, 0, none⟩)] (w2.setCell ⟨q, 1, none⟩ (.slice a L cp)) fun e w' => e = .returned (.tuple #[]) ∧ ∃ (rv : Value) (n : Nat) (f : Nat → Nat) (c : Nat → List Rq) (j : Nat → Value), MgSR w0 w' F k T cur0 P rv n f c j v' (out ++ [x]) := by
  subst hq hL hX
  obtain ⟨c', j', r1, r2, r3, r4⟩ := MgSR.round h f1 b1 o1 bY hN hx hE hri ⟨a, cp, rfl, hcp⟩
  refine (put_FrSR (p := f 0) r1 (by have := h.le; omega) r2 r3).mono ?_
  rintro e w4 ⟨rfl, rv2, f4, b4, o4⟩
  exact ⟨rfl, _, _, _, _, _, r4 w4 rv2 f4 b4 o4⟩
end Go.Proofs.YtfckgcckpfklaaaGreatDoor
