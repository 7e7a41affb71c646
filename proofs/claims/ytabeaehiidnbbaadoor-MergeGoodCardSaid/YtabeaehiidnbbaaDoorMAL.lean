/- Layer 14: the front as a heap of places: Less and Swap in these words. Layer 14: the library's up and down over the front, walked. -/
import Derived.Test.YtabeaehiidnbbaaDoorMAJ
namespace Go.Proofs.YtabeaehiidnbbaaDoor
open Go.RowKit Go.Lib Hp
set_option linter.unusedVariables false

def ptc (P : Nat → Nat) (f : Nat → Nat) (n : Nat) : List Value := (List.range n).map fun k => Value.pointer (some ⟨P (f k), 0, none⟩)
theorem ptc_at (P f : Nat → Nat) (n k : Nat) (hk : k < n) : (ptc P f n)[k]? = some (.pointer (some ⟨P (f k), 0, none⟩)) := by simp [ptc, hk]
theorem ptc_set (P f : Nat → Nat) (n i j : Nat) (hi : i < n) (hj : j < n) : ((ptc P f n).set i (.pointer (some ⟨P (f j), 0, none⟩))).set j (.pointer (some ⟨P (f i), 0, none⟩)) = ptc P (swp f i j) n := by
  apply List.ext_getElem?
  intro k
  by_cases hk : k < n
  · rw [ptc_at P _ n k hk, List.getElem?_set]
    by_cases h2 : j = k
    · subst h2
      rw [if_pos rfl, if_pos (by simp [ptc]; omega), swp_r]
    · rw [if_neg h2, List.getElem?_set]
      by_cases h1 : i = k
      · subst h1
        rw [if_pos rfl, if_pos (by simp [ptc]; omega), swp_l]
      · rw [if_neg h1, ptc_at P f n k hk, swp_o f i j k (fun e => h1 e.symm) (fun e => h2 e.symm)]
  · rw [List.getElem?_eq_none (by simp [ptc]; omega), List.getElem?_eq_none (by simp [ptc]; omega)]
/-- Which of two places comes first: the lesser head's; of like heads the lesser place. -/
def ltS (cur : Nat → List Sp) (p q : Nat) : Bool := decide (orI (cmpI ((cur p).headD default).t ((cur q).headD default).t) (cmpI p q) < 0)

/-- The front: what it holds, in which order; what is left of each list. -/
structure FrS (w0 w : World) (F : Nat) (P : Nat → Nat) (rv : Value) (n : Nat) (f : Nat → Nat) (cur : Nat → List Sp) (iv : Nat → Value) : Prop where
  box : w.heap[F]? = some (.cells #[rv, .func (.func 18) #[] #[]] 75)
  sl : Sl w (F + 1) 1 rv n (ptc P f n)
  own : ∀ g, rv.ownBlock = some g → ∀ p, Has f n p → P p ≠ g
  rest : ∀ p, Has f n p → w.heap[P p]? = some (.cells #[.int .i64 p, iv p] 79) ∧ F < P p ∧ Rd w0 2 (iv p) (cur p).length (spc (cur p)) ∧ 0 < (cur p).length
  below : Below w0.heap.size w0 w
  big : w0.heap.size ≤ F
theorem FrS.on {w0 w w' : World} {F n : Nat} {P f : Nat → Nat} {rv : Value} {cur : Nat → List Sp} {iv : Nat → Value} (h : FrS w0 w F P rv n f cur iv) (b : Below w.heap.size w w') : FrS w0 w' F P rv n f cur iv := by
  have hF : F < w.heap.size := (Array.getElem?_eq_some_iff.1 h.box).1
  refine ⟨(b.block F hF).trans h.box, h.sl.on b, h.own, fun p hp => ?_, h.below.trans (b.mono h.below.size), h.big⟩
  obtain ⟨r1, r2, r3, r4⟩ := h.rest p hp
  exact ⟨(b.block (P p) (Array.getElem?_eq_some_iff.1 r1).1).trans r1, r2, r3, r4⟩

/-- But for the front's own block and that of its rests what stood is as it was. -/
structure Bk (F : Nat) (rv : Value) (w w' : World) : Prop where
  b : Below F w w'
  k : ∀ b, b < w.heap.size → b ≠ F → (∀ g, rv.ownBlock = some g → b ≠ g) → w'.heap[b]? = w.heap[b]?
theorem Bk.refl (F : Nat) (rv : Value) (w : World) : Bk F rv w w := ⟨Below.refl _ _, fun _ _ _ _ => rfl⟩
theorem Bk.trans {F : Nat} {rv : Value} {w w1 w2 : World} (h : Bk F rv w w1) (k : Bk F rv w1 w2) : Bk F rv w w2 :=
  ⟨h.b.trans k.b, fun b h1 h2 h3 => (k.k b (Nat.lt_of_lt_of_le h1 h.b.size) h2 h3).trans (h.k b h1 h2 h3)⟩
theorem Bk.of {F : Nat} {rv : Value} {w w' : World} (h : Below w.heap.size w w') (hF : F ≤ w.heap.size) : Bk F rv w w' := ⟨h.mono hF, fun b hb _ _ => h.block b hb⟩

theorem fless_FrS {w0 w : World} {F n : Nat} {P f : Nat → Nat} {rv : Value} {cur : Nat → List Sp} {iv : Nat → Value} (h : FrS w0 w F P rv n f cur iv) (i j : Nat) (hi : i < n) (hj : j < n) :
    Calls Tryd.prog 108 #[.pointer (some ⟨F, 0, none⟩), .int .i64 i, .int .i64 j] w fun e w' => e = .returned (.bool (ltS cur (f i) (f j))) ∧ Below w.heap.size w w' := by
  have hF : F < w.heap.size := (Array.getElem?_eq_some_iff.1 h.box).1
  obtain ⟨G, o, cp, rfl, hGb, hncp, hcpm⟩ := h.sl.somewhere (by omega)
  have hG : G < w.heap.size := (h.sl.lt G rfl).2
  have ci := h.sl.cells (i * 1) _ (by rw [Nat.mul_one]; exact ptc_at P f n i hi)
  have cj := h.sl.cells (j * 1) _ (by rw [Nat.mul_one]; exact ptc_at P f n j hj)
  rw [Addr.add_lit, Nat.mul_one] at ci cj
  obtain ⟨r1, r2, ⟨_, ai, ki, sp, op, ei, hgi, hci⟩, r4⟩ := h.rest (f i) ⟨i, hi, rfl⟩
  obtain ⟨s1, s2, ⟨_, aj, kj, sq, oq, ej, hgj, hcj⟩, s4⟩ := h.rest (f j) ⟨j, hj, rfl⟩
  obtain ⟨rfl, hsp⟩ := hgi r4
  obtain ⟨rfl, hsq⟩ := hgj s4
  rw [ei] at r1
  rw [ej] at s1
  obtain ⟨x, xs, hx⟩ : ∃ x xs, cur (f i) = x :: xs := List.exists_cons_of_length_pos r4
  obtain ⟨y, ys, hy⟩ : ∃ y ys, cur (f j) = y :: ys := List.exists_cons_of_length_pos s4
  have hx0 := spc_at (cur (f i)) 0 x (by rw [hx]; rfl)
  have hy0 := spc_at (cur (f j)) 0 y (by rw [hy]; rfl)
  have hspw : sp < w.heap.size := Nat.lt_of_lt_of_le hsp h.below.size
  have hsqw : sq < w.heap.size := Nat.lt_of_lt_of_le hsq h.below.size
  have x0 := (h.below.cell (p := ⟨sp, op + 0, none⟩) hsp).trans ((hci 0 (by omega)).trans hx0.1)
  have x1 := (h.below.cell (p := ⟨sp, op + 1, none⟩) hsp).trans ((hci 1 (by omega)).trans hx0.2)
  have y0 := (h.below.cell (p := ⟨sq, oq + 0, none⟩) hsq).trans ((hcj 0 (by omega)).trans hy0.1)
  have y1 := (h.below.cell (p := ⟨sq, oq + 1, none⟩) hsq).trans ((hcj 1 (by omega)).trans hy0.2)
  have hl : ltS cur (f i) (f j) = decide (orI (cmpI x.t y.t) (cmpI (f i) (f j)) < 0) := by
    unfold ltS
    rw [hx, hy]
    rfl
  rw [hl]
  exact fless_S F G o n cp i j (P (f i)) (P (f j)) sp op (cur (f i)).length ki sq oq (cur (f j)).length kj (f i) (f j) x y w
    ⟨⟨Lib.cell_of_heap h.box 0, Lib.cell_of_heap h.box 1, ci, cj, Lib.cell_of_heap r1 0, Lib.cell_of_heap r1 1, Lib.cell_of_heap s1 0, Lib.cell_of_heap s1 1, x0, x1, y0, y1⟩,
     ⟨hF, hG, (Array.getElem?_eq_some_iff.1 r1).1, (Array.getElem?_eq_some_iff.1 s1).1, hspw, hsqw⟩, ⟨hi, hj, r4, s4⟩⟩
theorem sl_put14 {w : World} {base size g off n cap c : Nat} {xs : List Value} (h : Sl w base size (.slice (some ⟨g, off, none⟩) n cap) n xs) (u : Value) (hc : c < n * size) :
    Sl (w.setCell ⟨g, off + c, none⟩ u) base size (.slice (some ⟨g, off, none⟩) n cap) n (xs.set c u) := by
  obtain ⟨h1, h2⟩ := h
  refine ⟨by rw [List.length_set]; exact h1, ?_⟩
  rcases h2 with ⟨e, _⟩ | ⟨g', off', cap', e, a1, a2, a3, a4, a5, a6⟩
  · cases e
  · cases e
    have hcc : c < cap * size := Nat.lt_of_lt_of_le hc (Nat.mul_le_mul_right _ a3)
    refine .inr ⟨g, off, cap, rfl, a1, by simpa [World.setCell] using a2, a3, a4, fun j hj => ⟨?_, ?_⟩, fun j hj => ?_⟩
    · by_cases hj' : j = c
      · subst hj'
        rw [cell_setCell_same _ _ _ _ (a5 j hj).1]; rfl
      · rw [cell_setCell_other _ _ _ _ _ (.inr (by simp only; omega))]
        exact (a5 j hj).1
    · rw [frozen_setCell]
      exact (a5 j hj).2
    · by_cases hj' : j = c
      · subst hj'
        rw [cell_setCell_same _ _ _ _ (a5 j hcc).1, List.getElem?_set_self (by omega)]
      · rw [cell_setCell_other _ _ _ _ _ (.inr (by simp only; omega)), List.getElem?_set_ne (fun e => hj' e.symm)]
        exact a6 j hj
theorem sl_free14 {w : World} {base size g off n cap : Nat} {xs : List Value} (h : Sl w base size (.slice (some ⟨g, off, none⟩) n cap) n xs) (j : Nat) (hj : j < n * size) : w.frozen? ⟨g, off + j, none⟩ = false := by
  obtain ⟨h1, h2⟩ := h
  rcases h2 with ⟨e, _⟩ | ⟨g', off', cap', e, a1, a2, a3, a4, a5, a6⟩
  · cases e
  · cases e
    exact (a5 j (Nat.lt_of_lt_of_le hj (Nat.mul_le_mul_right _ a3))).2

theorem fswap_FrS {w0 w : World} {F n : Nat} {P f : Nat → Nat} {rv : Value} {cur : Nat → List Sp} {iv : Nat → Value} (h : FrS w0 w F P rv n f cur iv) (i j : Nat) (hi : i < n) (hj : j < n) :
    Calls Tryd.prog 111 #[.pointer (some ⟨F, 0, none⟩), .int .i64 i, .int .i64 j] w fun e w' => e = .returned (.tuple #[]) ∧ FrS w0 w' F P rv n (swp f i j) cur iv ∧ Bk F rv w w' := by
  have hF : F < w.heap.size := (Array.getElem?_eq_some_iff.1 h.box).1
  obtain ⟨G, o, cp, he, hGb, hncp, hcpm⟩ := h.sl.somewhere (by omega)
  subst he
  have ci := h.sl.cells (i * 1) _ (by rw [Nat.mul_one]; exact ptc_at P f n i hi)
  have cj := h.sl.cells (j * 1) _ (by rw [Nat.mul_one]; exact ptc_at P f n j hj)
  rw [Addr.add_lit, Nat.mul_one] at ci cj
  refine (fswap_S F G o n cp i j (P (f i)) (P (f j)) w (Lib.cell_of_heap h.box 0) hi hj ci cj (sl_free14 h.sl i (by omega)) (sl_free14 h.sl j (by omega)) (by omega)).mono ?_
  rintro e w' ⟨rfl, hw'⟩
  have hb : Below F w w' := by
    rw [hw']
    exact ((Below.refl F w).drew.setCell (p := ⟨G, o + i, none⟩) (by show F ≤ G; omega) _).setCell (p := ⟨G, o + j, none⟩) (by show F ≤ G; omega) _
  have hblk : ∀ b, b ≠ G → w'.heap[b]? = w.heap[b]? := fun b hb' => by
    rw [hw', Below.heap_setCell _ _ _ _ (by simp only; omega), Below.heap_setCell _ _ _ _ (by simp only; omega)]
    rfl
  refine ⟨rfl, ⟨(hblk F (by omega)).trans h.box, ?_, fun g hg p hp => h.own g hg p ((swp_has f n i j hi hj p).1 hp), fun p hp => ?_, ?_, h.big⟩, hb, fun b _ _ hb3 => hblk b (hb3 G rfl)⟩
  · have s1 := sl_put14 h.sl.drew (.pointer (some ⟨P (f j), 0, none⟩)) (show i < n * 1 by omega)
    have s2 := sl_put14 s1 (.pointer (some ⟨P (f i), 0, none⟩)) (show j < n * 1 by omega)
    rw [ptc_set P f n i j hi hj] at s2
    rw [hw']
    exact s2
  · have hp' := (swp_has f n i j hi hj p).1 hp
    obtain ⟨r1, r2, r3, r4⟩ := h.rest p hp'
    exact ⟨(hblk (P p) (h.own G rfl p hp')).trans r1, r2, r3, r4⟩
  · exact h.below.trans (hb.mono h.big)
end Go.Proofs.YtabeaehiidnbbaaDoor

namespace Go.Proofs.YtabeaehiidnbbaaDoor
open Go.RowKit Go.Lib Hp
set_option linter.unusedVariables false

theorem up_step (lt : Nat → Nat → Bool) (f : Nat → Nat) (j : Nat) (h0 : 0 < j) : up lt f j = if lt (f j) (f ((j - 1) / 2)) = true then up lt (swp f ((j - 1) / 2) j) ((j - 1) / 2) else f := by
  rw [up, dif_neg (by omega)]
theorem up_zero (lt : Nat → Nat → Bool) (f : Nat → Nat) : up lt f 0 = f := by
  rw [up, dif_pos rfl]

theorem mLess_S (k F : Nat) (W : World) : (method (k + 1) 72 (.pointer (some ⟨F, 0, none⟩)) "Less").run Tryd.prog W = .ok (108, .pointer (some ⟨F, 0, none⟩)) W := by kernel_rfl
theorem mSwap_S (k F : Nat) (W : World) : (method (k + 1) 72 (.pointer (some ⟨F, 0, none⟩)) "Swap").run Tryd.prog W = .ok (111, .pointer (some ⟨F, 0, none⟩)) W := by kernel_rfl

set_option maxHeartbeats 2000000 in
set_option maxRecDepth 100000 in
theorem up_FrS {w0 w : World} {F n : Nat} {P f : Nat → Nat} {rv : Value} {cur : Nat → List Sp} {iv : Nat → Value} (h : FrS w0 w F P rv n f cur iv) (j : Nat) (hj : j < n) (hn : n ≤ 1000000) :
    Calls Tryd.prog 48 #[.iface 72 (.pointer (some ⟨F, 0, none⟩)), .int .i64 j] w fun e w' => e = .returned (.tuple #[]) ∧ FrS w0 w' F P rv n (up (ltS cur) f j) cur iv ∧ Bk F rv w w' := by
  have H := Lib.hid h
  obtain ⟨U, hU⟩ : ∃ U, U = up (ltS cur) f j := ⟨_, rfl⟩
  have HU := Lib.hid hU
  rw [← hU]
  clear h hU
  go_enter Tryd.func48, Tryd.ntmps48
  go_wp2_with fail
  go_loopw [1, 4] (fun j' _ wr => ∃ (k : Nat) (f' : Nat → Nat), j' = .int .i64 k ∧ k < n ∧ Hid (U = up (ltS cur) f' k) ∧ FrS w0 wr F P rv n f' cur iv ∧ Bk F rv w wr) (fun j' _ _ => (intOf j').toNat)
  case atStart => exact ⟨j, f, rfl, hj, HU, H.out, Bk.refl _ _ _⟩
  case round =>
    obtain ⟨k, f', rfl, hk, hu, hfr, hb⟩ := hrel
    have HFR := Lib.hid hfr; have HB := Lib.hid hb
    clear hfr hb
    by_cases hk0 : k = 0
    · subst hk0
      have HD := Lib.hid (show U = f' by rw [hu.out, up_zero])
      clear hu
      go_wp2
      go_end0
      exact ⟨rfl, by rw [HD.out]; exact HFR.out, HB.out⟩
    · obtain ⟨p, hp⟩ : ∃ p, p = (k - 1) / 2 := ⟨_, rfl⟩
      have hq : ((k : Int) - 1) / 2 = (p : Int) := by rw [hp]; omega
      have hpk : ((p : Int) == (k : Int)) = false := beq_eq_false_iff_ne.2 (by omega)
      have mL := fun k W => mLess_S k F W
      have mS := fun k W => mSwap_S k F W
      have LS := Lib.hid (fless_FrS HFR.out k p hk (by omega))
      obtain ⟨c, hc⟩ : ∃ c, c = ltS cur (f' k) (f' p) := ⟨_, rfl⟩
      rw [← hc] at LS
      have HC := Lib.hid hc
      have HPE := Lib.hid hp
      have hpn : p < n := by omega
      have STEP := Lib.hid (show U = if c = true then up (ltS cur) (swp f' p k) p else f' by rw [hu.out, up_step _ _ _ (by omega), ← hp, ← hc])
      clear hc hp hu
      go_wp2_with fail
      refine LS.out.mono ?_
      rintro e w2 ⟨rfl, b2⟩
      have F2 := Lib.hid (HFR.out.on b2)
      have hbF : F ≤ wr.heap.size := Nat.le_of_lt (Array.getElem?_eq_some_iff.1 HFR.out.box).1
      have B2 := Lib.hid (HB.out.trans (Bk.of b2 hbF))
      clear b2
      cases c
      · have HD := Lib.hid (show U = f' by rw [STEP.out]; rfl)
        go_wp2
        go_end0
        exact ⟨rfl, by rw [HD.out]; exact F2.out, B2.out⟩
      · have HD := Lib.hid (show U = up (ltS cur) (swp f' p k) p by rw [STEP.out]; rfl)
        have SW := Lib.hid (fswap_FrS F2.out p k hpn hk)
        clear STEP
        go_wp2_with fail
        refine SW.out.mono ?_
        rintro e w3 ⟨rfl, f3, b3⟩
        go_wp2
        exact ⟨⟨p, swp f' p k, rfl, hpn, HD, f3, B2.out.trans b3⟩, by simp [intOf]; have := HPE.out; omega⟩
end Go.Proofs.YtabeaehiidnbbaaDoor
