/- Layer 14: Samples, walked. Layer 14, rows: the front of what is left: Len, Less; walked. Layer 14, rows: the front's Swap, walked. Layer 14, rows: the front as a heap of places: Less and Swap in these words. -/
import Derived.Test.YtfckgcckpfklaaaGreatDoorMAY
import Derived.Test.YtfckgcckpfklaaaGreatDoorMAH
import Derived.Test.YtfckgcckpfklaaaGreatDoorMAJ
import Derived.Test.YtfckgcckpfklaaaGreatDoorMA7
import Derived.Deep.RegionHeld3
import Derived.BigRegion
namespace Go.Proofs.YtfckgcckpfklaaaGreatDoor
open Go.RowKit Go.Lib Hp
set_option linter.unusedVariables false

set_option maxRecDepth 100000 in
theorem samples_any (v : Value) (k : Nat) (cur : Nat → List Sp) (iv : Nat → Value) (T : Nat) (w : World) (h : LsR w v k cur iv) (hk : k ≤ 1000) (hT : T = tot cur k) (hTm : T ≤ 1000000) :
    Calls Tryz.prog 54 #[v] w fun e w' => ∃ v', e = .returned v' ∧ Sl w' w.heap.size 2 v' (compS (kmg cur k T)).length (spc (compS (kmg cur k T))) ∧ Below w.heap.size w w' := by
  have M := Lib.hid (merged_S v k cur iv T w h hk hT hTm)
  have hlen : (kmg cur k T).length ≤ T := kmg_len _ _ _
  obtain ⟨L, hL⟩ : ∃ L, L = kmg cur k T := ⟨_, rfl⟩
  rw [← hL] at M hlen ⊢
  obtain ⟨⟨a, cap, g, off, rfl, _⟩, _⟩ := h
  clear hL hT
  go_enter Tryz.func54, Tryz.ntmps54
  go_wp2_with fail
  refine M.out.mono ?_
  rintro e w1 ⟨v1, rfl, s1, b1⟩
  have hz := b1.size
  have C := Lib.hid (compf_any v1 L w.heap.size w1 s1 (by omega) hz)
  obtain ⟨a1, c1, rfl⟩ := s1.slice
  clear s1
  go_wp2_with fail
  refine C.out.mono ?_
  rintro e w2 ⟨v2, rfl, s2, b2⟩
  obtain ⟨a2, c2, rfl⟩ := s2.slice
  go_wp2
  go_ret
  exact ⟨_, rfl, s2, b1.trans b2⟩
end Go.Proofs.YtfckgcckpfklaaaGreatDoor

namespace Go.Proofs.YtfckgcckpfklaaaGreatDoor
open Go.RowKit Go.Lib
set_option linter.unusedVariables false

theorem flen_SR (F n cp : Nat) (ao : Option Addr) (w : World) (h : w.cell? ⟨F, 0, none⟩ = some (.slice ao n cp)) :
    Calls Tryz.prog 51 #[.pointer (some ⟨F, 0, none⟩)] w fun e w' => e = .returned (.int .i64 n) ∧ w = w' := by
  go_enter Tryz.func51, Tryz.ntmps51
  go_wp2
  go_ret
  exact ⟨rfl, rfl⟩

/-- What Less reads. -/
structure LsSR (w : World) (F G o n cp i j p q sp op m1 cp1 sq oq m2 cq1 : Nat) (a b : Int) (x y : Rq) : Prop where
  c : w.cell? ⟨F, 0, none⟩ = some (.slice (some ⟨G, o, none⟩) n cp) ∧ w.cell? ⟨F, 1, none⟩ = some (.func (.func 28) #[] #[]) ∧ w.cell? ⟨G, o + i, none⟩ = some (.pointer (some ⟨p, 0, none⟩)) ∧ w.cell? ⟨G, o + j, none⟩ = some (.pointer (some ⟨q, 0, none⟩)) ∧ w.cell? ⟨p, 0, none⟩ = some (.int .i64 a) ∧ w.cell? ⟨p, 1, none⟩ = some (.slice (some ⟨sp, op, none⟩) m1 cp1) ∧ w.cell? ⟨q, 0, none⟩ = some (.int .i64 b) ∧ w.cell? ⟨q, 1, none⟩ = some (.slice (some ⟨sq, oq, none⟩) m2 cq1) ∧ w.cell? ⟨sp, op, none⟩ = some x.a ∧ w.cell? ⟨sp, op + 1, none⟩ = some x.b ∧ w.cell? ⟨sq, oq, none⟩ = some y.a ∧ w.cell? ⟨sq, oq + 1, none⟩ = some y.b
  l : F < w.heap.size ∧ G < w.heap.size ∧ p < w.heap.size ∧ q < w.heap.size ∧ sp < w.heap.size ∧ sq < w.heap.size
  k : i < n ∧ j < n ∧ 0 < m1 ∧ 0 < m2
theorem LsSR.on {w W : World} {F G o n cp i j p q sp op m1 cp1 sq oq m2 cq1 : Nat} {a b : Int} {x y : Rq} (h : LsSR w F G o n cp i j p q sp op m1 cp1 sq oq m2 cq1 a b x y) (bb : Below w.heap.size w W) : W.cell? ⟨F, 0, none⟩ = some (.slice (some ⟨G, o, none⟩) n cp) ∧ W.cell? ⟨F, 1, none⟩ = some (.func (.func 28) #[] #[]) ∧ W.cell? ⟨G, o + i, none⟩ = some (.pointer (some ⟨p, 0, none⟩)) ∧ W.cell? ⟨G, o + j, none⟩ = some (.pointer (some ⟨q, 0, none⟩)) ∧ W.cell? ⟨p, 0, none⟩ = some (.int .i64 a) ∧ W.cell? ⟨p, 1, none⟩ = some (.slice (some ⟨sp, op, none⟩) m1 cp1) ∧ W.cell? ⟨q, 0, none⟩ = some (.int .i64 b) ∧ W.cell? ⟨q, 1, none⟩ = some (.slice (some ⟨sq, oq, none⟩) m2 cq1) ∧ W.cell? ⟨sp, op, none⟩ = some x.a ∧ W.cell? ⟨sp, op + 1, none⟩ = some x.b ∧ W.cell? ⟨sq, oq, none⟩ = some y.a ∧ W.cell? ⟨sq, oq + 1, none⟩ = some y.b := by
  obtain ⟨⟨h0, h1, h2, h3, h4, h5, h6, h7, h8, h9, h10, h11⟩, ⟨l0, l1, l2, l3, l4, l5⟩, -⟩ := h
  exact ⟨(bb.cell (p := ⟨F, 0, none⟩) l0).trans h0, (bb.cell (p := ⟨F, 1, none⟩) l0).trans h1, (bb.cell (p := ⟨G, o + i, none⟩) l1).trans h2, (bb.cell (p := ⟨G, o + j, none⟩) l1).trans h3, (bb.cell (p := ⟨p, 0, none⟩) l2).trans h4, (bb.cell (p := ⟨p, 1, none⟩) l2).trans h5, (bb.cell (p := ⟨q, 0, none⟩) l3).trans h6, (bb.cell (p := ⟨q, 1, none⟩) l3).trans h7, (bb.cell (p := ⟨sp, op, none⟩) l4).trans h8, (bb.cell (p := ⟨sp, op + 1, none⟩) l4).trans h9, (bb.cell (p := ⟨sq, oq, none⟩) l5).trans h10, (bb.cell (p := ⟨sq, oq + 1, none⟩) l5).trans h11⟩

set_option maxHeartbeats 4000000 in
set_option maxRecDepth 100000 in
theorem fless_SR (F G o n cp i j p q sp op m1 cp1 sq oq m2 cq1 : Nat) (a b : Int) (x y : Rq) (w : World) (h : LsSR w F G o n cp i j p q sp op m1 cp1 sq oq m2 cq1 a b x y) (hx : RowOk w 100000 x) (hy : RowOk w 100000 y) :
    Calls Tryz.prog 155 #[.pointer (some ⟨F, 0, none⟩), .int .i64 i, .int .i64 j] w fun e w' => e = .returned (.bool (decide (orI (cmpS x.r.ls y.r.ls) (cmpI a b) < 0))) ∧ Below w.heap.size w w' := by
  obtain ⟨ki, kj, kp, kq⟩ := h.k
  have FX := Lib.hid (fun W (bb : Below w.heap.size w W) => h.on bb)
  have i1 : (i : Int) < n := by omega
  have i2 : (j : Int) < n := by omega
  have i3 : (0 : Int) < m1 := by omega
  have i4 : (0 : Int) < m2 := by omega
  have B0 := Below.refl w.heap.size w
  have CB := Lib.hid (fun W (bb : Below w.heap.size w W) => bylabels_any x y W (hx.on bb) (hy.on bb))
  have CC := Lib.hid (fun W => compare_i a b W)
  have OO := Lib.hid (fun W (u v : Int) => or2_any u v W.heap.size 0 (W.alloc (.cells #[.int .i64 u, .int .i64 v] 3)) (Lib.cell_of_heap (heap_alloc_new W _) 0) (Lib.cell_of_heap (heap_alloc_new W _) 1))
  obtain ⟨xt, hxt⟩ : ∃ xt, xt = x.a := ⟨_, rfl⟩
  obtain ⟨xv, hxv⟩ : ∃ xv, xv = x.b := ⟨_, rfl⟩
  obtain ⟨yt, hyt⟩ : ∃ yt, yt = y.a := ⟨_, rfl⟩
  obtain ⟨yv, hyv⟩ : ∃ yv, yv = y.b := ⟨_, rfl⟩
  rw [← hxt, ← hxv, ← hyt, ← hyv] at FX CB
  obtain ⟨c, hc⟩ : ∃ c, c = cmpS x.r.ls y.r.ls := ⟨_, rfl⟩
  obtain ⟨d, hd⟩ : ∃ d, d = cmpI a b := ⟨_, rfl⟩
  rw [← hc] at CB
  rw [← hd] at CC
  rw [← hc, ← hd]
  have OR := Lib.hid (fun W => OO.out W c d)
  obtain ⟨r, hr⟩ : ∃ r, r = orI c d := ⟨_, rfl⟩
  rw [← hr] at OR ⊢
  clear hx hy h ki kj hxt hxv hyt hyv hc hd hr OO
  obtain ⟨c0, c1, c2, c3, -⟩ := FX.out w B0
  go_enter Tryz.func155, Tryz.ntmps155
  go_upto_region 1 with fail
  go_quiet (fail)
  clear c0 c1 c2 c3
  go_upto_region 2 with fail
  have BQ := (below_draw B0 nq).drew
  go_region_held3 (fun W => W.cell? ⟨F, 0, none⟩ = some (.slice (some ⟨G, o, none⟩) n cp) ∧ W.cell? ⟨F, 1, none⟩ = some (.func (.func 28) #[] #[]) ∧ W.cell? ⟨G, o + i, none⟩ = some (.pointer (some ⟨p, 0, none⟩)) ∧ W.cell? ⟨G, o + j, none⟩ = some (.pointer (some ⟨q, 0, none⟩)) ∧ W.cell? ⟨p, 0, none⟩ = some (.int .i64 a) ∧ W.cell? ⟨p, 1, none⟩ = some (.slice (some ⟨sp, op, none⟩) m1 cp1) ∧ W.cell? ⟨q, 0, none⟩ = some (.int .i64 b) ∧ W.cell? ⟨q, 1, none⟩ = some (.slice (some ⟨sq, oq, none⟩) m2 cq1) ∧ W.cell? ⟨sp, op, none⟩ = some xt ∧ W.cell? ⟨sp, op + 1, none⟩ = some xv ∧ W.cell? ⟨sq, oq, none⟩ = some yt ∧ W.cell? ⟨sq, oq + 1, none⟩ = some yv)
    (first | (refine FX.out _ ?_; assumption) | exact FX.out _ (b2a _) | assumption | fail)
    (first
      | (go_at_call 28; ((with_reducible refine (CB.out _ ?_).mono ?_)); exact BQ; rintro e w2 ⟨rfl, b2⟩; have B2 : Below w.heap.size w w2 := BQ.trans (b2.mono BQ.size); have b2a := fun o => B2.alloc B2.size o)
      | (go_at_call 160; ((with_reducible refine (CC.out _).mono ?_)); rintro e w3 ⟨rfl, rfl⟩)
      | (go_at_call 159; ((with_reducible refine (OR.out _).mono ?_)); rintro e w3 ⟨rfl, rfl⟩)
      | fail)
  go_wp2
  go_ret
  exact ⟨rfl, b2a _⟩
end Go.Proofs.YtfckgcckpfklaaaGreatDoor

namespace Go.Proofs.YtfckgcckpfklaaaGreatDoor
open Go.RowKit Go.Lib
set_option linter.unusedVariables false

set_option maxHeartbeats 4000000 in
set_option maxRecDepth 100000 in
theorem fswap_SR (F G o n cp i j p q : Nat) (w : World) (h0 : w.cell? ⟨F, 0, none⟩ = some (.slice (some ⟨G, o, none⟩) n cp)) (hi : i < n) (hj : j < n) (hp : w.cell? ⟨G, o + i, none⟩ = some (.pointer (some ⟨p, 0, none⟩))) (hq : w.cell? ⟨G, o + j, none⟩ = some (.pointer (some ⟨q, 0, none⟩)))
    (fp : w.frozen? ⟨G, o + i, none⟩ = false) (fq : w.frozen? ⟨G, o + j, none⟩ = false) (hFG : F ≠ G) :
    Calls Tryz.prog 158 #[.pointer (some ⟨F, 0, none⟩), .int .i64 i, .int .i64 j] w fun e w' => e = .returned (.tuple #[]) ∧ w' = ((w.drew).setCell ⟨G, o + i, none⟩ (.pointer (some ⟨q, 0, none⟩))).setCell ⟨G, o + j, none⟩ (.pointer (some ⟨p, 0, none⟩)) := by
  obtain ⟨u, hu⟩ : ∃ u, (w.setCell ⟨G, o + i, none⟩ (.pointer (some ⟨q, 0, none⟩))).cell? ⟨G, o + j, none⟩ = some u := by
    by_cases hij : i = j
    · subst hij
      exact ⟨_, cell_setCell_same _ _ _ _ (by rw [hp]; rfl)⟩
    · exact ⟨_, (cell_setCell_other _ _ _ _ _ (.inr (by simp only; omega))).trans hq⟩
  have fu : (w.setCell ⟨G, o + i, none⟩ (.pointer (some ⟨q, 0, none⟩))).frozen? ⟨G, o + j, none⟩ = false := by rw [frozen_setCell]; exact fq
  have i1 : (i : Int) < n := by omega
  have i2 : (j : Int) < n := by omega
  go_enter Tryz.func158, Tryz.ntmps158
  go_region
  all_goals go_wp2
  all_goals go_end0
  all_goals exact ⟨rfl, rfl⟩
end Go.Proofs.YtfckgcckpfklaaaGreatDoor

namespace Go.Proofs.YtfckgcckpfklaaaGreatDoor
open Go.RowKit Go.Lib Hp
set_option linter.unusedVariables false

/-- Which of two places comes first: the lesser head's; of like heads the lesser place. -/
def ltSR (cur : Nat → List Rq) (p q : Nat) : Bool := decide (orI (cmpS ((cur p).headD default).r.ls ((cur q).headD default).r.ls) (cmpI p q) < 0)
/-- The front: what it holds, in which order; what is left of each list. -/
structure FrSR (w0 w : World) (F : Nat) (P : Nat → Nat) (rv : Value) (n : Nat) (f : Nat → Nat) (cur : Nat → List Rq) (iv : Nat → Value) : Prop where
  box : w.heap[F]? = some (.cells #[rv, .func (.func 28) #[] #[]] 107)
  sl : Sl w (F + 1) 1 rv n (ptc P f n)
  own : ∀ g, rv.ownBlock = some g → ∀ p, Has f n p → P p ≠ g
  rest : ∀ p, Has f n p → w.heap[P p]? = some (.cells #[.int .i64 p, iv p] 111) ∧ F < P p ∧ RdQ w0 (iv p) (cur p) ∧ 0 < (cur p).length
  below : Below w0.heap.size w0 w
  big : w0.heap.size ≤ F
theorem FrSR.on {w0 w w' : World} {F n : Nat} {P f : Nat → Nat} {rv : Value} {cur : Nat → List Rq} {iv : Nat → Value} (h : FrSR w0 w F P rv n f cur iv) (b : Below w.heap.size w w') : FrSR w0 w' F P rv n f cur iv := by
  have hF : F < w.heap.size := (Array.getElem?_eq_some_iff.1 h.box).1
  refine ⟨(b.block F hF).trans h.box, h.sl.on b, h.own, fun p hp => ?_, h.below.trans (b.mono h.below.size), h.big⟩
  obtain ⟨r1, r2, r3, r4⟩ := h.rest p hp
  exact ⟨(b.block (P p) (Array.getElem?_eq_some_iff.1 r1).1).trans r1, r2, r3, r4⟩

theorem fless_FrSR {w0 w : World} {F n : Nat} {P f : Nat → Nat} {rv : Value} {cur : Nat → List Rq} {iv : Nat → Value} (h : FrSR w0 w F P rv n f cur iv) (i j : Nat) (hi : i < n) (hj : j < n) :
    Calls Tryz.prog 155 #[.pointer (some ⟨F, 0, none⟩), .int .i64 i, .int .i64 j] w fun e w' => e = .returned (.bool (ltSR cur (f i) (f j))) ∧ Below w.heap.size w w' := by
  have hF : F < w.heap.size := (Array.getElem?_eq_some_iff.1 h.box).1
  obtain ⟨G, o, cp, rfl, hGb, hncp, hcpm⟩ := h.sl.somewhere (by omega)
  have hG : G < w.heap.size := (h.sl.lt G rfl).2
  have ci := h.sl.cells (i * 1) _ (by rw [Nat.mul_one]; exact ptc_at P f n i hi)
  have cj := h.sl.cells (j * 1) _ (by rw [Nat.mul_one]; exact ptc_at P f n j hj)
  rw [Addr.add_lit, Nat.mul_one] at ci cj
  obtain ⟨r1, r2, ⟨⟨_, ai, ki, sp, op, ei, hgi, hci⟩, oki⟩, r4⟩ := h.rest (f i) ⟨i, hi, rfl⟩
  obtain ⟨s1, s2, ⟨⟨_, aj, kj, sq, oq, ej, hgj, hcj⟩, okj⟩, s4⟩ := h.rest (f j) ⟨j, hj, rfl⟩
  obtain ⟨rfl, hsp⟩ := hgi r4
  obtain ⟨rfl, hsq⟩ := hgj s4
  rw [ei] at r1
  rw [ej] at s1
  obtain ⟨x, xs, hx⟩ : ∃ x xs, cur (f i) = x :: xs := List.exists_cons_of_length_pos r4
  obtain ⟨y, ys, hy⟩ : ∃ y ys, cur (f j) = y :: ys := List.exists_cons_of_length_pos s4
  have hx0 := rqc_at (cur (f i)) 0 x (by rw [hx]; rfl)
  have hy0 := rqc_at (cur (f j)) 0 y (by rw [hy]; rfl)
  have hspw : sp < w.heap.size := Nat.lt_of_lt_of_le hsp h.below.size
  have hsqw : sq < w.heap.size := Nat.lt_of_lt_of_le hsq h.below.size
  have x0 := (h.below.cell (p := ⟨sp, op + 0, none⟩) hsp).trans ((hci 0 (by omega)).trans hx0.1)
  have x1 := (h.below.cell (p := ⟨sp, op + 1, none⟩) hsp).trans ((hci 1 (by omega)).trans hx0.2)
  have y0 := (h.below.cell (p := ⟨sq, oq + 0, none⟩) hsq).trans ((hcj 0 (by omega)).trans hy0.1)
  have y1 := (h.below.cell (p := ⟨sq, oq + 1, none⟩) hsq).trans ((hcj 1 (by omega)).trans hy0.2)
  have hl : ltSR cur (f i) (f j) = decide (orI (cmpS x.r.ls y.r.ls) (cmpI (f i) (f j)) < 0) := by
    unfold ltSR
    rw [hx, hy]
    rfl
  rw [hl]
  exact fless_SR F G o n cp i j (P (f i)) (P (f j)) sp op (cur (f i)).length ki sq oq (cur (f j)).length kj (f i) (f j) x y w
    ⟨⟨Lib.cell_of_heap h.box 0, Lib.cell_of_heap h.box 1, ci, cj, Lib.cell_of_heap r1 0, Lib.cell_of_heap r1 1, Lib.cell_of_heap s1 0, Lib.cell_of_heap s1 1, x0, x1, y0, y1⟩,
     ⟨hF, hG, (Array.getElem?_eq_some_iff.1 r1).1, (Array.getElem?_eq_some_iff.1 s1).1, hspw, hsqw⟩, ⟨hi, hj, r4, s4⟩⟩ ((oki x (by rw [hx]; simp)).on h.below) ((okj y (by rw [hy]; simp)).on h.below)
theorem fswap_FrSR {w0 w : World} {F n : Nat} {P f : Nat → Nat} {rv : Value} {cur : Nat → List Rq} {iv : Nat → Value} (h : FrSR w0 w F P rv n f cur iv) (i j : Nat) (hi : i < n) (hj : j < n) :
    Calls Tryz.prog 158 #[.pointer (some ⟨F, 0, none⟩), .int .i64 i, .int .i64 j] w fun e w' => e = .returned (.tuple #[]) ∧ FrSR w0 w' F P rv n (swp f i j) cur iv ∧ Bk F rv w w' := by
  have hF : F < w.heap.size := (Array.getElem?_eq_some_iff.1 h.box).1
  obtain ⟨G, o, cp, he, hGb, hncp, hcpm⟩ := h.sl.somewhere (by omega)
  subst he
  have ci := h.sl.cells (i * 1) _ (by rw [Nat.mul_one]; exact ptc_at P f n i hi)
  have cj := h.sl.cells (j * 1) _ (by rw [Nat.mul_one]; exact ptc_at P f n j hj)
  rw [Addr.add_lit, Nat.mul_one] at ci cj
  refine (fswap_SR F G o n cp i j (P (f i)) (P (f j)) w (Lib.cell_of_heap h.box 0) hi hj ci cj (sl_free14 h.sl i (by omega)) (sl_free14 h.sl j (by omega)) (by omega)).mono ?_
  rintro e w' ⟨rfl, hw'⟩
  have hb : Below F w w' := by
    rw [hw']
    exact ((Below.refl F w).drew.setCell (p := ⟨G, o + i, none⟩) (by show F ≤ G; omega) _).setCell (p := ⟨G, o + j, none⟩) (by show F ≤ G; omega) _
  have hblk : ∀ b, b ≠ G → w'.heap[b]? = w.heap[b]? := fun b hb' => by
    rw [hw', Below.heap_setCell _ _ _ _ (by simp only; omega), Below.heap_setCell _ _ _ _ (by simp only; omega)]
    rfl
  refine ⟨rfl, ⟨(hblk F (by omega)).trans h.box, ?_, fun g hg p hp => h.own g hg p ((swp_has f n i j hi hj p).1 hp), fun p hp => ?_, ?_, h.big⟩, hb, fun b _ _ hb3 => hblk b (hb3 G rfl)⟩
  · have s1 := sl_put14 h.sl.drew (.pointer (some ⟨P (f j), 0, none⟩)) (show i < n * 1 by omega)
    have s2 := sl_put14 s1 (.pointer (some ⟨P (f i), 0, none⟩)) (show j < n * 1 by omega)
    rw [ptc_set P f n i j hi hj] at s2
    rw [hw']
    exact s2
  · have hp' := (swp_has f n i j hi hj p).1 hp
    obtain ⟨r1, r2, r3, r4⟩ := h.rest p hp'
    exact ⟨(hblk (P p) (h.own G rfl p hp')).trans r1, r2, r3, r4⟩
  · exact h.below.trans (hb.mono h.big)
end Go.Proofs.YtfckgcckpfklaaaGreatDoor
