/- Layer 14: the front of what is left: Len, Less; walked. Layer 14: the front's Swap, walked. -/
import Derived.Test.YtabeaehiidnbbaaDoorMAH
import Derived.Test.YtabeaehiidnbbaaDoorMQC
import Derived.Deep.RegionHeld3
import Derived.BigRegion
namespace Go.Proofs.YtabeaehiidnbbaaDoor
open Go.RowKit Go.Lib
set_option linter.unusedVariables false

theorem flen_S (F n cp : Nat) (ao : Option Addr) (w : World) (h : w.cell? ⟨F, 0, none⟩ = some (.slice ao n cp)) :
    Calls Tryd.prog 32 #[.pointer (some ⟨F, 0, none⟩)] w fun e w' => e = .returned (.int .i64 n) ∧ w = w' := by
  go_enter Tryd.func32, Tryd.ntmps32
  go_wp2
  go_ret
  exact ⟨rfl, rfl⟩

/-- What Less reads. -/
structure LsS (w : World) (F G o n cp i j p q sp op m1 cp1 sq oq m2 cq1 : Nat) (a b : Int) (x y : Sp) : Prop where
  c : w.cell? ⟨F, 0, none⟩ = some (.slice (some ⟨G, o, none⟩) n cp) ∧ w.cell? ⟨F, 1, none⟩ = some (.func (.func 18) #[] #[]) ∧ w.cell? ⟨G, o + i, none⟩ = some (.pointer (some ⟨p, 0, none⟩)) ∧ w.cell? ⟨G, o + j, none⟩ = some (.pointer (some ⟨q, 0, none⟩)) ∧ w.cell? ⟨p, 0, none⟩ = some (.int .i64 a) ∧ w.cell? ⟨p, 1, none⟩ = some (.slice (some ⟨sp, op, none⟩) m1 cp1) ∧ w.cell? ⟨q, 0, none⟩ = some (.int .i64 b) ∧ w.cell? ⟨q, 1, none⟩ = some (.slice (some ⟨sq, oq, none⟩) m2 cq1) ∧ w.cell? ⟨sp, op, none⟩ = some (.int .i64 x.t) ∧ w.cell? ⟨sp, op + 1, none⟩ = some (.int .u64 x.v) ∧ w.cell? ⟨sq, oq, none⟩ = some (.int .i64 y.t) ∧ w.cell? ⟨sq, oq + 1, none⟩ = some (.int .u64 y.v)
  l : F < w.heap.size ∧ G < w.heap.size ∧ p < w.heap.size ∧ q < w.heap.size ∧ sp < w.heap.size ∧ sq < w.heap.size
  k : i < n ∧ j < n ∧ 0 < m1 ∧ 0 < m2
theorem LsS.on {w W : World} {F G o n cp i j p q sp op m1 cp1 sq oq m2 cq1 : Nat} {a b : Int} {x y : Sp} (h : LsS w F G o n cp i j p q sp op m1 cp1 sq oq m2 cq1 a b x y) (bb : Below w.heap.size w W) : W.cell? ⟨F, 0, none⟩ = some (.slice (some ⟨G, o, none⟩) n cp) ∧ W.cell? ⟨F, 1, none⟩ = some (.func (.func 18) #[] #[]) ∧ W.cell? ⟨G, o + i, none⟩ = some (.pointer (some ⟨p, 0, none⟩)) ∧ W.cell? ⟨G, o + j, none⟩ = some (.pointer (some ⟨q, 0, none⟩)) ∧ W.cell? ⟨p, 0, none⟩ = some (.int .i64 a) ∧ W.cell? ⟨p, 1, none⟩ = some (.slice (some ⟨sp, op, none⟩) m1 cp1) ∧ W.cell? ⟨q, 0, none⟩ = some (.int .i64 b) ∧ W.cell? ⟨q, 1, none⟩ = some (.slice (some ⟨sq, oq, none⟩) m2 cq1) ∧ W.cell? ⟨sp, op, none⟩ = some (.int .i64 x.t) ∧ W.cell? ⟨sp, op + 1, none⟩ = some (.int .u64 x.v) ∧ W.cell? ⟨sq, oq, none⟩ = some (.int .i64 y.t) ∧ W.cell? ⟨sq, oq + 1, none⟩ = some (.int .u64 y.v) := by
  obtain ⟨⟨h0, h1, h2, h3, h4, h5, h6, h7, h8, h9, h10, h11⟩, ⟨l0, l1, l2, l3, l4, l5⟩, -⟩ := h
  exact ⟨(bb.cell (p := ⟨F, 0, none⟩) l0).trans h0, (bb.cell (p := ⟨F, 1, none⟩) l0).trans h1, (bb.cell (p := ⟨G, o + i, none⟩) l1).trans h2, (bb.cell (p := ⟨G, o + j, none⟩) l1).trans h3, (bb.cell (p := ⟨p, 0, none⟩) l2).trans h4, (bb.cell (p := ⟨p, 1, none⟩) l2).trans h5, (bb.cell (p := ⟨q, 0, none⟩) l3).trans h6, (bb.cell (p := ⟨q, 1, none⟩) l3).trans h7, (bb.cell (p := ⟨sp, op, none⟩) l4).trans h8, (bb.cell (p := ⟨sp, op + 1, none⟩) l4).trans h9, (bb.cell (p := ⟨sq, oq, none⟩) l5).trans h10, (bb.cell (p := ⟨sq, oq + 1, none⟩) l5).trans h11⟩

set_option maxHeartbeats 4000000 in
set_option maxRecDepth 100000 in
theorem fless_S (F G o n cp i j p q sp op m1 cp1 sq oq m2 cq1 : Nat) (a b : Int) (x y : Sp) (w : World) (h : LsS w F G o n cp i j p q sp op m1 cp1 sq oq m2 cq1 a b x y) :
    Calls Tryd.prog 108 #[.pointer (some ⟨F, 0, none⟩), .int .i64 i, .int .i64 j] w fun e w' => e = .returned (.bool (decide (orI (cmpI x.t y.t) (cmpI a b) < 0))) ∧ Below w.heap.size w w' := by
  obtain ⟨ki, kj, kp, kq⟩ := h.k
  have FX := Lib.hid (fun W (bb : Below w.heap.size w W) => h.on bb)
  have i1 : (i : Int) < n := by omega
  have i2 : (j : Int) < n := by omega
  have i3 : (0 : Int) < m1 := by omega
  have i4 : (0 : Int) < m2 := by omega
  have B0 := Below.refl w.heap.size w
  have CB := Lib.hid (fun W => bytime_any x y W)
  have CC := Lib.hid (fun W => compare_i a b W)
  have OO := Lib.hid (fun W (u v : Int) => or2_any u v W.heap.size 0 (W.alloc (.cells #[.int .i64 u, .int .i64 v] 3)) (Lib.cell_of_heap (heap_alloc_new W _) 0) (Lib.cell_of_heap (heap_alloc_new W _) 1))
  obtain ⟨xt, hxt⟩ : ∃ xt, xt = x.t := ⟨_, rfl⟩
  obtain ⟨xv, hxv⟩ : ∃ xv, xv = x.v := ⟨_, rfl⟩
  obtain ⟨yt, hyt⟩ : ∃ yt, yt = y.t := ⟨_, rfl⟩
  obtain ⟨yv, hyv⟩ : ∃ yv, yv = y.v := ⟨_, rfl⟩
  rw [← hxt, ← hxv, ← hyt, ← hyv] at FX CB
  rw [← hxt, ← hyt]
  obtain ⟨c, hc⟩ : ∃ c, c = cmpI xt yt := ⟨_, rfl⟩
  obtain ⟨d, hd⟩ : ∃ d, d = cmpI a b := ⟨_, rfl⟩
  rw [← hc] at CB
  rw [← hd] at CC
  rw [← hc, ← hd]
  have OR := Lib.hid (fun W => OO.out W c d)
  obtain ⟨r, hr⟩ : ∃ r, r = orI c d := ⟨_, rfl⟩
  rw [← hr] at OR ⊢
  clear h ki kj hxt hxv hyt hyv hc hd hr OO
  obtain ⟨c0, c1, c2, c3, -⟩ := FX.out w B0
  go_enter Tryd.func108, Tryd.ntmps108
  go_upto_region 1 with fail
  go_quiet (fail)
  clear c0 c1 c2 c3
  go_upto_region 2 with fail
  have BQ := (below_draw B0 nq).drew
  go_region_held3 (fun W => W.cell? ⟨F, 0, none⟩ = some (.slice (some ⟨G, o, none⟩) n cp) ∧ W.cell? ⟨F, 1, none⟩ = some (.func (.func 18) #[] #[]) ∧ W.cell? ⟨G, o + i, none⟩ = some (.pointer (some ⟨p, 0, none⟩)) ∧ W.cell? ⟨G, o + j, none⟩ = some (.pointer (some ⟨q, 0, none⟩)) ∧ W.cell? ⟨p, 0, none⟩ = some (.int .i64 a) ∧ W.cell? ⟨p, 1, none⟩ = some (.slice (some ⟨sp, op, none⟩) m1 cp1) ∧ W.cell? ⟨q, 0, none⟩ = some (.int .i64 b) ∧ W.cell? ⟨q, 1, none⟩ = some (.slice (some ⟨sq, oq, none⟩) m2 cq1) ∧ W.cell? ⟨sp, op, none⟩ = some (.int .i64 xt) ∧ W.cell? ⟨sp, op + 1, none⟩ = some (.int .u64 xv) ∧ W.cell? ⟨sq, oq, none⟩ = some (.int .i64 yt) ∧ W.cell? ⟨sq, oq + 1, none⟩ = some (.int .u64 yv))
    (first | (refine FX.out _ ?_; assumption) | exact FX.out _ (b2a _) | assumption | fail)
    (first
      | (go_at_call 18; ((with_reducible refine (CB.out _).mono ?_)); rintro e w2 ⟨rfl, b2⟩; have B2 : Below w.heap.size w w2 := BQ.trans (b2.mono BQ.size); have b2a := fun o => B2.alloc B2.size o)
      | (go_at_call 113; ((with_reducible refine (CC.out _).mono ?_)); rintro e w3 ⟨rfl, rfl⟩)
      | (go_at_call 112; ((with_reducible refine (OR.out _).mono ?_)); rintro e w3 ⟨rfl, rfl⟩)
      | fail)
  go_wp2
  go_ret
  exact ⟨rfl, b2a _⟩
end Go.Proofs.YtabeaehiidnbbaaDoor

namespace Go.Proofs.YtabeaehiidnbbaaDoor
open Go.RowKit Go.Lib
set_option linter.unusedVariables false

set_option maxHeartbeats 4000000 in
set_option maxRecDepth 100000 in
theorem fswap_S (F G o n cp i j p q : Nat) (w : World) (h0 : w.cell? ⟨F, 0, none⟩ = some (.slice (some ⟨G, o, none⟩) n cp)) (hi : i < n) (hj : j < n) (hp : w.cell? ⟨G, o + i, none⟩ = some (.pointer (some ⟨p, 0, none⟩))) (hq : w.cell? ⟨G, o + j, none⟩ = some (.pointer (some ⟨q, 0, none⟩)))
    (fp : w.frozen? ⟨G, o + i, none⟩ = false) (fq : w.frozen? ⟨G, o + j, none⟩ = false) (hFG : F ≠ G) :
    Calls Tryd.prog 111 #[.pointer (some ⟨F, 0, none⟩), .int .i64 i, .int .i64 j] w fun e w' => e = .returned (.tuple #[]) ∧ w' = ((w.drew).setCell ⟨G, o + i, none⟩ (.pointer (some ⟨q, 0, none⟩))).setCell ⟨G, o + j, none⟩ (.pointer (some ⟨p, 0, none⟩)) := by
  obtain ⟨u, hu⟩ : ∃ u, (w.setCell ⟨G, o + i, none⟩ (.pointer (some ⟨q, 0, none⟩))).cell? ⟨G, o + j, none⟩ = some u := by
    by_cases hij : i = j
    · subst hij
      exact ⟨_, cell_setCell_same _ _ _ _ (by rw [hp]; rfl)⟩
    · exact ⟨_, (cell_setCell_other _ _ _ _ _ (.inr (by simp only; omega))).trans hq⟩
  have fu : (w.setCell ⟨G, o + i, none⟩ (.pointer (some ⟨q, 0, none⟩))).frozen? ⟨G, o + j, none⟩ = false := by rw [frozen_setCell]; exact fq
  have i1 : (i : Int) < n := by omega
  have i2 : (j : Int) < n := by omega
  go_enter Tryd.func111, Tryd.ntmps111
  go_region
  all_goals go_wp2
  all_goals go_end0
  all_goals exact ⟨rfl, rfl⟩
end Go.Proofs.YtabeaehiidnbbaaDoor
