/- Layer 15: which configs may be; a new head. -/
import Derived.Test.YthgpnjkabpfccaaDoorMTG
import Derived.Deep.RegionLaw
import Derived.RegionTactic
namespace Go.Proofs.YthgpnjkabpfccaaDoor
open Go.RowKit Go.Lib

def CfgGood (se sa wd : Int) : Prop := 1 ≤ se ∧ se ≤ 10000 ∧ 1 ≤ sa ∧ sa ≤ 1048576 ∧ 1 ≤ wd ∧ wd ≤ 1073741824
def cfgV (se sa wd : Int) : Value := .agg #[.int .i64 se, .int .i64 sa, .int .i64 wd]

set_option maxRecDepth 100000 in
theorem hcfg_good (se sa wd : Int) (w : World) (h : CfgGood se sa wd) :
    Calls Tryd.prog 6 #[.agg #[.int .i64 se, .int .i64 sa, .int .i64 wd]] w fun e w' => e = .returned (.int .i64 0) ∧ Below w.heap.size w w' := by
  obtain ⟨h1, h2, h3, h4, h5, h6⟩ := h
  have a1 : ¬ se < 1 := by omega
  have a2 : ¬ 10000 < se := by omega
  have a3 : ¬ sa < 1 := by omega
  have a4 : ¬ 1048576 < sa := by omega
  have a5 : ¬ wd < 1 := by omega
  have a6 : ¬ 1073741824 < wd := by omega
  clear h1 h2 h3 h4 h5 h6
  go_enter Tryd.func6, Tryd.ntmps6
  go_wp2
  go_ret
  exact ⟨rfl, (Below.refl _ _).alloc (Nat.le_refl _) _⟩
set_option maxRecDepth 100000 in
theorem hcfg_bad (se sa wd : Int) (w : World) (h : ¬ CfgGood se sa wd) :
    Calls Tryd.prog 6 #[.agg #[.int .i64 se, .int .i64 sa, .int .i64 wd]] w fun e w' => e = .returned (.int .i64 1) ∧ Below w.heap.size w w' := by
  unfold CfgGood at h
  have hc : se < 1 ∨ (¬ se < 1 ∧ 10000 < se) ∨ (¬ se < 1 ∧ ¬ 10000 < se ∧ sa < 1) ∨ (¬ se < 1 ∧ ¬ 10000 < se ∧ ¬ sa < 1 ∧ 1048576 < sa) ∨ (¬ se < 1 ∧ ¬ 10000 < se ∧ ¬ sa < 1 ∧ ¬ 1048576 < sa ∧ wd < 1) ∨ (¬ se < 1 ∧ ¬ 10000 < se ∧ ¬ sa < 1 ∧ ¬ 1048576 < sa ∧ ¬ wd < 1 ∧ 1073741824 < wd) := by omega
  clear h
  rcases hc with a1 | ⟨a1, a2⟩ | ⟨a1, a2, a3⟩ | ⟨a1, a2, a3, a4⟩ | ⟨a1, a2, a3, a4, a5⟩ | ⟨a1, a2, a3, a4, a5, a6⟩ <;>
  · go_enter Tryd.func6, Tryd.ntmps6
    go_wp2
    go_ret
    exact ⟨rfl, (Below.refl _ _).alloc (Nat.le_refl _) _⟩

/-- A head's box. -/
def HdB (b ms mi mp : Nat) (se sa wd fl tp sm nu pl : Int) (w : World) : Prop :=
  w.heap[b]? = some (.cells #[.int .i64 se, .int .i64 sa, .int .i64 wd, .int .i64 fl, .int .i64 tp, .int .i64 sm, .int .i64 nu, .map (some ms), .pointer (some ⟨mi, 0, none⟩), .map (some mp), .int .i64 pl] 36)

set_option maxRecDepth 100000 in
theorem hnew_bad (se sa wd : Int) (w : World) (h : ¬ CfgGood se sa wd) :
    Calls Tryd.prog 4 #[.agg #[.int .i64 se, .int .i64 sa, .int .i64 wd]] w fun e w' => e = .returned (.tuple #[.pointer none, .int .i64 1]) ∧ Below w.heap.size w w' := by
  have C := Lib.hid (fun W => hcfg_bad se sa wd W h)
  clear h
  go_enter Tryd.func4, Tryd.ntmps4
  go_wp2_with fail
  refine (C.out _).mono ?_
  rintro e w1 ⟨rfl, b1⟩
  have b1 := ((Below.refl w.heap.size w).alloc (Nat.le_refl _) (.cells #[.int .i64 se, .int .i64 sa, .int .i64 wd] 23)).trans (b1.mono (by simp))
  go_wp2
  go_ret2
  exact ⟨rfl, b1⟩

set_option maxHeartbeats 1000000 in
set_option maxRecDepth 100000 in
theorem new12h (w : World) : Calls Tryd.prog 7 #[] w fun e w' => ∃ b mh ml, e = .returned (.pointer (some ⟨b, 0, none⟩)) ∧ (w.heap.size ≤ b ∧ w.heap.size ≤ mh ∧ w.heap.size ≤ ml) ∧ IxB b mh ml (.slice none 0 0) w' ∧ MapIs mh [] 0 w' ∧ MapIsJ ml [] 0 w' ∧ Below w.heap.size w w' := by
  have hmm := @run_makeMap Tryd.prog
  go_enter Tryd.func7, Tryd.ntmps7
  go_wp2
  go_ret
  have s1 : (w.alloc (.map #[] 0)).heap.size = w.heap.size + 1 := by simp
  have s2 : ((w.alloc (.map #[] 0)).alloc (.map #[] 0)).heap.size = w.heap.size + 2 := by simp
  have h1 := heap_alloc_new w (.map #[] 0)
  have h2 := heap_alloc_new (w.alloc (.map #[] 0)) (.map #[] 0)
  rw [s1] at h2
  have h3 := heap_alloc_new ((w.alloc (.map #[] 0)).alloc (.map #[] 0)) (.cells #[.slice none 0 0, .map (some w.heap.size), .map (some (w.heap.size + 1))] 58)
  rw [s2] at h3
  exact ⟨w.heap.size + 2, w.heap.size, w.heap.size + 1, rfl, ⟨by omega, by omega, by omega⟩, ⟨h3, by omega, by omega, by omega⟩, (Below.heap_alloc _ _ _ (by omega)).trans ((Below.heap_alloc _ _ _ (by omega)).trans h1), (Below.heap_alloc _ _ _ (by omega)).trans h2, (((Below.refl _ _).alloc (Nat.le_refl _) _).alloc (by omega) _).alloc (by omega) _⟩

theorem Below.mapIs {w w' : World} {m c : Nat} {es : List En} (b : Below w.heap.size w w') (h : MapIs m es c w) : MapIs m es c w' := (b.block m (mapIs_lt h)).trans h
theorem Below.mapIsJ {w w' : World} {m c : Nat} {es : List EnJ} (b : Below w.heap.size w w') (h : MapIsJ m es c w) : MapIsJ m es c w' := (b.block m (mapIsJ_lt h)).trans h
theorem hdB_lt {b ms mi mp : Nat} {se sa wd fl tp sm nu pl : Int} {w : World} (h : HdB b ms mi mp se sa wd fl tp sm nu pl w) : b < w.heap.size := (Array.getElem?_eq_some_iff.1 h).1

theorem bel_allocH {a w : World} {o : Obj} (h : Below a.heap.size a w) : Below a.heap.size a (w.alloc o) := h.alloc h.size _
theorem kept_alloc {w : World} {o x : Obj} {k : Nat} (h : w.heap[k]? = some x) : (w.alloc o).heap[k]? = some x := by
  have hk := (Array.getElem?_eq_some_iff.1 h).1
  have := (Below.refl w.heap.size w).alloc (Nat.le_refl _) o
  exact (this.block k hk).trans h
theorem kept_below {w w' : World} {x : Obj} {k : Nat} (b : Below w.heap.size w w') (h : w.heap[k]? = some x) : w'.heap[k]? = some x := (b.block k (Array.getElem?_eq_some_iff.1 h).1).trans h

/-- A new head. -/
def NewH (se sa wd : Int) (w : World) (e : Ending) (w' : World) : Prop :=
  ∃ b ms mi mp mh ml, e = .returned (.tuple #[.pointer (some ⟨b, 0, none⟩), .int .i64 0]) ∧ (w.heap.size ≤ b ∧ w.heap.size ≤ ms ∧ w.heap.size ≤ mi ∧ w.heap.size ≤ mp ∧ w.heap.size ≤ mh ∧ w.heap.size ≤ ml) ∧ (ms ≠ mp ∧ ms ≠ mh ∧ ms ≠ ml ∧ mp ≠ mh ∧ mp ≠ ml ∧ mh ≠ ml) ∧
    HdB b ms mi mp se sa wd 0 (-1) 0 0 0 w' ∧ MapIs ms [] 0 w' ∧ MapIsJ mp [] 0 w' ∧ IxB mi mh ml (.slice none 0 0) w' ∧ MapIs mh [] 0 w' ∧ MapIsJ ml [] 0 w' ∧ Below w.heap.size w w'

theorem heap_alloc_at {w : World} {o : Obj} {k : Nat} (h : w.heap.size = k) : (w.alloc o).heap[k]? = some o := by subst h; exact heap_alloc_new _ _
theorem IxB.keptA {b mh ml : Nat} {va : Value} {w : World} {o : Obj} (h : IxB b mh ml va w) : IxB b mh ml va (w.alloc o) := ⟨kept_alloc h.box, h.bh, h.bl, h.hl⟩
theorem hnew_fin (se sa wd : Int) (w w1 Wx : World) (b bi ms mp mh ml : Nat) (b1 : Below w.heap.size w w1) (bx : Below w1.heap.size w1 Wx) (hb : Wx.heap.size = b) (hms : Wx.heap[ms]? = some (.map #[] 0)) (hmp : Wx.heap[mp]? = some (.map #[] 0)) (ix : IxB bi mh ml (.slice none 0 0) Wx) (hmh : Wx.heap[mh]? = some (.map #[] 0)) (hml : Wx.heap[ml]? = some (.map #[] 0))
    (ge : w1.heap.size ≤ ms ∧ w1.heap.size ≤ bi ∧ w1.heap.size ≤ mp ∧ w1.heap.size ≤ mh ∧ w1.heap.size ≤ ml) (ne : ms ≠ mp ∧ ms ≠ mh ∧ ms ≠ ml ∧ mp ≠ mh ∧ mp ≠ ml) :
    NewH se sa wd w (.returned (.tuple #[.pointer (some ⟨b, 0, none⟩), .int .i64 0])) (Wx.alloc (.cells #[.int .i64 se, .int .i64 sa, .int .i64 wd, .int .i64 0, .int .i64 (-1), .int .i64 0, .int .i64 0, .map (some ms), .pointer (some ⟨bi, 0, none⟩), .map (some mp), .int .i64 0] 36)) := by
  have z1 := b1.size
  have z2 := bx.size
  obtain ⟨g1, g2, g3, g4, g5⟩ := ge
  obtain ⟨n1, n2, n3, n4, n5⟩ := ne
  exact ⟨b, ms, bi, mp, mh, ml, rfl, ⟨by omega, by omega, by omega, by omega, by omega, by omega⟩, ⟨n1, n2, n3, n4, n5, ix.hl⟩, heap_alloc_at hb, kept_alloc hms, kept_alloc hmp, ix.keptA, kept_alloc hmh, kept_alloc hml, bel_allocH (b1.trans (bx.mono z1))⟩

set_option maxHeartbeats 4000000 in
set_option maxRecDepth 100000 in
theorem hnew_good (se sa wd : Int) (w : World) (h : CfgGood se sa wd) :
    Calls Tryd.prog 4 #[.agg #[.int .i64 se, .int .i64 sa, .int .i64 wd]] w (NewH se sa wd w) := by
  have C := Lib.hid (fun W => hcfg_good se sa wd W h)
  have N := Lib.hid (fun W => new12h W)
  have hmm := @run_makeMap Tryd.prog
  clear h
  go_enter Tryd.func4, Tryd.ntmps4
  go_wp2_with fail
  refine (C.out _).mono ?_
  rintro e w1 ⟨rfl, b1⟩
  have c0 : w1.cell? ⟨w.heap.size, 0, none⟩ = some (.int .i64 se) := (b1.cell (p := ⟨w.heap.size, 0, none⟩) (by simp)).trans (Lib.cell_of_heap (heap_alloc_new w _) 0)
  have c1 : w1.cell? ⟨w.heap.size, 1, none⟩ = some (.int .i64 sa) := (b1.cell (p := ⟨w.heap.size, 1, none⟩) (by simp)).trans (Lib.cell_of_heap (heap_alloc_new w _) 1)
  have c2 : w1.cell? ⟨w.heap.size, 2, none⟩ = some (.int .i64 wd) := (b1.cell (p := ⟨w.heap.size, 2, none⟩) (by simp)).trans (Lib.cell_of_heap (heap_alloc_new w _) 2)
  have hl0 : w.heap.size < w1.heap.size := by have := b1.size; simp at this; omega
  have b1 := ((Below.refl w.heap.size w).alloc (Nat.le_refl _) (.cells #[.int .i64 se, .int .i64 sa, .int .i64 wd] 23)).trans (b1.mono (by simp))
  have hlt := Lib.hid b1.size
  have F := Lib.hid (fun W (b : Below w1.heap.size w1 W) => (show W.cell? ⟨w.heap.size, 0, none⟩ = some (.int .i64 se) ∧ W.cell? ⟨w.heap.size, 1, none⟩ = some (.int .i64 sa) ∧ W.cell? ⟨w.heap.size, 2, none⟩ = some (.int .i64 wd) from ⟨(b.cell (p := ⟨w.heap.size, 0, none⟩) hl0).trans c0, (b.cell (p := ⟨w.heap.size, 1, none⟩) hl0).trans c1, (b.cell (p := ⟨w.heap.size, 2, none⟩) hl0).trans c2⟩))
  go_wp2_with fail
  go_region_law (go_simp; go_at_call 7; refine (N.out _).mono ?_; rintro y w2 ⟨bi, mh, ml, rfl, hge, ix, m1, m2, bN⟩; have bW := Below.trans (show Below w1.heap.size w1 _ by (with_reducible repeat (first | exact Below.refl _ _ | assumption | apply Below.drew | apply bel_allocH))) (bN.mono (by first | (simp; done) | (simp; omega))); obtain ⟨d0, d1, d2⟩ := F.out _ bW; obtain ⟨e0, e1, e2⟩ := F.out _ (bel_allocH (o := .map #[] 0) bW); obtain ⟨g0, g1, g2⟩ := F.out _ (bel_allocH (o := .map #[] 0) (bel_allocH (o := .map #[] 0) bW)))
  all_goals
    have l1 := mapIs_lt m1
    have m1' : w2.heap[mh]? = some (.map #[] 0) := m1
    have m2' : w2.heap[ml]? = some (.map #[] 0) := m2
    have l2 := mapIsJ_lt m2
    have zW := bW.size
    obtain ⟨q1, q2, q3⟩ := hge
    simp at q1 q2 q3
    go_wp2_with fail
    go_ret2
    refine hnew_fin se sa wd w w1 _ _ bi _ _ mh ml b1 (by with_reducible repeat (first | exact Below.refl _ _ | assumption | apply Below.drew | apply bel_allocH)) (by first | rfl | (simp; done)) (by repeat (first | (refine heap_alloc_at ?_; first | rfl | (simp; done)) | refine kept_alloc ?_ | refine kept_below bN ?_)) (by repeat (first | (refine heap_alloc_at ?_; first | rfl | (simp; done)) | refine kept_alloc ?_ | refine kept_below bN ?_)) (by with_reducible repeat (first | exact ix | apply IxB.keptA)) (by with_reducible repeat (first | exact m1' | refine kept_alloc ?_)) (by with_reducible repeat (first | exact m2' | refine kept_alloc ?_)) (by omega) (by omega)
end Go.Proofs.YthgpnjkabpfccaaDoor
