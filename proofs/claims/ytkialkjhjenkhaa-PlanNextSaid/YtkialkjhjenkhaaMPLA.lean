/- Layer 20: free blocks compared. -/
import Derived.Test.YtkialkjhjenkhaaMPL9
import Derived.Deep.RegionHeld3
import Derived.Shelf.SlSortCmp.InsertionK
namespace Go.Proofs.Ytkialkjhjenkhaa
open Go.RowKit Go.Lib
set_option linter.unusedVariables false

def cmpI (a b : Int) : Int := if a < b then -1 else if b < a then 1 else 0

theorem isnan_j (a : Int) (w : World) : Calls Try.prog 54 #[.int .i64 a] w fun e w' => e = .returned (.bool false) ∧ w = w' := by
  go_enter Try.func54, Try.ntmps54
  go_wp2
  go_ret
  exact ⟨by simp, rfl⟩
set_option maxRecDepth 100000 in
theorem compare_j (a b : Int) (w : World) : Calls Try.prog 43 #[.int .i64 a, .int .i64 b] w fun e w' => e = .returned (.int .i64 (cmpI a b)) ∧ w = w' := by
  have C0 := Lib.hid (fun W => isnan_j a W)
  have C1 := Lib.hid (fun W => isnan_j b W)
  by_cases h : a < b
  · have h1 : decide (a < b) = true := decide_eq_true h
    have HR := Lib.hid (show cmpI a b = -1 by simp [cmpI, h])
    clear h
    go_enter Try.func43, Try.ntmps43
    go_wp2_with fail
    refine (C0.out _).mono ?_
    rintro e w1 ⟨rfl, rfl⟩
    go_wp2_with fail
    refine (C1.out _).mono ?_
    rintro e w1 ⟨rfl, rfl⟩
    go_wp2
    go_ret
    exact ⟨by rw [HR.out]; rfl, rfl⟩
  · by_cases h2 : b < a
    · have h1 : decide (a < b) = false := decide_eq_false h
      have h3 : decide (b < a) = true := decide_eq_true h2
      have HR := Lib.hid (show cmpI a b = 1 by simp [cmpI, h, h2])
      clear h h2
      go_enter Try.func43, Try.ntmps43
      go_wp2_with fail
      refine (C0.out _).mono ?_
      rintro e w1 ⟨rfl, rfl⟩
      go_wp2_with fail
      refine (C1.out _).mono ?_
      rintro e w1 ⟨rfl, rfl⟩
      go_wp2
      go_ret
      exact ⟨by rw [HR.out]; rfl, rfl⟩
    · have h1 : decide (a < b) = false := decide_eq_false h
      have h3 : decide (b < a) = false := decide_eq_false h2
      have HR := Lib.hid (show cmpI a b = 0 by simp [cmpI, h, h2])
      clear h h2
      go_enter Try.func43, Try.ntmps43
      go_wp2_with fail
      refine (C0.out _).mono ?_
      rintro e w1 ⟨rfl, rfl⟩
      go_wp2_with fail
      refine (C1.out _).mono ?_
      rintro e w1 ⟨rfl, rfl⟩
      go_wp2
      go_ret
      exact ⟨by rw [HR.out]; rfl, rfl⟩

/-- Of two the first that isn't nought. -/
def orI (x y : Int) : Int := if x = 0 then y else x
set_option maxHeartbeats 1000000 in
set_option maxRecDepth 100000 in
theorem or2_any (x y : Int) (g off : Nat) (w : World) (h0 : w.cell? ⟨g, off, none⟩ = some (.int .i64 x)) (h1 : w.cell? ⟨g, off + 1, none⟩ = some (.int .i64 y)) :
    Calls Try.prog 42 #[.slice (some ⟨g, off, none⟩) 2 2] w fun e w' => e = .returned (.int .i64 (orI x y)) ∧ w = w' := by
  by_cases hx : x = 0
  · by_cases hy : y = 0
    · have HR := Lib.hid (show orI x y = 0 by simp [orI, hx, hy])
      subst hx hy
      go_enter Try.func42, Try.ntmps42
      go_wp2_with fail
      go_loopw [5, 8] (fun _ i' wr => (i' = .int .i64 0 ∨ i' = .int .i64 1 ∨ i' = .int .i64 2) ∧ w = wr) (fun _ i' _ => 2 - (RowKit.intOf i').toNat)
      case atStart => exact ⟨.inl rfl, rfl⟩
      case round =>
        obtain ⟨hi, rfl⟩ := hrel
        rcases hi with rfl | rfl | rfl
        · go_wp2
          exact ⟨⟨by simp, by trivial⟩, by simp [RowKit.intOf]⟩
        · go_wp2
          exact ⟨⟨by simp, by trivial⟩, by simp [RowKit.intOf]⟩
        · go_wp2
          go_ret
          exact ⟨by rw [HR.out]; rfl, rfl⟩
    · have HR := Lib.hid (show orI x y = y by simp [orI, hx])
      have hyb : (y == 0) = false := beq_eq_false_iff_ne.2 hy
      have hyb2 : (y != 0) = true := by simp [bne, hyb]
      subst hx
      clear hy
      go_enter Try.func42, Try.ntmps42
      go_wp2_with fail
      go_loopw [5, 8] (fun _ i' wr => (i' = .int .i64 0 ∨ i' = .int .i64 1) ∧ w = wr) (fun _ i' _ => 2 - (RowKit.intOf i').toNat)
      case atStart => exact ⟨.inl rfl, rfl⟩
      case round =>
        obtain ⟨hi, rfl⟩ := hrel
        rcases hi with rfl | rfl
        · go_wp2
          exact ⟨⟨by simp, by trivial⟩, by simp [RowKit.intOf]⟩
        · go_wp2
          go_ret
          exact ⟨by rw [HR.out]; rfl, rfl⟩
  · have HR := Lib.hid (show orI x y = x by simp [orI, hx])
    have hxb : (x == 0) = false := beq_eq_false_iff_ne.2 hx
    have hxb2 : (x != 0) = true := by simp [bne, hxb]
    clear hx
    go_enter Try.func42, Try.ntmps42
    go_wp2_with fail
    go_loopw [5, 8] (fun _ i' wr => i' = .int .i64 0 ∧ w = wr) (fun _ i' _ => 2 - (RowKit.intOf i').toNat)
    case atStart => exact ⟨rfl, rfl⟩
    case round =>
      obtain ⟨rfl, rfl⟩ := hrel
      go_wp2
      go_ret
      exact ⟨by rw [HR.out]; rfl, rfl⟩

/-- By Min, then by names. -/
def cfM (x y : Mq) : Int := orI (cmpI x.m.mn y.m.mn) (Lib.compareBytes x.m.id y.m.id)
set_option maxHeartbeats 1000000 in
set_option maxRecDepth 100000 in
theorem free1_any (x y : Mq) (W : World) : Calls Try.prog 41 #[.agg #[.string (bs x.m.id), .int .i64 x.m.mn, .int .i64 x.m.mx, .int .i64 x.m.lv, .int .i64 x.m.se, .int .i64 x.m.sa, x.vf, x.vs], .agg #[.string (bs y.m.id), .int .i64 y.m.mn, .int .i64 y.m.mx, .int .i64 y.m.lv, .int .i64 y.m.se, .int .i64 y.m.sa, y.vf, y.vs]] W fun e w' => e = .returned (.int .i64 (cfM x y)) ∧ ∃ q os', w' = Sort.grow (W.drewN q) os' := by
  have hcon := fun W' => Any.strings_Compare cmpStr (bs x.m.id) (bs y.m.id) W'
  change ∀ W', Calls Try.prog 37 _ _ _ at hcon
  have e1 : (bs x.m.id).data.toList = x.m.id := by simp [bs]
  have e2 : (bs y.m.id).data.toList = y.m.id := by simp [bs]
  rw [e1, e2] at hcon
  have CJ := Lib.hid (fun W' => compare_j x.m.mn y.m.mn W')
  unfold cfM
  generalize Lib.compareBytes x.m.id y.m.id = r at hcon ⊢
  generalize cmpI x.m.mn y.m.mn = p at CJ ⊢
  have HC := Lib.hid hcon
  have OR := Lib.hid (fun g W' h0 h1 => or2_any p r g 0 W' h0 h1)
  clear hcon e1 e2
  have FX := Lib.hid (fun W' (bb : Below ((W.alloc (.cells #[.string (bs x.m.id), .int .i64 x.m.mn, .int .i64 x.m.mx, .int .i64 x.m.lv, .int .i64 x.m.se, .int .i64 x.m.sa, x.vf, x.vs] 53)).alloc (.cells #[.string (bs y.m.id), .int .i64 y.m.mn, .int .i64 y.m.mx, .int .i64 y.m.lv, .int .i64 y.m.se, .int .i64 y.m.sa, y.vf, y.vs] 53)).heap.size ((W.alloc (.cells #[.string (bs x.m.id), .int .i64 x.m.mn, .int .i64 x.m.mx, .int .i64 x.m.lv, .int .i64 x.m.se, .int .i64 x.m.sa, x.vf, x.vs] 53)).alloc (.cells #[.string (bs y.m.id), .int .i64 y.m.mn, .int .i64 y.m.mx, .int .i64 y.m.lv, .int .i64 y.m.se, .int .i64 y.m.sa, y.vf, y.vs] 53)) W') => show W'.cell? ⟨W.heap.size, 0, none⟩ = some (.string (bs x.m.id)) ∧ W'.cell? ⟨W.heap.size, 1, none⟩ = some (.int .i64 x.m.mn) ∧ W'.cell? ⟨W.heap.size + 1, 0, none⟩ = some (.string (bs y.m.id)) ∧ W'.cell? ⟨W.heap.size + 1, 1, none⟩ = some (.int .i64 y.m.mn) from by
    have s1 : (W.alloc (.cells #[.string (bs x.m.id), .int .i64 x.m.mn, .int .i64 x.m.mx, .int .i64 x.m.lv, .int .i64 x.m.se, .int .i64 x.m.sa, x.vf, x.vs] 53)).heap.size = W.heap.size + 1 := by simp
    have s2 : ((W.alloc (.cells #[.string (bs x.m.id), .int .i64 x.m.mn, .int .i64 x.m.mx, .int .i64 x.m.lv, .int .i64 x.m.se, .int .i64 x.m.sa, x.vf, x.vs] 53)).alloc (.cells #[.string (bs y.m.id), .int .i64 y.m.mn, .int .i64 y.m.mx, .int .i64 y.m.lv, .int .i64 y.m.se, .int .i64 y.m.sa, y.vf, y.vs] 53)).heap.size = W.heap.size + 1 + 1 := by simp
    have h1 := (bb.block W.heap.size (by omega)).trans ((Below.heap_alloc (W.alloc (.cells #[.string (bs x.m.id), .int .i64 x.m.mn, .int .i64 x.m.mx, .int .i64 x.m.lv, .int .i64 x.m.se, .int .i64 x.m.sa, x.vf, x.vs] 53)) (.cells #[.string (bs y.m.id), .int .i64 y.m.mn, .int .i64 y.m.mx, .int .i64 y.m.lv, .int .i64 y.m.se, .int .i64 y.m.sa, y.vf, y.vs] 53) W.heap.size (by omega)).trans (heap_alloc_new W (.cells #[.string (bs x.m.id), .int .i64 x.m.mn, .int .i64 x.m.mx, .int .i64 x.m.lv, .int .i64 x.m.se, .int .i64 x.m.sa, x.vf, x.vs] 53)))
    have h3 : ((W.alloc (.cells #[.string (bs x.m.id), .int .i64 x.m.mn, .int .i64 x.m.mx, .int .i64 x.m.lv, .int .i64 x.m.se, .int .i64 x.m.sa, x.vf, x.vs] 53)).alloc (.cells #[.string (bs y.m.id), .int .i64 y.m.mn, .int .i64 y.m.mx, .int .i64 y.m.lv, .int .i64 y.m.se, .int .i64 y.m.sa, y.vf, y.vs] 53)).heap[W.heap.size + 1]? = some (.cells #[.string (bs y.m.id), .int .i64 y.m.mn, .int .i64 y.m.mx, .int .i64 y.m.lv, .int .i64 y.m.se, .int .i64 y.m.sa, y.vf, y.vs] 53) := by
      have h4 := heap_alloc_new (W.alloc (.cells #[.string (bs x.m.id), .int .i64 x.m.mn, .int .i64 x.m.mx, .int .i64 x.m.lv, .int .i64 x.m.se, .int .i64 x.m.sa, x.vf, x.vs] 53)) (.cells #[.string (bs y.m.id), .int .i64 y.m.mn, .int .i64 y.m.mx, .int .i64 y.m.lv, .int .i64 y.m.se, .int .i64 y.m.sa, y.vf, y.vs] 53)
      rwa [s1] at h4
    have h2 := (bb.block (W.heap.size + 1) (by omega)).trans h3
    exact ⟨Lib.cell_of_heap h1 0, Lib.cell_of_heap h1 1, Lib.cell_of_heap h2 0, Lib.cell_of_heap h2 1⟩)
  have LC := Lib.hid (show (((W.alloc (.cells #[.string (bs x.m.id), .int .i64 x.m.mn, .int .i64 x.m.mx, .int .i64 x.m.lv, .int .i64 x.m.se, .int .i64 x.m.sa, x.vf, x.vs] 53)).alloc (.cells #[.string (bs y.m.id), .int .i64 y.m.mn, .int .i64 y.m.mx, .int .i64 y.m.lv, .int .i64 y.m.se, .int .i64 y.m.sa, y.vf, y.vs] 53)).alloc (.cells #[.int .i64 p, .int .i64 r] 3)).heap[W.heap.size + 1 + 1]? = some (.cells #[.int .i64 p, .int .i64 r] 3) from by
    have h4 := heap_alloc_new ((W.alloc (.cells #[.string (bs x.m.id), .int .i64 x.m.mn, .int .i64 x.m.mx, .int .i64 x.m.lv, .int .i64 x.m.se, .int .i64 x.m.sa, x.vf, x.vs] 53)).alloc (.cells #[.string (bs y.m.id), .int .i64 y.m.mn, .int .i64 y.m.mx, .int .i64 y.m.lv, .int .i64 y.m.se, .int .i64 y.m.sa, y.vf, y.vs] 53)) (.cells #[.int .i64 p, .int .i64 r] 3)
    rwa [show ((W.alloc (.cells #[.string (bs x.m.id), .int .i64 x.m.mn, .int .i64 x.m.mx, .int .i64 x.m.lv, .int .i64 x.m.se, .int .i64 x.m.sa, x.vf, x.vs] 53)).alloc (.cells #[.string (bs y.m.id), .int .i64 y.m.mn, .int .i64 y.m.mx, .int .i64 y.m.lv, .int .i64 y.m.se, .int .i64 y.m.sa, y.vf, y.vs] 53)).heap.size = W.heap.size + 1 + 1 by simp] at h4)
  have ORD := Lib.hid (or2_any p r (W.heap.size + 1 + 1) 0 (((W.alloc (.cells #[.string (bs x.m.id), .int .i64 x.m.mn, .int .i64 x.m.mx, .int .i64 x.m.lv, .int .i64 x.m.se, .int .i64 x.m.sa, x.vf, x.vs] 53)).alloc (.cells #[.string (bs y.m.id), .int .i64 y.m.mn, .int .i64 y.m.mx, .int .i64 y.m.lv, .int .i64 y.m.se, .int .i64 y.m.sa, y.vf, y.vs] 53)).alloc (.cells #[.int .i64 p, .int .i64 r] 3)).drew (Lib.cell_of_heap (w := (((W.alloc (.cells #[.string (bs x.m.id), .int .i64 x.m.mn, .int .i64 x.m.mx, .int .i64 x.m.lv, .int .i64 x.m.se, .int .i64 x.m.sa, x.vf, x.vs] 53)).alloc (.cells #[.string (bs y.m.id), .int .i64 y.m.mn, .int .i64 y.m.mx, .int .i64 y.m.lv, .int .i64 y.m.se, .int .i64 y.m.sa, y.vf, y.vs] 53)).alloc (.cells #[.int .i64 p, .int .i64 r] 3)).drew) LC.out 0) (Lib.cell_of_heap (w := (((W.alloc (.cells #[.string (bs x.m.id), .int .i64 x.m.mn, .int .i64 x.m.mx, .int .i64 x.m.lv, .int .i64 x.m.se, .int .i64 x.m.sa, x.vf, x.vs] 53)).alloc (.cells #[.string (bs y.m.id), .int .i64 y.m.mn, .int .i64 y.m.mx, .int .i64 y.m.lv, .int .i64 y.m.se, .int .i64 y.m.sa, y.vf, y.vs] 53)).alloc (.cells #[.int .i64 p, .int .i64 r] 3)).drew) LC.out 1))
  have B0 := Below.refl ((W.alloc (.cells #[.string (bs x.m.id), .int .i64 x.m.mn, .int .i64 x.m.mx, .int .i64 x.m.lv, .int .i64 x.m.se, .int .i64 x.m.sa, x.vf, x.vs] 53)).alloc (.cells #[.string (bs y.m.id), .int .i64 y.m.mn, .int .i64 y.m.mx, .int .i64 y.m.lv, .int .i64 y.m.se, .int .i64 y.m.sa, y.vf, y.vs] 53)).heap.size ((W.alloc (.cells #[.string (bs x.m.id), .int .i64 x.m.mn, .int .i64 x.m.mx, .int .i64 x.m.lv, .int .i64 x.m.se, .int .i64 x.m.sa, x.vf, x.vs] 53)).alloc (.cells #[.string (bs y.m.id), .int .i64 y.m.mn, .int .i64 y.m.mx, .int .i64 y.m.lv, .int .i64 y.m.se, .int .i64 y.m.sa, y.vf, y.vs] 53))
  obtain ⟨f0, f1, f2, f3⟩ := FX.out _ B0
  go_enter Try.func41, Try.ntmps41
  go_upto_region 1 with fail
  go_region_held3 (fun W' => W'.cell? ⟨W.heap.size, 0, none⟩ = some (.string (bs x.m.id)) ∧ W'.cell? ⟨W.heap.size, 1, none⟩ = some (.int .i64 x.m.mn) ∧ W'.cell? ⟨W.heap.size + 1, 0, none⟩ = some (.string (bs y.m.id)) ∧ W'.cell? ⟨W.heap.size + 1, 1, none⟩ = some (.int .i64 y.m.mn))
    (first | assumption | (refine FX.out _ ?_; with_reducible repeat (first | exact Below.refl _ _ | assumption | apply Below.drew | apply bel_allocP)))
    (first
      | (go_at_call 37; (with_reducible refine (HC.out _).mono ?_); rintro e w' ⟨rfl, rfl⟩)
      | (go_at_call 43; (with_reducible refine (CJ.out _).mono ?_); rintro e w' ⟨rfl, rfl⟩)
      | (go_at_call 42; (with_reducible refine ORD.out.mono ?_); rintro e w' ⟨rfl, rfl⟩)
      | fail)
  all_goals (go_wp2_with fail)
  all_goals go_ret
  all_goals exact ⟨rfl, 1, _, by rw [Sort.alloc_eq_grow, Sort.alloc_eq_grow, Sort.alloc_eq_grow, Sort.grow_grow, Sort.grow_grow]; rfl⟩
end Go.Proofs.Ytkialkjhjenkhaa
