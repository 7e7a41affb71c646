/- DiskFuses. -/
import Derived.Test.YtfjihookoilnnaaU3
namespace Go.Proofs.Ytfjihookoilnnaa
open Go.Conc Go.RowKit
set_option linter.unusedVariables false
set_option linter.unusedSimpArgs false

theorem view_append (L : List Ft) (now : Ft) (x : Ft) : view (L ++ [x]) false now = view L false now ++ [(max x.1 0, x.2)] := by
  unfold view; simp
theorem view_length (L : List Ft) (now : Ft) : (view L false now).length = L.length := by
  unfold view; simp
theorem view_fits (L : List Ft) (now : Ft) (h : ∀ x ∈ L, Ft.Fits x) : ∀ x ∈ view L false now, Ft.Fits x := by
  intro x hx
  unfold view at hx
  simp only [Bool.false_eq_true, if_false, List.mem_map] at hx
  obtain ⟨y, hy, rfl⟩ := hx
  have := h y hy
  unfold Ft.Fits at this ⊢
  simp only
  omega

/-- DiskFuses' first loop. -/
def Arming (f c X B len0 : Nat) (w0 : World) (vi : Value) (wr : World) : Prop :=
  ∃ (i : Nat) (L : List Ft) (now : Ft) (v : Value), vi = .int .i64 i ∧ i ≤ 20 ∧ i ≤ len0 ∧ FuseAt f c L false now wr ∧ L.length = min i 16 ∧ wr.cell? ⟨X, 0, none⟩ = some v ∧ wr.frozen? ⟨X, 0, none⟩ = false ∧
    Sl wr B 2 v L.length (ftc (view L false now)) ∧ B ≤ wr.heap.size ∧ Below w0.heap.size w0 wr

set_option maxHeartbeats 2000000 in
set_option maxRecDepth 100000 in
theorem dfuses_any (a0 : Option Addr) (len0 cap0 : Nat) (z0 : List Ac) (a1 : Option Addr) (len1 cap1 : Nat) (z1 : List Bool) (w : World) (m0 : len0 ≤ maxLen) (w0 : ActsAt w a0 len0 z0) (m1 : len1 ≤ maxLen) (w1 : BoolsAt w a1 len1 z1) :
    Calls Try.prog 9 #[.slice a0 len0 cap0, .slice a1 len1 cap1] w fun e w' => e = .returned (.bool true) ∧ Below w.heap.size w w' := by
  have HAw := Lib.hid (fun W => dawake_any W)
  have HNF := Lib.hid (fun W => newfuse_any W)
  obtain ⟨i0, hi0, hz0, hz1, hz2⟩ := info_parts zc_fault
  have Hz := Lib.hid hz0; have Hs := Lib.hid hz1; have Hb := Lib.hid hz2; have Hi := Lib.hid hi0
  clear hz0 hz1 hz2 hi0
  obtain ⟨hzl, hzf, hza⟩ := w0
  obtain ⟨hyl, hya⟩ := w1
  obtain ⟨W0, hW0⟩ : ∃ W0, W0 = w.alloc (.cells #[.slice a1 len1 cap1] 82) := ⟨_, rfl⟩
  have b0 : Below w.heap.size w W0 := by rw [hW0]; exact (Below.refl _ w).alloc (Nat.le_refl _) _
  have k0 : W0.cell? ⟨w.heap.size, 0, none⟩ = some (.slice a1 len1 cap1) := by rw [hW0, cell_of_row _ _ 0 _ _ _ (heap_alloc_new w _)]; rfl
  have z0' : W0.heap.size = w.heap.size + 1 := by rw [hW0]; simp
  have HW0 := Lib.hid hW0
  clear hW0
  go_enter Try.func9, Try.ntmps9
  go_wp2_with fail
  rw [← HW0.out]
  refine (HAw.out _).mono ?_
  rintro e x1 ⟨rfl, b1⟩
  go_wp2_with fail
  refine (HNF.out _).mono ?_
  rintro e x2 ⟨rfl, hH, b2, z2⟩
  obtain ⟨L0, ar0, now0, hF0, hv0⟩ := hH
  have har : ar0 = false := by
    cases ar0
    · rfl
    · unfold view at hv0; simp at hv0
  subst har
  have hL0 : L0 = [] := by unfold view at hv0; simpa using hv0
  subst hL0
  clear hv0
  go_wp2_with fail
  obtain ⟨x3, hx3⟩ : ∃ x3, x3 = x2.alloc (.cells #[.slice none 0 0] 28) := ⟨_, rfl⟩
  have hX := heap_alloc_new x2 (.cells #[.slice none 0 0] 28)
  have b3 : Below x2.heap.size x2 x3 := by rw [hx3]; exact (Below.refl _ _).alloc (Nat.le_refl _) _
  have z3 : x3.heap.size = x1.heap.size + 3 := by rw [hx3]; simp; omega
  rw [← hx3, z2] at hX
  rw [← hx3]
  have kX : x3.cell? ⟨x1.heap.size + 2, 0, none⟩ = some (.slice none 0 0) := by rw [cell_of_row _ _ 0 _ _ _ hX]; rfl
  have fX : x3.frozen? ⟨x1.heap.size + 2, 0, none⟩ = false := by simp only [World.frozen?, hX]; rfl
  have hF3 := hF0.below b3
  have bA : Below w.heap.size w x3 := ((b0.trans (b1.mono b0.size)).trans (b2.mono (by have := b0.size; have := b1.size; omega))).trans (b3.mono (by have := b0.size; have := b1.size; omega))
  have kO : x3.cell? ⟨w.heap.size, 0, none⟩ = some (.slice a1 len1 cap1) := by
    have h1 := b1.cell (p := ⟨w.heap.size, 0, none⟩) (by simp only; omega)
    have h2 := b2.cell (p := ⟨w.heap.size, 0, none⟩) (by have := b1.size; simp only; omega)
    have h3 := b3.cell (p := ⟨w.heap.size, 0, none⟩) (by have := b1.size; simp only; omega)
    rw [h3, h2, h1]; exact k0
  have hO : w.heap.size < x1.heap.size := by have := b1.size; omega
  obtain ⟨c, hc⟩ : ∃ c, c = x1.heap.size := ⟨_, rfl⟩
  obtain ⟨f, hf⟩ : ∃ f, f = x1.heap.size + 1 := ⟨_, rfl⟩
  obtain ⟨X, hXd⟩ : ∃ X, X = x1.heap.size + 2 := ⟨_, rfl⟩
  have hB : x3.heap.size = X + 1 := by omega
  have ne1 : c ≠ X := by omega
  have ne2 : f ≠ X := by omega
  have lt1 : w.heap.size < c := by omega
  have lt2 : w.heap.size < f := by omega
  have lt3 : w.heap.size < X := by omega
  have lt4 : c < X := by omega
  have lt5 : f < X := by omega
  rw [← hf, ← hc] at hF3
  rw [← hXd] at kX fX ⊢
  rw [← hf]
  have HB := Lib.hid hB
  clear hc hf hXd hx3 hX b1 b2 b3 z2 z3 z0' hF0 b0 k0 hB
  go_loopw [7] (fun vi wr => Arming f c X (X + 1) len0 w vi wr ∧ wr.cell? ⟨w.heap.size, 0, none⟩ = some (.slice a1 len1 cap1)) (fun vi _ => 20 - (RowKit.intOf vi).toNat)
  case atStart => exact ⟨⟨0, [], now0, _, rfl, by omega, by omega, hF3, rfl, kX, fX, Sl.nil _ _ _, by have := HB.out; omega, bA⟩, kO⟩
  case round =>
    obtain ⟨⟨i, L, now, v, rfl, hi, hil, hF, hLl, kx, fx, hsl, hBw, bR⟩, ko⟩ := hrel
    by_cases hlt : i < len0 ∧ i < 20
    · obtain ⟨h3, h4⟩ := hlt
      obtain ⟨g, off, rfl, hg, hcell⟩ := hza (by omega)
      have hzi : i < z0.length := by rw [hzl]; exact Nat.lt_min.2 ⟨h3, Nat.lt_of_lt_of_le h4 (by decide)⟩
      obtain ⟨t, ht⟩ : ∃ t, z0[i]? = some t := ⟨z0[i]'hzi, List.getElem?_eq_getElem hzi⟩
      have F := hzf t (List.mem_of_getElem? ht)
      obtain ⟨q0, q1, q2, q3, q4, q5⟩ := hcell i t ht
      have r1 := (bR.cell (p := ⟨g, off + i * 6 + 1, none⟩) hg).trans q1
      have r4 := (bR.cell (p := ⟨g, off + i * 6 + 4, none⟩) hg).trans q4
      have i4 : (i : Int) < 20 := by omega
      obtain ⟨tk, tn, ta, tb, td, av, lv, cv, ch⟩ := t
      simp only at r1 r4
      have hfit : Ft.Fits (tn, td) := by unfold Ft.Fits; exact ⟨F.n0, F.n1⟩
      clear q0 q1 q2 q3 q4 q5 hcell ht F hza hzf hzl hzi
      by_cases h16 : L.length < 16
      · have HP := Lib.hid (fun W (h : FuseAt f c L false now W) => arm_room f c L false now tn td W h h16)
        go_wp2_with fail
        go_region_held3 (fun W => W.cell? ⟨g, off + i * 6 + 1, none⟩ = some (.int .i64 tn) ∧ W.cell? ⟨g, off + i * 6 + 4, none⟩ = some (.bool td)) (first | exact ⟨r1, r4⟩ | assumption)
          (first
            | (go_at_call 21; refine (HP.out _ (hF.below (Below.refl _ wr).drew)).mono ?_; rintro e y6 ⟨rfl, hc6, t6⟩; have d6 := And.intro ((t6.cell (p := ⟨g, off + i * 6 + 1, none⟩) (Nat.lt_of_lt_of_le hg bR.size) (by simp only; omega)).trans r1) ((t6.cell (p := ⟨g, off + i * 6 + 4, none⟩) (Nat.lt_of_lt_of_le hg bR.size) (by simp only; omega)).trans r4)))
        have kx6 : y6.cell? ⟨X, 0, none⟩ = some v := (t6.cell (p := ⟨X, 0, none⟩) (by show X < wr.heap.size; omega) (by simp only; omega)).trans kx
        have fx6 : y6.frozen? ⟨X, 0, none⟩ = false := (t6.frozen (p := ⟨X, 0, none⟩) (by show X < wr.heap.size; omega) (by simp only; omega)).trans fx
        have ko6 : y6.cell? ⟨w.heap.size, 0, none⟩ = some (.slice a1 len1 cap1) := (t6.cell (p := ⟨w.heap.size, 0, none⟩) (by show w.heap.size < wr.heap.size; omega) (by simp only; omega)).trans ko
        have hF6 := (hF.below (Below.refl _ wr).drew).turn t6 hc6 (by simp; omega) (fun x hx => by
          rw [List.mem_append, List.mem_singleton] at hx
          rcases hx with hx | rfl
          · exact hF.fits x hx
          · exact hfit)
        have hsl6 : Sl y6 (X + 1) 2 v L.length (ftc (view L false now)) := hsl.same t6.size (fun k hk => t6.block k (hsl.lt k hk).2 (by have := (hsl.lt k hk).1; omega))
        have b6 : Below w.heap.size wr y6 := (show Below w.heap.size wr wr.drew from (Below.refl _ wr).drew).trans (t6.below (a := wr.drew) (by show w.heap.size ≤ wr.heap.size; omega) (fun k hk => by omega))
        have hz6 : wr.heap.size ≤ y6.heap.size := t6.size
        obtain ⟨va, vc, rfl⟩ := hsl6.slice
        obtain ⟨s1, s4⟩ := d6
        clear t6 hc6 kx fx ko hsl r1 r4
        obtain ⟨Y, hY⟩ : ∃ Y, Y = (y6.alloc (.cells #[.int .i64 (max tn 0), .bool td] 85)).drew := ⟨_, rfl⟩
        have bY : Below y6.heap.size y6 Y := by rw [hY]; exact ((Below.refl _ _).alloc (Nat.le_refl _) _).drew
        have hownY : Sl Y (X + 1) 2 (.slice va L.length vc) L.length (ftc (view L false now)) := by rw [hY]; exact (hsl6.alloc _).drew
        have hlit : Sl Y (X + 1) 2 (.slice (some ⟨y6.heap.size, 0, none⟩) 1 1) 1 [.int .i64 (max tn 0), .bool td] := by
          rw [hY]
          exact (Sl.lit y6 (X + 1) 2 1 #[.int .i64 (max tn 0), .bool td] 85 (by omega) (by decide) rfl).drew
        have hnewY := hlit.cells
        have hone : ∀ u ∈ [Value.int .i64 (max tn 0), .bool td], u.oneCell' = true := by
          intro u hu
          simp only [List.mem_cons, List.not_mem_nil, or_false] at hu
          rcases hu with rfl | rfl <;> rfl
        have n1 : L.length + 1 ≤ maxLen := by unfold maxLen; omega
        have n2 : (L.length + 1) * 16 ≤ 140737488355328 := by omega
        have n3 : X + 1 ≤ Y.heap.size := by have := bY.size; omega
        have t0 : (y6.alloc (.cells #[.int .i64 (max tn 0), .bool td] 85)).cell? ⟨X, 0, none⟩ = some (.slice va L.length vc) := (World.cell?_alloc_past _ _ _ (by omega)).trans kx6
        have hkeep : ∀ v' w5, Ext (X + 1) 2 Y (.slice va L.length vc) L.length (ftc (view L false now)) w5 v' (L.length + 1) (ftc (view L false now) ++ [.int .i64 (max tn 0), .bool td]) → (∃ a5 c5, v' = .slice a5 (L.length + 1) c5) ∧ (∀ k, k ≤ X → w5.heap[k]? = y6.heap[k]?) := fun v' w5 hx5 => by
          refine ⟨hx5.now.slice, fun k hk => ?_⟩
          have hlt : k < y6.heap.size := by omega
          rw [hx5.grown.block k (by have := bY.size; omega) (fun e => by have := (hownY.lt k e.symm).1; omega)]
          exact bY.block k hlt
        have HK := Lib.hid hkeep
        have HLl := Lib.hid hLl
        have HY := Lib.hid hY
        rw [hY] at hownY hnewY n3
        clear hkeep hLl hY hlit
        go_wp2_with fail
        go_region_law (refine step_append_sl rfl _ _ 26 rfl (X + 1) 85 i0 (.agg #[.int .i64 0, .bool false]) 2 16 Try.underlying26 Hi.out Hz.out Hs.out Hb.out rfl (by decide) _ L.length _ rfl hownY ⟨y6.heap.size, 0, none⟩ 1 1 [.int .i64 (max tn 0), .bool td] rfl rfl hnewY hone n1 n2 n3 ?_; intro v' w5 hx5; rw [← HY.out] at hx5; obtain ⟨⟨a5, c5, rfl⟩, hblk5⟩ := HK.out v' w5 hx5; have p1 := (World.cell?_of_block (a := ⟨X, 0, none⟩) (hblk5 X (Nat.le_refl _))).trans kx6; have pf1 := (World.frozen?_of_block (a := ⟨X, 0, none⟩) (hblk5 X (Nat.le_refl _))).trans fx6)
        all_goals
          go_wp2
          have hzY := bY.size
          have hlt5 : ∀ k, k ≤ X → k < w5.heap.size := fun k hk => by
            have h1 := hblk5 k hk
            have h2 : k < y6.heap.size := by omega
            rw [Array.getElem?_eq_getElem h2] at h1
            exact (Array.getElem?_eq_some_iff.1 h1).1
          obtain ⟨W6, hW6⟩ : ∃ W6, W6 = w5.setCell ⟨X, 0, none⟩ (.slice a5 (L.length + 1) c5) := ⟨_, rfl⟩
          have hz5 : y6.heap.size ≤ w5.heap.size := by have := hx5.grown.size; omega
          have hz6 : W6.heap.size = w5.heap.size := by rw [hW6]; simp [World.setCell]
          have hb6 : ∀ k, k < X → W6.heap[k]? = y6.heap[k]? := fun k hk => by rw [hW6, Below.heap_setCell _ _ _ _ (by simp only; omega)]; exact hblk5 k (by omega)
          have hkX : W6.cell? ⟨X, 0, none⟩ = some (.slice a5 (L.length + 1) c5) := by rw [hW6]; exact cell_setCell_same _ _ _ _ (by rw [p1]; rfl)
          have hfX : W6.frozen? ⟨X, 0, none⟩ = false := by rw [hW6, frozen_setCell]; exact pf1
          have hkO : W6.cell? ⟨w.heap.size, 0, none⟩ = some (.slice a1 len1 cap1) := (World.cell?_of_block (a := ⟨w.heap.size, 0, none⟩) (hb6 _ lt3)).trans ko6
          have hF7 : FuseAt f c (L ++ [(tn, td)]) false now W6 := hF6.same (by omega) (hb6 f lt5) (hb6 c lt4)
          have hs7 : Sl W6 (X + 1) 2 (.slice a5 (L.length + 1) c5) (L ++ [(tn, td)]).length (ftc (view (L ++ [(tn, td)]) false now)) := by
            rw [view_append, List.length_append]
            have h5 := hx5.now
            have e1 : ftc (view L false now ++ [(max tn 0, td)]) = ftc (view L false now) ++ [.int .i64 (max tn 0), .bool td] := by simp [ftc]
            rw [e1, hW6]
            exact h5.same (by simp [World.setCell]) (fun k hk => Below.heap_setCell _ _ _ _ (by have := (h5.lt k hk).1; simp only; omega))
          have hbb : Below w.heap.size wr W6 := by
            refine b6.trans ⟨?_, ?_, ?_, by omega, fun k hk => hb6 k (by omega)⟩
            · rw [hW6]; exact hx5.grown.os.trans bY.os
            · rw [hW6]; exact hx5.grown.tape.trans bY.tape
            · rw [hW6]; exact hx5.grown.output.trans bY.output
          rw [← hW6]
          have hLL := HLl.out
          exact ⟨⟨⟨i + 1, L ++ [(tn, td)], now, _, by go_num, by omega, by omega, hF7, by simp; omega, hkX, hfX, hs7, by omega, bR.trans hbb⟩, hkO⟩, by simp [RowKit.intOf]; omega⟩
      · have HP := Lib.hid (fun W (h : FuseAt f c L false now W) => arm_full f c L false now tn td W h (by omega))
        go_wp2_with fail
        go_region_held3 (fun W => W.cell? ⟨g, off + i * 6 + 1, none⟩ = some (.int .i64 tn) ∧ W.cell? ⟨g, off + i * 6 + 4, none⟩ = some (.bool td)) (first | exact ⟨r1, r4⟩ | assumption)
          (first
            | (go_at_call 21; refine (HP.out _ (hF.below (Below.refl _ wr).drew)).mono ?_; rintro e y6 ⟨rfl, rfl⟩))
        go_wp2
        exact ⟨⟨⟨i + 1, L, now, v, by go_num, by omega, by omega, hF.below (Below.refl _ wr).drew, by omega, kx, fx, hsl.drew, hBw, bR.drew⟩, ko⟩, by simp [RowKit.intOf]; omega⟩
    · have hLm : (L.length : Int) = min (len0 : Int) 16 := by omega
      have hmin : L.length = min len0 16 := by omega
      obtain ⟨va, vc, rfl⟩ := hsl.slice
      have HLl := Lib.hid hLl
      have HMin := Lib.hid hmin
      clear hLl hmin hza hzf hzl
      by_cases h3 : i < len0
      all_goals
        first
          | (have i20 : i = 20 := by omega
             subst i20)
          | skip
        clear hlt
        go_wp2_with fail
        obtain ⟨x4, hx4⟩ : ∃ x4, x4 = wr.alloc (.cells #[.int .i64 0] 3) := ⟨_, rfl⟩
        have hI4 := heap_alloc_new wr (.cells #[.int .i64 0] 3)
        have b4 : Below wr.heap.size wr x4 := by rw [hx4]; exact (Below.refl _ _).alloc (Nat.le_refl _) _
        have z4 : x4.heap.size = wr.heap.size + 1 := by rw [hx4]; simp
        rw [← hx4] at hI4
        rw [← hx4]
        have kI4 : x4.cell? ⟨wr.heap.size, 0, none⟩ = some (.int .i64 0) := by rw [cell_of_row _ _ 0 _ _ _ hI4]; rfl
        have fI4 : x4.frozen? ⟨wr.heap.size, 0, none⟩ = false := by simp only [World.frozen?, hI4]; rfl
        have kX4 := (b4.cell (p := ⟨X, 0, none⟩) (by simp only; omega)).trans kx
        have fX4 := (b4.frozen (p := ⟨X, 0, none⟩) (by simp only; omega)).trans fx
        have kO4 := (b4.cell (p := ⟨w.heap.size, 0, none⟩) (by simp only; omega)).trans ko
        have hF4 := hF.below b4
        have hs4 := hsl.on b4
        have bE4 : Below w.heap.size w x4 := below_step bR b4
        have hvl := view_length L now
        have hvf := view_fits L now hF.fits
        have hH4 : Holds f c (view L false now) x4 := ⟨L, false, now, hF4, rfl⟩
        have R4 : Playing f c X len1 a1 cap1 w (.pointer (some ⟨wr.heap.size, 0, none⟩)) x4 := by
          refine ⟨0, wr.heap.size, view L false now, _, rfl, by omega, by omega, kI4, fI4, by omega, hH4, by rw [hvl]; exact hF.few, hvf, kX4, fX4, ?_, kO4, by omega, bE4⟩
          rw [hvl]; exact hs4
        have HR4 := Lib.hid R4
        clear hx4 hI4 b4 z4 kI4 fI4 kX4 fX4 kO4 hF4 hs4 bE4 hvl hvf hH4 R4 kx fx ko hsl hF
        go_loopw [8] (fun v8 wr2 => Playing f c X len1 a1 cap1 w v8 wr2) (fun v8 wr2 => 40 - jOf v8 wr2)
        case atStart => exact HR4.out
        case round =>
          obtain ⟨j, I, A, v, rfl, hXI, hIw, kI, fI, hj, hH, hA16, hAf, kX, fX, hs, kO, hXw, bE⟩ := hrel
          have hjO : jOf (.pointer (some ⟨I, 0, none⟩)) wr = j := by simp [jOf, kI]
          by_cases hjl : j < len1 ∧ j < 40
          · obtain ⟨h5, h6⟩ := hjl
            obtain ⟨g1, o1, rfl, hg1, hc1⟩ := hya (by omega)
            have hjz : j < z1.length := by rw [hyl]; exact Nat.lt_min.2 ⟨h5, h6⟩
            obtain ⟨o, ho⟩ : ∃ o, o = z1.getD j false := ⟨_, rfl⟩
            have kg := (bE.cell (p := ⟨g1, o1 + j, none⟩) hg1).trans (hc1 j hjz)
            rw [← ho] at kg
            clear ho hc1 hjz hya hyl
            obtain ⟨W1, hW1⟩ : ∃ W1, W1 = wr.alloc (.cells #[.bool false] 4) := ⟨_, rfl⟩
            have hR1 := heap_alloc_new wr (.cells #[.bool false] 4)
            have b1 : Below wr.heap.size wr W1 := by rw [hW1]; exact (Below.refl _ _).alloc (Nat.le_refl _) _
            have z1' : W1.heap.size = wr.heap.size + 1 := by rw [hW1]; simp
            rw [← hW1] at hR1
            have kR1 : W1.cell? ⟨wr.heap.size, 0, none⟩ = some (.bool false) := by rw [cell_of_row _ _ 0 _ _ _ hR1]; rfl
            have fR1 : W1.frozen? ⟨wr.heap.size, 0, none⟩ = false := by simp only [World.frozen?, hR1]; rfl
            have old1 : ∀ (k q : Nat) u, k < wr.heap.size → wr.cell? ⟨k, q, none⟩ = some u → W1.cell? ⟨k, q, none⟩ = some u := fun k q u hk hu => (b1.cell (p := ⟨k, q, none⟩) hk).trans hu
            have nR : wr.heap.size ≠ f ∧ wr.heap.size ≠ c := by omega
            have nO : w.heap.size ≠ f ∧ w.heap.size ≠ c := by omega
            have nI : I ≠ f ∧ I ≠ c := by omega
            have ng : g1 ≠ f ∧ g1 ≠ c := by omega
            have lO : w.heap.size < wr.heap.size := by omega
            have lg : g1 < wr.heap.size := by omega
            have hH1 : Holds f c A W1 := hH.turn (S := fun _ => False) (Turn.of_below b1) (fun h => h) (fun h => h)
            have HD := Lib.hid (do_fuses f c #[.pointer (some ⟨wr.heap.size, 0, none⟩), .pointer (some ⟨w.heap.size, 0, none⟩), .pointer (some ⟨I, 0, none⟩)] A W1
              (fun W er w' => er = (if o then 15 else 0) ∧ w' = W.setCell ⟨wr.heap.size, 0, none⟩ (.bool true)) hH1 (by
                intro W hA t
                have hown : ∀ k, k ≠ f → k ≠ c → ¬ Own f c k := fun k h1 h2 e => by rcases e with e | e <;> omega
                have kt : ∀ (k q : Nat) u, k < W1.heap.size → k ≠ f → k ≠ c → W1.cell? ⟨k, q, none⟩ = some u → W.cell? ⟨k, q, none⟩ = some u := fun k q u hk h1 h2 hu => (t.cell (p := ⟨k, q, none⟩) hk (hown k h1 h2)).trans hu
                refine (own_any wr.heap.size w.heap.size I g1 o1 len1 cap1 j o false W (kt wr.heap.size _ _ (by omega) nR.1 nR.2 kR1) ((t.frozen (p := ⟨wr.heap.size, 0, none⟩) (by simp only; omega) (hown _ nR.1 nR.2)).trans fR1) (kt w.heap.size _ _ (by omega) nO.1 nO.2 (old1 _ _ _ lO kO)) (kt I _ _ (by omega) nI.1 nI.2 (old1 _ _ _ hIw kI)) (kt g1 _ _ (by omega) ng.1 ng.2 (old1 _ _ _ lg kg)) h5 (by omega) (by omega) (by omega)).mono ?_
                rintro e w' ⟨er, he, h0, hw⟩
                exact ⟨er, he, h0, hw⟩))
            have hj5 : (j : Int) < len1 := by omega
            have hj6 : (j : Int) < 40 := by omega
            have HW1 := Lib.hid hW1
            clear hW1 hR1
            rcases hr : tryL A with ⟨⟨wk, dn⟩, A'⟩
            go_wp2_with fail
            rw [← HW1.out]
            refine HD.out.mono ?_
            rintro e W2 ⟨W, hH2, t, hif⟩
            rw [hr] at hH2 hif
            have key : ∃ EV, e = .returned (.int .i64 EV) ∧ EV = (if dn && o then 15 else if wk then 0 else 8) ∧ W2.cell? ⟨wr.heap.size, 0, none⟩ = some (.bool dn) ∧ W2.heap.size = W.heap.size ∧ (∀ k, k ≠ wr.heap.size → W2.heap[k]? = W.heap[k]?) ∧ W2.os = W.os ∧ W2.tape = W.tape ∧ W2.output = W.output := by
              have kRW : W.cell? ⟨wr.heap.size, 0, none⟩ = some (.bool false) := (t.cell (p := ⟨wr.heap.size, 0, none⟩) (by simp only; omega) (fun e => by rcases e with e | e; exact nR.1 e; exact nR.2 e)).trans kR1
              cases dn
              · obtain ⟨rfl, rfl⟩ := hif
                exact ⟨_, rfl, by simp, kRW, rfl, fun _ _ => rfl, rfl, rfl, rfl⟩
              · obtain ⟨er, ⟨rfl, rfl⟩, rfl⟩ := hif
                refine ⟨_, rfl, ?_, cell_setCell_same _ _ _ _ (by rw [kRW]; rfl), by simp [World.setCell], fun k hk => Below.heap_setCell _ _ _ _ hk, rfl, rfl, rfl⟩
                cases o <;> simp
            obtain ⟨EV, rfl, hEV, kR2, hz2, hb2, hos, htp, hou⟩ := key
            have hzt : W1.heap.size ≤ W.heap.size := t.size
            have bl : ∀ k, k < wr.heap.size → k ≠ f → k ≠ c → W2.heap[k]? = wr.heap[k]? := fun k h1 h2 h3 => by
              rw [hb2 k (by omega), t.block k (by omega) (by rintro (e | e) <;> omega)]
              exact b1.block k h1
            have kX2 := (World.cell?_of_block (a := ⟨X, 0, none⟩) (bl X (by omega) (by omega) (by omega))).trans kX
            have fX2 := (World.frozen?_of_block (a := ⟨X, 0, none⟩) (bl X (by omega) (by omega) (by omega))).trans fX
            have kO2 := (World.cell?_of_block (a := ⟨w.heap.size, 0, none⟩) (bl w.heap.size lO nO.1 nO.2)).trans kO
            have kI2 := (World.cell?_of_block (a := ⟨I, 0, none⟩) (bl I hIw nI.1 nI.2)).trans kI
            have kg2 := (World.cell?_of_block (a := ⟨g1, o1 + j, none⟩) (bl g1 lg ng.1 ng.2)).trans kg
            have hs2 : Sl W2 (X + 1) 2 v A.length (ftc A) := hs.same (by omega) (fun k hk => by have := hs.lt k hk; exact bl k this.2 (by omega) (by omega))
            have hH3 : Holds f c A' W2 := by
              obtain ⟨L5, a5, n5, hF5, hv5⟩ := hH2
              exact ⟨L5, a5, n5, hF5.same (by omega) (hb2 f (by omega)) (hb2 c (by omega)), hv5⟩
            have bE2 : Below w.heap.size w W2 := by
              refine bE.trans ⟨hos.trans (t.os.trans b1.os), htp.trans (t.tape.trans b1.tape), hou.trans (t.output.trans b1.output), by omega, fun k hk => bl k (by omega) (by omega) (by omega)⟩
            have CT := rtry_any (X + 1) v A W2 hs2 (by omega) (by omega) hAf
            rw [hr] at CT
            have HCT := Lib.hid CT
            obtain ⟨va5, vc5, rfl⟩ := hs2.slice
            have hlA : A'.length ≤ 16 := by have := tryL_len A; rw [hr] at this; simp only at this; omega
            have hfA := tryL_fits A hAf
            rw [hr] at hfA
            have HB2 := Lib.hid bl
            have HFA := Lib.hid hfA
            clear CT hif bl hb2 hos htp hou t hH2 kX fX kO kI fI hs kg kR1 fR1 old1 hH1 HD hfA hH hs2
            rcases wk with _ | _ <;> rcases dn with _ | _ <;> rcases o with _ | _
            all_goals
              simp only [Bool.and_true, Bool.and_false, Bool.false_and, Bool.true_and, if_true, if_false, Bool.false_eq_true] at hEV
              subst hEV
              go_wp2_with fail
              refine HCT.out.mono ?_
              rintro e W3 ⟨v', rfl, hs3, b3⟩
              obtain ⟨va6, vc6, rfl⟩ := hs3.slice
              have kX3 := (b3.cell (p := ⟨X, 0, none⟩) (by simp only; omega)).trans kX2
              have fX3 := (b3.frozen (p := ⟨X, 0, none⟩) (by simp only; omega)).trans fX2
              have kO3 := (b3.cell (p := ⟨w.heap.size, 0, none⟩) (by simp only; omega)).trans kO2
              have kI3 := (b3.cell (p := ⟨I, 0, none⟩) (by simp only; omega)).trans kI2
              have kO3' := kO3
              have fX3' := fX3
              have kR3 := (b3.cell (p := ⟨wr.heap.size, 0, none⟩) (by simp only; omega)).trans kR2
              have kg3 := (b3.cell (p := ⟨g1, o1 + j, none⟩) (by simp only; omega)).trans kg2
              have hz3 := b3.size
              obtain ⟨W4, hW4⟩ : ∃ W4, W4 = W3.alloc (.cells #[.slice va6 A'.length vc6] 28) := ⟨_, rfl⟩
              have b4 : Below W3.heap.size W3 W4 := by rw [hW4]; exact (Below.refl _ _).alloc (Nat.le_refl _) _
              have z4 : W4.heap.size = W3.heap.size + 1 := by rw [hW4]; simp
              have kX4 := (b4.cell (p := ⟨X, 0, none⟩) (by simp only; omega)).trans kX3
              have fX4 := (b4.frozen (p := ⟨X, 0, none⟩) (by simp only; omega)).trans fX3
              obtain ⟨W5, hW5⟩ : ∃ W5, W5 = W4.setCell ⟨X, 0, none⟩ (.slice va6 A'.length vc6) := ⟨_, rfl⟩
              have z5 : W5.heap.size = W3.heap.size + 1 := by rw [hW5]; simpa [World.setCell] using z4
              have o5 : ∀ k, k < W3.heap.size → k ≠ X → W5.heap[k]? = W3.heap[k]? := fun k h1 h2 => by rw [hW5, Below.heap_setCell _ _ _ _ h2]; exact b4.block k h1
              have kR5 := (World.cell?_of_block (a := ⟨wr.heap.size, 0, none⟩) (o5 wr.heap.size (by omega) (by omega))).trans kR3
              have kI5 := (World.cell?_of_block (a := ⟨I, 0, none⟩) (o5 I (by omega) (by omega))).trans kI3
              have kO5 := (World.cell?_of_block (a := ⟨w.heap.size, 0, none⟩) (o5 w.heap.size (by omega) (by omega))).trans kO3
              have kg5 := (World.cell?_of_block (a := ⟨g1, o1 + j, none⟩) (o5 g1 (by omega) (by omega))).trans kg3
              obtain ⟨W6, hW6⟩ : ∃ W6, W6 = W5.alloc (.cells #[.int .i64 j] 3) := ⟨_, rfl⟩
              have hI6 := heap_alloc_new W5 (.cells #[.int .i64 j] 3)
              rw [← hW6, z5] at hI6
              have kI6 : W6.cell? ⟨W3.heap.size + 1, 0, none⟩ = some (.int .i64 j) := by rw [cell_of_row _ _ 0 _ _ _ hI6]; rfl
              have fI6 : W6.frozen? ⟨W3.heap.size + 1, 0, none⟩ = false := by simp only [World.frozen?, hI6]; rfl
              have HW4 := Lib.hid hW4; have HW5 := Lib.hid hW5; have HW6 := Lib.hid hW6
              have HO5 := Lib.hid o5
              have HI6 := Lib.hid (And.intro kI6 fI6)
              have HX4 := Lib.hid kX4
              rw [hW4] at kX4 fX4
              rw [hW6, hW5, hW4] at kI6 fI6
              rw [hW5, hW4] at kR5 kI5 kO5 kg5
              clear hW4 hW5 hW6 b4 z4 z5 o5 hI6 kX3 fX3 kO3 kI3 kR3 kg3 kX2 fX2 kO2 kI2 kR2 kg2
              go_wp2_with fail
              rw [← HW4.out, ← HW5.out]
              have z5 : W5.heap.size = W3.heap.size + 1 := by rw [HW5.out, HW4.out]; simp [World.setCell]
              exact playing_next f c X len1 cap1 j I (some ⟨g1, o1, none⟩) A' va6 vc6 w W2 W3 W4 W5 b3 hH3 hs3 HX4.out HW4.out HW5.out kO3' fX3' (by omega) (by omega) (by omega) (by omega) (by omega) hlA HFA.out bE2 _ hjO
          · clear hya hyl
            by_cases h5 : j < len1
            all_goals
              first
                | (have j40 : j = 40 := by omega
                   subst j40)
                | skip
              clear hjl
              obtain ⟨L7, a7, n7, hF7, _⟩ := hH
              have HC := Lib.hid (clear_any f c L7 a7 n7 wr hF7)
              go_wp2_with fail
              refine HC.out.mono ?_
              rintro e W7 ⟨rfl, hF8, t8⟩
              have HT := Lib.hid (try_idle f c (0, false) W7 hF8)
              go_wp2_with fail
              refine HT.out.mono ?_
              rintro e W8 ⟨rfl, _, t9⟩
              go_wp2
              go_ret
              exact ⟨rfl, bE.trans ((t8.trans t9).below (by omega) (fun k hk => by rcases hk with e | e <;> omega))⟩
end Go.Proofs.Ytfjihookoilnnaa
