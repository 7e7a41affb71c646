/- Layer 7's windows and samples, taken. -/
import Derived.Test.YtajkleknjjpldaaDoorMO5
namespace Go.Proofs.YtajkleknjjpldaaDoor
open Go.RowKit Go.Lib

theorem Gt.elsewhere {C t e n : Nat} {s : List UInt8} {E : Xo.Ey} {T : Xo.Tr} {w : World} (h : Gt C t e s n E T w) (g o : Nat) (u : Value) (hg : C ≤ g) (ht : g ≠ t) (he : g ≠ e) : Gt C t e s n E T (w.setCell ⟨g, o, none⟩ u) := by
  have hh : ∀ j, (w.setCell ⟨g, o, none⟩ u).cell? ⟨e, j, none⟩ = w.cell? ⟨e, j, none⟩ := fun j => cell_setCell_other _ _ _ _ _ (.inl (Ne.symm he))
  exact ⟨⟨by simpa [World.setCell] using h.eye.lt, (hh 0).trans h.eye.c0, (hh 1).trans h.eye.c1, (hh 2).trans h.eye.c2, (hh 3).trans h.eye.c3, (frozen_setCell _ _ _ _ _).trans h.eye.f1, (frozen_setCell _ _ _ _ _).trans h.eye.f3, h.eye.hp, h.eye.hn, h.eye.hs⟩, h.er,
    h.tab.turn ((Turn.refl (fun k => k = g) w).setCell _ _ rfl) (fun k hk => by omega), h.Ce, h.Ct, h.te, by simpa [World.setCell] using h.lt,
    fun j hj => (cell_setCell_other _ _ _ _ _ (.inl (Ne.symm ht))).trans (h.c j hj), fun j hj => (frozen_setCell _ _ _ _ _).trans (h.f j hj)⟩
theorem gw_keep {C t e n : Nat} {s : List UInt8} {E : Xo.Ey} {T : Xo.Tr} {w w1 w2 : World} (h : Turn (TE t e) w w1) (k : Gw C t e s n E T w1 w2) : Gw C t e s n E T w w2 := ⟨k.1, h.trans k.2⟩
theorem turn_store {t e o : Nat} {w : World} (u : Value) : Turn (TE t e) w (w.setCell ⟨t, o, none⟩ u) := (Turn.refl _ w).setCell _ _ (.inl rfl)
theorem shl_wrap (v b : Nat) : IntKind.u64.wrap ((v : Int) * 2 ^ b) = ((v * 2 ^ b % 18446744073709551616 : Nat) : Int) := by
  rw [IntKind.wrap_u64]
  simp

theorem min_wrap (q1 q2 z : Nat) (h1 : q1 < 64) (h2 : q2 < 64) (hz : z = min (q2 + 1) (64 - q1)) : min (IntKind.i64.wrap (IntKind.i64.wrap (q2 : Int) + 1)) (IntKind.i64.wrap (64 - (q1 : Int))) = (z : Int) := by
  have a : IntKind.i64.wrap (q2 : Int) = q2 := by rw [IntKind.wrap_i64]; omega
  have b : IntKind.i64.wrap ((q2 : Int) + 1) = (q2 : Int) + 1 := by rw [IntKind.wrap_i64]; omega
  have c : IntKind.i64.wrap (64 - (q1 : Int)) = 64 - (q1 : Int) := by rw [IntKind.wrap_i64]; omega
  rw [a, b, c]
  omega

set_option maxRecDepth 100000 in
theorem wtake_any (C t e n : Nat) (s : List UInt8) (E : Xo.Ey) (tT : Int) (tV : Nat) (ts : Int) (ta tz : Nat) (w : World) (h : Gt C t e s n E ⟨tT, tV, ts, ta, tz⟩ w) (haz : ta + tz ≤ 64) :
    Calls Tryd.prog 77 #[.pointer (some ⟨t, 3, none⟩), .pointer (some ⟨e, 0, none⟩)] w fun x w' => x = .returned (.int .u64 (Xo.takeWin s n (ta, tz) E).1) ∧ Gw C t e s n (Xo.takeWin s n (ta, tz) E).2.2 ⟨tT, tV, ts, (Xo.takeWin s n (ta, tz) E).2.1.1, (Xo.takeWin s n (ta, tz) E).2.1.2⟩ w w' := by
  obtain ⟨b1, E1, h1⟩ : ∃ b E', Xo.eBit s n E = (b, E') := ⟨_, _, rfl⟩
  have G1 := Lib.hid (gbit h b1 E1 h1)
  cases b1
  · have e1 : Xo.takeWin s n (ta, tz) E = (0, (ta, tz), E1) := by unfold Xo.takeWin; rw [h1]; simp
    rw [e1]
    clear e1 h1
    go_enter Tryd.func77, Tryd.ntmps77
    go_wp2_with (go_at_call 83; refine G1.out.mono ?_; rintro y w1 ⟨rfl, P1, u1⟩)
    go_ret
    exact ⟨rfl, P1, u1⟩
  · obtain ⟨b2, E2, h2⟩ : ∃ b E', Xo.eBit s n E1 = (b, E') := ⟨_, _, rfl⟩
    have G2 := Lib.hid (fun W (h : Gt C t e s n E1 ⟨tT, tV, ts, ta, tz⟩ W) => gbit h b2 E2 h2)
    cases b2
    · obtain ⟨x, E3, h3⟩ : ∃ b E', Xo.eBits s n tz E2 = (b, E') := ⟨_, _, rfl⟩
      have G3 := Lib.hid (fun W (h : Gt C t e s n E2 ⟨tT, tV, ts, ta, tz⟩ W) => gbits h tz tz rfl (by omega) x E3 h3)
      have e1 : Xo.takeWin s n (ta, tz) E = (x * 2 ^ (64 - ta - tz) % 18446744073709551616, (ta, tz), E3) := by unfold Xo.takeWin; rw [h1]; simp only; rw [h2]; simp only; rw [h3]; simp
      rw [e1]
      clear e1 h1 h2 h3
      obtain ⟨p, hp⟩ : ∃ p : Nat, p = 64 - ta - tz := ⟨_, rfl⟩
      have BH := Lib.hid (fun W => show Calls Tryd.prog 62 #[.agg #[.int .i64 ta, .int .i64 tz]] W (fun e w' => e = .returned (.int .i64 p) ∧ w' = W.alloc (.cells #[.int .i64 ta, .int .i64 tz] 70)) by rw [hp]; exact behind_any ta tz W haz)
      rw [← hp]
      have hp64 : p ≤ 64 := by omega
      have SH := Lib.hid (shl_wrap x p)
      clear hp
      go_enter Tryd.func77, Tryd.ntmps77
      go_wp2_with (go_at_call 83; first
        | ((with_reducible refine G1.out.mono ?_); rintro y w1 ⟨rfl, P1, u1⟩)
        | ((with_reducible refine (G2.out _ P1).mono ?_); rintro y w2 ⟨rfl, P2, u2⟩))
      have r3 := P2.c3
      have r4 := P2.c4
      have ht := P2.lt
      have K : ∀ W, Below w2.heap.size w2 W → W.cell? ⟨t, 3, none⟩ = some (.int .i64 ta) ∧ W.cell? ⟨t, 4, none⟩ = some (.int .i64 tz) := fun W b => ⟨(b.cell (p := ⟨t, 3, none⟩) ht).trans r3, (b.cell (p := ⟨t, 4, none⟩) ht).trans r4⟩
      go_region_held3 (fun W => W.cell? ⟨t, 3, none⟩ = some (.int .i64 ta) ∧ W.cell? ⟨t, 4, none⟩ = some (.int .i64 tz))
        (first | exact K _ (Below.refl _ _) | exact K _ (Below.refl _ _).drew | exact K _ ((Below.refl _ _).alloc (Nat.le_refl _) _) | exact K _ ((Below.refl _ _).alloc (Nat.le_refl _) _).drew | exact ⟨(P3.grow ((Below.refl _ _).alloc (Nat.le_refl _) _)).c3, (P3.grow ((Below.refl _ _).alloc (Nat.le_refl _) _)).c4⟩ | exact ⟨P3.c3, P3.c4⟩ | assumption)
        ((first
          | (go_at_call 62; refine (BH.out _).mono ?_; rintro y w5 ⟨rfl, rfl⟩)
          | (go_at_call 75; refine (G3.out _ (P2.grow (by first | exact (Below.refl _ _).drew | exact (Below.refl _ _).drew.alloc (Nat.le_refl _) _ | exact (Below.refl _ _)))).mono ?_; rintro y w6 ⟨rfl, P3, u3⟩)))
      go_wp2_with fail
      go_ret
      refine ⟨by rw [← SH.out]; rfl, P3.grow ((Below.refl _ _).alloc (Nat.le_refl _) _), ?_⟩
      have u23 : Turn (TE t e) w2 w6 := by first | exact (Turn.of_below (Below.refl _ _).drew).trans u3 | exact u3
      exact (((u1.trans u2).trans u23)).alloc _
    · obtain ⟨q1, E3, h3⟩ : ∃ b E', Xo.eBits s n 6 E2 = (b, E') := ⟨_, _, rfl⟩
      obtain ⟨q2, E4, h4⟩ : ∃ b E', Xo.eBits s n 6 E3 = (b, E') := ⟨_, _, rfl⟩
      have hq1 := Xo.eBits_lt s n 6 E2
      have hq2 := Xo.eBits_lt s n 6 E3
      rw [h3] at hq1
      rw [h4] at hq2
      simp only at hq1 hq2
      obtain ⟨z, hz⟩ : ∃ z, z = min (q2 + 1) (64 - q1) := ⟨_, rfl⟩
      obtain ⟨x, E5, h5⟩ : ∃ b E', Xo.eBits s n z E4 = (b, E') := ⟨_, _, rfl⟩
      have e1 : Xo.takeWin s n (ta, tz) E = (x * 2 ^ (64 - q1 - z) % 18446744073709551616, (q1, z), E5) := by unfold Xo.takeWin; rw [h1]; simp only; rw [h2]; simp only; rw [h3]; simp only; rw [h4]; simp only; rw [← hz, h5]; simp
      rw [e1]
      have G3 := Lib.hid (fun W (h : Gt C t e s n E2 ⟨tT, tV, ts, ta, tz⟩ W) => gbits h 6 6 rfl (by omega) q1 E3 h3)
      have G4 := Lib.hid (fun W (h : Gt C t e s n E3 ⟨tT, tV, ts, q1, tz⟩ W) => gbits h 6 6 rfl (by omega) q2 E4 h4)
      have G5 := Lib.hid (fun W (h : Gt C t e s n E4 ⟨tT, tV, ts, q1, z⟩ W) => gbits h z z rfl (by omega) x E5 h5)
      clear e1 h1 h2 h3 h4 h5
      obtain ⟨p, hp⟩ : ∃ p : Nat, p = 64 - q1 - z := ⟨_, rfl⟩
      have BH := Lib.hid (fun W => show Calls Tryd.prog 62 #[.agg #[.int .i64 q1, .int .i64 z]] W (fun e w' => e = .returned (.int .i64 p) ∧ w' = W.alloc (.cells #[.int .i64 q1, .int .i64 z] 70)) by rw [hp]; exact behind_any q1 z W (by omega))
      rw [← hp]
      have hp64 : p ≤ 64 := by omega
      have SH := Lib.hid (shl_wrap x p)
      have HZ := Lib.hid (min_wrap q1 q2 z (by omega) (by omega) hz)
      have hz64 : z ≤ 64 := by omega
      have h03 := Lib.hid (show 3 < 5 by decide)
      have h04 := Lib.hid (show 4 < 5 by decide)
      have hq1' : (q1 : Int) < 64 := by omega
      have hq2' : (q2 : Int) < 64 := by omega
      clear hp hz hq1 hq2
      go_enter Tryd.func77, Tryd.ntmps77
      go_wp2_with (first
        | (go_at_call 83; first
          | ((with_reducible refine G1.out.mono ?_); rintro y w1 ⟨rfl, P1, u1⟩)
          | ((with_reducible refine (G2.out _ P1).mono ?_); rintro y w2 ⟨rfl, P2, u2⟩))
        | (go_at_call 75; refine (G3.out _ P2).mono ?_; rintro y w3 ⟨rfl, P3, u3⟩; have r3 := P3.c3; have f3 := P3.f 3 h03.out; have ht := P3.lt))
      have P3' := P3.store 3 (.int .i64 q1) ⟨tT, tV, ts, q1, tz⟩ (by omega) rfl
      have U3 := Lib.hid (((u1.trans u2).trans u3).trans (turn_store (t := t) (e := e) (o := 3) (w := w3) (.int .i64 q1)))
      obtain ⟨W3, hW3⟩ : ∃ W3, W3 = w3.setCell ⟨t, 3, none⟩ (.int .i64 q1) := ⟨_, rfl⟩
      rw [← hW3] at P3' U3 ⊢
      clear hW3 u1 u2 u3 r3 f3 P3 P1 P2
      have r3 := P3'.c3
      have ht := P3'.lt
      have K : ∀ W, Below W3.heap.size W3 W → W.cell? ⟨t, 3, none⟩ = some (.int .i64 q1) := fun W b => (b.cell (p := ⟨t, 3, none⟩) ht).trans r3
      go_region_held3 (fun W => W.cell? ⟨t, 3, none⟩ = some (.int .i64 q1))
        (first | exact K _ (Below.refl _ _) | exact K _ (Below.refl _ _).drew | exact P4.c3 | exact (cell_setCell_other _ _ _ _ _ (.inr (by simp))).trans P4.c3 | assumption)
        ((go_at_call 75; refine (G4.out _ (P3'.grow (by first | exact (Below.refl _ _).drew | exact (Below.refl _ _)))).mono ?_; rintro y w4 ⟨rfl, P4, u4⟩; have f4 := P4.f 4 h04.out; have r4 := P4.c4; have ht4 := P4.lt))
      rw [HZ.out]
      have P4' := P4.store 4 (.int .i64 z) ⟨tT, tV, ts, q1, z⟩ (by omega) rfl
      have u34 : Turn (TE t e) W3 w4 := by first | exact (Turn.of_below (Below.refl _ _).drew).trans u4 | exact u4
      have U4 := Lib.hid ((U3.out.trans u34).trans (turn_store (t := t) (e := e) (o := 4) (w := w4) (.int .i64 z)))
      obtain ⟨W4, hW4⟩ : ∃ W4, W4 = w4.setCell ⟨t, 4, none⟩ (.int .i64 z) := ⟨_, rfl⟩
      rw [← hW4] at P4' U4 ⊢
      clear hW4 u4 u34 U3 f4 r4 ht4 P4 K ht r3 P3' HZ
      have r3 := P4'.c3
      have r4 := P4'.c4
      have ht := P4'.lt
      have K : ∀ W, Below W4.heap.size W4 W → W.cell? ⟨t, 3, none⟩ = some (.int .i64 q1) ∧ W.cell? ⟨t, 4, none⟩ = some (.int .i64 z) := fun W b => ⟨(b.cell (p := ⟨t, 3, none⟩) ht).trans r3, (b.cell (p := ⟨t, 4, none⟩) ht).trans r4⟩
      go_wp2_with fail
      go_region_held3 (fun W => W.cell? ⟨t, 3, none⟩ = some (.int .i64 q1) ∧ W.cell? ⟨t, 4, none⟩ = some (.int .i64 z))
        (first | exact K _ (Below.refl _ _) | exact K _ (Below.refl _ _).drew | exact K _ ((Below.refl _ _).alloc (Nat.le_refl _) _) | exact K _ ((Below.refl _ _).alloc (Nat.le_refl _) _).drew | exact ⟨(P5.grow ((Below.refl _ _).alloc (Nat.le_refl _) _)).c3, (P5.grow ((Below.refl _ _).alloc (Nat.le_refl _) _)).c4⟩ | exact ⟨P5.c3, P5.c4⟩ | assumption)
        ((first
          | (go_at_call 62; refine (BH.out _).mono ?_; rintro y w5 ⟨rfl, rfl⟩)
          | (go_at_call 75; refine (G5.out _ (P4'.grow (by first | exact (Below.refl _ _).drew | exact (Below.refl _ _).drew.alloc (Nat.le_refl _) _ | exact (Below.refl _ _)))).mono ?_; rintro y w6 ⟨rfl, P5, u5⟩)))
      go_wp2_with fail
      go_ret
      refine ⟨by rw [← SH.out]; rfl, P5.grow ((Below.refl _ _).alloc (Nat.le_refl _) _), ?_⟩
      have u45 : Turn (TE t e) W4 w6 := by first | exact (Turn.of_below (Below.refl _ _).drew).trans u5 | exact u5
      exact (U4.out.trans u45).alloc _

set_option maxRecDepth 100000 in
theorem takefirst_any (C t e n : Nat) (s : List UInt8) (E : Xo.Ey) (T : Xo.Tr) (w : World) (h : Gt C t e s n E T w) :
    Calls Tryd.prog 64 #[.pointer (some ⟨t, 0, none⟩), .pointer (some ⟨e, 0, none⟩)] w fun x w' => x = .returned (.agg #[.int .i64 (Xo.takeFirst s n E).1.T, .int .u64 (Xo.takeFirst s n E).1.V]) ∧ Gw C t e s n (Xo.takeFirst s n E).2 ⟨(Xo.takeFirst s n E).1.T, (Xo.takeFirst s n E).1.V, T.st, T.a, T.z⟩ w w' := by
  obtain ⟨tT, tV, ts, ta, tz⟩ := T
  obtain ⟨x, E1, h1⟩ : ∃ b E', Xo.eBits s n 41 E = (b, E') := ⟨_, _, rfl⟩
  obtain ⟨y, E2, h2⟩ : ∃ b E', Xo.eBits s n 64 E1 = (b, E') := ⟨_, _, rfl⟩
  have e1 : Xo.takeFirst s n E = (⟨x, y, 0, 0, 0⟩, E2) := by unfold Xo.takeFirst; rw [h1]; simp only; rw [h2]
  rw [e1]
  have hx := Xo.eBits_lt s n 41 E
  rw [h1] at hx
  simp only at hx
  have hx' : (x : Int) < 2199023255552 := by omega
  have P0 := h.grow ((Below.refl _ _).alloc (Nat.le_refl _) (.cells #[.int .i64 0, .int .u64 0] 27))
  have G1 := Lib.hid (gbits P0 41 41 rfl (by omega) x E1 h1)
  have G2 := Lib.hid (fun W (h : Gt C t e s n E1 ⟨(x : Int), tV, ts, ta, tz⟩ W) => gbits h 64 64 rfl (by omega) y E2 h2)
  have hz : w.heap.size < (w.alloc (.cells #[.int .i64 0, .int .u64 0] 27)).heap.size := by simp
  have hnt : w.heap.size ≠ t := by have := h.lt; omega
  have hne : w.heap.size ≠ e := by have := h.eye.lt; omega
  clear e1 h1 h2 hx
  have hC : C ≤ w.heap.size := by have := h.Ct; have := h.lt; omega
  have h00 := Lib.hid (show 0 < 5 by decide)
  have h01 := Lib.hid (show 1 < 5 by decide)
  go_enter Tryd.func64, Tryd.ntmps64
  go_wp2_with fail
  refine G1.out.mono ?_
  rintro y' w1 ⟨rfl, P1, u1⟩
  have f0 := P1.f 0 h00.out
  have c0 := P1.c0
  go_wp2_with fail
  have P1' := P1.store 0 (.int .i64 x) ⟨x, tV, ts, ta, tz⟩ (by omega) rfl
  have U1 := Lib.hid (u1.trans (turn_store (t := t) (e := e) (o := 0) (w := w1) (.int .i64 x)))
  obtain ⟨W1, hW1⟩ : ∃ W1, W1 = w1.setCell ⟨t, 0, none⟩ (.int .i64 x) := ⟨_, rfl⟩
  rw [← hW1] at P1' U1 ⊢
  clear hW1 f0 c0 P1 u1
  have hTE : ¬ TE t e w.heap.size := fun hh => by rcases hh with hh | hh <;> omega
  have n0 : (w.alloc (.cells #[.int .i64 0, .int .u64 0] 27)).cell? ⟨w.heap.size, 0, none⟩ = some (.int .i64 0) := by simp [go_sem]
  have n1 : (w.alloc (.cells #[.int .i64 0, .int .u64 0] 27)).cell? ⟨w.heap.size, 1, none⟩ = some (.int .u64 0) := by simp [go_sem]
  have m0 : (w.alloc (.cells #[.int .i64 0, .int .u64 0] 27)).frozen? ⟨w.heap.size, 0, none⟩ = false := by simp [go_sem]
  have m1 : (w.alloc (.cells #[.int .i64 0, .int .u64 0] 27)).frozen? ⟨w.heap.size, 1, none⟩ = false := by simp [go_sem]
  have HB := Lib.hid (fun W (u : Turn (TE t e) (w.alloc (.cells #[.int .i64 0, .int .u64 0] 27)) W) => show (W.cell? ⟨w.heap.size, 0, none⟩ = some (.int .i64 0) ∧ W.cell? ⟨w.heap.size, 1, none⟩ = some (.int .u64 0) ∧ W.frozen? ⟨w.heap.size, 0, none⟩ = false ∧ W.frozen? ⟨w.heap.size, 1, none⟩ = false) from
    ⟨(u.cell (p := ⟨w.heap.size, 0, none⟩) hz hTE).trans n0, (u.cell (p := ⟨w.heap.size, 1, none⟩) hz hTE).trans n1, (u.frozen (p := ⟨w.heap.size, 0, none⟩) hz hTE).trans m0, (u.frozen (p := ⟨w.heap.size, 1, none⟩) hz hTE).trans m1⟩)
  clear n0 n1 m0 m1 hTE hz G1
  refine (G2.out _ P1').mono ?_
  rintro y' w2 ⟨rfl, P2, u2⟩
  obtain ⟨n0, n1, m0, m1⟩ := HB.out _ (U1.out.trans u2)
  have f1 := P2.f 1 h01.out
  have c0 := P2.c0
  have c1 := P2.c1
  have U2 := Lib.hid (U1.out.trans u2)
  clear u2 U1 G2 HB
  go_wp2_with fail
  have P3 := ((P2.store 1 (.int .u64 y) ⟨x, y, ts, ta, tz⟩ (by omega) rfl).elsewhere w.heap.size 0 (.int .i64 x) hC hnt hne).elsewhere w.heap.size 1 (.int .u64 y) hC hnt hne
  have k0 : (((w2.setCell ⟨t, 1, none⟩ (.int .u64 y)).setCell ⟨w.heap.size, 0, none⟩ (.int .i64 x)).setCell ⟨w.heap.size, 1, none⟩ (.int .u64 y)).cell? ⟨w.heap.size, 0, none⟩ = some (.int .i64 x) := by
    rw [cell_setCell_other _ _ _ _ _ (.inr (by simp))]
    exact cell_setCell_same _ _ _ _ (by rw [cell_setCell_other _ _ _ _ _ (.inl (by exact hnt)), n0]; rfl)
  have k1 : (((w2.setCell ⟨t, 1, none⟩ (.int .u64 y)).setCell ⟨w.heap.size, 0, none⟩ (.int .i64 x)).setCell ⟨w.heap.size, 1, none⟩ (.int .u64 y)).cell? ⟨w.heap.size, 1, none⟩ = some (.int .u64 y) :=
    cell_setCell_same _ _ _ _ (by rw [cell_setCell_other _ _ _ _ _ (.inr (by simp)), cell_setCell_other _ _ _ _ _ (.inl (by exact hnt)), n1]; rfl)
  have u0 : Turn (TE t e) w w2 := (Turn.of_below ((Below.refl _ _).alloc (Nat.le_refl _) _)).trans U2.out
  refine bodyPost_ret (v := .agg #[.int .i64 x, .int .u64 y]) (by simp [results, Tryd.results64, go_sem, k0, k1]) rfl ⟨rfl, P3, ?_⟩
  exact ((u0.trans (turn_store _)).setNew _ _ (Nat.le_refl _)).setNew _ _ (Nat.le_refl _)
end Go.Proofs.YtajkleknjjpldaaDoor
