/- Layer 7's further samples, taken. -/
import Derived.Test.YtajkleknjjpldaaDoorMO6
import Derived.Deep.RegionLaw
namespace Go.Proofs.YtajkleknjjpldaaDoor
open Go.RowKit Go.Lib

theorem wrapI_w (x : Int) : IntKind.i64.wrap x = Xo.wrapI x := IntKind.wrap_i64 x
theorem wrapI_64 (x : Int) : wrap64 x = Xo.wrapI x := by unfold wrap64 Xo.wrapI; rfl
theorem wrapI_bd (x : Int) : -9223372036854775808 ≤ Xo.wrapI x ∧ Xo.wrapI x ≤ 9223372036854775807 := by unfold Xo.wrapI; omega

set_option maxRecDepth 100000 in
theorem takenext_any (C t e n : Nat) (s : List UInt8) (E : Xo.Ey) (T : Xo.Tr) (w : World) (h : Gt C t e s n E T w) (haz : T.a + T.z ≤ 64) (hV : T.V < 18446744073709551616) (hx : (Xo.takeWin s n (T.a, T.z) (Xo.takeCh s n E).2).1 < 18446744073709551616) :
    Calls Tryd.prog 65 #[.pointer (some ⟨t, 0, none⟩), .pointer (some ⟨e, 0, none⟩)] w fun x w' => x = .returned (.agg #[.int .i64 (Xo.takeNext s n T E).1.T, .int .u64 (Xo.takeNext s n T E).1.V]) ∧ Gw C t e s n (Xo.takeNext s n T E).2 (Xo.takeNext s n T E).1 w w' := by
  obtain ⟨tT, tV, ts, ta, tz⟩ := T
  simp only at haz hV hx
  obtain ⟨d, E1, h1⟩ : ∃ b E', Xo.takeCh s n E = (b, E') := ⟨_, _, rfl⟩
  rw [h1] at hx
  obtain ⟨x, ⟨a', z'⟩, E2, h2⟩ : ∃ x p E', Xo.takeWin s n (ta, tz) E1 = (x, p, E') := ⟨_, _, _, rfl⟩
  rw [h2] at hx
  simp only at hx
  obtain ⟨st, hst⟩ : ∃ st, st = Xo.wrapI (ts + d) := ⟨_, rfl⟩
  obtain ⟨T', hT'⟩ : ∃ T', T' = Xo.wrapI (tT + st) := ⟨_, rfl⟩
  have e1 : Xo.takeNext s n ⟨tT, tV, ts, ta, tz⟩ E = (⟨T', tV ^^^ x, st, a', z'⟩, E2) := by
    unfold Xo.takeNext
    rw [h1]; simp only; rw [h2]; simp only; rw [← hst, ← hT']
  rw [e1]
  have P0 := h.grow ((Below.refl _ _).alloc (Nat.le_refl _) (.cells #[.int .i64 0, .int .u64 0] 27))
  have G1 := Lib.hid (fun W (h : Gt C t e s n E ⟨tT, tV, ts, ta, tz⟩ W) => show Calls Tryd.prog 76 #[.pointer (some ⟨e, 0, none⟩)] W (fun x w' => x = .returned (.int .i64 d) ∧ Gw C t e s n E1 ⟨tT, tV, ts, ta, tz⟩ W w') by
    have := takech_any C t e n s E _ W h
    rw [h1] at this
    exact this)
  have G2 := Lib.hid (fun W (h : Gt C t e s n E1 ⟨T', tV, st, ta, tz⟩ W) => show Calls Tryd.prog 77 #[.pointer (some ⟨t, 3, none⟩), .pointer (some ⟨e, 0, none⟩)] W (fun y w' => y = .returned (.int .u64 x) ∧ Gw C t e s n E2 ⟨T', tV, st, a', z'⟩ W w') by
    have := wtake_any C t e n s E1 T' tV st ta tz W h haz
    rw [h2] at this
    exact this)
  have HS := Lib.hid (show IntKind.i64.wrap (ts + d) = st by rw [hst]; exact wrapI_w _)
  have HT := Lib.hid (show wrap64 (tT + st) = T' by rw [hT']; exact wrapI_64 _)
  have HX := Lib.hid (bits_xor_u64_nat tV x hV hx)
  have hsb := wrapI_bd (ts + d)
  have hTb := wrapI_bd (tT + st)
  rw [← hst] at hsb
  rw [← hT'] at hTb
  have hz : w.heap.size < (w.alloc (.cells #[.int .i64 0, .int .u64 0] 27)).heap.size := by simp
  have hnt : w.heap.size ≠ t := by have := h.lt; omega
  have hne : w.heap.size ≠ e := by have := h.eye.lt; omega
  have hC : C ≤ w.heap.size := by have := h.Ct; have := h.lt; omega
  clear e1 h1 h2 hst hT' hx
  obtain ⟨W0, hW0⟩ : ∃ W0, W0 = w.alloc (.cells #[.int .i64 0, .int .u64 0] 27) := ⟨_, rfl⟩
  have hTE : ¬ TE t e w.heap.size := fun hh => by rcases hh with hh | hh <;> omega
  have n0 : W0.cell? ⟨w.heap.size, 0, none⟩ = some (.int .i64 0) := by rw [hW0]; simp [go_sem]
  have n1 : W0.cell? ⟨w.heap.size, 1, none⟩ = some (.int .u64 0) := by rw [hW0]; simp [go_sem]
  have m0 : W0.frozen? ⟨w.heap.size, 0, none⟩ = false := by rw [hW0]; simp [go_sem]
  have m1 : W0.frozen? ⟨w.heap.size, 1, none⟩ = false := by rw [hW0]; simp [go_sem]
  have u0 : Turn (TE t e) w W0 := by rw [hW0]; exact Turn.of_below ((Below.refl _ _).alloc (Nat.le_refl _) _)
  rw [← hW0] at P0 hz
  have HB := Lib.hid (fun W (u : Turn (TE t e) W0 W) => show (W.cell? ⟨w.heap.size, 0, none⟩ = some (.int .i64 0) ∧ W.cell? ⟨w.heap.size, 1, none⟩ = some (.int .u64 0) ∧ W.frozen? ⟨w.heap.size, 0, none⟩ = false ∧ W.frozen? ⟨w.heap.size, 1, none⟩ = false) from
    ⟨(u.cell (p := ⟨w.heap.size, 0, none⟩) hz hTE).trans n0, (u.cell (p := ⟨w.heap.size, 1, none⟩) hz hTE).trans n1, (u.frozen (p := ⟨w.heap.size, 0, none⟩) hz hTE).trans m0, (u.frozen (p := ⟨w.heap.size, 1, none⟩) hz hTE).trans m1⟩)
  have HU0 := Lib.hid u0
  have HW0 := Lib.hid hW0
  clear n0 n1 m0 m1 hTE hz u0
  go_enter Tryd.func65, Tryd.ntmps65
  go_wp2_with fail
  rw [← hW0]
  clear hW0
  have r2 := P0.c2
  have ht := P0.lt
  have H2 := Lib.hid (show 2 < 5 by decide)
  have P0d := Lib.hid (P0.grow (Below.refl _ _).drew)
  go_region_law ((go_simp; go_at_call 76; refine (G1.out W0.drew P0d.out).mono ?_; rintro y w1 ⟨rfl, P1, u1⟩; have f2 := P1.f 2 H2.out; have q2 := P1.c2; have ht1 := P1.lt))
  all_goals
    rw [HS.out]
    have P1' := P1.store 2 (.int .i64 st) ⟨tT, tV, st, ta, tz⟩ (by omega) rfl
    have U1 := Lib.hid ((HU0.out.trans ((Turn.of_below (Below.refl _ _).drew).trans u1)).trans (turn_store (t := t) (e := e) (o := 2) (w := w1) (.int .i64 st)))
    have V1 := Lib.hid (((Turn.of_below (Below.refl W0.heap.size W0).drew).trans u1).trans (turn_store (t := t) (e := e) (o := 2) (w := w1) (.int .i64 st)))
    obtain ⟨W1, hW1⟩ : ∃ W1, W1 = w1.setCell ⟨t, 2, none⟩ (.int .i64 st) := ⟨_, rfl⟩
    rw [← hW1] at P1' U1 V1 ⊢
    clear hW1 u1 f2 q2 ht1 P1 r2 ht P0d P0
    have r0 := P1'.c0
    have r2 := P1'.c2
    have f0 := P1'.f 0 (by omega)
    go_wp2_with fail
    go_region
    rw [HT.out]
    have P2 := (P1'.store 0 (.int .i64 T') ⟨T', tV, st, ta, tz⟩ (by omega) rfl).grow (Below.refl _ _).drew
    have U2 := Lib.hid ((U1.out.trans (turn_store (t := t) (e := e) (o := 0) (w := W1) (.int .i64 T'))).drew)
    have V2 := Lib.hid ((V1.out.trans (turn_store (t := t) (e := e) (o := 0) (w := W1) (.int .i64 T'))).drew)
    obtain ⟨W2, hW2⟩ : ∃ W2, W2 = (W1.setCell ⟨t, 0, none⟩ (.int .i64 T')).drew := ⟨_, rfl⟩
    rw [← hW2] at P2 U2 V2 ⊢
    clear hW2 r0 r2 f0 P1' U1 V1
    have r1 := P2.c1
    have P2d := Lib.hid (P2.grow (Below.refl _ _).drew)
    have H1 := Lib.hid (show 1 < 5 by omega)
    go_wp2_with fail
    go_region_law ((go_simp; go_at_call 77; refine (G2.out W2.drew P2d.out).mono ?_; rintro y w3 ⟨rfl, P3, u3⟩; have f1 := P3.f 1 H1.out; have q1 := P3.c1; have q0 := P3.c0))
  all_goals
    rw [HX.out]
    have P4 := P3.store 1 (.int .u64 (tV ^^^ x : Nat)) ⟨T', tV ^^^ x, st, a', z'⟩ (by omega) rfl
    have U4 := Lib.hid ((U2.out.trans ((Turn.of_below (Below.refl _ _).drew).trans u3)).trans (turn_store (t := t) (e := e) (o := 1) (w := w3) (.int .u64 (tV ^^^ x : Nat))))
    have V4 := V2.out.trans (((Turn.of_below (Below.refl W2.heap.size W2).drew).trans u3).trans (turn_store (t := t) (e := e) (o := 1) (w := w3) (.int .u64 (tV ^^^ x : Nat))))
    obtain ⟨W4, hW4⟩ : ∃ W4, W4 = w3.setCell ⟨t, 1, none⟩ (.int .u64 (tV ^^^ x : Nat)) := ⟨_, rfl⟩
    rw [← hW4] at P4 U4 V4 ⊢
    clear hW4 u3 f1 q1 q0 P3 r1 P2d P2 U2 V2
    obtain ⟨n0, n1, m0, m1⟩ := HB.out _ V4
    clear V4
    have r0 := P4.c0
    have r1 := P4.c1
    go_wp2_with fail
    have P5 := (P4.elsewhere w.heap.size 0 (.int .i64 T') hC hnt hne).elsewhere w.heap.size 1 (.int .u64 (tV ^^^ x : Nat)) hC hnt hne
    have k0 : ((W4.setCell ⟨w.heap.size, 0, none⟩ (.int .i64 T')).setCell ⟨w.heap.size, 1, none⟩ (.int .u64 (tV ^^^ x : Nat))).cell? ⟨w.heap.size, 0, none⟩ = some (.int .i64 T') := by
      rw [cell_setCell_other _ _ _ _ _ (.inr (by simp))]
      exact cell_setCell_same _ _ _ _ (by rw [n0]; rfl)
    have k1 : ((W4.setCell ⟨w.heap.size, 0, none⟩ (.int .i64 T')).setCell ⟨w.heap.size, 1, none⟩ (.int .u64 (tV ^^^ x : Nat))).cell? ⟨w.heap.size, 1, none⟩ = some (.int .u64 (tV ^^^ x : Nat)) :=
      cell_setCell_same _ _ _ _ (by rw [cell_setCell_other _ _ _ _ _ (.inr (by simp)), n1]; rfl)
    refine bodyPost_ret (v := .agg #[.int .i64 T', .int .u64 (tV ^^^ x : Nat)]) (by simp [results, Tryd.results65, go_sem, k0, k1]) rfl ⟨rfl, P5, ?_⟩
    exact (U4.out.setNew _ _ (Nat.le_refl _)).setNew _ _ (Nat.le_refl _)
end Go.Proofs.YtajkleknjjpldaaDoor
