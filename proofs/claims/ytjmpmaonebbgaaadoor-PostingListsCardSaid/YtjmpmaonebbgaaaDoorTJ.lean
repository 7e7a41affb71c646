/- Layer 12: the statement PostingLaws, walked. -/
import Derived.Test.YtjmpmaonebbgaaaDoorTI
namespace Go.Proofs.YtjmpmaonebbgaaaDoor
open Go.RowKit Go.Lib

theorem nls_three (w : World) (v0 v1 v2 : Value) (z0 z1 z2 : List Int) (h0 : Ncw w v0 z0) (h1 : Ncw w v1 z1) (h2 : Ncw w v2 z2) : Nls (w.alloc (.cells #[v0, v1, v2] 23)) (.slice (some ⟨w.heap.size, 0, none⟩) 3 3) [z0, z1, z2] := by
  have l3 := Sl.lit w 0 1 3 #[v0, v1, v2] 23 (Nat.zero_le _) (by decide) rfl
  have hb : Below w.heap.size w (w.alloc (.cells #[v0, v1, v2] 23)) := (Below.refl _ _).alloc (Nat.le_refl _) _
  refine ⟨_, 3, w.heap.size, 0, rfl, fun _ => ⟨rfl, by simp⟩, fun j l hl => ?_⟩
  match j, hl with
  | 0, hl => cases hl; exact ⟨_, l3.cells 0 _ rfl, h0.on hb⟩
  | 1, hl => cases hl; exact ⟨_, l3.cells 1 _ rfl, h1.on hb⟩
  | 2, hl => cases hl; exact ⟨_, l3.cells 2 _ rfl, h2.on hb⟩
theorem three_of {xs : List Value} (h : xs.length = 3) : ∃ x y z, xs = [x, y, z] := by
  match xs, h with
  | [x, y, z], _ => exact ⟨x, y, z, rfl⟩
theorem lsr_at {w wr : World} {ls : List (List Int)} {p4 p5 : Value} {i : Nat} {xs : List Value} (R : LsR w wr ls p4 p5 i xs) (j : Nat) (x : Value) (l : List Int) (hx : xs[j]? = some x) (hl : ls[j]? = some l) :
    ∃ a c, x = .slice a (oneQ l).length c ∧ Nc wr (.slice a (oneQ l).length c) (oneQ l) := by
  obtain ⟨l', hl', hs, _⟩ := R.all j x hx
  rw [hl] at hl'
  obtain rfl := Option.some.inj hl'
  obtain ⟨a, c, rfl⟩ := hs.slice
  exact ⟨a, c, rfl, Nc.of_sl hs (by have := oneQ_len l; omega)⟩

set_option maxHeartbeats 4000000 in
set_option maxRecDepth 100000 in
theorem plaws_any (v0 v1 v2 : Value) (z0 z1 z2 : List Int) (w : World) (h0 : Ncw w v0 z0) (h1 : Ncw w v1 z1) (h2 : Ncw w v2 z2) :
    Calls Tryd.prog 4 #[v0, v1, v2] w fun e w' => e = .returned (.bool true) ∧ Below w.heap.size w w' := by
  have L := Lib.hid (lists_any _ [z0, z1, z2] _ (nls_three w v0 v1 v2 z0 z1 z2 h0 h1 h2))
  have hsz : (w.alloc (.cells #[v0, v1, v2] 23)).heap.size = w.heap.size + 1 := by simp
  have B0 : Below w.heap.size w (w.alloc (.cells #[v0, v1, v2] 23)) := (Below.refl _ _).alloc (Nat.le_refl _) _
  have HB0 := Lib.hid B0
  obtain ⟨a0, k0, g0, o0, rfl, _⟩ := h0
  obtain ⟨a1, k1, g1, o1, rfl, _⟩ := h1
  obtain ⟨a2, k2, g2, o2, rfl, _⟩ := h2
  clear B0 hsz
  go_enter Tryd.func4, Tryd.ntmps4
  go_wp2_with fail
  refine L.out.mono ?_
  rintro e w1 ⟨p4, p5, xs, rfl, R⟩
  have hxl : xs.length = 3 := by have := R.s4.1; simpa using this
  obtain ⟨X0, X1, X2, rfl⟩ := three_of hxl
  obtain ⟨b0, c0, rfl, N0⟩ := lsr_at R 0 X0 z0 rfl rfl
  obtain ⟨b1, c1, rfl, N1⟩ := lsr_at R 1 X1 z1 rfl rfl
  obtain ⟨b2, c2, rfl, N2⟩ := lsr_at R 2 X2 z2 rfl rfl
  have hs4 : Sl w1 (w.alloc (.cells #[.slice a0 z0.length k0, .slice a1 z1.length k1, .slice a2 z2.length k2] 23)).heap.size 1 p4 3 [.slice b0 (oneQ z0).length c0, .slice b1 (oneQ z1).length c1, .slice b2 (oneQ z2).length c2] := R.s4
  obtain ⟨gp, op, kp, rfl, _, hkp, _⟩ := hs4.somewhere (by decide)
  obtain ⟨q5, k5, e5⟩ := R.s5.slice
  have e5 : p5 = .slice q5 3 k5 := e5
  subst e5
  have y0 : w1.cell? ⟨gp, op, none⟩ = some (.slice b0 (oneQ z0).length c0) := by have := hs4.cells 0 _ rfl; rwa [Addr.add_lit] at this
  have y1 : w1.cell? ⟨gp, op + 1, none⟩ = some (.slice b1 (oneQ z1).length c1) := by have := hs4.cells 1 _ rfl; rwa [Addr.add_lit] at this
  have y2 : w1.cell? ⟨gp, op + 2, none⟩ = some (.slice b2 (oneQ z2).length c2) := by have := hs4.cells 2 _ rfl; rwa [Addr.add_lit] at this
  have BW1 := Lib.hid (HB0.out.trans (R.below.mono HB0.out.size))
  have U0 := anyZ_up [z0.take 20]; have U1 := anyZ_up [z1.take 20]; have U2 := anyZ_up [z2.take 20]
  have l0 := oneQ_len z0; have l1 := oneQ_len z1; have l2 := oneQ_len z2
  obtain ⟨Q0, hQ0⟩ : ∃ Q, Q = oneQ z0 := ⟨_, rfl⟩
  obtain ⟨Q1, hQ1⟩ : ∃ Q, Q = oneQ z1 := ⟨_, rfl⟩
  obtain ⟨Q2, hQ2⟩ : ∃ Q, Q = oneQ z2 := ⟨_, rfl⟩
  change Up (oneQ z0) at U0
  change Up (oneQ z1) at U1
  change Up (oneQ z2) at U2
  rw [← hQ0] at N0 y0 U0 l0
  rw [← hQ1] at N1 y1 U1 l1
  rw [← hQ2] at N2 y2 U2 l2
  have M0 := Lib.hid N0; have M1 := Lib.hid N1; have M2 := Lib.hid N2
  have HU0 := Lib.hid U0; have HU1 := Lib.hid U1; have HU2 := Lib.hid U2
  have HL := Lib.hid (show Q0.length ≤ 20 ∧ Q1.length ≤ 20 ∧ Q2.length ≤ 20 from ⟨l0, l1, l2⟩)
  obtain ⟨RB, hRB⟩ : ∃ R, bothP [Q0, Q1] = R := ⟨_, rfl⟩
  obtain ⟨RL, hRL⟩ : ∃ R, pickZ Q0 Q1 false = R := ⟨_, rfl⟩
  obtain ⟨RT, hRT⟩ : ∃ R, bothP [Q0, Q1, Q2] = R := ⟨_, rfl⟩
  obtain ⟨RA, hRA⟩ : ∃ R, anyZ [Q0, Q1, Q2] = R := ⟨_, rfl⟩
  obtain ⟨RY, hRY⟩ : ∃ R, anyZ [Q1, Q2] = R := ⟨_, rfl⟩
  obtain ⟨RN, hRN⟩ : ∃ R, pickZ Q1 Q0 false = R := ⟨_, rfl⟩
  have hW : anyZ [RB, RL] = Q0 := by rw [← hRB, ← hRL]; exact whole_is Q0 Q1 U0 U1
  have hT2 : bothP [Q2, Q0, Q1] = RT := by rw [← both_turn Q0 Q1 Q2 U0 U1 U2]; exact hRT
  have hA2 : anyZ [RY, Q0] = RA := by rw [← hRY, ← any_turn]; exact hRA
  have hN2 : bothP [Q0, RN] = [] := by rw [← hRN]; exact both_none Q0 Q1 U0 U1
  have e1 : RB.length ≤ 20 := by rw [← hRB]; exact Nat.le_trans (bothP_len _ _) l0
  have e2 : RL.length ≤ 20 := by rw [← hRL]; exact Nat.le_trans (pickZ_len _ _ _) l0
  have e3 : RY.length ≤ 40 := by rw [← hRY]; have := anyZ_len [Q1, Q2]; simp at this; omega
  have uN : Up RN := by rw [← hRN]; exact pickZ_up Q0 false U1
  -- the calls
  have C1 := Lib.hid (fun W u v (h : Nc W u Q0) (k : Nc W v Q1) => both2 W u v Q0 Q1 RB h k U0 U1 hRB)
  have C2 := Lib.hid (fun W u v (h : Nc W u Q0) (k : Nc W v Q1) => less2 W u v Q0 Q1 RL h k U0 U1 hRL)
  have C3 := Lib.hid (fun W u v (h : Nc W u RB) (k : Nc W v RL) => any2 W u v RB RL Q0 h k (by omega) hW)
  have C4 := Lib.hid (fun W u v s (h : Nc W u Q0) (k : Nc W v Q1) (m : Nc W s Q2) => both3 W u v s Q0 Q1 Q2 RT h k m U0 U1 U2 hRT)
  have C5 := Lib.hid (fun W u v s (h : Nc W u Q2) (k : Nc W v Q0) (m : Nc W s Q1) => both3 W u v s Q2 Q0 Q1 RT h k m U2 U0 U1 hT2)
  have C6 := Lib.hid (fun W u v s (h : Nc W u Q0) (k : Nc W v Q1) (m : Nc W s Q2) => any3 W u v s Q0 Q1 Q2 RA h k m (by omega) hRA)
  have C7 := Lib.hid (fun W u v (h : Nc W u Q1) (k : Nc W v Q2) => any2 W u v Q1 Q2 RY h k (by omega) hRY)
  have C8 := Lib.hid (fun W u v (h : Nc W u RY) (k : Nc W v Q0) => any2 W u v RY Q0 RA h k (by omega) hA2)
  have C9 := Lib.hid (fun W u v (h : Nc W u Q1) (k : Nc W v Q0) => less2 W u v Q1 Q0 RN h k U1 U0 hRN)
  have CA := Lib.hid (fun W u v (h : Nc W u Q0) (k : Nc W v RN) => both2 W u v Q0 RN [] h k U0 uN hN2)
  clear hRB hRL hRT hRA hRY hRN hW hT2 hA2 hN2 e1 e2 e3 uN U0 U1 U2 l0 l1 l2 N0 N1 N2 hs4 R hxl hQ0 hQ1 hQ2 L HU0 HU1 HU2
  go_wp2
  go_quiet (fail)
  generalize hw2 : w1.drewN _ = w2
  have b12 : Below w1.heap.size w1 w2 := by rw [← hw2]; exact below_draw (Below.refl _ _) _
  have BW2 := Lib.hid (BW1.out.trans (b12.mono BW1.out.size))
  have m0 := M0.out.on b12; have m1 := M1.out.on b12; have m2 := M2.out.on b12
  clear M0 M1 M2 BW1 y0 y1 y2 hw2 b12
  have K1 := Lib.hid (C1.out w2 _ _ m0 m1)
  go_wp2_with fail
  refine K1.out.mono ?_
  rintro e w3 ⟨a3, c3, rfl, n3, b3⟩
  have m0 := m0.on b3; have m1 := m1.on b3; have m2 := m2.on b3
  have BW3 := Lib.hid (BW2.out.trans (b3.mono BW2.out.size))
  have K2 := Lib.hid (C2.out w3 _ _ m0 m1)
  clear b3 K1
  go_wp2_with fail
  refine K2.out.mono ?_
  rintro e w4 ⟨a4, c4, rfl, n4, b4⟩
  have m0 := m0.on b4; have m1 := m1.on b4; have m2 := m2.on b4; have n3 := n3.on b4
  have BW4 := Lib.hid (BW3.out.trans (b4.mono BW3.out.size))
  have K3 := Lib.hid (C3.out w4 _ _ n3 n4)
  clear b4 K2
  go_wp2_with fail
  refine K3.out.mono ?_
  rintro e w5 ⟨a5, c5, rfl, n5, b5⟩
  have m0 := m0.on b5; have m1 := m1.on b5; have m2 := m2.on b5
  have BW5 := Lib.hid (BW4.out.trans (b5.mono BW4.out.size))
  clear b5 K3 n3 n4
  go_wp2_with fail
  refine (pawake_any _).mono ?_
  rintro e w6 ⟨rfl, b6⟩
  have m0 := m0.on b6; have m1 := m1.on b6; have m2 := m2.on b6; have n5 := n5.on b6
  have BW6 := Lib.hid (BW5.out.trans (b6.mono BW5.out.size))
  have K4 := Lib.hid (same2 w6 _ _ Q0 n5 m0)
  clear b6
  go_wp2_with fail
  refine K4.out.mono ?_
  rintro e w7 ⟨rfl, b7⟩
  have m0 := m0.on b7; have m1 := m1.on b7; have m2 := m2.on b7
  have BW7 := Lib.hid (BW6.out.trans (b7.mono BW6.out.size))
  have K5 := Lib.hid (C4.out w7 _ _ _ m0 m1 m2)
  clear b7 K4 n5
  go_wp2_with fail
  refine K5.out.mono ?_
  rintro e w8 ⟨a8, c8, rfl, n8, b8⟩
  have m0 := m0.on b8; have m1 := m1.on b8; have m2 := m2.on b8
  have BW8 := Lib.hid (BW7.out.trans (b8.mono BW7.out.size))
  have K6 := Lib.hid (C5.out w8 _ _ _ m2 m0 m1)
  clear b8 K5
  go_wp2_with fail
  refine K6.out.mono ?_
  rintro e w9 ⟨a9, c9, rfl, n9, b9⟩
  have m0 := m0.on b9; have m1 := m1.on b9; have m2 := m2.on b9; have n8 := n8.on b9
  have BW9 := Lib.hid (BW8.out.trans (b9.mono BW8.out.size))
  have K7 := Lib.hid (same2 w9 _ _ RT n8 n9)
  clear b9 K6
  go_wp2_with fail
  refine K7.out.mono ?_
  rintro e w10 ⟨rfl, b10⟩
  have m0 := m0.on b10; have m1 := m1.on b10; have m2 := m2.on b10
  have BW10 := Lib.hid (BW9.out.trans (b10.mono BW9.out.size))
  have K8 := Lib.hid (C6.out w10 _ _ _ m0 m1 m2)
  clear b10 K7 n8 n9
  go_wp2_with fail
  refine K8.out.mono ?_
  rintro e w11 ⟨a11, c11, rfl, n11, b11⟩
  have m0 := m0.on b11; have m1 := m1.on b11; have m2 := m2.on b11
  have BW11 := Lib.hid (BW10.out.trans (b11.mono BW10.out.size))
  have K9 := Lib.hid (C7.out w11 _ _ m1 m2)
  clear b11 K8
  go_wp2_with fail
  refine K9.out.mono ?_
  rintro e w12 ⟨a12, c12, rfl, n12, b12⟩
  have m0 := m0.on b12; have m1 := m1.on b12; have n11 := n11.on b12
  have BW12 := Lib.hid (BW11.out.trans (b12.mono BW11.out.size))
  have K10 := Lib.hid (C8.out w12 _ _ n12 m0)
  clear b12 K9 m2
  go_wp2_with fail
  refine K10.out.mono ?_
  rintro e w13 ⟨a13, c13, rfl, n13, b13⟩
  have m0 := m0.on b13; have m1 := m1.on b13; have n11 := n11.on b13
  have BW13 := Lib.hid (BW12.out.trans (b13.mono BW12.out.size))
  have K11 := Lib.hid (same2 w13 _ _ RA n11 n13)
  clear b13 K10 n12
  go_wp2_with fail
  refine K11.out.mono ?_
  rintro e w14 ⟨rfl, b14⟩
  have m0 := m0.on b14; have m1 := m1.on b14
  have BW14 := Lib.hid (BW13.out.trans (b14.mono BW13.out.size))
  have K12 := Lib.hid (C9.out w14 _ _ m1 m0)
  clear b14 K11 n11 n13
  go_wp2_with fail
  refine K12.out.mono ?_
  rintro e w15 ⟨a15, c15, rfl, n15, b15⟩
  have m0 := m0.on b15
  have BW15 := Lib.hid (BW14.out.trans (b15.mono BW14.out.size))
  have K13 := Lib.hid (CA.out w15 _ _ m0 n15)
  clear b15 K12 m1
  go_wp2_with fail
  refine K13.out.mono ?_
  rintro e w16 ⟨a16, c16, rfl, n16, b16⟩
  have BW16 := Lib.hid (BW15.out.trans (b16.mono BW15.out.size))
  clear b16 K13 m0 n15 n16
  go_wp2_with fail
  refine (both0 _).mono ?_
  rintro e w17 ⟨a17, c17, rfl, b17⟩
  have BW17 := Lib.hid (BW16.out.trans (b17.mono BW16.out.size))
  clear b17
  go_wp2_with fail
  refine (any0 _).mono ?_
  rintro e w18 ⟨a18, c18, rfl, b18⟩
  go_wp2
  go_ret
  exact ⟨rfl, BW17.out.trans (b18.mono BW17.out.size)⟩
end Go.Proofs.YtjmpmaonebbgaaaDoor
