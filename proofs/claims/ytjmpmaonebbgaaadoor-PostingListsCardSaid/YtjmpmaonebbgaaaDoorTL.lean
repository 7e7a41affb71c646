/- Layer 12: the statement PostingLists, walked. -/
import Derived.Test.YtjmpmaonebbgaaaDoorTJ
import Derived.Deep.RegionHeld3
namespace Go.Proofs.YtjmpmaonebbgaaaDoor
open Go.RowKit Go.Lib

/-- What Lists makes of lists. -/
def mapQ (ls : List (List Int)) : List (List Int) := (ls.take 5).map oneQ
theorem mapQ_len (ls : List (List Int)) : (mapQ ls).length = min ls.length 5 := by simp [mapQ, Nat.min_comm]
theorem mapQ_up (ls : List (List Int)) : ∀ l ∈ mapQ ls, Up l := by
  intro l hl
  obtain ⟨q, _, rfl⟩ := List.mem_map.1 hl
  exact anyZ_up _
theorem flat_bound (ls : List (List Int)) (h : ∀ l ∈ ls, l.length ≤ 20) : ls.flatten.length ≤ 20 * ls.length := by
  induction ls with
  | nil => simp
  | cons l ls ih =>
    have h1 := ih fun x hx => h x (by simp [hx])
    have h2 := h l (by simp)
    simp only [List.flatten_cons, List.length_append, List.length_cons]
    omega
theorem mapQ_flat (ls : List (List Int)) : (mapQ ls).flatten.length ≤ 100 := by
  have h := flat_bound (mapQ ls) (fun l hl => by
    obtain ⟨q, _, rfl⟩ := List.mem_map.1 hl
    exact oneQ_len q)
  have := mapQ_len ls
  omega
theorem mapQ_at (ls : List (List Int)) (j : Nat) (l : List Int) (h : (mapQ ls)[j]? = some l) : ∃ q, ls[j]? = some q ∧ l = oneQ q := by
  unfold mapQ at h
  rw [List.getElem?_map, Option.map_eq_some_iff] at h
  obtain ⟨q, hq, rfl⟩ := h
  rw [List.getElem?_take] at hq
  split at hq
  · exact ⟨q, hq, rfl⟩
  · cases hq
theorem ncs_side {w wr : World} {ls : List (List Int)} {p4 p5 p : Value} {i : Nat} {xs : List Value} (R : LsR w wr ls p4 p5 i xs) (hi : i = min ls.length 5) (hs : Sl wr w.heap.size 1 p i xs) : Ncs wr p (mapQ ls) := by
  have hl := mapQ_len ls
  have hxl : xs.length = i := by have := hs.1; omega
  refine ⟨by omega, ?_⟩
  have each : ∀ (j : Nat) l, (mapQ ls)[j]? = some l → ∃ x, xs[j]? = some x ∧ Nc wr x l := fun j l hj => by
    have hjl := (List.getElem?_eq_some_iff.1 hj).1
    obtain ⟨q, hq, rfl⟩ := mapQ_at ls j l hj
    have hx : xs[j]? = some (xs[j]'(by omega)) := List.getElem?_eq_getElem (by omega)
    obtain ⟨a, c, he, hn⟩ := lsr_at R j _ q hx hq
    exact ⟨_, hx, by rw [he]; exact hn⟩
  rcases hs.2 with ⟨rfl, h0⟩ | ⟨g, off, cap, rfl, hb, hg, hnc, hcm, hfree, hcell⟩
  · exact ⟨none, 0, 0, 0, by rw [hl, ← hi, h0], by omega, fun h => absurd h (by omega), fun j l hj => absurd (List.getElem?_eq_some_iff.1 hj).1 (by omega)⟩
  · refine ⟨_, cap, g, off, by rw [hl, ← hi], by omega, fun _ => ⟨rfl, hg⟩, fun j l hj => ?_⟩
    have hjl := (List.getElem?_eq_some_iff.1 hj).1
    obtain ⟨x, hx, hn⟩ := each j l hj
    exact ⟨x, by rw [hcell j (by omega)]; exact hx, hn⟩
theorem nls_two (w : World) (v0 v1 : Value) (z0 z1 : List Int) (h0 : Ncw w v0 z0) (h1 : Ncw w v1 z1) : Nls (w.alloc (.cells #[v0, v1] 23)) (.slice (some ⟨w.heap.size, 0, none⟩) 2 2) [z0, z1] := by
  have l3 := Sl.lit w 0 1 2 #[v0, v1] 23 (Nat.zero_le _) (by decide) rfl
  have hb : Below w.heap.size w (w.alloc (.cells #[v0, v1] 23)) := (Below.refl _ _).alloc (Nat.le_refl _) _
  refine ⟨_, 2, w.heap.size, 0, rfl, fun _ => ⟨rfl, by simp⟩, fun j l hl => ?_⟩
  match j, hl with
  | 0, hl => cases hl; exact ⟨_, l3.cells 0 _ rfl, h0.on hb⟩
  | 1, hl => cases hl; exact ⟨_, l3.cells 1 _ rfl, h1.on hb⟩
theorem two_of {xs : List Value} (h : xs.length = 2) : ∃ x y, xs = [x, y] := by
  match xs, h with
  | [x, y], _ => exact ⟨x, y, rfl⟩
theorem newL_any {W : World} {R : List Int} {e : Ending} {w' : World} (h : NewN W R e w') (hr : R.length ≤ 100000) : NewL W R e w' := newL_of h (Below.refl _ _) hr

set_option maxHeartbeats 4000000 in
set_option maxRecDepth 100000 in
theorem plists_any (v0 v1 v2 : Value) (ls : List (List Int)) (z0 z1 : List Int) (w : World) (h0 : Nls w v0 ls) (h1 : Ncw w v1 z0) (h2 : Ncw w v2 z1) :
    Calls Tryd.prog 3 #[v0, v1, v2] w fun e w' => e = .returned (.bool true) ∧ Below w.heap.size w w' := by
  have L := Lib.hid (lists_any v0 ls w h0)
  have L2 := Lib.hid (fun W h => lists_any _ [z0, z1] _ (nls_two W v1 v2 z0 z1 (h1.on h) (h2.on h)))
  have hF := mapQ_flat ls
  obtain ⟨R1, hR1⟩ : ∃ R, bothZ (mapQ ls) = R := ⟨_, rfl⟩
  obtain ⟨R2, hR2⟩ : ∃ R, anyZ (mapQ ls) = R := ⟨_, rfl⟩
  have e2 : R2.length ≤ 100000 := by rw [← hR2]; have := anyZ_len (mapQ ls); omega
  have e1 : R1.length ≤ 100000 := by
    rw [← hR1]
    have : (bothZ (mapQ ls)).length ≤ (anyZ (mapQ ls)).length := List.length_filter_le _ _
    have := anyZ_len (mapQ ls)
    omega
  have hP1 : bothP (mapQ ls) = R1 := by rw [both_same _ (mapQ_up ls)]; exact hR1
  have D1 := Lib.hid (fun W v (h : Ncs W v (mapQ ls)) => show Calls Tryd.prog 9 #[v] W (NewL W R1) from (both_any v (mapQ ls) W h (mapQ_up ls)).mono fun e w' k => by rw [hP1] at k; exact newL_any k e1)
  have D2 := Lib.hid (fun W v (h : Ncs W v (mapQ ls)) => show Calls Tryd.prog 10 #[v] W (NewL W R1) from (rboth_any v (mapQ ls) W h (by omega)).mono fun e w' k => by rw [hR1] at k; exact newL_any k e1)
  have D3 := Lib.hid (fun W v (h : Ncs W v (mapQ ls)) => show Calls Tryd.prog 11 #[v] W (NewL W R2) from (any_any v (mapQ ls) W h (by omega)).mono fun e w' k => by rw [hR2] at k; exact newL_any k e2)
  have D4 := Lib.hid (fun W v (h : Ncs W v (mapQ ls)) => show Calls Tryd.prog 12 #[v] W (NewL W R2) from (rany_any v (mapQ ls) W h (by omega)).mono fun e w' k => by rw [hR2] at k; exact newL_any k e2)
  obtain ⟨_, _, _, _, rfl, _⟩ := id h0
  rename_i va vc _ _
  obtain ⟨n0, hn0⟩ : ∃ n, n = ls.length := ⟨_, rfl⟩
  have HN0 := Lib.hid hn0
  obtain ⟨a1, k1, g1, o1, rfl, _⟩ := h1
  obtain ⟨a2, k2, g2, o2, rfl, _⟩ := h2
  clear hF e1 e2 hR1 hR2 hP1 hn0 h0
  go_enter Tryd.func3, Tryd.ntmps3
  go_wp2_with fail
  refine L.out.mono ?_
  rintro e w1 ⟨p4, p5, xs, rfl, R⟩
  have NV := Lib.hid (ncs_side R rfl R.s4)
  have NU := Lib.hid (ncs_side R rfl R.s5)
  obtain ⟨b4, c4, rfl⟩ := R.s4.slice
  obtain ⟨b5, c5, rfl⟩ := R.s5.slice
  have BW1 := Lib.hid R.below
  have K2 := Lib.hid (L2.out w1 R.below)
  have hsz : (w1.alloc (.cells #[.slice a1 z0.length k1, .slice a2 z1.length k2] 23)).heap.size = w1.heap.size + 1 := by simp
  have BA := Lib.hid ((Below.refl w1.heap.size w1).alloc (Nat.le_refl _) (.cells #[.slice a1 z0.length k1, .slice a2 z1.length k2] 23))
  clear L L2 R
  obtain ⟨m, hm⟩ : ∃ m, m = min ls.length 5 := ⟨_, rfl⟩
  rw [← hm] at NV NU ⊢
  clear hm
  go_wp2_with fail
  refine K2.out.mono ?_
  rintro e w2 ⟨q4, q5, ys, rfl, R⟩
  have b12 : Below w1.heap.size w1 w2 := BA.out.trans (R.below.mono (by omega))
  have hyl : ys.length = 2 := by have := R.s4.1; simpa using this
  obtain ⟨X0, X1, rfl⟩ := two_of hyl
  obtain ⟨x0, y0, rfl, N0⟩ := lsr_at R 0 X0 z0 rfl rfl
  obtain ⟨x1, y1, rfl, N1⟩ := lsr_at R 1 X1 z1 rfl rfl
  have hs4 : Sl w2 (w1.heap.size + 1) 1 q4 2 [.slice x0 (oneQ z0).length y0, .slice x1 (oneQ z1).length y1] := by have := R.s4; rw [hsz] at this; exact this
  have hs5 : Sl w2 (w1.heap.size + 1) 1 q5 2 [.slice x0 (oneQ z0).length y0, .slice x1 (oneQ z1).length y1] := by have := R.s5; rw [hsz] at this; exact this
  obtain ⟨gp, op, kp, rfl, _, hkp, _⟩ := hs4.somewhere (by decide)
  obtain ⟨gq, oq, kq, rfl, _, hkq, _⟩ := hs5.somewhere (by decide)
  have s0 : w2.cell? ⟨gp, op, none⟩ = some (.slice x0 (oneQ z0).length y0) := by have := hs4.cells 0 _ rfl; rwa [Addr.add_lit] at this
  have s1 : w2.cell? ⟨gp, op + 1, none⟩ = some (.slice x1 (oneQ z1).length y1) := by have := hs4.cells 1 _ rfl; rwa [Addr.add_lit] at this
  have t0 : w2.cell? ⟨gq, oq, none⟩ = some (.slice x0 (oneQ z0).length y0) := by have := hs5.cells 0 _ rfl; rwa [Addr.add_lit] at this
  have t1 : w2.cell? ⟨gq, oq + 1, none⟩ = some (.slice x1 (oneQ z1).length y1) := by have := hs5.cells 1 _ rfl; rwa [Addr.add_lit] at this
  have hgp := (hs4.lt gp rfl).2
  have hgq := (hs5.lt gq rfl).2
  have U0 := anyZ_up [z0.take 20]; have U1 := anyZ_up [z1.take 20]
  have l0 := oneQ_len z0; have l1 := oneQ_len z1
  obtain ⟨Q0, hQ0⟩ : ∃ Q, Q = oneQ z0 := ⟨_, rfl⟩
  obtain ⟨Q1, hQ1⟩ : ∃ Q, Q = oneQ z1 := ⟨_, rfl⟩
  change Up (oneQ z0) at U0
  change Up (oneQ z1) at U1
  rw [← hQ0] at N0 s0 t0 U0 l0
  rw [← hQ1] at N1 s1 t1 U1 l1
  obtain ⟨RL, hRL⟩ : ∃ R, pickZ Q0 Q1 false = R := ⟨_, rfl⟩
  have e3 : RL.length ≤ 100000 := by rw [← hRL]; have := pickZ_len Q0 Q1 false; omega
  have D5 := Lib.hid (fun W u v (h : Nc W u Q0) (k : Nc W v Q1) => less2 W u v Q0 Q1 RL h k U0 U1 hRL)
  have D6 := Lib.hid (fun W u v (h : Nc W u Q0) (k : Nc W v Q1) => show Calls Tryd.prog 14 #[u, v] W (NewL W RL) from (rless_any u v Q0 Q1 W h.ns k.ns).mono fun e w' j => by rw [hRL] at j; exact newL_any j e3)
  have M0 := Lib.hid N0; have M1 := Lib.hid N1
  have NV2 := Lib.hid (NV.out.on b12); have NU2 := Lib.hid (NU.out.on b12)
  have BW2 := Lib.hid (BW1.out.trans (b12.mono BW1.out.size))
  have SX := Lib.hid (fun W (b : Below w2.heap.size w2 W) => show W.cell? ⟨gp, op, none⟩ = some (.slice x0 Q0.length y0) ∧ W.cell? ⟨gp, op + 1, none⟩ = some (.slice x1 Q1.length y1) ∧ W.cell? ⟨gq, oq, none⟩ = some (.slice x0 Q0.length y0) ∧ W.cell? ⟨gq, oq + 1, none⟩ = some (.slice x1 Q1.length y1) from ⟨(b.cell (p := ⟨gp, op, none⟩) hgp).trans s0, (b.cell (p := ⟨gp, op + 1, none⟩) hgp).trans s1, (b.cell (p := ⟨gq, oq, none⟩) hgq).trans t0, (b.cell (p := ⟨gq, oq + 1, none⟩) hgq).trans t1⟩)
  have B2d : Below w2.heap.size w2 w2.drew := (Below.refl _ _).drew
  clear hRL e3 U0 U1 l0 l1 N0 N1 NV NU BW1 b12 hs4 hs5 R hyl hQ0 hQ1 s0 s1 t0 t1 K2 BA hsz hgp hgq
  go_wp2_with fail
  go_region_held3 (fun W => W.cell? ⟨gp, op, none⟩ = some (.slice x0 Q0.length y0) ∧ W.cell? ⟨gp, op + 1, none⟩ = some (.slice x1 Q1.length y1) ∧ W.cell? ⟨gq, oq, none⟩ = some (.slice x0 Q0.length y0) ∧ W.cell? ⟨gq, oq + 1, none⟩ = some (.slice x1 Q1.length y1))
    (first | (refine SX.out _ ?_; assumption) | assumption | fail)
    (first
      | (go_at_call 7; refine (pawake_any _).mono ?_; rintro e w5 ⟨rfl, b5⟩; have B5 : Below w2.heap.size w2 w5 := B2d.trans b5)
      | (go_at_call 9; (with_reducible refine (D1.out w5 _ (NV2.out.on B5)).mono ?_); rintro e w6 ⟨a6, c6, rfl, n6, b6⟩; have B6 := B5.trans (b6.mono B5.size))
      | (go_at_call 10; (with_reducible refine (D2.out w6 _ (NU2.out.on B6)).mono ?_); rintro e w7 ⟨a7, c7, rfl, n7, b7⟩; have B7 := B6.trans (b7.mono B6.size); have n67 := n6.on b7)
      | (go_at_call 8; (with_reducible refine (same2 w7 _ _ R1 n67 n7).mono ?_); rintro e w8 ⟨rfl, b8⟩; have B8 := B7.trans (b8.mono B7.size))
      | (go_at_call 11; (with_reducible refine (D3.out w8 _ (NV2.out.on B8)).mono ?_); rintro e w9 ⟨a9, c9, rfl, n9, b9⟩; have B9 := B8.trans (b9.mono B8.size))
      | (go_at_call 12; (with_reducible refine (D4.out w9 _ (NU2.out.on B9)).mono ?_); rintro e w10 ⟨a10, c10, rfl, n10, b10⟩; have B10 := B9.trans (b10.mono B9.size); have n910 := n9.on b10)
      | (go_at_call 8; (with_reducible refine (same2 w10 _ _ R2 n910 n10).mono ?_); rintro e w11 ⟨rfl, b11⟩; have B11 := B10.trans (b11.mono B10.size))
      | (go_at_call 13; (with_reducible refine (D5.out w11 _ _ (M0.out.on B11) (M1.out.on B11)).mono ?_); rintro e w12 ⟨a12, c12, rfl, n12, b12⟩; have B12 := B11.trans (b12.mono B11.size))
      | (go_at_call 14; (with_reducible refine (D6.out w12 _ _ (M0.out.on B12) (M1.out.on B12)).mono ?_); rintro e w13 ⟨a13, c13, rfl, n13, b13⟩; have B13 := B12.trans (b13.mono B12.size); have n1213 := n12.on b13)
      | (go_at_call 8; (with_reducible refine (same2 w13 _ _ RL n1213 n13).mono ?_); rintro e w14 ⟨rfl, b14⟩; have B14 := B13.trans (b14.mono B13.size))
      | fail)
  go_wp2
  go_ret
  exact ⟨rfl, BW2.out.trans (B14.mono BW2.out.size)⟩
end Go.Proofs.YtjmpmaonebbgaaaDoor
