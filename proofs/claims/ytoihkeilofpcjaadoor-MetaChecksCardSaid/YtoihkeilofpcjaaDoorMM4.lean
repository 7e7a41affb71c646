/- Layer 9: a mark's bytes taken; the first known answers. -/
import Derived.Test.YtoihkeilofpcjaaDoorMM2
namespace Go.Proofs.YtoihkeilofpcjaaDoor
open Go.RowKit Go.Lib

theorem dmkV_ok (x : List UInt8) (n : Nat) (l : List UInt8) : dmkV (x, n, (l, 0)) = .tuple #[.string (bs x), .int .i64 n, .int .i64 0] := rfl
theorem dmkV_no (x : List UInt8) (n : Nat) (l : List UInt8) (e : Nat) (h : e ≠ 0) : dmkV (x, n, (l, e)) = .tuple #[.string (bs []), .int .i64 0, .int .i64 e] := by
  unfold dmkV; rw [if_neg h]

set_option maxHeartbeats 2000000 in
set_option maxRecDepth 100000 in
theorem decMark_any (s : List UInt8) (w : World) (hs : s.length ≤ 140737488350000) :
    Calls Tryd.prog 20 #[.string (bs s)] w fun e w' => e = .returned (dmkV (Mt.dmk s)) ∧ Below w.heap.size w w' := by
  have hT := bs_toList
  have hol := opn_len s 2
  obtain ⟨l, er, ho⟩ : ∃ l er, Mt.opn s 2 = (l, er) := ⟨_, _, rfl⟩
  have O := Lib.hid (fun W => show Calls Tryd.prog 39 #[.string (bs s), .int .u8 2] W (fun e w' => e = .returned (.agg #[.string (bs l), .int .i64 er]) ∧ Below W.heap.size W w') by
    have := open_any s 2 W hs
    rw [ho] at this
    exact this)
  rw [ho] at hol
  have hxl := tt_len (l, er) 16
  obtain ⟨x, l2, e2, hx⟩ : ∃ x l2 e2, Mt.tt (l, er) 16 = (x, (l2, e2)) := ⟨_, _, _, rfl⟩
  have T := Lib.hid (fun b W h => show Calls Tryd.prog 40 #[.pointer (some ⟨b, 0, none⟩), .int .i64 16] W (TkP b W (.string (bs x)) (l2, e2)) by
    have := tkt_any b (l, er) 16 W h (by simp only at hol ⊢; omega) (by omega) (by omega)
    rwa [hx] at this)
  rw [hx] at hxl
  have hnl := tn_len (l2, e2) 1099511627776
  obtain ⟨n, l3, e3, hn⟩ : ∃ n l3 e3, Mt.tn (l2, e2) 1099511627776 = (n, (l3, e3)) := ⟨_, _, _, rfl⟩
  have N := Lib.hid (fun b W h => show Calls Tryd.prog 41 #[.pointer (some ⟨b, 0, none⟩), .int .i64 1099511627776] W (TkP b W (.int .i64 n) (l3, e3)) by
    have := tkn_any b (l2, e2) 1099511627776 W h (by simp only at hol hxl ⊢; omega) (by omega) (by omega)
    rwa [hn] at this)
  obtain ⟨so, hso⟩ : ∃ so, so = (decide (l3 = []) && Mt.isN x) := ⟨_, rfl⟩
  obtain ⟨l4, e4, h4⟩ : ∃ l4 e4, Mt.dem (l3, e3) so = (l4, e4) := ⟨_, _, rfl⟩
  have D := Lib.hid (fun b W h => show Calls Tryd.prog 42 #[.pointer (some ⟨b, 0, none⟩), .bool so] W (TkE b W (l4, e4)) by
    have := tkd_any b (l3, e3) so W h
    rwa [h4] at this)
  have HD := Lib.hid (show Mt.dmk s = (x, n, (l4, e4)) by
    unfold Mt.dmk
    rw [ho]
    simp only
    rw [hx]
    simp only
    rw [hn]
    simp only
    rw [← hso, h4])
  have IN := Lib.hid (fun W => isName_any x W)
  obtain ⟨bx, hbx⟩ : ∃ bx, bx = Mt.isN x := ⟨_, rfl⟩
  rw [← hbx] at hso IN
  rw [HD.out]
  obtain ⟨V, hV⟩ : ∃ V, V = dmkV (x, n, (l4, e4)) := ⟨_, rfl⟩
  have HV := Lib.hid hV
  rw [← hV]
  clear hV HD
  clear ho hol hx hxl hn hnl h4 hbx hs
  go_enter Tryd.func20, Tryd.ntmps20
  go_wp2_with fail
  refine (O.out _).mono ?_
  rintro e w1 ⟨rfl, b1⟩
  go_wp2_with fail
  refine (T.out w1.heap.size _ (tk_new w1 l er _ _ rfl)).mono ?_
  rintro e w2 ⟨rfl, t2, u2⟩
  go_wp2_with fail
  refine (N.out w1.heap.size _ t2).mono ?_
  rintro e w3 ⟨rfl, t3, u3⟩
  have T3 := Lib.hid t3
  obtain ⟨_, c0, c1, _, _⟩ := t3
  have B3 : Below w1.heap.size w1 w3 := (((Below.refl _ _).alloc (Nat.le_refl _) _).trans (u2.below (by simp) (fun k hk => by omega))).trans (u3.below (by have := u2.size; simp at this; omega) (fun k hk => by omega))
  have hl3 : l3 = [] ∨ ∃ c r, l3 = c :: r := by cases l3 <;> simp
  have Z3 := B3.size
  clear u2 u3 t2
  rcases hl3 with rfl | ⟨c, r, rfl⟩
  · simp only [decide_true, Bool.true_and] at hso
    subst hso
    go_wp2_with fail
    refine (IN.out _).mono ?_
    rintro e w4 ⟨rfl, rfl⟩
    go_wp2_with fail
    refine (D.out w1.heap.size _ T3.out).mono ?_
    rintro e w4 ⟨rfl, t4, u4⟩
    obtain ⟨_, d0, d1, _, _⟩ := t4
    have B4 : Below w1.heap.size w1 w4 := B3.trans (u4.below Z3 (fun k hk => by omega))
    clear c0 c1 u4
    by_cases he : e4 = 0
    · subst he
      go_wp2
      go_ret3
      exact ⟨by rw [HV.out, dmkV_ok]; rfl, below_step b1 B4⟩
    · have he' : ((e4 : Int) == 0) = false := by rw [beq_eq_false_iff_ne]; omega
      have he2 : ((e4 : Int) != 0) = true := by rw [bne, he']; rfl
      have HV2 := Lib.hid (HV.out.trans (dmkV_no _ _ _ _ he))
      clear he HV
      go_wp2
      go_quiet (fail)
      go_wp2
      go_ret3
      exact ⟨by rw [HV2.out]; rfl, below_draw (below_step b1 B4) _⟩
  · simp only [reduceCtorEq, decide_false, Bool.false_and] at hso
    subst hso
    go_wp2_with fail
    refine (D.out w1.heap.size _ T3.out).mono ?_
    rintro e w4 ⟨rfl, t4, u4⟩
    obtain ⟨_, d0, d1, _, _⟩ := t4
    have B4 : Below w1.heap.size w1 w4 := B3.trans (u4.below Z3 (fun k hk => by omega))
    clear c0 c1 u4
    by_cases he : e4 = 0
    · subst he
      go_wp2
      go_ret3
      exact ⟨by rw [HV.out, dmkV_ok]; rfl, below_step b1 B4⟩
    · have he' : ((e4 : Int) == 0) = false := by rw [beq_eq_false_iff_ne]; omega
      have he2 : ((e4 : Int) != 0) = true := by rw [bne, he']; rfl
      have HV2 := Lib.hid (HV.out.trans (dmkV_no _ _ _ _ he))
      clear he HV
      go_wp2
      go_quiet (fail)
      go_wp2
      go_ret3
      exact ⟨by rw [HV2.out]; rfl, below_draw (below_step b1 B4) _⟩

set_option maxHeartbeats 1000000 in
set_option maxRecDepth 100000 in
theorem mawake_any (w : World) : Calls Tryd.prog 7 #[] w fun e w' => e = .returned (.bool true) ∧ Below w.heap.size w w' := by
  have hT := bs_toList
  obtain ⟨id, hid⟩ : ∃ id, id = Idn.nam 33 1 := ⟨_, rfl⟩
  have hl16 : id.length = 16 := by rw [hid, Idn.nam_len]
  obtain ⟨r, hr⟩ : ∃ r, r = Fr.rec 2 (Mt.mkB id 7) := ⟨_, rfl⟩
  have hl24 : r.length = 24 := by
    have h1 : (Mt.mkB id 7).length = 18 := by rw [Mt.mkB, List.length_append, Leb.encT, List.length_append, hl16]; decide
    rw [hr, Fr.rec, List.length_cons, List.length_append, List.length_append, Fr.le_len, h1]; decide
  have M := Lib.hid (fun W => show Calls Tryd.prog 18 #[.int .i64 33, .int .i64 1] W (fun e w' => e = .returned (.tuple #[.string (bs id), .int .i64 0]) ∧ Below W.heap.size W w') by
    rw [hid]; exact make_ok 33 1 W (by omega) (by omega))
  have E := Lib.hid (fun W => show Calls Tryd.prog 19 #[.string (bs id), .int .i64 7] W (fun e w' => e = .returned (.string (bs r)) ∧ Below W.heap.size W w') by
    rw [hr]; exact encMark_any id 7 W (by omega) (by omega))
  have D := Lib.hid (fun W => show Calls Tryd.prog 20 #[.string (bs r)] W (fun e w' => e = .returned (.tuple #[.string (bs id), .int .i64 7, .int .i64 0]) ∧ Below W.heap.size W w') by
    have := decMark_any r W (by omega)
    rw [hr, Mt.dmk_mk id 7 (by rw [hid]; exact Mt.isN_nam _ _ (by omega) (by omega)) (by omega)] at this
    rw [hr]
    exact this)
  have z1 : (bs id).size = 16 := by rw [bs_size, hl16]
  have z2 : (bs r).size = 24 := by rw [bs_size, hl24]
  clear hid hr hl16 hl24
  go_enter Tryd.func7, Tryd.ntmps7
  go_wp2_with fail
  refine (M.out _).mono ?_
  rintro e w1 ⟨rfl, b1⟩
  go_wp2_with fail
  refine (E.out _).mono ?_
  rintro e w2 ⟨rfl, b2⟩
  go_wp2_with fail
  refine (D.out _).mono ?_
  rintro e w3 ⟨rfl, b3⟩
  go_wp2
  go_ret
  exact ⟨rfl, below_step (below_step b1 b2) b3⟩
end Go.Proofs.YtoihkeilofpcjaaDoor
