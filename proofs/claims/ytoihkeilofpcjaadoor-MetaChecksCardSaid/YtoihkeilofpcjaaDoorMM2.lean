/- Layer 9: the taker's methods. Layer 9: Of, Meets, marks. -/
import Derived.Test.YtoihkeilofpcjaaDoorMZ4
import Derived.Test.YtoihkeilofpcjaaDoorMTurn
import Derived.Test.YtoihkeilofpcjaaDoorMRd
import Derived.Test.YtoihkeilofpcjaaDoorMI3
import Derived.Test.YtoihkeilofpcjaaDoorMM0
import Derived.IntWalk
namespace Go.Proofs.YtoihkeilofpcjaaDoor
open Go.RowKit Go.Lib

/-- A taker lies in block b. -/
def Tk (w : World) (b : Nat) (st : Mt.St) : Prop :=
  b < w.heap.size ∧ w.cell? ⟨b, 0, none⟩ = some (.string (bs st.1)) ∧ w.cell? ⟨b, 1, none⟩ = some (.int .i64 st.2) ∧ w.frozen? ⟨b, 0, none⟩ = false ∧ w.frozen? ⟨b, 1, none⟩ = false
theorem Tk.drewN {w : World} {b : Nat} {st : Mt.St} (h : Tk w b st) (n : Nat) : Tk (w.drewN n) b st := h
theorem Tk.turn {S : Nat → Prop} {w w' : World} {b : Nat} {st : Mt.St} (h : Tk w b st) (t : Turn S w w') (hS : ¬ S b) : Tk w' b st :=
  ⟨Nat.lt_of_lt_of_le h.1 t.size, (t.cell (p := ⟨b, 0, none⟩) h.1 hS).trans h.2.1, (t.cell (p := ⟨b, 1, none⟩) h.1 hS).trans h.2.2.1, (t.frozen (p := ⟨b, 0, none⟩) h.1 hS).trans h.2.2.2.1, (t.frozen (p := ⟨b, 1, none⟩) h.1 hS).trans h.2.2.2.2⟩
theorem Tk.below {w w' : World} {b : Nat} {st : Mt.St} (h : Tk w b st) (t : Below w.heap.size w w') : Tk w' b st := h.turn (S := fun _ => False) (Turn.of_below t) id
theorem tk_err {w : World} {b : Nat} {st : Mt.St} (h : Tk w b st) (n : Nat) : Tk (w.setCell ⟨b, 1, none⟩ (.int .i64 n)) b (st.1, n) := by
  refine ⟨by simpa [World.setCell] using h.1, ?_, ?_, ?_, ?_⟩
  · rw [cell_setCell_other _ _ _ _ _ (.inr (by simp))]; exact h.2.1
  · exact cell_setCell_same _ _ _ _ (by rw [h.2.2.1]; rfl)
  · rw [frozen_setCell]; exact h.2.2.2.1
  · rw [frozen_setCell]; exact h.2.2.2.2
theorem tk_rest {w : World} {b : Nat} {st : Mt.St} (h : Tk w b st) (l : List UInt8) : Tk (w.setCell ⟨b, 0, none⟩ (.string (bs l))) b (l, st.2) := by
  refine ⟨by simpa [World.setCell] using h.1, ?_, ?_, ?_, ?_⟩
  · exact cell_setCell_same _ _ _ _ (by rw [h.2.1]; rfl)
  · rw [cell_setCell_other _ _ _ _ _ (.inr (by simp))]; exact h.2.2.1
  · rw [frozen_setCell]; exact h.2.2.2.1
  · rw [frozen_setCell]; exact h.2.2.2.2

/-- An answer; the taker is at st'. -/
def TkP (b : Nat) (w : World) (v : Value) (st' : Mt.St) (e : Ending) (w' : World) : Prop := e = .returned v ∧ Tk w' b st' ∧ Turn (fun k => k = b) w w'

theorem turn_two (b : Nat) (w : World) (n : Nat) (u v : Value) : Turn (fun k => k = b) w (((w.drewN n).setCell ⟨b, 0, none⟩ u).setCell ⟨b, 1, none⟩ v) :=
  Turn.setCell (S := fun k => k = b) (Turn.setCell (S := fun k => k = b) (Turn.of_below (below_draw (Below.refl _ _) n)) ⟨b, 0, none⟩ u rfl) ⟨b, 1, none⟩ v rfl

set_option maxHeartbeats 1000000 in
set_option maxRecDepth 100000 in
theorem tkn_any (b : Nat) (st : Mt.St) (most : Int) (w : World) (h : Tk w b st) (hl : st.1.length ≤ 140737488350000) (hm : -9223372036854775808 ≤ most) (hm' : most ≤ 9223372036854775807) :
    Calls Tryd.prog 41 #[.pointer (some ⟨b, 0, none⟩), .int .i64 most] w (TkP b w (.int .i64 (Mt.tn st most).1) (Mt.tn st most).2) := by
  obtain ⟨l, er⟩ := st
  have H := Lib.hid h
  obtain ⟨_, c0, c1, f0, f1⟩ := h
  simp only at c0 c1 hl
  by_cases he : er = 0
  · subst he
    obtain ⟨u, r, e, hT⟩ : ∃ u r e, Leb.takeM l most = (u, r, e) := ⟨_, _, _, rfl⟩
    have HM := Lib.hid (show Leb.takeM (bs l).data.toList most = (u, r, e) from hT)
    have HN := Lib.hid (show Mt.tn (l, 0) most = (u, (r, e)) by unfold Mt.tn; rw [if_neg (by simp)]; simp only; rw [hT])
    rw [HN.out]
    have z1 : (bs l).size ≤ maxLen := by rw [bs_size]; unfold maxLen; omega
    clear hT hl
    go_enter Tryd.func41, Tryd.ntmps41
    go_wp2_with fail
    refine (takeM_is HM.out _ z1 hm hm').mono ?_
    rintro e w1 ⟨rfl, n, rfl⟩
    go_wp2
    go_ret
    exact ⟨rfl, tk_err (tk_rest (H.out.drewN n) r) _, turn_two _ _ _ _ _⟩
  · have HN := Lib.hid (show Mt.tn (l, er) most = (0, (l, er)) by unfold Mt.tn; rw [if_pos he])
    rw [HN.out]
    have he' : ((er : Int) == 0) = false := by rw [beq_eq_false_iff_ne]; omega
    have he2 : ((er : Int) != 0) = true := by rw [bne, he']; rfl
    clear hl he
    go_enter Tryd.func41, Tryd.ntmps41
    go_wp2
    go_ret
    exact ⟨rfl, H.out, Turn.refl _ _⟩

set_option maxHeartbeats 1000000 in
set_option maxRecDepth 100000 in
theorem tkt_any (b : Nat) (st : Mt.St) (most : Int) (w : World) (h : Tk w b st) (hl : st.1.length ≤ 140737488350000) (hm : -9223372036854775808 ≤ most) (hm' : most ≤ 9223372036854775807) :
    Calls Tryd.prog 40 #[.pointer (some ⟨b, 0, none⟩), .int .i64 most] w (TkP b w (.string (bs (Mt.tt st most).1)) (Mt.tt st most).2) := by
  obtain ⟨l, er⟩ := st
  have H := Lib.hid h
  obtain ⟨_, c0, c1, f0, f1⟩ := h
  simp only at c0 c1 hl
  by_cases he : er = 0
  · subst he
    obtain ⟨u, r, e, hT⟩ : ∃ u r e, Leb.takeT l most = (u, r, e) := ⟨_, _, _, rfl⟩
    have HM := Lib.hid (fun W => show Calls Tryd.prog 52 #[.string (bs l), .int .i64 most] W (fun e' w' => e' = .returned (.tuple #[.string (bs u), .string (bs r), .int .i64 e]) ∧ ∃ n, w' = W.drewN n) by
      have := takeT_any (bs l) most W (by rw [bs_size]; unfold maxLen; omega) hm hm'
      rw [bs_list, hT] at this
      exact this)
    have HN := Lib.hid (show Mt.tt (l, 0) most = (u, (r, e)) by unfold Mt.tt; rw [if_neg (by simp)]; simp only; rw [hT])
    rw [HN.out]
    clear hT hl
    go_enter Tryd.func40, Tryd.ntmps40
    go_wp2_with fail
    refine (HM.out _).mono ?_
    rintro e w1 ⟨rfl, n, rfl⟩
    go_wp2
    go_ret
    exact ⟨rfl, tk_err (tk_rest (H.out.drewN n) r) _, turn_two _ _ _ _ _⟩
  · have HN := Lib.hid (show Mt.tt (l, er) most = ([], (l, er)) by unfold Mt.tt; rw [if_pos he])
    rw [HN.out]
    have he' : ((er : Int) == 0) = false := by rw [beq_eq_false_iff_ne]; omega
    have he2 : ((er : Int) != 0) = true := by rw [bne, he']; rfl
    clear hl he
    go_enter Tryd.func40, Tryd.ntmps40
    go_wp2
    go_ret
    exact ⟨rfl, H.out, Turn.refl _ _⟩

/-- No answer; the taker is at st'. -/
def TkE (b : Nat) (w : World) (st' : Mt.St) (e : Ending) (w' : World) : Prop := e = .returned (.tuple #[]) ∧ Tk w' b st' ∧ Turn (fun k => k = b) w w'

set_option maxHeartbeats 1000000 in
set_option maxRecDepth 100000 in
theorem tkd_any (b : Nat) (st : Mt.St) (so : Bool) (w : World) (h : Tk w b st) :
    Calls Tryd.prog 42 #[.pointer (some ⟨b, 0, none⟩), .bool so] w (TkE b w (Mt.dem st so)) := by
  obtain ⟨l, er⟩ := st
  have H := Lib.hid h
  obtain ⟨_, c0, c1, f0, f1⟩ := h
  simp only at c0 c1
  by_cases he : er = 0
  · subst he
    cases so
    · have HN := Lib.hid (show Mt.dem (l, 0) false = (l, 3) from rfl)
      rw [HN.out]
      go_enter Tryd.func42, Tryd.ntmps42
      go_wp2
      go_end0
      exact ⟨rfl, tk_err H.out 3, (Turn.refl _ _).setCell _ _ rfl⟩
    · have HN := Lib.hid (show Mt.dem (l, 0) true = (l, 0) from rfl)
      rw [HN.out]
      go_enter Tryd.func42, Tryd.ntmps42
      go_wp2
      go_end0
      exact ⟨rfl, H.out, Turn.refl _ _⟩
  · have HN := Lib.hid (show Mt.dem (l, er) so = (l, er) by unfold Mt.dem; rw [if_neg (by simp [he])])
    rw [HN.out]
    have he' : ((er : Int) == 0) = false := by rw [beq_eq_false_iff_ne]; omega
    have he2 : ((er : Int) != 0) = true := by rw [bne, he']; rfl
    clear he
    go_enter Tryd.func42, Tryd.ntmps42
    go_wp2
    go_end0
    exact ⟨rfl, H.out, Turn.refl _ _⟩

theorem pars_isN (l : List UInt8) : (pars l).isSome = Mt.isN l := by
  unfold pars Mt.isN
  split
  · rename_i h
    rw [decide_eq_true h]
    cases Idn.num (l.take 8) 0 <;> cases Idn.num (l.drop 8) 0 <;> rfl
  · rename_i h
    rw [decide_eq_false h]
    rfl
set_option maxRecDepth 100000 in
theorem isName_any (l : List UInt8) (w : World) : Calls Tryd.prog 21 #[.string (bs l)] w fun e w' => e = .returned (.bool (Mt.isN l)) ∧ w = w' := by
  have P := Lib.hid (fun W => show Calls Tryd.prog 43 #[.string (bs l)] W (fun e w' => e = .returned (parsV (pars l)) ∧ W = w') from parse_any (bs l) W)
  obtain ⟨p, hp⟩ : ∃ p, p = pars l := ⟨_, rfl⟩
  have HN := Lib.hid (show Mt.isN l = p.isSome by rw [hp, pars_isN])
  rw [← hp] at P
  rw [HN.out]
  clear hp
  cases p with
  | none =>
    unfold parsV at P
    go_enter Tryd.func21, Tryd.ntmps21
    go_wp2_with fail
    refine (P.out _).mono ?_
    rintro e w1 ⟨rfl, rfl⟩
    go_wp2
    go_ret
    exact ⟨rfl, rfl⟩
  | some p =>
    obtain ⟨a, b⟩ := p
    unfold parsV at P
    go_enter Tryd.func21, Tryd.ntmps21
    go_wp2_with fail
    refine (P.out _).mono ?_
    rintro e w1 ⟨rfl, rfl⟩
    go_wp2
    go_ret
    exact ⟨rfl, rfl⟩
end Go.Proofs.YtoihkeilofpcjaaDoor

namespace Go.Proofs.YtoihkeilofpcjaaDoor
open Go.RowKit Go.Lib

set_option maxRecDepth 100000 in
theorem of_any (a d : List UInt8) (w : World) (hd : d.length ≤ 140737488350000) :
    Calls Tryd.prog 14 #[.string (bs a), .string (bs d)] w fun e w' => e = .returned (.agg #[.string (bs a), .int .i64 d.length, .int .u32 (Crc.sum d : Nat)]) ∧ w' = w.alloc (.cells #[.string (bs a), .int .i64 d.length, .int .u32 (Crc.sum d : Nat)] 42) := by
  have hz : (bs d).size = d.length := bs_size d
  have HS := Lib.hid (fun W => fsum_bs d W (by rw [bs_size]; unfold maxLen; omega))
  go_enter Tryd.func14, Tryd.ntmps14
  go_wp2_with fail
  refine (HS.out _).mono ?_
  rintro e w1 ⟨rfl, rfl⟩
  go_wp2
  exact bodyPost_ret (v := .agg #[.string (bs a), .int .i64 d.length, .int .u32 (Crc.sum d : Nat)]) (by simp [results, Tryd.results14, go_sem]) rfl ⟨rfl, rfl⟩

set_option maxRecDepth 100000 in
theorem meets_any (v0 : ByteArray) (mn mx lv se sa : Int) (v6 v7 : Value) (a b : Int) (w : World) :
    Calls Tryd.prog 16 #[.agg #[.string v0, .int .i64 mn, .int .i64 mx, .int .i64 lv, .int .i64 se, .int .i64 sa, v6, v7], .int .i64 a, .int .i64 b] w fun e w' => e = .returned (.bool (decide (mn < b) && decide (a < mx))) ∧ Below w.heap.size w w' := by
  by_cases h : mn < b
  · have h1 : decide (mn < b) = true := decide_eq_true h
    have H := Lib.hid (show (decide (mn < b) && decide (a < mx)) = decide (a < mx) by rw [h1]; rfl)
    rw [H.out]
    clear h
    go_enter Tryd.func16, Tryd.ntmps16
    go_wp2
    go_ret
    exact ⟨rfl, (Below.refl _ _).alloc (Nat.le_refl _) _⟩
  · have h1 : decide (mn < b) = false := decide_eq_false h
    have H := Lib.hid (show (decide (mn < b) && decide (a < mx)) = false by rw [h1]; rfl)
    rw [H.out]
    clear h
    go_enter Tryd.func16, Tryd.ntmps16
    go_wp2
    go_ret
    exact ⟨rfl, (Below.refl _ _).alloc (Nat.le_refl _) _⟩

set_option maxHeartbeats 1000000 in
set_option maxRecDepth 100000 in
theorem encMark_any (id : List UInt8) (n : Nat) (w : World) (hid : id.length ≤ 1000000) (hn : n ≤ 9223372036854775807) :
    Calls Tryd.prog 19 #[.string (bs id), .int .i64 n] w fun e w' => e = .returned (.string (bs (Fr.rec 2 (Mt.mkB id n)))) ∧ Below w.heap.size w w' := by
  obtain ⟨m, hm⟩ : ∃ m, (Leb.encT id).length = m := ⟨_, rfl⟩
  obtain ⟨r, hr⟩ : ∃ r, r = Fr.rec 2 (Mt.mkB id n) := ⟨_, rfl⟩
  obtain ⟨q, hq⟩ : ∃ q, r.length = q := ⟨_, rfl⟩
  have hmb : m ≤ 1000010 := by
    have := (Leb.encU_len id.length).2
    rw [← hm, Leb.encT, List.length_append]; omega
  have hkb : (Mt.mkB id n).length ≤ 1000100 := by
    have := (Leb.encU_len n).2
    rw [Mt.mkB, List.length_append, hm]; omega
  have hq0 : 0 < q := by rw [← hq, hr]; have := (Fr.rec_len 2 (Mt.mkB id n)).1; omega
  have T1 := Lib.hid (fun W => text_new (bs id) (Leb.encT id) m rfl hm W (by rw [bs_size]; omega))
  have A1 := Lib.hid (fun W => append_new 2 (Mt.mkB id n) r q hr.symm hq hq0 W (by omega))
  have hn0 : (0 : Int) ≤ n := by omega
  have hn1 : ¬ ((n : Int) < 0) := by omega
  have hmx : max (n : Int) 0 = n := by omega
  have hw : IntKind.u64.wrap (n : Int) = n := by rw [show IntKind.u64.wrap (n : Int) = (n : Int) % 18446744073709551616 by simp [IntKind.wrap, IntKind.bits, IntKind.signed]]; omega
  have HM := Lib.hid hm
  rw [← hr]
  clear hm hq hr
  go_enter Tryd.func19, Tryd.ntmps19
  go_wp2_with fail
  refine (T1.out _).mono ?_
  rintro e w1 ⟨a1, k1, rfl, h1, b1⟩
  go_wp2_with fail
  refine (uint_any w.heap.size _ m _ n _ (by unfold Leb.two64; omega) h1 (by omega) b1.size).mono ?_
  rintro e w2 ⟨v2, rfl, x2⟩
  have s2 : Sl w2 w.heap.size 1 v2 (m + (Leb.encU n).length) (cb (Mt.mkB id n)) := by
    have := x2.now
    rwa [← cb_append] at this
  have b2 : Below w.heap.size w w2 := b1.trans (x2.below (Nat.le_refl _) b1.size)
  have c2 := text_conv s2
  go_wp2_with fail
  refine (A1.out _).mono ?_
  rintro e w3 ⟨g3, o3, k3, rfl, _, _, h3, b3⟩
  have c3 := text_conv h3
  go_wp2
  go_ret
  exact ⟨rfl, below_step b2 b3⟩

/-- How a taker is handed about. -/
def stV (st : Mt.St) : Value := .agg #[.string (bs st.1), .int .i64 st.2]
theorem tk_new (w : World) (l : List UInt8) (e : Nat) (t : TypeId) (b : Nat) (hb : b = w.heap.size) : Tk (w.alloc (.cells #[.string (bs l), .int .i64 e] t)) b (l, e) := by
  subst hb
  have h := heap_alloc_new w (.cells #[.string (bs l), .int .i64 e] t)
  refine ⟨by simp, ?_, ?_, ?_, ?_⟩
  · rw [Lib.cell_of_heap h]; rfl
  · rw [Lib.cell_of_heap h]; rfl
  · simp only [World.frozen?, h]; simp
  · simp only [World.frozen?, h]; simp

set_option maxHeartbeats 1000000 in
set_option maxRecDepth 100000 in
theorem open_any (s : List UInt8) (k : UInt8) (w : World) (hs : s.length ≤ 140737488350000) :
    Calls Tryd.prog 39 #[.string (bs s), .int .u8 k.toNat] w fun e w' => e = .returned (stV (Mt.opn s k)) ∧ Below w.heap.size w w' := by
  have hT := bs_toList
  obtain ⟨k1, d, rest, er, hN⟩ : ∃ k1 d rest er, Fr.next s = ((k1, d), rest, er) := ⟨_, _, _, _, rfl⟩
  have N := Lib.hid (fun W => show Calls Tryd.prog 51 #[.string (bs s)] W (fun e w' => e = .returned (.tuple #[.agg #[.int .u8 k1.toNat, .string (bs d)], .string (bs rest), .int .i64 er]) ∧ Below W.heap.size W w') by
    have := next_any s W hs
    rw [hN] at this
    exact this)
  obtain ⟨so, hso⟩ : ∃ so, so = (decide (rest = []) && decide (k1 = k)) := ⟨_, rfl⟩
  have HO := Lib.hid (show Mt.opn s k = Mt.dem (d, er) so by rw [hso]; unfold Mt.opn; rw [hN])
  have D := Lib.hid (fun b W h => tkd_any b (d, er) so W h)
  obtain ⟨st, hst⟩ : ∃ st, st = Mt.dem (d, er) so := ⟨_, rfl⟩
  rw [HO.out, ← hst]
  rw [← hst] at D
  clear hN hs hst HO
  have hk : (((k1.toNat : Int) == k.toNat) = true ∧ decide (k1 = k) = true) ∨ (((k1.toNat : Int) == k.toNat) = false ∧ decide (k1 = k) = false) := by
    by_cases e : k1 = k
    · exact .inl ⟨by rw [e]; simp, decide_eq_true e⟩
    · refine .inr ⟨?_, decide_eq_false e⟩
      rw [beq_eq_false_iff_ne]
      exact fun h => e (UInt8.toNat_inj.1 (by omega))
  have hr : rest = [] ∨ ∃ c r, rest = c :: r := by cases rest <;> simp
  rcases hr with rfl | ⟨c, r, rfl⟩ <;> rcases hk with ⟨hk1, hk2⟩ | ⟨hk1, hk2⟩ <;> rw [hk2] at hso <;> simp only [decide_true, decide_false, Bool.and_true, Bool.and_false, reduceCtorEq] at hso <;> subst hso <;> clear hk2
  all_goals
    go_enter Tryd.func39, Tryd.ntmps39
    go_wp2_with fail
    refine (N.out _).mono ?_
    rintro e w1 ⟨rfl, b1⟩
    have z1 := b1.size
    simp at z1
    have q0 := b1.cell (p := ⟨w.heap.size, 0, none⟩) (by simp)
    have q1 := b1.cell (p := ⟨w.heap.size, 1, none⟩) (by simp)
    have g0 := b1.frozen (p := ⟨w.heap.size, 0, none⟩) (by simp)
    have g1 := b1.frozen (p := ⟨w.heap.size, 1, none⟩) (by simp)
    simp [go_sem] at q0 q1 g0 g1
    go_wp2_with fail
    refine (D.out (w1.heap.size + 1) _ (tk_new _ d er _ _ (by simp))).mono ?_
    rintro e w2 ⟨rfl, t2, u2⟩
    have T2 := Lib.hid t2
    obtain ⟨_, c0, c1, _, _⟩ := t2
    have bw := fun A B => ((Below.refl w1.heap.size w1).alloc (Nat.le_refl _) A).alloc (by simp) B
    have r0 := ((u2.cell (p := ⟨w.heap.size, 0, none⟩) (by simp; omega) (by simp; omega)).trans ((bw _ _).cell (p := ⟨w.heap.size, 0, none⟩) (by simp; omega))).trans q0
    have r1 := ((u2.cell (p := ⟨w.heap.size, 1, none⟩) (by simp; omega) (by simp; omega)).trans ((bw _ _).cell (p := ⟨w.heap.size, 1, none⟩) (by simp; omega))).trans q1
    have s0 := ((u2.frozen (p := ⟨w.heap.size, 0, none⟩) (by simp; omega) (by simp; omega)).trans ((bw _ _).frozen (p := ⟨w.heap.size, 0, none⟩) (by simp; omega))).trans g0
    have s1 := ((u2.frozen (p := ⟨w.heap.size, 1, none⟩) (by simp; omega) (by simp; omega)).trans ((bw _ _).frozen (p := ⟨w.heap.size, 1, none⟩) (by simp; omega))).trans g1
    clear bw q0 q1 g0 g1
    have hb : Below w.heap.size w w2 := (((((Below.refl w.heap.size w).alloc (Nat.le_refl _) _).trans (b1.mono (by simp))).alloc (by omega) _).alloc (by simp; omega) _).trans (u2.below (by simp; omega) (fun k hk => by omega))
    go_wp2
    exact bodyPost_ret (v := stV st) (by simp [results, Tryd.results39, go_sem, r0, r1, stV]) rfl ⟨rfl, (hb.setCell (Nat.le_refl _) _).setCell (Nat.le_refl _) _⟩

/-- What DecodeMark answers. -/
def dmkV (p : List UInt8 × Nat × Mt.St) : Value := if p.2.2.2 = 0 then .tuple #[.string (bs p.1), .int .i64 p.2.1, .int .i64 0] else .tuple #[.string (bs []), .int .i64 0, .int .i64 p.2.2.2]

theorem tn_len (st : Mt.St) (most : Int) : (Mt.tn st most).2.1.length ≤ st.1.length := by
  unfold Mt.tn
  split
  · exact Nat.le_refl _
  · show (Leb.takeM st.1 most).2.1.length ≤ _
    unfold Leb.takeM
    split
    · simp
    · split
      · simp
      · exact Leb.dec_left _ _ _
theorem tt_len (st : Mt.St) (most : Int) : (Mt.tt st most).2.1.length ≤ st.1.length := by
  unfold Mt.tt
  split
  · exact Nat.le_refl _
  · show (Leb.takeT st.1 most).2.1.length ≤ _
    unfold Leb.takeT
    split
    · simp
    · split
      · simp
      · have := tn_len (st.1, 0) most
        unfold Mt.tn at this
        rw [if_neg (by simp)] at this
        simp only at this ⊢
        rw [List.length_drop]
        omega
theorem opn_len (s : List UInt8) (k : UInt8) : (Mt.opn s k).1.length ≤ s.length := by
  have h : (Fr.next s).1.2.length ≤ s.length := by
    cases s with
    | nil => simp [Fr.next]
    | cons c l =>
      rw [Fr.next]
      split
      · simp
      · split
        · simp
        · split
          · simp
          · have := tn_len (l, 0) 1048576
            unfold Mt.tn at this
            rw [if_neg (by simp)] at this
            simp only at this
            simp only [List.length_take, List.length_drop, List.length_cons]
            omega
  unfold Mt.opn Mt.dem
  split <;> exact h
end Go.Proofs.YtoihkeilofpcjaaDoor
