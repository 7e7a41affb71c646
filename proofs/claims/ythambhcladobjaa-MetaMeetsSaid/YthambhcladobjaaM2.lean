/- Layer 9: the taker's methods. -/
import Derived.Test.YthambhcladobjaaZ5
import Derived.Test.YthambhcladobjaaTurn
import Derived.Test.YthambhcladobjaaRd
import Derived.Test.YthambhcladobjaaI4
import Derived.Test.YthambhcladobjaaM1
import Derived.IntWalk
namespace Go.Proofs.Ythambhcladobjaa
open Go.RowKit Go.Lib

/-- A taker lies in block b. -/
def Tk (w : World) (b : Nat) (st : Mt.St) : Prop :=
  b < w.heap.size ∧ w.cell? ⟨b, 0, none⟩ = some (.string (bs st.1)) ∧ w.cell? ⟨b, 1, none⟩ = some (.int .i64 st.2) ∧ w.frozen? ⟨b, 0, none⟩ = false ∧ w.frozen? ⟨b, 1, none⟩ = false
theorem Tk.drewN {w : World} {b : Nat} {st : Mt.St} (h : Tk w b st) (n : Nat) : Tk (w.drewN n) b st := h
theorem Tk.turn {S : Nat → Prop} {w w' : World} {b : Nat} {st : Mt.St} (h : Tk w b st) (t : Turn S w w') (hS : ¬ S b) : Tk w' b st :=
  ⟨Nat.lt_of_lt_of_le h.1 t.size, (t.cell (p := ⟨b, 0, none⟩) h.1 hS).trans h.2.1, (t.cell (p := ⟨b, 1, none⟩) h.1 hS).trans h.2.2.1, (t.frozen (p := ⟨b, 0, none⟩) h.1 hS).trans h.2.2.2.1, (t.frozen (p := ⟨b, 1, none⟩) h.1 hS).trans h.2.2.2.2⟩
theorem Tk.below {w w' : World} {b : Nat} {st : Mt.St} (h : Tk w b st) (t : Below w.heap.size w w') : Tk w' b st := h.turn (S := fun _ => False) (Turn.of_below t) id
theorem tk_err {w : World} {b : Nat} {st : Mt.St} (h : Tk w b st) (n : Nat) : Tk (w.setCell ⟨b, 1, none⟩ (.int .i64 n)) b (st.1, n) := by
  refine ⟨by simpa [World.setCell] using h.1, ?_, ?_, ?_, ?_⟩
  · rw [cell_setCell_other _ _ _ _ _ (.inr (by simp))]; exact h.2.1
  · exact cell_setCell_same _ _ _ _ (by rw [h.2.2.1]; rfl)
  · rw [frozen_setCell]; exact h.2.2.2.1
  · rw [frozen_setCell]; exact h.2.2.2.2
theorem tk_rest {w : World} {b : Nat} {st : Mt.St} (h : Tk w b st) (l : List UInt8) : Tk (w.setCell ⟨b, 0, none⟩ (.string (bs l))) b (l, st.2) := by
  refine ⟨by simpa [World.setCell] using h.1, ?_, ?_, ?_, ?_⟩
  · exact cell_setCell_same _ _ _ _ (by rw [h.2.1]; rfl)
  · rw [cell_setCell_other _ _ _ _ _ (.inr (by simp))]; exact h.2.2.1
  · rw [frozen_setCell]; exact h.2.2.2.1
  · rw [frozen_setCell]; exact h.2.2.2.2

/-- An answer; the taker is at st'. -/
def TkP (b : Nat) (w : World) (v : Value) (st' : Mt.St) (e : Ending) (w' : World) : Prop := e = .returned v ∧ Tk w' b st' ∧ Turn (fun k => k = b) w w'

theorem turn_two (b : Nat) (w : World) (n : Nat) (u v : Value) : Turn (fun k => k = b) w (((w.drewN n).setCell ⟨b, 0, none⟩ u).setCell ⟨b, 1, none⟩ v) :=
  Turn.setCell (S := fun k => k = b) (Turn.setCell (S := fun k => k = b) (Turn.of_below (below_draw (Below.refl _ _) n)) ⟨b, 0, none⟩ u rfl) ⟨b, 1, none⟩ v rfl

set_option maxHeartbeats 1000000 in
set_option maxRecDepth 100000 in
theorem tkn_any (b : Nat) (st : Mt.St) (most : Int) (w : World) (h : Tk w b st) (hl : st.1.length ≤ 140737488350000) (hm : -9223372036854775808 ≤ most) (hm' : most ≤ 9223372036854775807) :
    Calls Try.prog 56 #[.pointer (some ⟨b, 0, none⟩), .int .i64 most] w (TkP b w (.int .i64 (Mt.tn st most).1) (Mt.tn st most).2) := by
  obtain ⟨l, er⟩ := st
  have H := Lib.hid h
  obtain ⟨_, c0, c1, f0, f1⟩ := h
  simp only at c0 c1 hl
  by_cases he : er = 0
  · subst he
    obtain ⟨u, r, e, hT⟩ : ∃ u r e, Leb.takeM l most = (u, r, e) := ⟨_, _, _, rfl⟩
    have HM := Lib.hid (show Leb.takeM (bs l).data.toList most = (u, r, e) from hT)
    have HN := Lib.hid (show Mt.tn (l, 0) most = (u, (r, e)) by unfold Mt.tn; rw [if_neg (by simp)]; simp only; rw [hT])
    rw [HN.out]
    have z1 : (bs l).size ≤ maxLen := by rw [bs_size]; unfold maxLen; omega
    clear hT hl
    go_enter Try.func56, Try.ntmps56
    go_wp2_with fail
    refine (takeM_is HM.out _ z1 hm hm').mono ?_
    rintro e w1 ⟨rfl, n, rfl⟩
    go_wp2
    go_ret
    exact ⟨rfl, tk_err (tk_rest (H.out.drewN n) r) _, turn_two _ _ _ _ _⟩
  · have HN := Lib.hid (show Mt.tn (l, er) most = (0, (l, er)) by unfold Mt.tn; rw [if_pos he])
    rw [HN.out]
    have he' : ((er : Int) == 0) = false := by rw [beq_eq_false_iff_ne]; omega
    have he2 : ((er : Int) != 0) = true := by rw [bne, he']; rfl
    clear hl he
    go_enter Try.func56, Try.ntmps56
    go_wp2
    go_ret
    exact ⟨rfl, H.out, Turn.refl _ _⟩

set_option maxHeartbeats 1000000 in
set_option maxRecDepth 100000 in
theorem tkt_any (b : Nat) (st : Mt.St) (most : Int) (w : World) (h : Tk w b st) (hl : st.1.length ≤ 140737488350000) (hm : -9223372036854775808 ≤ most) (hm' : most ≤ 9223372036854775807) :
    Calls Try.prog 55 #[.pointer (some ⟨b, 0, none⟩), .int .i64 most] w (TkP b w (.string (bs (Mt.tt st most).1)) (Mt.tt st most).2) := by
  obtain ⟨l, er⟩ := st
  have H := Lib.hid h
  obtain ⟨_, c0, c1, f0, f1⟩ := h
  simp only at c0 c1 hl
  by_cases he : er = 0
  · subst he
    obtain ⟨u, r, e, hT⟩ : ∃ u r e, Leb.takeT l most = (u, r, e) := ⟨_, _, _, rfl⟩
    have HM := Lib.hid (fun W => show Calls Try.prog 75 #[.string (bs l), .int .i64 most] W (fun e' w' => e' = .returned (.tuple #[.string (bs u), .string (bs r), .int .i64 e]) ∧ ∃ n, w' = W.drewN n) by
      have := takeT_any (bs l) most W (by rw [bs_size]; unfold maxLen; omega) hm hm'
      rw [bs_list, hT] at this
      exact this)
    have HN := Lib.hid (show Mt.tt (l, 0) most = (u, (r, e)) by unfold Mt.tt; rw [if_neg (by simp)]; simp only; rw [hT])
    rw [HN.out]
    clear hT hl
    go_enter Try.func55, Try.ntmps55
    go_wp2_with fail
    refine (HM.out _).mono ?_
    rintro e w1 ⟨rfl, n, rfl⟩
    go_wp2
    go_ret
    exact ⟨rfl, tk_err (tk_rest (H.out.drewN n) r) _, turn_two _ _ _ _ _⟩
  · have HN := Lib.hid (show Mt.tt (l, er) most = ([], (l, er)) by unfold Mt.tt; rw [if_pos he])
    rw [HN.out]
    have he' : ((er : Int) == 0) = false := by rw [beq_eq_false_iff_ne]; omega
    have he2 : ((er : Int) != 0) = true := by rw [bne, he']; rfl
    clear hl he
    go_enter Try.func55, Try.ntmps55
    go_wp2
    go_ret
    exact ⟨rfl, H.out, Turn.refl _ _⟩

/-- No answer; the taker is at st'. -/
def TkE (b : Nat) (w : World) (st' : Mt.St) (e : Ending) (w' : World) : Prop := e = .returned (.tuple #[]) ∧ Tk w' b st' ∧ Turn (fun k => k = b) w w'

set_option maxHeartbeats 1000000 in
set_option maxRecDepth 100000 in
theorem tkd_any (b : Nat) (st : Mt.St) (so : Bool) (w : World) (h : Tk w b st) :
    Calls Try.prog 57 #[.pointer (some ⟨b, 0, none⟩), .bool so] w (TkE b w (Mt.dem st so)) := by
  obtain ⟨l, er⟩ := st
  have H := Lib.hid h
  obtain ⟨_, c0, c1, f0, f1⟩ := h
  simp only at c0 c1
  by_cases he : er = 0
  · subst he
    cases so
    · have HN := Lib.hid (show Mt.dem (l, 0) false = (l, 3) from rfl)
      rw [HN.out]
      go_enter Try.func57, Try.ntmps57
      go_wp2
      go_end0
      exact ⟨rfl, tk_err H.out 3, (Turn.refl _ _).setCell _ _ rfl⟩
    · have HN := Lib.hid (show Mt.dem (l, 0) true = (l, 0) from rfl)
      rw [HN.out]
      go_enter Try.func57, Try.ntmps57
      go_wp2
      go_end0
      exact ⟨rfl, H.out, Turn.refl _ _⟩
  · have HN := Lib.hid (show Mt.dem (l, er) so = (l, er) by unfold Mt.dem; rw [if_neg (by simp [he])])
    rw [HN.out]
    have he' : ((er : Int) == 0) = false := by rw [beq_eq_false_iff_ne]; omega
    have he2 : ((er : Int) != 0) = true := by rw [bne, he']; rfl
    clear he
    go_enter Try.func57, Try.ntmps57
    go_wp2
    go_end0
    exact ⟨rfl, H.out, Turn.refl _ _⟩

theorem pars_isN (l : List UInt8) : (pars l).isSome = Mt.isN l := by
  unfold pars Mt.isN
  split
  · rename_i h
    rw [decide_eq_true h]
    cases Idn.num (l.take 8) 0 <;> cases Idn.num (l.drop 8) 0 <;> rfl
  · rename_i h
    rw [decide_eq_false h]
    rfl
set_option maxRecDepth 100000 in
theorem isName_any (l : List UInt8) (w : World) : Calls Try.prog 58 #[.string (bs l)] w fun e w' => e = .returned (.bool (Mt.isN l)) ∧ w = w' := by
  have P := Lib.hid (fun W => show Calls Try.prog 77 #[.string (bs l)] W (fun e w' => e = .returned (parsV (pars l)) ∧ W = w') from parse_any (bs l) W)
  obtain ⟨p, hp⟩ : ∃ p, p = pars l := ⟨_, rfl⟩
  have HN := Lib.hid (show Mt.isN l = p.isSome by rw [hp, pars_isN])
  rw [← hp] at P
  rw [HN.out]
  clear hp
  cases p with
  | none =>
    unfold parsV at P
    go_enter Try.func58, Try.ntmps58
    go_wp2_with fail
    refine (P.out _).mono ?_
    rintro e w1 ⟨rfl, rfl⟩
    go_wp2
    go_ret
    exact ⟨rfl, rfl⟩
  | some p =>
    obtain ⟨a, b⟩ := p
    unfold parsV at P
    go_enter Try.func58, Try.ntmps58
    go_wp2_with fail
    refine (P.out _).mono ?_
    rintro e w1 ⟨rfl, rfl⟩
    go_wp2
    go_ret
    exact ⟨rfl, rfl⟩
end Go.Proofs.Ythambhcladobjaa
