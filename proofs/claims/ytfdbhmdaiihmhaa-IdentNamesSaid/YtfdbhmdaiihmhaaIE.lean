/- The statement IdentNames, walked. -/
import Derived.Test.YtfdbhmdaiihmhaaID
namespace Go.Proofs.Ytfdbhmdaiihmhaa
open Go.RowKit Go.Lib

set_option maxHeartbeats 8000000 in
set_option maxRecDepth 100000 in
theorem names_id (t s : Int) (x : ByteArray) (w : World) :
    Calls Try.prog 5 #[.int .i64 t, .int .i64 s, .string x] w fun e w' => e = .returned (.bool true) ∧ Below w.heap.size w w' := by
  have hT := bs_toList
  obtain ⟨l, hl, hl40⟩ := cut_list x 40
  have HL := Lib.hid hl
  have M1 := Lib.hid (fun W => mk2_any t s W)
  have M2 := Lib.hid (fun W => rmake_any t s W)
  have P1 := Lib.hid (fun W => show Calls Try.prog 24 #[.string (bs l)] W (fun e w' => e = .returned (parsV (pars l)) ∧ W = w') from parse_any (bs l) W)
  have P2 := Lib.hid (fun W => show Calls Try.prog 25 #[.string (bs l)] W (fun e w' => e = .returned (rparV (pars l)) ∧ Drw W w') from rparse_id (bs l) W)
  have S1 := Lib.hid (fun W => show Calls Try.prog 26 #[.string (bs l)] W (fun e w' => e = .returned (splV (spl l)) ∧ Drw W w') from split_id (bs l) W (by rw [bs_size]; omega))
  have S2 := Lib.hid (fun W => rsplit_id l W hl40)
  obtain ⟨p, hp⟩ : ∃ p, p = mk2 t s := ⟨_, rfl⟩
  rw [← hp] at M1 M2
  obtain ⟨q, hq⟩ : ∃ q, q = pars l := ⟨_, rfl⟩
  rw [← hq] at P1 P2
  obtain ⟨r, hr⟩ : ∃ r, r = spl l := ⟨_, rfl⟩
  rw [← hr] at S1 S2
  clear hp hq hr hl hl40
  rcases p with _ | p <;> rcases q with _ | ⟨a, b⟩ <;> rcases r with _ | ⟨c, d⟩ <;> unfold mk2V at M1 <;> unfold rmkV at M2 <;> unfold parsV at P1 <;> unfold rparV at P2 <;> unfold splV at S1 S2
  all_goals
    go_enter Try.func5, Try.ntmps5
    go_wp2_with (go_at_call 21; refine (cut_is x l 40 40 rfl HL.out _).mono ?_; rintro e w1 ⟨rfl, rfl⟩)
    with_reducible refine (M1.out _).mono ?_
    rintro e w1 ⟨rfl, b1⟩
    go_wp2_with fail
    with_reducible refine (M2.out _).mono ?_
    rintro e w2 ⟨rfl, rfl⟩
    go_wp2_with fail
    with_reducible refine (P1.out _).mono ?_
    rintro e w2 ⟨rfl, rfl⟩
    go_wp2_with fail
    with_reducible refine (P2.out _).mono ?_
    rintro e w2 ⟨rfl, d2⟩
    go_wp2_with fail
    with_reducible refine (S1.out _).mono ?_
    rintro e w3 ⟨rfl, d3⟩
    go_wp2_with fail
    with_reducible refine (S2.out _).mono ?_
    rintro e w4 ⟨rfl, d4⟩
    go_wp2_with fail
    refine (iawake_any _).mono ?_
    rintro e w5 ⟨rfl, b5⟩
    go_wp2
    go_ret
    exact ⟨rfl, below_step (Drw.below (Drw.below (Drw.below b1 d2) d3) d4) b5⟩
end Go.Proofs.Ytfdbhmdaiihmhaa
