/- BucketAgain. -/
import Derived.Test.YtfjihookoilnnaaG7
namespace Go.Proofs.Ytfjihookoilnnaa
open Go.Conc Go.RowKit

abbrev nO : ByteArray := ⟨#[111]⟩
set_option maxHeartbeats 2000000 in
set_option maxRecDepth 100000 in
theorem bagain_any (a0 : ByteArray) (a1 : Bool) (a2 : Int) (w : World) : Calls Try.prog 6 #[.string a0, .bool a1, .int .i64 a2] w fun e w' => e = .returned (.bool true) ∧ Below w.heap.size w w' := by
  have HN := Lib.hid (fun W => bnew_home W)
  have HA := Lib.hid (fun W => bawake_any W)
  obtain ⟨s, hs⟩ : ∃ s, s = cutB a0 60 := ⟨_, rfl⟩
  have HC := fun W => cut_any a0 60 W (by decide)
  rw [show (60 : Int).toNat = 60 from rfl, ← hs] at HC
  have HCut := Lib.hid HC
  clear HC hs
  have hr : ∀ d, tryL [(max (0 : Int) 0, d)] = ((false, d), []) := fun d => rfl
  cases a1
  · go_enter Try.func6, Try.ntmps6
    go_wp2_with fail
    refine (HCut.out _).mono ?_
    rintro e x ⟨rfl, rfl⟩
    go_wp2_with fail
    refine (HN.out _).mono ?_
    rintro e w1 ⟨k, f, c, m, rfl, D1, hH, b1⟩
    have e1 := D1.c0
    go_wp2_with fail
    refine (HA.out _).mono ?_
    rintro e w2 ⟨rfl, b2⟩
    have D2 := D1.below b2
    have e2 := D2.c0
    have C1 := Lib.hid (barm0 w.heap.size k f c m _ 0 false w2 D2 hH (by unfold Ft.Fits; decide))
    go_wp2_with fail
    refine C1.out.mono ?_
    rintro e w3 ⟨rfl, D3, b3⟩
    have C2 := Lib.hid (bput_go w.heap.size k f c m _ _ nO s a2 w3 D3 hH (by decide))
    go_wp2_with fail
    refine C2.out.mono ?_
    rintro e w4 ⟨he, ⟨c4, D4⟩, b4⟩
    rw [show (if (tryL [(max (0 : Int) 0, false)]).1.1 = true then (0 : Int) else 8) = 8 from rfl] at he
    subst he
    change Bk k f c m [] [] w4 at D4
    have C3 := Lib.hid (bpeek k f c m _ _ nO w4 D4)
    go_wp2_with fail
    refine C3.out.mono ?_
    rintro e w5 ⟨he, b5⟩
    change e = .returned (.tuple #[.string ByteArray.empty, .bool false]) at he
    subst he
    have D5 := D4.below b5
    have C4 := Lib.hid (bput_go w.heap.size k f c m _ _ nO s a2 w5 D5 hH (by decide))
    clear C1 C2 C3 e1 e2
    go_wp2_with fail
    refine C4.out.mono ?_
    rintro e w6 ⟨he, ⟨c6, D6⟩, b6⟩
    rw [show (if (tryL []).1.1 = true then (0 : Int) else 8) = 0 from rfl] at he
    subst he
    change Bk k f c m [⟨nO, s, a2, c6⟩] [] w6 at D6
    have C5 := Lib.hid (bpeek k f c m _ _ nO w6 D6)
    go_wp2_with fail
    refine C5.out.mono ?_
    rintro e w7 ⟨he, b7⟩
    rw [show peekO nO [⟨nO, s, a2, c6⟩] = s by simp [peekO, lookO], show (lookO nO [⟨nO, s, a2, c6⟩]).isSome = true by simp [lookO]] at he
    subst he
    have D7 := D6.below b7
    have e7 := D7.c0
    have C6 := Lib.hid (barm0 w.heap.size k f c m _ 0 false w7 D7 hH (by unfold Ft.Fits; decide))
    go_wp2_with fail
    refine C6.out.mono ?_
    rintro e w8 ⟨rfl, D8, b8⟩
    have C7 := Lib.hid (bdelete w.heap.size k f c m _ _ nO w8 D8 hH)
    clear C4 C5 C6 e7
    go_wp2_with fail
    refine C7.out.mono ?_
    rintro e w9 ⟨he, D9, b9⟩
    rw [show (if (tryL [(max (0 : Int) 0, false)]).1.1 = true then (0 : Int) else 8) = 8 from rfl] at he
    subst he
    change Bk k f c m [⟨nO, s, a2, c6⟩] [] w9 at D9
    have C8 := Lib.hid (bpeek k f c m _ _ nO w9 D9)
    go_wp2_with fail
    refine C8.out.mono ?_
    rintro e w10 ⟨he, b10⟩
    rw [show peekO nO [⟨nO, s, a2, c6⟩] = s by simp [peekO, lookO], show (lookO nO [⟨nO, s, a2, c6⟩]).isSome = true by simp [lookO]] at he
    subst he
    have D10 := D9.below b10
    have C9 := Lib.hid (bdelete w.heap.size k f c m _ _ nO w10 D10 hH)
    clear C7 C8
    go_wp2_with fail
    refine C9.out.mono ?_
    rintro e w11 ⟨he, D11, b11⟩
    rw [show (if (tryL []).1.1 = true then (0 : Int) else 8) = 0 from rfl] at he
    subst he
    rw [show (if (tryL []).1.2 = true then delO nO [⟨nO, s, a2, c6⟩] else [⟨nO, s, a2, c6⟩]) = [] by simp [delO, tryL]] at D11
    change Bk k f c m [] [] w11 at D11
    have C10 := Lib.hid (bpeek k f c m _ _ nO w11 D11)
    go_wp2_with fail
    refine C10.out.mono ?_
    rintro e w12 ⟨he, b12⟩
    change e = .returned (.tuple #[.string ByteArray.empty, .bool false]) at he
    subst he
    go_wp2
    go_ret
    exact ⟨rfl, below_step ((below_step (((below_step ((below_step (((below_step b1 b2).trans b3).trans b4) b5).trans b6) b7).trans b8).trans b9) b10).trans b11) b12⟩
  · go_enter Try.func6, Try.ntmps6
    go_wp2_with fail
    refine (HCut.out _).mono ?_
    rintro e x ⟨rfl, rfl⟩
    go_wp2_with fail
    refine (HN.out _).mono ?_
    rintro e w1 ⟨k, f, c, m, rfl, D1, hH, b1⟩
    have e1 := D1.c0
    go_wp2_with fail
    refine (HA.out _).mono ?_
    rintro e w2 ⟨rfl, b2⟩
    have D2 := D1.below b2
    have e2 := D2.c0
    have C1 := Lib.hid (barm0 w.heap.size k f c m _ 0 true w2 D2 hH (by unfold Ft.Fits; decide))
    go_wp2_with fail
    refine C1.out.mono ?_
    rintro e w3 ⟨rfl, D3, b3⟩
    have C2 := Lib.hid (bput_go w.heap.size k f c m _ _ nO s a2 w3 D3 hH (by decide))
    go_wp2_with fail
    refine C2.out.mono ?_
    rintro e w4 ⟨he, ⟨c4, D4⟩, b4⟩
    rw [show (if (tryL [(max (0 : Int) 0, true)]).1.1 = true then (0 : Int) else 8) = 8 from rfl] at he
    subst he
    change Bk k f c m [⟨nO, s, a2, c4⟩] [] w4 at D4
    have C3 := Lib.hid (bpeek k f c m _ _ nO w4 D4)
    go_wp2_with fail
    refine C3.out.mono ?_
    rintro e w5 ⟨he, b5⟩
    rw [show peekO nO [⟨nO, s, a2, c4⟩] = s by simp [peekO, lookO], show (lookO nO [⟨nO, s, a2, c4⟩]).isSome = true by simp [lookO]] at he
    subst he
    have D5 := D4.below b5
    have C4 := Lib.hid (bput_go w.heap.size k f c m _ _ nO s a2 w5 D5 hH (by decide))
    clear C1 C2 C3 e1 e2
    go_wp2_with fail
    refine C4.out.mono ?_
    rintro e w6 ⟨he, ⟨c6, D6⟩, b6⟩
    rw [show (if (tryL []).1.1 = true then (0 : Int) else 8) = 0 from rfl] at he
    subst he
    rw [show (if (tryL []).1.2 = true then setO nO s a2 c6 [⟨nO, s, a2, c4⟩] else [⟨nO, s, a2, c4⟩]) = [⟨nO, s, a2, c4⟩] by simp [setO, tryL]] at D6
    change Bk k f c m [⟨nO, s, a2, c4⟩] [] w6 at D6
    have C5 := Lib.hid (bpeek k f c m _ _ nO w6 D6)
    go_wp2_with fail
    refine C5.out.mono ?_
    rintro e w7 ⟨he, b7⟩
    rw [show peekO nO [⟨nO, s, a2, c4⟩] = s by simp [peekO, lookO], show (lookO nO [⟨nO, s, a2, c4⟩]).isSome = true by simp [lookO]] at he
    subst he
    have D7 := D6.below b7
    have e7 := D7.c0
    have C6 := Lib.hid (barm0 w.heap.size k f c m _ 0 true w7 D7 hH (by unfold Ft.Fits; decide))
    go_wp2_with fail
    refine C6.out.mono ?_
    rintro e w8 ⟨rfl, D8, b8⟩
    have C7 := Lib.hid (bdelete w.heap.size k f c m _ _ nO w8 D8 hH)
    clear C4 C5 C6 e7
    go_wp2_with fail
    refine C7.out.mono ?_
    rintro e w9 ⟨he, D9, b9⟩
    rw [show (if (tryL [(max (0 : Int) 0, true)]).1.1 = true then (0 : Int) else 8) = 8 from rfl] at he
    subst he
    rw [show (if (tryL [(max (0 : Int) 0, true)]).1.2 = true then delO nO [⟨nO, s, a2, c4⟩] else [⟨nO, s, a2, c4⟩]) = [] by simp [delO, tryL]] at D9
    change Bk k f c m [] [] w9 at D9
    have C8 := Lib.hid (bpeek k f c m _ _ nO w9 D9)
    go_wp2_with fail
    refine C8.out.mono ?_
    rintro e w10 ⟨he, b10⟩
    change e = .returned (.tuple #[.string ByteArray.empty, .bool false]) at he
    subst he
    have D10 := D9.below b10
    have C9 := Lib.hid (bdelete w.heap.size k f c m _ _ nO w10 D10 hH)
    clear C7 C8
    go_wp2_with fail
    refine C9.out.mono ?_
    rintro e w11 ⟨he, D11, b11⟩
    rw [show (if (tryL []).1.1 = true then (0 : Int) else 8) = 0 from rfl] at he
    subst he
    change Bk k f c m [] [] w11 at D11
    have C10 := Lib.hid (bpeek k f c m _ _ nO w11 D11)
    go_wp2_with fail
    refine C10.out.mono ?_
    rintro e w12 ⟨he, b12⟩
    change e = .returned (.tuple #[.string ByteArray.empty, .bool false]) at he
    subst he
    go_wp2
    go_ret
    exact ⟨rfl, below_step ((below_step (((below_step ((below_step (((below_step b1 b2).trans b3).trans b4) b5).trans b6) b7).trans b8).trans b9) b10).trans b11) b12⟩
end Go.Proofs.Ytfjihookoilnnaa
