/- Layer 7's statements: one spelling. -/
import Derived.Test.YtiogpdkjgdahfaaDoorOE
namespace Go.Proofs.YtiogpdkjgdahfaaDoor
open Go.RowKit Go.Lib

set_option maxHeartbeats 1000000 in
set_option maxRecDepth 100000 in
theorem xone_any (s : ByteArray) (w : World) (hT : Tabs w.heap.size w) :
    Calls Tryd.prog 3 #[.string s] w fun e w' => e = .returned (.bool true) ∧ Below w.heap.size w w' := by
  have hBS := bs_toList
  obtain ⟨l, hl, hl200⟩ := cut_list s 200
  have CU := Lib.hid (fun W => cut_is s l 200 200 rfl hl W)
  have AW := Lib.hid (fun W (b : Below w.heap.size w W) => xawake_any w.heap.size W (hT.below b (Nat.le_refl _)))
  have SA := Lib.hid (fun W (b : Below w.heap.size w W) => samples_any w.heap.size l W (by omega) (hT.below b (Nat.le_refl _)))
  have HB0 := Lib.hid (Below.refl w.heap.size w)
  obtain ⟨er, q, hq⟩ : ∃ er q, Xo.samplesM l = (er, q) := ⟨_, _, rfl⟩
  unfold SamP at SA
  rw [hq] at SA
  simp only at SA
  by_cases he : er = 0
  · subst he
    obtain ⟨hg, htx⟩ := Xo.samplesM_good l q hq
    have OF := Lib.hid (fun v W (b : Below w.heap.size w W) (hv : Rd W 2 v q.length (smc q)) => of_good w.heap.size v q W hv hg (hT.below b (Nat.le_refl _)))
    rw [htx] at OF
    simp only [if_true] at SA
    clear hT hq hl hg htx hl200
    go_enter Tryd.func3, Tryd.ntmps3
    go_wp2_with fail
    refine (CU.out _).mono ?_
    rintro e w1 ⟨rfl, rfl⟩
    go_wp2_with fail
    refine (SA.out _ HB0.out).mono ?_
    rintro e w2 ⟨b2, a, cap, rfl, sl⟩
    go_wp2_with fail
    refine (OF.out _ w2 b2 (Rd.of_sl sl)).mono ?_
    rintro e w3 ⟨rfl, b3⟩
    have b03 := b2.trans (b3.mono b2.size)
    go_wp2_with fail
    refine (AW.out w3 b03).mono ?_
    rintro e w4 ⟨rfl, b4⟩
    have b04 := Lib.hid (b03.trans (b4.mono b03.size))
    clear b03 b3 b4 b2
    go_wp2_with fail
    go_ret
    exact ⟨by simp, b04.out⟩
  · have hez : ((er : Int) == 0) = false := by simp; omega
    simp only [if_neg he] at SA
    clear hT hq hl hl200 he
    go_enter Tryd.func3, Tryd.ntmps3
    go_wp2_with fail
    refine (CU.out _).mono ?_
    rintro e w1 ⟨rfl, rfl⟩
    go_wp2_with fail
    refine (SA.out _ HB0.out).mono ?_
    rintro e w2 ⟨b2, rfl⟩
    go_wp2_with fail
    refine (AW.out w2 b2).mono ?_
    rintro e w4 ⟨rfl, b4⟩
    have b04 := Lib.hid (b2.trans (b4.mono b2.size))
    clear b4 b2
    go_wp2_with fail
    go_ret
    exact ⟨rfl, b04.out⟩
end Go.Proofs.YtiogpdkjgdahfaaDoor
