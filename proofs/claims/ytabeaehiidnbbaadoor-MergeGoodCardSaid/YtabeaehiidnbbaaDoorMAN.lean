/- Layer 14: the library's down over the front, walked. -/
import Derived.Test.YtabeaehiidnbbaaDoorMAL
namespace Go.Proofs.YtabeaehiidnbbaaDoor
open Go.RowKit Go.Lib Hp
set_option linter.unusedVariables false

theorem down_step (lt : Nat → Nat → Bool) (f : Nat → Nat) (i n : Nat) (h : 2 * i + 1 < n) : down lt f i n = if lt (f (less2 lt f i n)) (f i) = true then down lt (swp f i (less2 lt f i n)) (less2 lt f i n) n else f := by
  rw [down, dif_pos h]
theorem down_stop (lt : Nat → Nat → Bool) (f : Nat → Nat) (i n : Nat) (h : ¬ 2 * i + 1 < n) : down lt f i n = f := by
  rw [down, dif_neg h]

set_option maxHeartbeats 4000000 in
set_option maxRecDepth 100000 in
theorem down_FrS {w0 w : World} {F n : Nat} {P f : Nat → Nat} {rv : Value} {cur : Nat → List Sp} {iv : Nat → Value} (h : FrS w0 w F P rv n f cur iv) (i n1 : Nat) (hi : i < n) (hn1 : n1 ≤ n) (hn : n ≤ 1000000) :
    Calls Tryd.prog 41 #[.iface 72 (.pointer (some ⟨F, 0, none⟩)), .int .i64 i, .int .i64 n1] w fun e w' => (∃ b, e = .returned (.bool b)) ∧ FrS w0 w' F P rv n (down (ltS cur) f i n1) cur iv ∧ Bk F rv w w' := by
  have H := Lib.hid h
  obtain ⟨U, hU⟩ : ∃ U, U = down (ltS cur) f i n1 := ⟨_, rfl⟩
  have HU := Lib.hid hU
  rw [← hU]
  have mL := fun k W => mLess_S k F W
  have mS := fun k W => mSwap_S k F W
  clear h hU
  go_enter Tryd.func41, Tryd.ntmps41
  go_wp2_with fail
  go_loopw [7, 8, 9, 10] (fun k' _ _ _ wr => ∃ (k : Nat) (f' : Nat → Nat), k' = .int .i64 k ∧ k < n ∧ Hid (U = down (ltS cur) f' k n1) ∧ FrS w0 wr F P rv n f' cur iv ∧ Bk F rv w wr) (fun k' _ _ _ _ => n - (intOf k').toNat)
  case atStart => exact ⟨i, f, rfl, hi, HU, H.out, Bk.refl _ _ _⟩
  case round =>
    clear HU H
    obtain ⟨k, f', rfl, hk, hu, hfr, hb⟩ := hrel
    have HFR := Lib.hid hfr; have HB := Lib.hid hb
    clear hfr hb
    by_cases hlt' : 2 * k + 1 < n1
    · obtain ⟨J, hJ⟩ : ∃ J, J = 2 * k + 1 := ⟨_, rfl⟩
      have eJ : 2 * (k : Int) + 1 = (J : Int) := by omega
      obtain ⟨J2, hJ2⟩ : ∃ J2, J2 = J + 1 := ⟨_, rfl⟩
      have eJ2 : (J : Int) + 1 = (J2 : Int) := by omega
      have hJn : J < n := by omega
      have c0 : decide ((n1 : Int) ≤ (J : Int)) = false := decide_eq_false (by omega)
      have c00 : decide ((J : Int) < 0) = false := decide_eq_false (by omega)
      have HJ := Lib.hid hJ; have HJ2 := Lib.hid hJ2
      by_cases h2 : J2 < n1
      · have hJ2n : J2 < n := by omega
        have c3 : decide ((J2 : Int) < (n1 : Int)) = true := decide_eq_true (by omega)
        have LS1 := Lib.hid (fless_FrS HFR.out J2 J hJ2n hJn)
        obtain ⟨c1, hc1⟩ : ∃ c1, c1 = ltS cur (f' J2) (f' J) := ⟨_, rfl⟩
        rw [← hc1] at LS1
        have HC1 := Lib.hid hc1
        clear hJ hJ2 hc1
        go_wp2_with fail
        refine LS1.out.mono ?_
        rintro e w2 ⟨rfl, b2⟩
        have hbF2 : F ≤ wr.heap.size := Nat.le_of_lt (Array.getElem?_eq_some_iff.1 HFR.out.box).1
        have F2 := Lib.hid (HFR.out.on b2)
        have B2 := Lib.hid (HB.out.trans (Bk.of b2 hbF2))
        clear b2
        cases c1
        · have L2 := (show less2 (ltS cur) f' k n1 = J by
            have e1 := HJ.out; have e2 := HJ2.out; have e3 := HC1.out
            subst e1; subst e2
            unfold less2; rw [if_neg (by intro hh; rw [hh.2] at e3; cases e3)])
          have LS2 := Lib.hid (fless_FrS F2.out J k hJn (by omega))
          obtain ⟨c2, hc2⟩ : ∃ c2, c2 = ltS cur (f' J) (f' k) := ⟨_, rfl⟩
          rw [← hc2] at LS2
          have STEP := Lib.hid (show U = if c2 = true then down (ltS cur) (swp f' k J) J n1 else f' by rw [hu.out, down_step _ _ _ _ hlt', L2, ← hc2])
          clear hc2
          go_wp2_with fail
          refine LS2.out.mono ?_
          rintro e w4 ⟨rfl, b4⟩
          have hbF4 : F ≤ w2.heap.size := Nat.le_of_lt (Array.getElem?_eq_some_iff.1 F2.out.box).1
          have F4 := Lib.hid (F2.out.on b4)
          have B4 := Lib.hid (B2.out.trans (Bk.of b4 hbF4))
          clear b4
          cases c2
          · have HD := Lib.hid (show U = f' by rw [STEP.out]; rfl)
            clear STEP hu
            go_wp2
            go_ret
            exact ⟨⟨_, rfl⟩, by rw [HD.out]; exact F4.out, B4.out⟩
          · have HD := Lib.hid (show U = down (ltS cur) (swp f' k J) J n1 by rw [STEP.out]; rfl)
            have SW := Lib.hid (fswap_FrS F4.out k J (by omega) hJn)
            clear STEP hu
            go_wp2_with fail
            refine SW.out.mono ?_
            rintro e w5 ⟨rfl, f5, b5⟩
            go_wp2
            exact ⟨⟨J, swp f' k J, rfl, by omega, HD, f5, B4.out.trans b5⟩, by simp [intOf]; omega⟩
        · have L2 := (show less2 (ltS cur) f' k n1 = J2 by
            have e1 := HJ.out; have e2 := HJ2.out; have e3 := HC1.out
            subst e1; subst e2
            unfold less2; rw [if_pos ⟨h2, e3.symm⟩])
          have LS2 := Lib.hid (fless_FrS F2.out J2 k hJ2n (by omega))
          obtain ⟨c2, hc2⟩ : ∃ c2, c2 = ltS cur (f' J2) (f' k) := ⟨_, rfl⟩
          rw [← hc2] at LS2
          have STEP := Lib.hid (show U = if c2 = true then down (ltS cur) (swp f' k J2) J2 n1 else f' by rw [hu.out, down_step _ _ _ _ hlt', L2, ← hc2])
          clear hc2
          go_wp2_with fail
          refine LS2.out.mono ?_
          rintro e w4 ⟨rfl, b4⟩
          have hbF4 : F ≤ w2.heap.size := Nat.le_of_lt (Array.getElem?_eq_some_iff.1 F2.out.box).1
          have F4 := Lib.hid (F2.out.on b4)
          have B4 := Lib.hid (B2.out.trans (Bk.of b4 hbF4))
          clear b4
          cases c2
          · have HD := Lib.hid (show U = f' by rw [STEP.out]; rfl)
            clear STEP hu
            go_wp2
            go_ret
            exact ⟨⟨_, rfl⟩, by rw [HD.out]; exact F4.out, B4.out⟩
          · have HD := Lib.hid (show U = down (ltS cur) (swp f' k J2) J2 n1 by rw [STEP.out]; rfl)
            have SW := Lib.hid (fswap_FrS F4.out k J2 (by omega) hJ2n)
            clear STEP hu
            go_wp2_with fail
            refine SW.out.mono ?_
            rintro e w5 ⟨rfl, f5, b5⟩
            go_wp2
            exact ⟨⟨J2, swp f' k J2, rfl, by omega, HD, f5, B4.out.trans b5⟩, by simp [intOf]; omega⟩
      · have c3 : decide ((J2 : Int) < (n1 : Int)) = false := decide_eq_false (by omega)
        have L2 := (show less2 (ltS cur) f' k n1 = J by
          have e1 := HJ.out; have e2 := HJ2.out
          subst e1; subst e2
          unfold less2; rw [if_neg (by intro hh; exact h2 hh.1)])
        clear hJ hJ2
        have LS2 := Lib.hid (fless_FrS HFR.out J k hJn (by omega))
        obtain ⟨c2, hc2⟩ : ∃ c2, c2 = ltS cur (f' J) (f' k) := ⟨_, rfl⟩
        rw [← hc2] at LS2
        have STEP := Lib.hid (show U = if c2 = true then down (ltS cur) (swp f' k J) J n1 else f' by rw [hu.out, down_step _ _ _ _ hlt', L2, ← hc2])
        clear hc2
        go_wp2_with fail
        refine LS2.out.mono ?_
        rintro e w4 ⟨rfl, b4⟩
        have hbF4 : F ≤ wr.heap.size := Nat.le_of_lt (Array.getElem?_eq_some_iff.1 HFR.out.box).1
        have F4 := Lib.hid (HFR.out.on b4)
        have B4 := Lib.hid (HB.out.trans (Bk.of b4 hbF4))
        clear b4
        cases c2
        · have HD := Lib.hid (show U = f' by rw [STEP.out]; rfl)
          clear STEP hu
          go_wp2
          go_ret
          exact ⟨⟨_, rfl⟩, by rw [HD.out]; exact F4.out, B4.out⟩
        · have HD := Lib.hid (show U = down (ltS cur) (swp f' k J) J n1 by rw [STEP.out]; rfl)
          have SW := Lib.hid (fswap_FrS F4.out k J (by omega) hJn)
          clear STEP hu
          go_wp2_with fail
          refine SW.out.mono ?_
          rintro e w5 ⟨rfl, f5, b5⟩
          go_wp2
          exact ⟨⟨J, swp f' k J, rfl, by omega, HD, f5, B4.out.trans b5⟩, by simp [intOf]; omega⟩
    · have HD := Lib.hid (show U = f' by rw [hu.out, down_stop _ _ _ _ hlt'])
      obtain ⟨J, hJ⟩ : ∃ J, J = 2 * k + 1 := ⟨_, rfl⟩
      have eJ : 2 * (k : Int) + 1 = (J : Int) := by omega
      have c0 : decide ((n1 : Int) ≤ (J : Int)) = true := decide_eq_true (by omega)
      have c0n : n1 ≤ J := by omega
      have c0d : decide (n1 ≤ J) = true := decide_eq_true c0n
      clear hu hJ hlt'
      go_wp2
      go_ret
      exact ⟨⟨_, rfl⟩, by rw [HD.out]; exact HFR.out, HB.out⟩
end Go.Proofs.YtabeaehiidnbbaaDoor
