/- Layer 14, rows: the library's up and down over the front, walked. Layer 14, rows: the library's down over the front, walked. Layer 14, rows: the front's Push, walked. -/
import Derived.Test.YtfckgcckpfklaaaGreatDoorMAJ
import Derived.Test.YtfckgcckpfklaaaGreatDoorMAZ
import Derived.Test.YtfckgcckpfklaaaGreatDoorMAM
namespace Go.Proofs.YtfckgcckpfklaaaGreatDoor
open Go.RowKit Go.Lib Hp
set_option linter.unusedVariables false

theorem mLess_SR (k F : Nat) (W : World) : (method (k + 1) 104 (.pointer (some ⟨F, 0, none⟩)) "Less").run Tryz.prog W = .ok (155, .pointer (some ⟨F, 0, none⟩)) W := by kernel_rfl
theorem mSwap_SR (k F : Nat) (W : World) : (method (k + 1) 104 (.pointer (some ⟨F, 0, none⟩)) "Swap").run Tryz.prog W = .ok (158, .pointer (some ⟨F, 0, none⟩)) W := by kernel_rfl

set_option maxHeartbeats 2000000 in
set_option maxRecDepth 100000 in
theorem up_FrSR {w0 w : World} {F n : Nat} {P f : Nat → Nat} {rv : Value} {cur : Nat → List Rq} {iv : Nat → Value} (h : FrSR w0 w F P rv n f cur iv) (j : Nat) (hj : j < n) (hn : n ≤ 1000000) :
    Calls Tryz.prog 93 #[.iface 104 (.pointer (some ⟨F, 0, none⟩)), .int .i64 j] w fun e w' => e = .returned (.tuple #[]) ∧ FrSR w0 w' F P rv n (up (ltSR cur) f j) cur iv ∧ Bk F rv w w' := by
  have H := Lib.hid h
  obtain ⟨U, hU⟩ : ∃ U, U = up (ltSR cur) f j := ⟨_, rfl⟩
  have HU := Lib.hid hU
  rw [← hU]
  clear h hU
  go_enter Tryz.func93, Tryz.ntmps93
  go_wp2_with fail
  go_loopw [1, 4] (fun j' _ wr => ∃ (k : Nat) (f' : Nat → Nat), j' = .int .i64 k ∧ k < n ∧ Hid (U = up (ltSR cur) f' k) ∧ FrSR w0 wr F P rv n f' cur iv ∧ Bk F rv w wr) (fun j' _ _ => (intOf j').toNat)
  case atStart => exact ⟨j, f, rfl, hj, HU, H.out, Bk.refl _ _ _⟩
  case round =>
    obtain ⟨k, f', rfl, hk, hu, hfr, hb⟩ := hrel
    have HFR := Lib.hid hfr; have HB := Lib.hid hb
    clear hfr hb
    by_cases hk0 : k = 0
    · subst hk0
      have HD := Lib.hid (show U = f' by rw [hu.out, up_zero])
      clear hu
      go_wp2
      go_end0
      exact ⟨rfl, by rw [HD.out]; exact HFR.out, HB.out⟩
    · obtain ⟨p, hp⟩ : ∃ p, p = (k - 1) / 2 := ⟨_, rfl⟩
      have hq : ((k : Int) - 1) / 2 = (p : Int) := by rw [hp]; omega
      have hpk : ((p : Int) == (k : Int)) = false := beq_eq_false_iff_ne.2 (by omega)
      have mL := fun k W => mLess_SR k F W
      have mS := fun k W => mSwap_SR k F W
      have LS := Lib.hid (fless_FrSR HFR.out k p hk (by omega))
      obtain ⟨c, hc⟩ : ∃ c, c = ltSR cur (f' k) (f' p) := ⟨_, rfl⟩
      rw [← hc] at LS
      have HC := Lib.hid hc
      have HPE := Lib.hid hp
      have hpn : p < n := by omega
      have STEP := Lib.hid (show U = if c = true then up (ltSR cur) (swp f' p k) p else f' by rw [hu.out, up_step _ _ _ (by omega), ← hp, ← hc])
      clear hc hp hu
      go_wp2_with fail
      refine LS.out.mono ?_
      rintro e w2 ⟨rfl, b2⟩
      have F2 := Lib.hid (HFR.out.on b2)
      have hbF : F ≤ wr.heap.size := Nat.le_of_lt (Array.getElem?_eq_some_iff.1 HFR.out.box).1
      have B2 := Lib.hid (HB.out.trans (Bk.of b2 hbF))
      clear b2
      cases c
      · have HD := Lib.hid (show U = f' by rw [STEP.out]; rfl)
        go_wp2
        go_end0
        exact ⟨rfl, by rw [HD.out]; exact F2.out, B2.out⟩
      · have HD := Lib.hid (show U = up (ltSR cur) (swp f' p k) p by rw [STEP.out]; rfl)
        have SW := Lib.hid (fswap_FrSR F2.out p k hpn hk)
        clear STEP
        go_wp2_with fail
        refine SW.out.mono ?_
        rintro e w3 ⟨rfl, f3, b3⟩
        go_wp2
        exact ⟨⟨p, swp f' p k, rfl, hpn, HD, f3, B2.out.trans b3⟩, by simp [intOf]; have := HPE.out; omega⟩
end Go.Proofs.YtfckgcckpfklaaaGreatDoor

namespace Go.Proofs.YtfckgcckpfklaaaGreatDoor
open Go.RowKit Go.Lib Hp
set_option linter.unusedVariables false

set_option maxHeartbeats 4000000 in
set_option maxRecDepth 100000 in
theorem down_FrSR {w0 w : World} {F n : Nat} {P f : Nat → Nat} {rv : Value} {cur : Nat → List Rq} {iv : Nat → Value} (h : FrSR w0 w F P rv n f cur iv) (i n1 : Nat) (hi : i < n) (hn1 : n1 ≤ n) (hn : n ≤ 1000000) :
    Calls Tryz.prog 72 #[.iface 104 (.pointer (some ⟨F, 0, none⟩)), .int .i64 i, .int .i64 n1] w fun e w' => (∃ b, e = .returned (.bool b)) ∧ FrSR w0 w' F P rv n (down (ltSR cur) f i n1) cur iv ∧ Bk F rv w w' := by
  have H := Lib.hid h
  obtain ⟨U, hU⟩ : ∃ U, U = down (ltSR cur) f i n1 := ⟨_, rfl⟩
  have HU := Lib.hid hU
  rw [← hU]
  have mL := fun k W => mLess_SR k F W
  have mS := fun k W => mSwap_SR k F W
  clear h hU
  go_enter Tryz.func72, Tryz.ntmps72
  go_wp2_with fail
  go_loopw [7, 8, 9, 10] (fun k' _ _ _ wr => ∃ (k : Nat) (f' : Nat → Nat), k' = .int .i64 k ∧ k < n ∧ Hid (U = down (ltSR cur) f' k n1) ∧ FrSR w0 wr F P rv n f' cur iv ∧ Bk F rv w wr) (fun k' _ _ _ _ => n - (intOf k').toNat)
  case atStart => exact ⟨i, f, rfl, hi, HU, H.out, Bk.refl _ _ _⟩
  case round =>
    clear HU H
    obtain ⟨k, f', rfl, hk, hu, hfr, hb⟩ := hrel
    have HFR := Lib.hid hfr; have HB := Lib.hid hb
    clear hfr hb
    by_cases hlt' : 2 * k + 1 < n1
    · obtain ⟨J, hJ⟩ : ∃ J, J = 2 * k + 1 := ⟨_, rfl⟩
      have eJ : 2 * (k : Int) + 1 = (J : Int) := by omega
      obtain ⟨J2, hJ2⟩ : ∃ J2, J2 = J + 1 := ⟨_, rfl⟩
      have eJ2 : (J : Int) + 1 = (J2 : Int) := by omega
      have hJn : J < n := by omega
      have c0 : decide ((n1 : Int) ≤ (J : Int)) = false := decide_eq_false (by omega)
      have c00 : decide ((J : Int) < 0) = false := decide_eq_false (by omega)
      have HJ := Lib.hid hJ; have HJ2 := Lib.hid hJ2
      by_cases h2 : J2 < n1
      · have hJ2n : J2 < n := by omega
        have c3 : decide ((J2 : Int) < (n1 : Int)) = true := decide_eq_true (by omega)
        have LS1 := Lib.hid (fless_FrSR HFR.out J2 J hJ2n hJn)
        obtain ⟨c1, hc1⟩ : ∃ c1, c1 = ltSR cur (f' J2) (f' J) := ⟨_, rfl⟩
        rw [← hc1] at LS1
        have HC1 := Lib.hid hc1
        clear hJ hJ2 hc1
        go_wp2_with fail
        refine LS1.out.mono ?_
        rintro e w2 ⟨rfl, b2⟩
        have hbF2 : F ≤ wr.heap.size := Nat.le_of_lt (Array.getElem?_eq_some_iff.1 HFR.out.box).1
        have F2 := Lib.hid (HFR.out.on b2)
        have B2 := Lib.hid (HB.out.trans (Bk.of b2 hbF2))
        clear b2
        cases c1
        · have L2 := (show less2 (ltSR cur) f' k n1 = J by
            have e1 := HJ.out; have e2 := HJ2.out; have e3 := HC1.out
            subst e1; subst e2
            unfold less2; rw [if_neg (by intro hh; rw [hh.2] at e3; cases e3)])
          have LS2 := Lib.hid (fless_FrSR F2.out J k hJn (by omega))
          obtain ⟨c2, hc2⟩ : ∃ c2, c2 = ltSR cur (f' J) (f' k) := ⟨_, rfl⟩
          rw [← hc2] at LS2
          have STEP := Lib.hid (show U = if c2 = true then down (ltSR cur) (swp f' k J) J n1 else f' by rw [hu.out, down_step _ _ _ _ hlt', L2, ← hc2])
          clear hc2
          go_wp2_with fail
          refine LS2.out.mono ?_
          rintro e w4 ⟨rfl, b4⟩
          have hbF4 : F ≤ w2.heap.size := Nat.le_of_lt (Array.getElem?_eq_some_iff.1 F2.out.box).1
          have F4 := Lib.hid (F2.out.on b4)
          have B4 := Lib.hid (B2.out.trans (Bk.of b4 hbF4))
          clear b4
          cases c2
          · have HD := Lib.hid (show U = f' by rw [STEP.out]; rfl)
            clear STEP hu
            go_wp2
            go_ret
            exact ⟨⟨_, rfl⟩, by rw [HD.out]; exact F4.out, B4.out⟩
          · have HD := Lib.hid (show U = down (ltSR cur) (swp f' k J) J n1 by rw [STEP.out]; rfl)
            have SW := Lib.hid (fswap_FrSR F4.out k J (by omega) hJn)
            clear STEP hu
            go_wp2_with fail
            refine SW.out.mono ?_
            rintro e w5 ⟨rfl, f5, b5⟩
            go_wp2
            exact ⟨⟨J, swp f' k J, rfl, by omega, HD, f5, B4.out.trans b5⟩, by simp [intOf]; omega⟩
        · have L2 := (show less2 (ltSR cur) f' k n1 = J2 by
            have e1 := HJ.out; have e2 := HJ2.out; have e3 := HC1.out
            subst e1; subst e2
            unfold less2; rw [if_pos ⟨h2, e3.symm⟩])
          have LS2 := Lib.hid (fless_FrSR F2.out J2 k hJ2n (by omega))
          obtain ⟨c2, hc2⟩ : ∃ c2, c2 = ltSR cur (f' J2) (f' k) := ⟨_, rfl⟩
          rw [← hc2] at LS2
          have STEP := Lib.hid (show U = if c2 = true then down (ltSR cur) (swp f' k J2) J2 n1 else f' by rw [hu.out, down_step _ _ _ _ hlt', L2, ← hc2])
          clear hc2
          go_wp2_with fail
          refine LS2.out.mono ?_
          rintro e w4 ⟨rfl, b4⟩
          have hbF4 : F ≤ w2.heap.size := Nat.le_of_lt (Array.getElem?_eq_some_iff.1 F2.out.box).1
          have F4 := Lib.hid (F2.out.on b4)
          have B4 := Lib.hid (B2.out.trans (Bk.of b4 hbF4))
          clear b4
          cases c2
          · have HD := Lib.hid (show U = f' by rw [STEP.out]; rfl)
            clear STEP hu
            go_wp2
            go_ret
            exact ⟨⟨_, rfl⟩, by rw [HD.out]; exact F4.out, B4.out⟩
          · have HD := Lib.hid (show U = down (ltSR cur) (swp f' k J2) J2 n1 by rw [STEP.out]; rfl)
            have SW := Lib.hid (fswap_FrSR F4.out k J2 (by omega) hJ2n)
            clear STEP hu
            go_wp2_with fail
            refine SW.out.mono ?_
            rintro e w5 ⟨rfl, f5, b5⟩
            go_wp2
            exact ⟨⟨J2, swp f' k J2, rfl, by omega, HD, f5, B4.out.trans b5⟩, by simp [intOf]; omega⟩
      · have c3 : decide ((J2 : Int) < (n1 : Int)) = false := decide_eq_false (by omega)
        have L2 := (show less2 (ltSR cur) f' k n1 = J by
          have e1 := HJ.out; have e2 := HJ2.out
          subst e1; subst e2
          unfold less2; rw [if_neg (by intro hh; exact h2 hh.1)])
        clear hJ hJ2
        have LS2 := Lib.hid (fless_FrSR HFR.out J k hJn (by omega))
        obtain ⟨c2, hc2⟩ : ∃ c2, c2 = ltSR cur (f' J) (f' k) := ⟨_, rfl⟩
        rw [← hc2] at LS2
        have STEP := Lib.hid (show U = if c2 = true then down (ltSR cur) (swp f' k J) J n1 else f' by rw [hu.out, down_step _ _ _ _ hlt', L2, ← hc2])
        clear hc2
        go_wp2_with fail
        refine LS2.out.mono ?_
        rintro e w4 ⟨rfl, b4⟩
        have hbF4 : F ≤ wr.heap.size := Nat.le_of_lt (Array.getElem?_eq_some_iff.1 HFR.out.box).1
        have F4 := Lib.hid (HFR.out.on b4)
        have B4 := Lib.hid (HB.out.trans (Bk.of b4 hbF4))
        clear b4
        cases c2
        · have HD := Lib.hid (show U = f' by rw [STEP.out]; rfl)
          clear STEP hu
          go_wp2
          go_ret
          exact ⟨⟨_, rfl⟩, by rw [HD.out]; exact F4.out, B4.out⟩
        · have HD := Lib.hid (show U = down (ltSR cur) (swp f' k J) J n1 by rw [STEP.out]; rfl)
          have SW := Lib.hid (fswap_FrSR F4.out k J (by omega) hJn)
          clear STEP hu
          go_wp2_with fail
          refine SW.out.mono ?_
          rintro e w5 ⟨rfl, f5, b5⟩
          go_wp2
          exact ⟨⟨J, swp f' k J, rfl, by omega, HD, f5, B4.out.trans b5⟩, by simp [intOf]; omega⟩
    · have HD := Lib.hid (show U = f' by rw [hu.out, down_stop _ _ _ _ hlt'])
      obtain ⟨J, hJ⟩ : ∃ J, J = 2 * k + 1 := ⟨_, rfl⟩
      have eJ : 2 * (k : Int) + 1 = (J : Int) := by omega
      have c0 : decide ((n1 : Int) ≤ (J : Int)) = true := decide_eq_true (by omega)
      have c0n : n1 ≤ J := by omega
      have c0d : decide (n1 ≤ J) = true := decide_eq_true c0n
      clear hu hJ hlt'
      go_wp2
      go_ret
      exact ⟨⟨_, rfl⟩, by rw [HD.out]; exact HFR.out, HB.out⟩
end Go.Proofs.YtfckgcckpfklaaaGreatDoor

namespace Go.Proofs.YtfckgcckpfklaaaGreatDoor
open Go.RowKit Go.Lib Hp
set_option linter.unusedVariables false

theorem zc_prestR : (Tryz.prog.info? 109).map (fun i => (i.zero, i.size, i.bytes)) = some (some (.pointer none), 1, 8) := by kernel_rfl

theorem asrt_SR (W : World) (v : Value) : (Instr.typeAssert (.iface 109 v) 20 109 false).run Tryz.prog W = .ok v W := by kernel_rfl

set_option maxHeartbeats 4000000 in
set_option maxRecDepth 100000 in
theorem fpush_SR (F p n : Nat) (rv fv : Value) (xs : List Value) (w : World) (hbox : w.heap[F]? = some (.cells #[rv, fv] 107)) (hsl : Sl w (F + 1) 1 rv n xs) (hn : n ≤ 1000000) :
    Calls Tryz.prog 157 #[.pointer (some ⟨F, 0, none⟩), .iface 109 (.pointer (some ⟨p, 0, none⟩))] w fun e w' => e = .returned (.tuple #[]) ∧ ∃ rv' w5, Ext (F + 1) 1 (w.alloc (.cells #[.pointer (some ⟨p, 0, none⟩)] 109)).drew rv n xs w5 rv' (n + 1) (xs ++ [.pointer (some ⟨p, 0, none⟩)]) ∧ w' = w5.setCell ⟨F, 0, none⟩ rv' := by
  obtain ⟨i0, hi, hz0, hz1, hz2⟩ := info_parts zc_prestR
  have Hz := Lib.hid hz0; have Hs := Lib.hid hz1; have Hb := Lib.hid hz2; have Hi := Lib.hid hi
  clear hz0 hz1 hz2 hi
  have hF : F < w.heap.size := (Array.getElem?_eq_some_iff.1 hbox).1
  obtain ⟨ra, rc, er⟩ := hsl.slice
  subst er
  obtain ⟨Y, hY⟩ : ∃ Y, Y = (w.alloc (.cells #[.pointer (some ⟨p, 0, none⟩)] 109)).drew := ⟨_, rfl⟩
  have ownY : Sl Y (F + 1) 1 (.slice ra n rc) n xs := by rw [hY]; exact (hsl.alloc _).drew
  have litY : ∀ j u, [Value.pointer (some ⟨p, 0, none⟩)][j]? = some u → Y.cell? ((⟨w.heap.size, 0, none⟩ : Addr).add j) = some u := by
    have := (Sl.lit w 0 1 1 #[.pointer (some ⟨p, 0, none⟩)] 109 (Nat.zero_le _) (by decide) rfl).cells
    rw [hY]; exact this
  have hyF : Y.heap[F]? = some (.cells #[.slice ra n rc, fv] 107) := by rw [hY]; exact (Below.heap_alloc w _ F hF).trans hbox
  have hYF : F < Y.heap.size := (Array.getElem?_eq_some_iff.1 hyF).1
  have hob : ∀ k, (Value.slice ra n rc).ownBlock = some k → k ≠ F := fun k hk => by have := (hsl.lt k hk).1; omega
  have c0 := Lib.cell_of_heap hbox 0
  simp at c0
  have HY := Lib.hid hY
  rw [← hY]
  have hone : ∀ v ∈ [Value.pointer (some ⟨p, 0, none⟩)], v.oneCell' = true := by
    intro v hv
    rw [List.mem_singleton] at hv
    subst hv
    rfl
  have n1 : n + 1 ≤ maxLen := by unfold maxLen; omega
  have n2 : (n + 1) * 8 ≤ 140737488355328 := by omega
  have hYF1 : F + 1 ≤ Y.heap.size := hYF
  have HE := Lib.hid (fun v' w5 (hx5 : Ext (F + 1) 1 Y (.slice ra n rc) n xs w5 v' (n + 1) (xs ++ [.pointer (some ⟨p, 0, none⟩)])) => show (∃ a c, v' = .slice a (n + 1) c) ∧ w5.cell? ⟨F, 0, none⟩ = some (.slice ra n rc) ∧ w5.frozen? ⟨F, 0, none⟩ = false from
    ⟨hx5.now.slice, (hx5.cell_old ⟨F, 0, none⟩ hYF hob).trans (Lib.cell_of_heap hyF 0), (hx5.frozen_old ⟨F, 0, none⟩ hYF hob).trans (Lib.frozen_of_heap hyF 0)⟩)
  have hta := fun W v => asrt_SR W v
  clear hY hyF
  go_enter Tryz.func157, Tryz.ntmps157
  go_region_law (rw [← HY.out]; refine step_append_slB rfl _ _ 105 rfl (F + 1) 109 i0 (.pointer none) 1 8 Tryz.underlying105 Hi.out Hz.out Hs.out Hb.out rfl (by decide) _ n xs rfl ownY ⟨w.heap.size, 0, none⟩ 1 1 [.pointer (some ⟨p, 0, none⟩)] rfl rfl litY hone n1 n2 hYF1 ?_; intro v' w5 hx5; obtain ⟨⟨a5, c5, rfl⟩, p1, pf1⟩ := HE.out v' w5 hx5)
  all_goals go_wp2
  all_goals go_end0
  all_goals exact ⟨rfl, _, _, by assumption, rfl⟩

theorem fpush_FrSR {w0 w : World} {F n p : Nat} {P f : Nat → Nat} {rv : Value} {cur : Nat → List Rq} {iv : Nat → Value} (h : FrSR w0 w F P rv n f cur iv) (hn : n ≤ 1000000)
    (hr : w.heap[P p]? = some (.cells #[.int .i64 p, iv p] 111) ∧ F < P p ∧ RdQ w0 (iv p) (cur p) ∧ 0 < (cur p).length) (ho : ∀ g, rv.ownBlock = some g → P p ≠ g) :
    Calls Tryz.prog 157 #[.pointer (some ⟨F, 0, none⟩), .iface 109 (.pointer (some ⟨P p, 0, none⟩))] w fun e w' => e = .returned (.tuple #[]) ∧ ∃ rv', FrSR w0 w' F P rv' (n + 1) (snocF f n p) cur iv ∧ Bk F rv w w' ∧ ∀ g, rv'.ownBlock = some g → rv.ownBlock = some g ∨ w.heap.size ≤ g := by
  have hF : F < w.heap.size := (Array.getElem?_eq_some_iff.1 h.box).1
  refine (fpush_SR F (P p) n rv _ (ptc P f n) w h.box h.sl hn).mono ?_
  rintro e w' ⟨rfl, rv', w5, hx, hw'⟩
  obtain ⟨Y, hY⟩ : ∃ Y, Y = (w.alloc (.cells #[.pointer (some ⟨P p, 0, none⟩)] 109)).drew := ⟨_, rfl⟩
  rw [← hY] at hx
  have bY : Below w.heap.size w Y := by rw [hY]; exact ((Below.refl _ _).alloc (Nat.le_refl _) _).drew
  have bF : Below F w w5 := (bY.mono (by omega)).trans (hx.below (by omega) (by have := bY.size; omega))
  have bF' : Below F w w' := by rw [hw']; exact bF.setCell (p := ⟨F, 0, none⟩) (Nat.le_refl _) _
  -- a block elsewhere stays
  have hblk : ∀ b, b < w.heap.size → b ≠ F → (∀ g, rv.ownBlock = some g → b ≠ g) → w'.heap[b]? = w.heap[b]? := fun b hb hbF hbo => by
    rw [hw', Below.heap_setCell _ _ _ _ (by simp only; omega)]
    rw [Ext.block_old hx b (by have := bY.size; omega) (fun k hk e => hbo k hk e.symm)]
    exact bY.block b hb
  have hboxY : Y.heap[F]? = _ := (bY.block F hF).trans h.box
  have hbox5 : w5.heap[F]? = _ := (Ext.block_old hx F (by have := bY.size; omega) (fun k hk e => by have := (h.sl.lt k hk).1; omega)).trans hboxY
  have hall : ∀ q, Has (snocF f n p) (n + 1) q → w.heap[P q]? = some (.cells #[.int .i64 q, iv q] 111) ∧ F < P q ∧ (RdQ w0 (iv q) (cur q) ∧ 0 < (cur q).length) ∧ ∀ g, rv.ownBlock = some g → P q ≠ g := fun q hq => by
    rcases (snocF_has f n p q).1 hq with hq | rfl
    · obtain ⟨r1, r2, r3, r4⟩ := h.rest q hq
      exact ⟨r1, r2, ⟨r3, r4⟩, fun g hg => h.own g hg q hq⟩
    · exact ⟨hr.1, hr.2.1, hr.2.2, ho⟩
  refine ⟨rfl, rv', ⟨?_, ?_, fun g hg q hq => ?_, fun q hq => ?_, h.below.trans (bF'.mono h.big), h.big⟩, ⟨bF', hblk⟩, fun g hg => ?_⟩
  · rw [hw', heap_setCell_same w5 F 0 _ _ rv' hbox5]; rfl
  · rw [ptc_snoc, hw']
    exact sl_else hx.now _ _ (by simp)
  · obtain ⟨r1, r2, r3, r4⟩ := hall q hq
    have hlt : P q < w.heap.size := (Array.getElem?_eq_some_iff.1 r1).1
    rcases hx.alias with ⟨a, cap, e0, e1, _⟩ | hnew
    · refine r4 g ?_
      rw [e0]
      rw [e1] at hg
      rw [ownBlock_slice a n (n + 1) cap cap]
      exact hg
    · have := hnew g hg
      have := bY.size
      omega
  · obtain ⟨r1, r2, r3, r4⟩ := hall q hq
    exact ⟨(hblk (P q) (Array.getElem?_eq_some_iff.1 r1).1 (by omega) r4).trans r1, r2, r3.1, r3.2⟩
  · rcases hx.alias with ⟨a, cap, e0, e1, _⟩ | hnew
    · refine .inl ?_
      rw [e0]
      rw [e1] at hg
      rw [ownBlock_slice a n (n + 1) cap cap]
      exact hg
    · have := hnew g hg
      have := bY.size
      exact .inr (by omega)
end Go.Proofs.YtfckgcckpfklaaaGreatDoor
