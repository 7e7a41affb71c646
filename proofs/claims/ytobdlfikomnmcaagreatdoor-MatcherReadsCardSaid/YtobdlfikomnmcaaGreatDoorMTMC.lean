/- Layer 13: the document's Check, whole. -/
import Derived.Test.YtobdlfikomnmcaaGreatDoorMTMB
namespace Go.Proofs.YtobdlfikomnmcaaGreatDoor
open Go.RowKit Go.Lib
set_option linter.unusedVariables false

def rVal (k : Int) (v : List UInt8) : Bool := plainB v && !(k == 3 && v == [])
def rOk (k : Int) (n : List UInt8) (vs : List (List UInt8)) : Bool := !decide (k < 1) && (!decide (k > 4) && (!(n == []) && (plainB n && (!decide (vs.length = 0) && (!decide (vs.length > 10) && (!(decide (k < 4) && decide (vs.length > 1)) && vs.all (rVal k)))))))

set_option maxHeartbeats 4000000 in
set_option maxRecDepth 100000 in
theorem rcheck13_any (k : Int) (n : List UInt8) (vs : List (List UInt8)) (v : Value) (w : World) (h : Rd w 1 v vs.length (txs vs)) (hl : vs.length ≤ 1000000) (hn : n.length ≤ 1000000) (hv : ∀ x ∈ vs, x.length ≤ 1000000) :
    Calls Tryz.prog 11 #[.agg #[.int .i64 k, .string (bs n), v]] w fun e w' => e = .returned (.bool (rOk k n vs)) ∧ Below w.heap.size w w' := by
  have hT := bs_toList
  obtain ⟨_, a, cap, g, off, rfl, hg, hcell⟩ := h
  simp only [Nat.mul_one] at hcell
  obtain ⟨N, hN⟩ : ∃ N, N = vs.length := ⟨_, rfl⟩
  rw [← hN] at hg hcell hl ⊢
  obtain ⟨r, hr⟩ : ∃ r, rOk k n vs = r := ⟨_, rfl⟩
  rw [hr]
  unfold rOk at hr
  rw [← hN] at hr
  have PL := Lib.hid (fun W => plain13_any n W hn)
  have bz := (Below.refl w.heap.size w).alloc (Nat.le_refl _) (.cells #[.int .i64 k, .string (bs n), .slice a N cap] 33)
  have HBZ := Lib.hid bz
  have HN := Lib.hid hN
  have HCL := Lib.hid hcell
  have HG := Lib.hid hg
  clear bz hN hcell hg
  by_cases k1 : k < 1
  · simp [k1] at hr
    subst hr
    go_enter Tryz.func11, Tryz.ntmps11
    go_wp2_with fail
    go_ret
    exact ⟨rfl, HBZ.out⟩
  by_cases k4 : k > 4
  · simp [k1, k4] at hr
    subst hr
    have k4' : 4 < k := k4
    go_enter Tryz.func11, Tryz.ntmps11
    go_wp2_with fail
    go_ret
    exact ⟨rfl, HBZ.out⟩
  have k4' : ¬ 4 < k := k4
  obtain ⟨ne, hne⟩ : ∃ ne : Bool, (n == []) = ne := ⟨_, rfl⟩
  cases ne with
  | true =>
    rw [hne] at hr
    simp at hr
    subst hr
    go_enter Tryz.func11, Tryz.ntmps11
    go_wp2_with fail
    go_ret
    exact ⟨rfl, HBZ.out⟩
  | false =>
    rw [hne] at hr
    rw [show decide (k < 1) = false from decide_eq_false k1, show decide (k > 4) = false from decide_eq_false k4] at hr
    simp only [Bool.not_false, Bool.true_and] at hr
    have HR := Lib.hid hr
    clear hr
    go_enter Tryz.func11, Tryz.ntmps11
    go_wp2_with fail
    refine (PL.out _).mono ?_
    rintro e w1 ⟨rfl, b1⟩
    have hbx := (b1.block w.heap.size (by simp)).trans (heap_alloc_new w _)
    have r0 := Lib.cell_of_heap hbx 0; have r1 := Lib.cell_of_heap hbx 1; have r2 := Lib.cell_of_heap hbx 2
    simp at r0 r1 r2
    have HB1 := Lib.hid (HBZ.out.trans (b1.mono HBZ.out.size))
    have hwl : w.heap.size < w1.heap.size := (Array.getElem?_eq_some_iff.1 hbx).1
    clear b1 hbx HBZ PL
    obtain ⟨pn, hpn⟩ : ∃ pn, plainB n = pn := ⟨_, rfl⟩
    have hr := HR.out
    clear HR
    rw [hpn] at hr ⊢
    clear hpn
    cases pn with
    | false =>
      simp at hr
      subst hr
      go_wp2_with fail
      go_ret
      exact ⟨rfl, HB1.out⟩
    | true =>
      rw [Bool.true_and] at hr
      by_cases n0 : N = 0
      · simp [n0] at hr
        subst hr
        have n0' : ((N : Int) == 0) = true := by rw [beq_iff_eq]; omega
        go_wp2_with fail
        go_ret
        exact ⟨rfl, HB1.out⟩
      rw [show decide (N = 0) = false from decide_eq_false n0, Bool.not_false, Bool.true_and] at hr
      have n0' : ((N : Int) == 0) = false := by rw [beq_eq_false_iff_ne]; omega
      by_cases n10 : N > 10
      · simp [n10] at hr
        subst hr
        have n10' : (10 : Int) < N := by omega
        go_wp2_with fail
        go_ret
        exact ⟨rfl, HB1.out⟩
      rw [show decide (N > 10) = false from decide_eq_false n10, Bool.not_false, Bool.true_and] at hr
      have n10' : ¬ (10 : Int) < N := by omega
      by_cases kk : k < 4 ∧ N > 1
      · obtain ⟨kk1, kk2⟩ := kk
        simp [kk1, kk2] at hr
        subst hr
        have kk2' : (1 : Int) < N := by omega
        go_wp2_with fail
        go_ret
        exact ⟨rfl, HB1.out⟩
      have kk0 : (decide (k < 4) && decide (N > 1)) = false := by
        rw [Bool.eq_false_iff]
        intro h
        simp only [Bool.and_eq_true, decide_eq_true_eq] at h
        exact kk h
      rw [kk0, Bool.not_false, Bool.true_and] at hr
      have hx : ∀ (j : Nat), j < N → ∃ x, vs[j]? = some x ∧ w.cell? ⟨g, off + j, none⟩ = some (.string (bs x)) := fun j hj => by
        obtain ⟨x, hx⟩ : ∃ x, vs[j]? = some x := ⟨_, List.getElem?_eq_getElem (by have := HN.out; omega)⟩
        exact ⟨x, hx, (HCL.out j hj).trans (txs_at vs j x hx)⟩
      have HX := Lib.hid hx
      have HR := Lib.hid hr
      have n00 : 0 < N := by omega
      obtain ⟨rfl, hgl⟩ := HG.out n00
      clear hr kk0 hx
      obtain ⟨b3, hb3⟩ : ∃ b3 : Bool, (k == 3) = b3 := ⟨_, rfl⟩
      have HB3 := Lib.hid hb3
      have cs3 : (k = 3 ∧ k < 4 ∧ ¬ (1 : Int) < N ∧ b3 = true) ∨ (k < 4 ∧ ¬ (1 : Int) < N ∧ (k == 3) = false ∧ b3 = false) ∨ (¬ k < 4 ∧ (k == 3) = false ∧ b3 = false) := by
        by_cases k3 : k < 4
        · have n1' : ¬ (1 : Int) < N := by omega
          by_cases hk3 : k = 3
          · exact .inl ⟨hk3, k3, n1', by rw [← hb3, hk3]; rfl⟩
          · have : (k == 3) = false := by rw [beq_eq_false_iff_ne]; exact hk3
            exact .inr (.inl ⟨k3, n1', this, by rw [← hb3, this]⟩)
        · have : (k == 3) = false := by rw [beq_eq_false_iff_ne]; omega
          exact .inr (.inr ⟨k3, this, by rw [← hb3, this]⟩)
      clear kk hb3
      rcases cs3 with ⟨rfl, k3, n1', rfl⟩ | ⟨k3, n1', hkz, rfl⟩ | ⟨k3, hkz, rfl⟩
      all_goals
        go_wp2_with fail
        have G0 := Lib.hid (show Below w1.heap.size w1 w1 ∧ r = (vs.drop 0).all (rVal _) from ⟨Below.refl _ _, HR.out.symm⟩)
        have R0 := Lib.hid r0
        clear HR r0 r1 r2
        go_loopw [50] (fun i' wr => ∃ i : Nat, i' = .int .i64 i ∧ i ≤ N ∧ Hid (Below w1.heap.size w1 wr ∧ r = (vs.drop i).all (rVal _))) (fun i' _ => N - (RowKit.intOf i').toNat)
        case atStart => exact ⟨0, rfl, Nat.zero_le _, G0⟩
        case round =>
          clear G0
          obtain ⟨W0, rfl⟩ : ∃ W0, W0 = wr := ⟨_, rfl⟩
          obtain ⟨i, rfl, hi, hgg⟩ := hrel
          obtain ⟨bb, her⟩ := hgg.out
          have q0 := (bb.cell (p := ⟨w.heap.size, 0, none⟩) hwl).trans R0.out
          by_cases hil : i < N
          · have hili : (i : Int) < N := by omega
            obtain ⟨x, hxi, cx⟩ := HX.out i hil
            have hxm : x ∈ vs := List.mem_of_getElem? hxi
            have hd : vs.drop i = x :: vs.drop (i + 1) := by
              obtain ⟨hlt', hvv⟩ := List.getElem?_eq_some_iff.1 hxi
              rw [List.drop_eq_getElem_cons hlt', hvv]
            have c0 := ((HB1.out.trans (bb.mono HB1.out.size)).cell (p := ⟨g, off + i, none⟩) hgl).trans cx
            rw [hd, List.all_cons] at her
            have PX := Lib.hid (fun W => plain13_any x W (hv x hxm))
            obtain ⟨bt, hbt⟩ : ∃ bt, plainB x = bt := ⟨_, rfl⟩
            rw [hbt] at PX
            unfold rVal at her
            rw [hbt] at her
            have HBB := Lib.hid bb
            obtain ⟨xe, hxe⟩ : ∃ xe : Bool, (x == []) = xe := ⟨_, rfl⟩
            rw [hxe] at her
            have HER := Lib.hid her
            have zz := bb.size
            clear hgg bb her hxi cx hxm hd hbt
            cases bt with
            | false =>
              have HRR := Lib.hid (show r = false from HER.out.trans (by simp))
              clear HER
              go_wp2_with fail
              refine (PX.out _).mono ?_
              rintro e w3 ⟨rfl, b3⟩
              go_wp2_with fail
              go_ret
              exact ⟨by rw [HRR.out]; rfl, HB1.out.trans ((HBB.out.trans (b3.mono HBB.out.size)).mono HB1.out.size)⟩
            | true =>
              go_wp2_with fail
              refine (PX.out _).mono ?_
              rintro e w3 ⟨rfl, b3⟩
              have q3 := (b3.cell (p := ⟨w.heap.size, 0, none⟩) (by show w.heap.size < _; omega)).trans q0
              have HB3' := Lib.hid (HBB.out.trans (b3.mono HBB.out.size))
              clear b3 q0 c0 PX HBB
              cases xe
              all_goals
                go_wp2_with fail
                first
                  | exact ⟨⟨i + 1, by go_num, by omega, Lib.hid ⟨HB3'.out, HER.out.trans (by first | rfl | (show (true && !((k == 3) && _) && (vs.drop (i + 1)).all (rVal k)) = _; rw [hkz, Bool.false_and, Bool.not_false, Bool.true_and, Bool.true_and]))⟩⟩, by simp [RowKit.intOf]; omega⟩
                  | (go_ret
                     exact ⟨by rw [show r = false from HER.out.trans rfl]; rfl, HB1.out.trans (HB3'.out.mono HB1.out.size)⟩)
          · have hili : ¬ (i : Int) < N := by omega
            have HRR := Lib.hid (show r = true by rw [her, show i = vs.length by have := HN.out; omega, List.drop_length]; rfl)
            have HBB := Lib.hid (HB1.out.trans (bb.mono HB1.out.size))
            clear hgg bb her
            go_wp2_with fail
            go_ret
            exact ⟨by rw [HRR.out]; rfl, HBB.out⟩
end Go.Proofs.YtobdlfikomnmcaaGreatDoor
