/- Layer 25: where a sample, and a row, stands: BinarySearchFunc, walked; place and placeAt. -/
import Derived.Test.YtfckgcckpfklaaaGreatDoorMWN
namespace Go.Proofs.YtfckgcckpfklaaaGreatDoor
open Go.RowKit Go.Lib Hp
set_option linter.unusedVariables false

theorem cmpI_zero {a b : Int} : cmpI a b = 0 ↔ a = b := by
  unfold cmpI
  by_cases h1 : a < b
  · rw [if_pos h1]; exact ⟨fun h => absurd h (by decide), fun h => by omega⟩
  · rw [if_neg h1]
    by_cases h2 : b < a
    · rw [if_pos h2]; exact ⟨fun h => absurd h (by decide), fun h => by omega⟩
    · rw [if_neg h2]; exact ⟨fun _ => by omega, fun _ => rfl⟩
set_option maxRecDepth 100000 in
theorem pa1_any (x : Sp) (t : Int) (w : World) : Calls Tryz.prog 67 #[.agg #[.int .i64 x.t, .int .u64 x.v], .int .i64 t] w fun e w' => e = .returned (.int .i64 (cmpI x.t t)) ∧ Below w.heap.size w w' := by
  obtain ⟨xt, xv⟩ := x
  have C := Lib.hid (fun W => compare_j xt t W)
  go_enter Tryz.func67, Tryz.ntmps67
  go_wp2_with fail
  refine (C.out _).mono ?_
  rintro e w1 ⟨rfl, rfl⟩
  go_wp2
  go_ret
  exact ⟨rfl, (Below.refl _ _).alloc (Nat.le_refl _) _⟩
set_option maxRecDepth 100000 in
theorem p1_any (a b v : Value) (ds ls : List Pr) (w : World) (h : Rd w 2 a ds.length (prc ds)) (k : Rd w 2 v ls.length (prc ls)) (h1 : ds.length ≤ 1000000) (h2 : ls.length ≤ 1000000) (hb : ∃ p n c, b = .slice p n c) :
    Calls Tryz.prog 63 #[.agg #[a, b], v] w fun e w' => e = .returned (.int .i64 (cmpS ds ls)) ∧ Below w.heap.size w w' := by
  obtain ⟨aa, ac, rfl⟩ := h.slice
  obtain ⟨va, vc, rfl⟩ := k.slice
  obtain ⟨p, n, c, rfl⟩ := hb
  have C := Lib.hid (fun W (bb : Below w.heap.size w W) => cmp_lb _ _ ds ls W (h.on bb) (k.on bb) h1 h2)
  obtain ⟨d1, hd1⟩ : ∃ d, d = ds.length := ⟨_, rfl⟩
  obtain ⟨d2, hd2⟩ : ∃ d, d = ls.length := ⟨_, rfl⟩
  rw [← hd1, ← hd2] at C ⊢
  clear h k h1 h2 hd1 hd2
  go_enter Tryz.func63, Tryz.ntmps63
  go_wp2_with fail
  have B1 := (Below.refl w.heap.size w).alloc (Nat.le_refl _) (.cells #[Value.slice aa d1 ac, .slice p n c] 43)
  refine (C.out _ B1).mono ?_
  rintro e w1 ⟨rfl, b1⟩
  go_wp2
  go_ret
  exact ⟨rfl, B1.trans (b1.mono B1.size)⟩

set_option maxHeartbeats 2000000 in
set_option maxRecDepth 100000 in
theorem search_S (v : Value) (l : List Sp) (t : Int) (w : World) (h : Rd w 2 v l.length (spc l)) (hu : Up l) (hm : l.length ≤ 1000000) :
    Calls Tryz.prog 66 #[v, .int .i64 t, .func (.func 67) #[] #[]] w fun e w' => e = .returned (.tuple #[.int .i64 (posS l t : Nat), .bool (look l t).isSome]) ∧ Below w.heap.size w w' := by
  obtain ⟨hl, a, cap, g, off, rfl, hg, hc⟩ := h
  obtain ⟨P, hP⟩ : ∃ P, P = posS l t := ⟨_, rfl⟩
  obtain ⟨N, hN⟩ : ∃ N, N = l.length := ⟨_, rfl⟩
  obtain ⟨F, hF⟩ : ∃ F, F = (look l t).isSome := ⟨_, rfl⟩
  have hPN : P ≤ N := by rw [hP, hN]; exact posS_le _ _
  have AT := Lib.hid (show ∀ m, m < N → ∃ (c0 c1 : Int) (c : Int), w.cell? ⟨g, off + m * 2, none⟩ = some (.int .i64 c0) ∧ w.cell? ⟨g, off + m * 2 + 1, none⟩ = some (.int .u64 c1) ∧ ((c < 0 ↔ m < P) ∧ (m = P → F = (c == (0 : Int)))) ∧
      ∀ W, Below w.heap.size w W → Calls Tryz.prog 67 #[.agg #[.int .i64 c0, .int .u64 c1], .int .i64 t] W fun e w' => e = .returned (.int .i64 c) ∧ Below W.heap.size W w' from fun m hm => by
    obtain ⟨x, hx⟩ : ∃ x, l[m]? = some x := ⟨_, List.getElem?_eq_getElem (by omega)⟩
    obtain ⟨v0, v1⟩ := spc_at l m x hx
    refine ⟨x.t, x.v, cmpI x.t t, (hc _ (by omega)).trans v0, ?_, ⟨?_, fun e => ?_⟩, fun W _ => pa1_any x t W⟩
    · rw [Nat.add_assoc]; exact (hc _ (by omega)).trans v1
    · rw [cmpI_lt, hP]; exact posS_iff hu hx
    · rw [hF, posS_look hu, ← hP, ← e, hx, Option.bind_some]
      by_cases h0 : x.t = t
      · rw [if_pos h0]; simp [cmpI_zero.2 h0]
      · rw [if_neg h0]; have := mt cmpI_zero.1 h0; simp [this])
  have HF := Lib.hid (show N ≤ P → F = false from fun h => by
    rw [hF, posS_look hu, ← hP, List.getElem?_eq_none (by omega)]; rfl)
  have HG := Lib.hid (show 0 < N → _ from fun h => hg (by omega))
  rw [← hP, ← hF, ← hN]
  clear hg hc hu hF
  have hN' : N ≤ 1000000 := by omega
  clear hN hm hl
  clear hP
  go_enter Tryz.func66, Tryz.ntmps66
  go_wp2_with fail
  go_loopw [9, 10] (fun i' j' wr => ∃ (i j : Nat), i' = .int .i64 i ∧ j' = .int .i64 j ∧ i ≤ P ∧ P ≤ j ∧ j ≤ N ∧ Below w.heap.size w wr) (fun i' j' _ => (RowKit.intOf j').toNat - (RowKit.intOf i').toNat)
  case atStart => exact ⟨0, N, rfl, rfl, by omega, by omega, by omega, Below.refl _ _⟩
  case round =>
    obtain ⟨W0, rfl⟩ : ∃ W0, W0 = wr := ⟨_, rfl⟩
    obtain ⟨i, j, rfl, rfl, hi, hj, hjN, hb⟩ := hrel
    have BW := Lib.hid hb
    by_cases hlt : i < j
    · obtain ⟨m, hm⟩ : ∃ m, m = (i + j) / 2 := ⟨_, rfl⟩
      have hm1 : i ≤ m ∧ m < j := by omega
      obtain ⟨c0, c1, c, k0, k1, kc, kx⟩ := AT.out m (by omega)
      obtain ⟨rfl, hgl⟩ := HG.out (by omega)
      have cx := (hb.cell (p := ⟨g, off + m * 2, none⟩) hgl).trans k0
      have cy := (hb.cell (p := ⟨g, off + m * 2 + 1, none⟩) hgl).trans k1
      have LX := Lib.hid (kx W0 hb)
      have hlt' : (i : Int) < j := by omega
      have hd1 : ((i : Int) + (j : Int)) / 2 = (m : Int) := by omega
      have hd2 : (i + j) / 2 = m := hm.symm
      have hm0 : (m : Int) < N := by omega
      clear hm k0 k1 kx hb
      by_cases hxn : c < 0
      · have hmP := (kc.1).1 hxn
        clear kc
        go_wp2_with fail
        refine LX.out.mono ?_
        rintro e w1 ⟨rfl, b1⟩
        have B1 := BW.out.trans (b1.mono BW.out.size)
        go_wp2
        exact ⟨⟨m + 1, j, by go_num, rfl, by omega, by omega, by omega, B1⟩, by simp [RowKit.intOf]; omega⟩
      · have hmP : ¬ m < P := fun e => hxn ((kc.1).2 e)
        clear kc
        go_wp2_with fail
        refine LX.out.mono ?_
        rintro e w1 ⟨rfl, b1⟩
        have B1 := BW.out.trans (b1.mono BW.out.size)
        go_wp2
        exact ⟨⟨i, m, rfl, by go_num, by omega, by omega, by omega, B1⟩, by simp [RowKit.intOf]; omega⟩
    · obtain rfl : i = P := by omega
      obtain rfl : j = i := by omega
      by_cases hPN : j < N
      · obtain ⟨c0, c1, c, k0, k1, kc, kx⟩ := AT.out j hPN
        obtain ⟨rfl, hgl⟩ := HG.out (by omega)
        have cx := (hb.cell (p := ⟨g, off + j * 2, none⟩) hgl).trans k0
        have cy := (hb.cell (p := ⟨g, off + j * 2 + 1, none⟩) hgl).trans k1
        have LX := Lib.hid (kx W0 hb)
        have hPN' : (j : Int) < N := by omega
        have HM := Lib.hid (show F = (c == (0 : Int)) from kc.2 rfl)
        clear k0 k1 kx hb kc
        cases hxn : (c == (0 : Int))
        · rw [hxn] at HM
          go_wp2_with fail
          refine LX.out.mono ?_
          rintro e w1 ⟨rfl, b1⟩
          have B1 := BW.out.trans (b1.mono BW.out.size)
          go_wp2
          go_ret2
          exact ⟨by rw [HM.out]; rfl, B1⟩
        · rw [hxn] at HM
          go_wp2_with fail
          refine LX.out.mono ?_
          rintro e w1 ⟨rfl, b1⟩
          have B1 := BW.out.trans (b1.mono BW.out.size)
          go_wp2
          go_ret2
          exact ⟨by rw [HM.out]; rfl, B1⟩
      · have HM := Lib.hid (show F = false from HF.out (by omega))
        have hPN' : ¬ (j : Int) < N := by omega
        go_wp2_with fail
        go_ret2
        exact ⟨by rw [HM.out]; rfl, BW.out⟩

set_option maxHeartbeats 2000000 in
set_option maxRecDepth 100000 in
theorem search_R (v lv : Value) (l : List Rq) (ls : List Pr) (K0 : Nat) (w : World) (h : Rd w 2 v l.length (rqc l) ∧ ∀ q ∈ l, RowOk w K0 q) (k : Rd w 2 lv ls.length (prc ls)) (hu : UpT (rws l)) (hm : l.length ≤ 1000000) (hk : ls.length ≤ 1000000) :
    Calls Tryz.prog 62 #[v, lv, .func (.func 63) #[] #[]] w fun e w' => e = .returned (.tuple #[.int .i64 (posT (rws l) ls : Nat), .bool (rowT (rws l) ls).isSome]) ∧ Below w.heap.size w w' := by
  obtain ⟨⟨hl, a, cap, g, off, rfl, hg, hc⟩, hok⟩ := h
  obtain ⟨va, vc, rfl⟩ := k.slice
  obtain ⟨P, hP⟩ : ∃ P, P = posT (rws l) ls := ⟨_, rfl⟩
  obtain ⟨N, hN⟩ : ∃ N, N = l.length := ⟨_, rfl⟩
  obtain ⟨F, hF⟩ : ∃ F, F = (rowT (rws l) ls).isSome := ⟨_, rfl⟩
  have hlr : (rws l).length = l.length := by unfold rws; rw [List.length_map]
  have hPN : P ≤ N := by rw [hP, hN, ← hlr]; exact posT_le _ _
  have AT := Lib.hid (show ∀ m, m < N → ∃ (c0 c1 : Value) (c : Int), w.cell? ⟨g, off + m * 2, none⟩ = some c0 ∧ w.cell? ⟨g, off + m * 2 + 1, none⟩ = some c1 ∧ (((c < 0 ↔ m < P) ∧ (m = P → F = (c == (0 : Int)))) ∧ (∃ p n k, c0 = .slice p n k) ∧ ∃ p n k, c1 = .slice p n k) ∧
      ∀ W, Below w.heap.size w W → Calls Tryz.prog 63 #[.agg #[c0, c1], .slice va ls.length vc] W fun e w' => e = .returned (.int .i64 c) ∧ Below W.heap.size W w' from fun m hm => by
    obtain ⟨x, hx⟩ : ∃ x, l[m]? = some x := ⟨_, List.getElem?_eq_getElem (by omega)⟩
    have hxr : (rws l)[m]? = some x.r := by unfold rws; rw [List.getElem?_map, hx]; rfl
    obtain ⟨v0, v1⟩ := rqc_at l m x hx
    have ok := hok x (List.mem_of_getElem? hx)
    obtain ⟨xa, xc, ea⟩ := ok.l.slice
    obtain ⟨xb, xd, eb⟩ := ok.s.slice
    refine ⟨x.a, x.b, cmpS x.r.ls ls, (hc _ (by omega)).trans v0, ?_, ⟨⟨?_, fun e => ?_⟩, ⟨_, _, _, ea⟩, _, _, _, eb⟩, fun W bb => p1_any _ _ _ _ _ W (ok.l.on bb) (k.on bb) (by have := ok.hl; omega) hk ⟨_, _, _, eb⟩⟩
    · rw [Nat.add_assoc]; exact (hc _ (by omega)).trans v1
    · rw [hP]; exact posT_iff hu hxr
    · rw [hF, posT_row hu, ← hP, ← e, hxr, Option.bind_some]
      by_cases h0 : cmpS x.r.ls ls = 0
      · rw [if_pos h0]; simp [h0]
      · rw [if_neg h0]; simp [h0])
  have HF := Lib.hid (show N ≤ P → F = false from fun h => by
    rw [hF, posT_row hu, ← hP, List.getElem?_eq_none (by omega)]; rfl)
  have HG := Lib.hid (show 0 < N → _ from fun h => hg (by omega))
  rw [← hP, ← hF, ← hN]
  obtain ⟨K, hK⟩ : ∃ K, K = ls.length := ⟨_, rfl⟩
  rw [← hK] at AT ⊢
  clear hg hc hu hF hok k hk hlr hK
  have hN' : N ≤ 1000000 := by omega
  clear hN hm hl
  clear hP
  go_enter Tryz.func62, Tryz.ntmps62
  go_wp2_with fail
  go_loopw [9, 10] (fun i' j' wr => ∃ (i j : Nat), i' = .int .i64 i ∧ j' = .int .i64 j ∧ i ≤ P ∧ P ≤ j ∧ j ≤ N ∧ Below w.heap.size w wr) (fun i' j' _ => (RowKit.intOf j').toNat - (RowKit.intOf i').toNat)
  case atStart => exact ⟨0, N, rfl, rfl, by omega, by omega, by omega, Below.refl _ _⟩
  case round =>
    obtain ⟨W0, rfl⟩ : ∃ W0, W0 = wr := ⟨_, rfl⟩
    obtain ⟨i, j, rfl, rfl, hi, hj, hjN, hb⟩ := hrel
    have BW := Lib.hid hb
    by_cases hlt : i < j
    · obtain ⟨m, hm⟩ : ∃ m, m = (i + j) / 2 := ⟨_, rfl⟩
      have hm1 : i ≤ m ∧ m < j := by omega
      obtain ⟨c0, c1, c, k0, k1, ⟨kc, ⟨s0, n0, d0, rfl⟩, s1, n1, d1, rfl⟩, kx⟩ := AT.out m (by omega)
      obtain ⟨rfl, hgl⟩ := HG.out (by omega)
      have cx := (hb.cell (p := ⟨g, off + m * 2, none⟩) hgl).trans k0
      have cy := (hb.cell (p := ⟨g, off + m * 2 + 1, none⟩) hgl).trans k1
      have LX := Lib.hid (kx W0 hb)
      have hlt' : (i : Int) < j := by omega
      have hd1 : ((i : Int) + (j : Int)) / 2 = (m : Int) := by omega
      have hd2 : (i + j) / 2 = m := hm.symm
      have hm0 : (m : Int) < N := by omega
      clear hm k0 k1 kx hb
      by_cases hxn : c < 0
      · have hmP := (kc.1).1 hxn
        clear kc
        go_wp2_with fail
        refine LX.out.mono ?_
        rintro e w1 ⟨rfl, b1⟩
        have B1 := BW.out.trans (b1.mono BW.out.size)
        go_wp2
        exact ⟨⟨m + 1, j, by go_num, rfl, by omega, by omega, by omega, B1⟩, by simp [RowKit.intOf]; omega⟩
      · have hmP : ¬ m < P := fun e => hxn ((kc.1).2 e)
        clear kc
        go_wp2_with fail
        refine LX.out.mono ?_
        rintro e w1 ⟨rfl, b1⟩
        have B1 := BW.out.trans (b1.mono BW.out.size)
        go_wp2
        exact ⟨⟨i, m, rfl, by go_num, by omega, by omega, by omega, B1⟩, by simp [RowKit.intOf]; omega⟩
    · obtain rfl : i = P := by omega
      obtain rfl : j = i := by omega
      by_cases hPN : j < N
      · obtain ⟨c0, c1, c, k0, k1, ⟨kc, ⟨s0, n0, d0, rfl⟩, s1, n1, d1, rfl⟩, kx⟩ := AT.out j hPN
        obtain ⟨rfl, hgl⟩ := HG.out (by omega)
        have cx := (hb.cell (p := ⟨g, off + j * 2, none⟩) hgl).trans k0
        have cy := (hb.cell (p := ⟨g, off + j * 2 + 1, none⟩) hgl).trans k1
        have LX := Lib.hid (kx W0 hb)
        have hPN' : (j : Int) < N := by omega
        have HM := Lib.hid (show F = (c == (0 : Int)) from kc.2 rfl)
        clear k0 k1 kx hb kc
        cases hxn : (c == (0 : Int))
        · rw [hxn] at HM
          go_wp2_with fail
          refine LX.out.mono ?_
          rintro e w1 ⟨rfl, b1⟩
          have B1 := BW.out.trans (b1.mono BW.out.size)
          go_wp2
          go_ret2
          exact ⟨by rw [HM.out]; rfl, B1⟩
        · rw [hxn] at HM
          go_wp2_with fail
          refine LX.out.mono ?_
          rintro e w1 ⟨rfl, b1⟩
          have B1 := BW.out.trans (b1.mono BW.out.size)
          go_wp2
          go_ret2
          exact ⟨by rw [HM.out]; rfl, B1⟩
      · have HM := Lib.hid (show F = false from HF.out (by omega))
        have hPN' : ¬ (j : Int) < N := by omega
        go_wp2_with fail
        go_ret2
        exact ⟨by rw [HM.out]; rfl, BW.out⟩

set_option maxRecDepth 100000 in
theorem placeAt_any (v : Value) (l : List Sp) (t : Int) (w : World) (h : Rd w 2 v l.length (spc l)) (hu : Up l) (hm : l.length ≤ 1000000) :
    Calls Tryz.prog 46 #[v, .int .i64 t] w fun e w' => e = .returned (.tuple #[.int .i64 (posS l t : Nat), .bool (look l t).isSome]) ∧ Below w.heap.size w w' := by
  have C := Lib.hid (search_S v l t w h hu hm)
  obtain ⟨a, c, rfl⟩ := h.slice
  obtain ⟨P, hP⟩ : ∃ P, P = posS l t := ⟨_, rfl⟩
  obtain ⟨F, hF⟩ : ∃ F, F = (look l t).isSome := ⟨_, rfl⟩
  obtain ⟨N, hN⟩ : ∃ N, N = l.length := ⟨_, rfl⟩
  rw [← hP, ← hF, ← hN] at C
  rw [← hP, ← hF, ← hN]
  clear h hu hP hF hN hm
  go_enter Tryz.func46, Tryz.ntmps46
  go_wp2_with fail
  refine C.out.mono ?_
  rintro e w1 ⟨rfl, b1⟩
  go_wp2
  go_ret2
  exact ⟨rfl, b1⟩
set_option maxRecDepth 100000 in
theorem place_any (v lv : Value) (l : List Rq) (ls : List Pr) (K0 : Nat) (w : World) (h : Rd w 2 v l.length (rqc l) ∧ ∀ q ∈ l, RowOk w K0 q) (k : Rd w 2 lv ls.length (prc ls)) (hu : UpT (rws l)) (hm : l.length ≤ 1000000) (hk : ls.length ≤ 1000000) :
    Calls Tryz.prog 44 #[v, lv] w fun e w' => e = .returned (.tuple #[.int .i64 (posT (rws l) ls : Nat), .bool (rowT (rws l) ls).isSome]) ∧ Below w.heap.size w w' := by
  have C := Lib.hid (search_R v lv l ls K0 w h k hu hm hk)
  obtain ⟨a, c, rfl⟩ := h.1.slice
  obtain ⟨b, d, rfl⟩ := k.slice
  obtain ⟨P, hP⟩ : ∃ P, P = posT (rws l) ls := ⟨_, rfl⟩
  obtain ⟨F, hF⟩ : ∃ F, F = (rowT (rws l) ls).isSome := ⟨_, rfl⟩
  obtain ⟨N, hN⟩ : ∃ N, N = l.length := ⟨_, rfl⟩
  obtain ⟨M, hM⟩ : ∃ M, M = ls.length := ⟨_, rfl⟩
  rw [← hP, ← hF, ← hN, ← hM] at C
  rw [← hP, ← hF, ← hN, ← hM]
  clear h k hu hP hF hN hm hk hM
  go_enter Tryz.func44, Tryz.ntmps44
  go_wp2_with fail
  refine C.out.mono ?_
  rintro e w1 ⟨rfl, b1⟩
  go_wp2
  go_ret2
  exact ⟨rfl, b1⟩
end Go.Proofs.YtfckgcckpfklaaaGreatDoor
