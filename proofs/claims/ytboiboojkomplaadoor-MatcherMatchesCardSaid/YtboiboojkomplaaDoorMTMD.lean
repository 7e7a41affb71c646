/- Layer 13: the document's Fits. -/
import Derived.Test.YtboiboojkomplaaDoorMTMC
namespace Go.Proofs.YtboiboojkomplaaDoor
open Go.RowKit Go.Lib
set_option linter.unusedVariables false

set_option maxHeartbeats 4000000 in
set_option maxRecDepth 100000 in
theorem rfits13_any (m : Mr) (v : Value) (x : List UInt8) (w : World) (h : Rd w 1 v m.vs.length (txs m.vs)) (hl : m.vs.length ≤ 1000000) (h1 : 1 ≤ m.k) (h4 : m.k ≤ 4) (h3 : m.k = 3 → m.vs.length = 1) :
    Calls Tryd.prog 13 #[mrV m v, .string (bs x)] w fun e w' => e = .returned (.bool (fitB m x)) ∧ Below w.heap.size w w' := by
  have hT := bs_toList
  obtain ⟨k, n, vs⟩ := m
  simp only at h hl h1 h4 h3
  obtain ⟨_, a, cap, g, off, rfl, hg, hcell⟩ := h
  simp only [Nat.mul_one] at hcell
  unfold mrV
  simp only
  obtain ⟨N, hN⟩ : ∃ N, N = vs.length := ⟨_, rfl⟩
  rw [← hN] at hg hcell hl h3 ⊢
  obtain ⟨kz, hkz⟩ : ∃ kz : Int, kz = (k : Int) := ⟨_, rfl⟩
  rw [← hkz]
  obtain ⟨r, hr⟩ : ∃ r, fitB ⟨k, n, vs⟩ x = r := ⟨_, rfl⟩
  rw [hr]
  have hx : ∀ (j : Nat), j < N → ∃ y, vs[j]? = some y ∧ w.cell? ⟨g, off + j, none⟩ = some (.string (bs y)) := fun j hj => by
    obtain ⟨y, hy⟩ : ∃ y, vs[j]? = some y := ⟨_, List.getElem?_eq_getElem (by omega)⟩
    exact ⟨y, hy, (hcell j hj).trans (txs_at vs j y hy)⟩
  have HX := Lib.hid hx
  have HN := Lib.hid hN
  have HG := Lib.hid hg
  have HKZ := Lib.hid hkz
  have HR := Lib.hid hr
  have bz := (Below.refl w.heap.size w).alloc (Nat.le_refl _) (.cells #[.int .i64 kz, .string (bs n), .slice a N cap] 40)
  have HBZ := Lib.hid bz
  have H3 := Lib.hid h3
  clear hx hN hcell hg hkz hr bz h3
  go_enter Tryd.func13, Tryd.ntmps13
  go_wp2_with fail
  obtain ⟨W1, hW1⟩ : ∃ W1, W1 = w.alloc (.cells #[.int .i64 kz, .string (bs n), .slice a N cap] 40) := ⟨_, rfl⟩
  have hbx := heap_alloc_new w (.cells #[.int .i64 kz, .string (bs n), .slice a N cap] 40)
  rw [← hW1] at HBZ hbx ⊢
  have r0 := Lib.cell_of_heap hbx 0; have r1 := Lib.cell_of_heap hbx 1; have r2 := Lib.cell_of_heap hbx 2
  simp at r0 r1 r2
  have R0 := Lib.hid r0; have R2 := Lib.hid r2
  clear hW1 hbx r0 r1 r2
  go_loopw [5, 12] (fun b' i' wr => ∃ (i : Nat) (b : Bool), b' = .bool b ∧ i' = .int .i64 i ∧ i ≤ N ∧ wr = W1 ∧ Hid (b = decide (x ∈ vs.take i))) (fun _ i' _ => N - (intOf i').toNat)
  case atStart => exact ⟨0, false, rfl, rfl, Nat.zero_le _, rfl, Lib.hid (by simp)⟩
  case round =>
    obtain ⟨i, b, rfl, rfl, hi, rfl, hb⟩ := hrel
    by_cases hil : i < N
    · have hili : (i : Int) < N := by omega
      obtain ⟨rfl, hgl⟩ := HG.out (by omega)
      obtain ⟨y, hy, cy⟩ := HX.out i hil
      have c0 := (HBZ.out.cell (p := ⟨g, off + i, none⟩) hgl).trans cy
      have ht : vs.take (i + 1) = vs.take i ++ [y] := by rw [List.take_add_one, hy]; rfl
      have hb2 := hb.out
      cases b with
      | true =>
        have HB := Lib.hid (show true = decide (x ∈ vs.take (i + 1)) by
          rw [ht]; have := of_decide_eq_true hb2.symm; simp [this])
        clear hb hb2 ht hy cy
        go_wp2_with fail
        exact ⟨⟨i + 1, true, rfl, by go_num, by omega, trivial, HB⟩, by simp [intOf]; omega⟩
      | false =>
        have hn : ¬ x ∈ vs.take i := of_decide_eq_false hb2.symm
        by_cases hyx : y = x
        · have hq : (y == x) = true := beq_iff_eq.2 hyx
          have HB := Lib.hid (show true = decide (x ∈ vs.take (i + 1)) by
            rw [ht, hyx]; simp)
          clear hb hb2 ht hy cy hn hyx
          go_wp2_with fail
          exact ⟨⟨i + 1, true, rfl, by go_num, by omega, trivial, HB⟩, by simp [intOf]; omega⟩
        · have hq : (y == x) = false := beq_eq_false_iff_ne.2 hyx
          have HB := Lib.hid (show false = decide (x ∈ vs.take (i + 1)) by
            rw [ht]
            have hne : ¬ x = y := fun e => hyx e.symm
            simp [hn, hne])
          clear hb hb2 ht hy cy hn hyx
          go_wp2_with fail
          exact ⟨⟨i + 1, false, rfl, by go_num, by omega, trivial, HB⟩, by simp [intOf]; omega⟩
    · have hili : ¬ (i : Int) < N := by omega
      have HB := Lib.hid (show b = decide (x ∈ vs) by rw [hb.out, List.take_of_length_le (by have := HN.out; omega)])
      have r0 := R0.out; have r2 := R2.out
      have hkz := HKZ.out
      clear hb
      have hc : k = 1 ∨ k = 2 ∨ k = 3 ∨ k = 4 := by omega
      rcases hc with rfl | rfl | rfl | rfl
      · obtain rfl : kz = 1 := hkz
        have HRR := Lib.hid (show r = b by rw [← HR.out, HB.out]; rfl)
        clear HR HB
        go_wp2_with fail
        go_ret
        exact ⟨by rw [HRR.out]; rfl, HBZ.out⟩
      · obtain rfl : kz = 2 := hkz
        have HRR := Lib.hid (show r = !b by rw [← HR.out, HB.out]; rfl)
        clear HR HB
        go_wp2_with fail
        go_ret
        exact ⟨by rw [HRR.out]; rfl, HBZ.out⟩
      · obtain rfl : kz = 3 := hkz
        have hN1 := H3.out rfl
        obtain ⟨rfl, hgl⟩ := HG.out (by omega)
        obtain ⟨y, hy, cy⟩ := HX.out 0 (by omega)
        have hvs : vs = [y] := by
          have hl1 : vs.length = 1 := by have := HN.out; omega
          match vs, hl1, hy with
          | [z], _, hy => cases hy; rfl
        have c0 : wr.cell? ⟨g, off, none⟩ = some (.string (bs y)) := (HBZ.out.cell (p := ⟨g, off, none⟩) hgl).trans cy
        have HRR := Lib.hid (show r = (!(x == []) && pre y x) by rw [← HR.out]; unfold fitB; rw [hvs]; simp)
        have hNz : (0 : Int) < N := by omega
        obtain ⟨xe, hxe⟩ : ∃ xe : Bool, (x == []) = xe := ⟨_, rfl⟩
        rw [hxe] at HRR
        have hzx : (bs x).size = x.length := bs_size x
        have hzy : (bs y).size = y.length := bs_size y
        have htk := bs_take x y.length
        have hpq : (x.take y.length == y) = pre y x := by
          unfold pre
          rw [Bool.eq_iff_iff]
          simp only [beq_iff_eq, decide_eq_true_eq]
          rw [List.prefix_iff_eq_take]
          exact eq_comm
        clear HR HB hN1 hy cy hvs
        cases xe with
        | true =>
          go_wp2_with fail
          go_ret
          exact ⟨by rw [HRR.out]; rfl, HBZ.out⟩
        | false =>
          by_cases hle : y.length ≤ x.length
          · have hlez : (y.length : Int) ≤ x.length := by omega
            obtain ⟨pq, hpp⟩ : ∃ pq, pre y x = pq := ⟨_, rfl⟩
            rw [hpp] at hpq HRR
            clear hpp
            go_wp2_with fail
            go_ret
            exact ⟨by rw [HRR.out]; rfl, HBZ.out⟩
          · have hlez : ¬ (y.length : Int) ≤ x.length := by omega
            have HF := Lib.hid (show r = false by
              rw [HRR.out]
              have : pre y x = false := by
                unfold pre
                rw [decide_eq_false_iff_not]
                intro h
                exact hle h.length_le
              rw [this]; simp)
            clear hpq HRR
            go_wp2_with fail
            go_ret
            exact ⟨by rw [HF.out]; rfl, HBZ.out⟩
      · obtain rfl : kz = 4 := hkz
        have HRR := Lib.hid (show r = b by rw [← HR.out, HB.out]; rfl)
        clear HR HB
        go_wp2_with fail
        go_ret
        exact ⟨by rw [HRR.out]; rfl, HBZ.out⟩
end Go.Proofs.YtboiboojkomplaaDoor
