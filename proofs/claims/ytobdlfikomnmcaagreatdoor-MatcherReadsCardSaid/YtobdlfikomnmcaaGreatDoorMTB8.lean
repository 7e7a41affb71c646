/- Layer 13: the document's text of a matcher, walked. -/
import Derived.Test.YtobdlfikomnmcaaGreatDoorMTB7
namespace Go.Proofs.YtobdlfikomnmcaaGreatDoor
open Go.RowKit Go.Lib
set_option linter.unusedVariables false

theorem joinB_snoc (c : UInt8) : ∀ (xs : List (List UInt8)) (y : List UInt8), xs ≠ [] → joinB c (xs ++ [y]) = joinB c xs ++ c :: y
  | [], y, h => absurd rfl h
  | [x], y, _ => rfl
  | x :: z :: r, y, _ => by
    have ih := joinB_snoc c (z :: r) y (by simp)
    show x ++ c :: joinB c ((z :: r) ++ [y]) = (x ++ c :: joinB c (z :: r)) ++ c :: y
    rw [ih]
    simp

set_option maxHeartbeats 4000000 in
set_option maxRecDepth 100000 in
theorem rtext13_any (m : Mr) (v : Value) (w : World) (h : Rd w 1 v m.vs.length (txs m.vs)) (ho : OkM m) :
    Calls Tryz.prog 13 #[mrV m v] w fun e w' => e = .returned (.string (bs (tOf m))) ∧ Below w.heap.size w w' := by
  have hT := bs_toList
  have hA := bs_append
  have hn40 := (plain_out ho.pn).2
  have hv40 := Lib.hid (fun v hv => (plain_out (ho.vs v hv).1).2)
  have hv10 := ho.v10
  have hv0 := Lib.hid (show 0 < m.vs.length from List.length_pos_iff.2 ho.v0)
  have hk := (show m.k = 1 ∨ m.k = 2 ∨ m.k = 3 ∨ m.k = 4 by have := ho.k1; have := ho.k4; omega)
  obtain ⟨_, a, cap, g, off, rfl, hg, hc⟩ := h
  simp only [Nat.mul_one] at hg hc
  obtain ⟨k, n, vs⟩ := m
  simp only at hn40 hv40 hv10 hv0 hk hg hc
  unfold mrV tOf
  simp only
  obtain ⟨nv, hnv⟩ : ∃ nv, nv = vs.length := ⟨_, rfl⟩
  rw [← hnv] at hg hc hv10 hv0 ⊢
  have HNV := Lib.hid hnv
  have HG := Lib.hid hg; have HC := Lib.hid hc
  have k124 : ByteArray.mk #[124] = bs [124] := rfl
  have z1 := bs_size_le n 40 hn40
  have hbw : Below w.heap.size w (w.alloc (.cells #[.int .i64 k, .string (bs n), .slice a nv cap] 33)) := (Below.refl _ _).alloc (Nat.le_refl _) _
  have HBW := Lib.hid hbw
  clear hnv hg hc ho hbw
  obtain ⟨sg, hsg⟩ : ∃ sg, sg = sgn k := ⟨_, rfl⟩
  have HSG := Lib.hid hsg
  have hs2 : sg.length ≤ 2 := by rw [hsg]; rcases hk with e | e | e | e <;> rw [e] <;> decide
  rw [← hsg]
  have z2 := bs_size_le sg 2 hs2
  have z3 := bs_size_le [124] 1 (by simp)
  have g1 : (bs n).size + (bs sg).size ≤ 9223372036854775807 := by omega
  rcases hk with rfl | rfl | rfl | rfl
  all_goals
    first
      | (have kS : ByteArray.mk #[61] = bs sg := by rw [hsg]; rfl)
      | (have kS : ByteArray.mk #[33, 61] = bs sg := by rw [hsg]; rfl)
      | (have kS : ByteArray.mk #[94] = bs sg := by rw [hsg]; rfl)
      | (have kS : ByteArray.mk #[64] = bs sg := by rw [hsg]; rfl)
    clear hsg
    go_enter Tryz.func13, Tryz.ntmps13
    go_wp2_with fail
    go_loopw [3, 27] (fun s' i' wr => ∃ (i : Nat) (q : List UInt8), i' = .int .i64 i ∧ s' = .string (bs q) ∧ i ≤ nv ∧ q.length ≤ 42 + i * 42 ∧ Hid (q = n ++ (sg ++ joinB 124 (vs.take i))) ∧ Below w.heap.size w wr) (fun _ i' _ => nv - (intOf i').toNat)
    case atStart => exact ⟨0, n ++ sg, rfl, rfl, by omega, by simp; omega, Lib.hid (by simp [joinB]), HBW.out⟩
    case round =>
      obtain ⟨W0, rfl⟩ : ∃ W0, W0 = wr := ⟨_, rfl⟩
      obtain ⟨i, q, rfl, rfl, hi, hql, hq, hb⟩ := hrel
      have HB := Lib.hid hb
      by_cases hlt : i < nv
      · obtain ⟨rfl, hgl⟩ := HG.out (by omega)
        obtain ⟨y, hy⟩ : ∃ y, vs[i]? = some y := ⟨vs[i]'(by have := HNV.out; omega), List.getElem?_eq_getElem (by have := HNV.out; omega)⟩
        have c1 := ((hb.cell (p := ⟨g, off + i, none⟩) hgl).trans (HC.out i hlt)).trans (txs_at vs i y hy)
        have hil : (i : Int) < nv := by omega
        have hy40 := hv40.out y (List.mem_of_getElem? hy)
        have z4 := bs_size_le q (42 + i * 42) hql
        have z5 := bs_size_le y 40 hy40
        by_cases h0 : i = 0
        · subst h0
          rw [Nat.add_zero] at c1
          have HQ := Lib.hid (show q ++ y = n ++ (sg ++ joinB 124 (vs.take (0 + 1))) by
            rw [hq.out, List.take_add_one, hy]
            simp [joinB])
          have f1 : (bs q).size + (bs y).size ≤ 9223372036854775807 := by omega
          clear hq hy hb
          go_wp2_with fail
          exact ⟨⟨1, q ++ y, rfl, rfl, by omega, by simp; omega, HQ, HB.out⟩, by simp [intOf]; omega⟩
        · have hi0 : (0 : Int) < i := by omega
          have HQ := Lib.hid (show q ++ ([124] ++ y) = n ++ (sg ++ joinB 124 (vs.take (i + 1))) by
            rw [hq.out, List.take_add_one, hy]
            show _ = n ++ (sg ++ joinB 124 (vs.take i ++ [y]))
            rw [joinB_snoc 124 (vs.take i) y (fun e => by
              have h9 : (vs.take i).length = i := by rw [List.length_take]; have := HNV.out; omega
              rw [e, List.length_nil] at h9
              omega)]
            simp)
          have f1 : (bs q).size + (bs [124]).size ≤ 9223372036854775807 := by omega
          have z6 := bs_size_le (q ++ [124]) (43 + i * 42) (by simp; omega)
          have f2 : (bs (q ++ [124])).size + (bs y).size ≤ 9223372036854775807 := by omega
          clear hq hy hb
          go_wp2_with fail
          exact ⟨⟨i + 1, q ++ ([124] ++ y), by go_num, by simp, by omega, by simp; omega, HQ, HB.out⟩, by simp [intOf]; omega⟩
      · have hil : ¬ (i : Int) < nv := by omega
        have HQ := Lib.hid (show q = n ++ (sg ++ joinB 124 vs) by rw [hq.out, List.take_of_length_le (by have := HNV.out; omega)])
        clear hq hb
        go_wp2_with fail
        go_ret
        exact ⟨by rw [← HQ.out]; rfl, HB.out⟩
end Go.Proofs.YtobdlfikomnmcaaGreatDoor
