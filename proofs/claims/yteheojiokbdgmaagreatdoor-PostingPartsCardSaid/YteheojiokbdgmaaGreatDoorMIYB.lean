/- Layer 12: the document's Values and Names of series that are told, walked. -/
import Derived.Test.YteheojiokbdgmaaGreatDoorMIYA
namespace Go.Proofs.YteheojiokbdgmaaGreatDoor
open Go.RowKit Go.Lib
set_option linter.unusedVariables false

set_option maxHeartbeats 2000000 in
set_option maxRecDepth 100000 in
theorem rvals12_any (v : Value) (qs : List Sx) (x : List UInt8) (w : World) (h : TdR w v qs) :
    Calls Tryz.prog 13 #[v, .string (bs x)] w (NewS w (foldD (fV x) (qs.map Sx.sr))) := by
  have hT := bs_toList
  obtain ⟨T, hTd⟩ : ∃ T, T = qs.map Sx.sr := ⟨_, rfl⟩
  obtain ⟨N, hN⟩ : ∃ N, N = qs.length := ⟨_, rfl⟩
  have hTN : T.length = N := by rw [hTd, List.length_map, hN]
  have hN12 : N ≤ 12 := by rw [hN]; exact h.len
  obtain ⟨_, a, cap, g0, off0, rfl, hg, hc⟩ := h.rd
  rw [← hTd]
  rw [← hN] at h hg
  have HTR := Lib.hid h
  have HTD := Lib.hid hTd
  have HTN := Lib.hid hTN
  have HN := Lib.hid hN
  rw [← hN]
  clear h hTd hTN hN hg hc
  go_enter Tryz.func13, Tryz.ntmps13
  go_wp2_with fail
  go_loopw [5, 13] (fun o' i' wr => ∃ (i M : Nat), i' = .int .i64 i ∧ i ≤ N ∧ M ≤ 10 * i ∧ Hid (M = (foldD (fV x) (T.take i)).length) ∧ Hid (Sl wr w.heap.size 1 o' M (stc (foldD (fV x) (T.take i)))) ∧ Below w.heap.size w wr) (fun _ i' _ => N - (RowKit.intOf i').toNat)
  case atStart => exact ⟨0, 0, rfl, by omega, by omega, Lib.hid rfl, Lib.hid (Sl.lit w w.heap.size 1 0 #[] _ (Nat.le_refl _) (by decide) rfl), (Below.refl _ _).alloc (Nat.le_refl _) _⟩
  case round =>
    obtain ⟨W0, rfl⟩ : ∃ W0, W0 = wr := ⟨_, rfl⟩
    obtain ⟨i, M, rfl, hi, hM10, hM, hs, hb⟩ := hrel
    by_cases hlt : i < N
    · obtain ⟨q, hq⟩ : ∃ q, qs[i]? = some q := ⟨qs[i]'(by have := HN.out; omega), List.getElem?_eq_getElem (by have := HN.out; omega)⟩
      have R0 := HTR.out.on hb
      obtain ⟨g, off, cap', pa, pc, he, hqv, hgl, r0, r1⟩ := R0.at_ hq
      rw [← HN.out] at he
      cases he
      obtain ⟨hprd, hpl⟩ := R0.each q (List.mem_of_getElem? hq)
      rw [hqv] at hprd
      obtain ⟨K, hK⟩ : ∃ K, K = q.ps.length := ⟨_, rfl⟩
      have HTQ := Lib.hid (show T[i]? = some q.sr by rw [HTD.out, List.getElem?_map, hq]; rfl)
      have HPR := Lib.hid hprd
      rw [← hK] at r1 hpl
      have HK := Lib.hid hK
      obtain ⟨qn, hqn⟩ : ∃ qn, qn = q.n := ⟨_, rfl⟩
      rw [← hqn] at r0
      have HQN := Lib.hid hqn
      have HS := Lib.hid hs.out
      have HM := Lib.hid hM.out
      have HB := Lib.hid hb
      have hil : (i : Int) < N := by omega
      have hbz := hb.size
      obtain ⟨W1, hW1⟩ : ∃ W1, W1 = W0.alloc (.cells #[.int .i64 qn, .slice pa K pc] 31) := ⟨_, rfl⟩
      have hbx : W1.heap[W0.heap.size]? = some (.cells #[.int .i64 qn, .slice pa K pc] 31) := by rw [hW1]; exact heap_alloc_new W0 _
      have b1 : Below W0.heap.size W0 W1 := by rw [hW1]; exact (Below.refl _ _).alloc (Nat.le_refl _) _
      have HBX := Lib.hid hbx
      have B1 := Lib.hid b1
      have HW1 := Lib.hid hW1
      have zW1 : W0.heap.size < W1.heap.size := (Array.getElem?_eq_some_iff.1 hbx).1
      clear hq hqv hprd hK hqn hs hM hb hW1 hbx b1 R0
      go_wp2_with fail
      rw [← HW1.out]
      go_loopw [5, 20] (fun o' j' wr => ∃ (j M2 : Nat), j' = .int .i64 j ∧ j ≤ K ∧ M2 ≤ M + j ∧ Hid (M2 = (foldB (fV x) q.n (q.ps.take j) (foldD (fV x) (T.take i))).length) ∧ Hid (Sl wr w.heap.size 1 o' M2 (stc (foldB (fV x) q.n (q.ps.take j) (foldD (fV x) (T.take i))))) ∧ Below W1.heap.size W1 wr) (fun _ j' _ => K - (RowKit.intOf j').toNat)
      case atStart => exact ⟨0, M, rfl, by omega, by omega, Lib.hid (by rw [HM.out]; rfl), Lib.hid (by have := HS.out.on B1.out; exact this), Below.refl _ _⟩
      case round =>
        obtain ⟨W2, rfl⟩ : ∃ W2, W2 = wr := ⟨_, rfl⟩
        obtain ⟨j, M2, rfl, hj, hM2, hMd, hs2, hb2⟩ := hrel
        by_cases hjk : j < K
        · obtain ⟨p, hp⟩ : ∃ p, q.ps[j]? = some p := ⟨q.ps[j]'(by have := HK.out; omega), List.getElem?_eq_getElem (by have := HK.out; omega)⟩
          have hb12 : Below W0.heap.size W0 W2 := B1.out.trans (hb2.mono B1.out.size)
          obtain ⟨g2, off2, rfl, hg2, p0, p1⟩ := (HPR.out.on hb12).pr_at hp
          have hbx2 : W2.heap[W0.heap.size]? = some (.cells #[.int .i64 qn, .slice (some ⟨g2, off2, none⟩) K pc] 31) := (hb2.block _ zW1).trans HBX.out
          have k0 : W2.cell? ⟨W0.heap.size, 0, none⟩ = some (.int .i64 qn) := Lib.cell_of_heap hbx2 0
          have HT2 := Lib.hid (foldB_take (fV x) q.n q.ps (foldD (fV x) (T.take i)) hp)
          obtain ⟨F, hF⟩ : ∃ F, F = foldB (fV x) q.n (q.ps.take j) (foldD (fV x) (T.take i)) := ⟨_, rfl⟩
          have HMd := Lib.hid (show M2 = F.length by rw [hF]; exact hMd.out)
          have HS2 := Lib.hid (show Sl W2 w.heap.size 1 u5 M2 (stc F) by rw [hF]; exact hs2.out)
          rw [← hF] at HT2
          have hji : (j : Int) < K := by omega
          have zW2 : W0.heap.size < W2.heap.size := Nat.lt_of_lt_of_le zW1 hb2.size
          have HB2 := Lib.hid hb2
          obtain ⟨W3, hW3⟩ : ∃ W3, W3 = W2.alloc (.cells #[.string (bs p.n), .string (bs p.v)] 34) := ⟨_, rfl⟩
          have b3 : Below W2.heap.size W2 W3 := by rw [hW3]; exact (Below.refl _ _).alloc (Nat.le_refl _) _
          have B3 := Lib.hid b3
          have HW3 := Lib.hid hW3
          clear hp hb12 hbx2 hF hMd hs2 hb2 hW3
          by_cases he1 : p.n = x
          · have hbq : (p.n == x) = true := by simpa using he1
            have HQ := Lib.hid (show fV x F q.n p = insT p.v F by unfold fV; rw [if_pos he1])
            have PUT := Lib.hid (rtexts_any u5 F p.v W3 (by have := HS2.out.on b3; rw [HMd.out] at this; exact Rd.of_sl this) (by have := HMd.out; omega))
            rw [HW3.out] at PUT
            clear he1 b3
            go_wp2_with fail
            refine PUT.out.mono ?_
            rintro e W4 ⟨v4, rfl, s4, b4⟩
            rw [← HW3.out] at s4 b4
            have hz4 : w.heap.size ≤ W3.heap.size := by have := B3.out.size; have := HB2.out.size; have := B1.out.size; omega
            have FF := Lib.hid (show (foldB (fV x) q.n (q.ps.take (j + 1)) (foldD (fV x) (T.take i))) = insT p.v F by rw [HT2.out, HQ.out])
            have BB := Lib.hid (HB2.out.trans ((B3.out.trans (b4.mono B3.out.size)).mono HB2.out.size))
            have S4 := Lib.hid (s4.mono hz4)
            have hpl2 := insT_len p.v F
            rw [← HMd.out] at hpl2
            clear s4 b4 hz4
            go_wp2_with fail
            exact ⟨⟨j + 1, (insT p.v F).length, by simp, by omega, by omega, Lib.hid (by rw [FF.out]), Lib.hid (by rw [FF.out]; exact S4.out), BB.out⟩, by simp [RowKit.intOf]; omega⟩
          · have hbq : (p.n == x) = false := by simpa using he1
            have HQ := Lib.hid (show fV x F q.n p = F by unfold fV; rw [if_neg he1])
            clear he1 b3
            go_wp2_with fail
            rw [← HW3.out]
            exact ⟨⟨j + 1, M2, by simp, by omega, by omega, Lib.hid (by rw [HT2.out, HQ.out]; exact HMd.out), Lib.hid (by rw [HT2.out, HQ.out]; exact HS2.out.on B3.out), HB2.out.trans (B3.out.mono HB2.out.size)⟩, by simp [RowKit.intOf]; omega⟩
        · have hjk2 : ¬ (j : Int) < K := by omega
          have FF := Lib.hid (show foldD (fV x) (T.take (i + 1)) = foldB (fV x) q.n (q.ps.take j) (foldD (fV x) (T.take i)) by
            rw [foldD_take _ _ HTQ.out, show q.ps.take j = q.ps from List.take_of_length_le (by have := HK.out; omega)]; rfl)
          have BB := Lib.hid (HB.out.trans ((B1.out.trans (hb2.mono B1.out.size)).mono hbz))
          have HS3 := Lib.hid hs2.out
          have HM3 := Lib.hid hMd.out
          clear hs2 hMd hb2
          go_wp2_with fail
          exact ⟨⟨i + 1, M2, by simp, by omega, by omega, Lib.hid (by rw [FF.out]; exact HM3.out), Lib.hid (by rw [FF.out]; exact HS3.out), BB.out⟩, by simp [RowKit.intOf]; omega⟩
    · obtain rfl : i = N := by omega
      have hil : ¬ (i : Int) < i := by omega
      have FF := Lib.hid (show NewS w (foldD (fV x) T) (.returned u5) W0 from by
        have h1 := hs.out
        have h2 := hM.out
        rw [List.take_of_length_le (by have := HTN.out; omega)] at h1 h2
        exact ⟨_, rfl, by rw [← h2]; exact h1, hb⟩)
      clear hs hM hb
      go_wp2_with fail
      go_ret
      exact FF.out

set_option maxHeartbeats 2000000 in
set_option maxRecDepth 100000 in
theorem rnames12_any (v : Value) (qs : List Sx) (w : World) (h : TdR w v qs) :
    Calls Tryz.prog 16 #[v] w (NewS w (foldD fN (qs.map Sx.sr))) := by
  have hT := bs_toList
  obtain ⟨T, hTd⟩ : ∃ T, T = qs.map Sx.sr := ⟨_, rfl⟩
  obtain ⟨N, hN⟩ : ∃ N, N = qs.length := ⟨_, rfl⟩
  have hTN : T.length = N := by rw [hTd, List.length_map, hN]
  have hN12 : N ≤ 12 := by rw [hN]; exact h.len
  obtain ⟨_, a, cap, g0, off0, rfl, hg, hc⟩ := h.rd
  rw [← hTd]
  rw [← hN] at h hg
  have HTR := Lib.hid h
  have HTD := Lib.hid hTd
  have HTN := Lib.hid hTN
  have HN := Lib.hid hN
  rw [← hN]
  clear h hTd hTN hN hg hc
  go_enter Tryz.func16, Tryz.ntmps16
  go_wp2_with fail
  go_loopw [3, 11] (fun o' i' wr => ∃ (i M : Nat), i' = .int .i64 i ∧ i ≤ N ∧ M ≤ 10 * i ∧ Hid (M = (foldD fN (T.take i)).length) ∧ Hid (Sl wr w.heap.size 1 o' M (stc (foldD fN (T.take i)))) ∧ Below w.heap.size w wr) (fun _ i' _ => N - (RowKit.intOf i').toNat)
  case atStart => exact ⟨0, 0, rfl, by omega, by omega, Lib.hid rfl, Lib.hid (Sl.lit w w.heap.size 1 0 #[] _ (Nat.le_refl _) (by decide) rfl), (Below.refl _ _).alloc (Nat.le_refl _) _⟩
  case round =>
    obtain ⟨W0, rfl⟩ : ∃ W0, W0 = wr := ⟨_, rfl⟩
    obtain ⟨i, M, rfl, hi, hM10, hM, hs, hb⟩ := hrel
    by_cases hlt : i < N
    · obtain ⟨q, hq⟩ : ∃ q, qs[i]? = some q := ⟨qs[i]'(by have := HN.out; omega), List.getElem?_eq_getElem (by have := HN.out; omega)⟩
      have R0 := HTR.out.on hb
      obtain ⟨g, off, cap', pa, pc, he, hqv, hgl, r0, r1⟩ := R0.at_ hq
      rw [← HN.out] at he
      cases he
      obtain ⟨hprd, hpl⟩ := R0.each q (List.mem_of_getElem? hq)
      rw [hqv] at hprd
      obtain ⟨K, hK⟩ : ∃ K, K = q.ps.length := ⟨_, rfl⟩
      have HTQ := Lib.hid (show T[i]? = some q.sr by rw [HTD.out, List.getElem?_map, hq]; rfl)
      have HPR := Lib.hid hprd
      rw [← hK] at r1 hpl
      have HK := Lib.hid hK
      obtain ⟨qn, hqn⟩ : ∃ qn, qn = q.n := ⟨_, rfl⟩
      rw [← hqn] at r0
      have HQN := Lib.hid hqn
      have HS := Lib.hid hs.out
      have HM := Lib.hid hM.out
      have HB := Lib.hid hb
      have hil : (i : Int) < N := by omega
      have hbz := hb.size
      obtain ⟨W1, hW1⟩ : ∃ W1, W1 = W0.alloc (.cells #[.int .i64 qn, .slice pa K pc] 31) := ⟨_, rfl⟩
      have hbx : W1.heap[W0.heap.size]? = some (.cells #[.int .i64 qn, .slice pa K pc] 31) := by rw [hW1]; exact heap_alloc_new W0 _
      have b1 : Below W0.heap.size W0 W1 := by rw [hW1]; exact (Below.refl _ _).alloc (Nat.le_refl _) _
      have HBX := Lib.hid hbx
      have B1 := Lib.hid b1
      have HW1 := Lib.hid hW1
      have zW1 : W0.heap.size < W1.heap.size := (Array.getElem?_eq_some_iff.1 hbx).1
      clear hq hqv hprd hK hqn hs hM hb hW1 hbx b1 R0
      go_wp2_with fail
      rw [← HW1.out]
      go_loopw [3, 18] (fun o' j' wr => ∃ (j M2 : Nat), j' = .int .i64 j ∧ j ≤ K ∧ M2 ≤ M + j ∧ Hid (M2 = (foldB fN q.n (q.ps.take j) (foldD fN (T.take i))).length) ∧ Hid (Sl wr w.heap.size 1 o' M2 (stc (foldB fN q.n (q.ps.take j) (foldD fN (T.take i))))) ∧ Below W1.heap.size W1 wr) (fun _ j' _ => K - (RowKit.intOf j').toNat)
      case atStart => exact ⟨0, M, rfl, by omega, by omega, Lib.hid (by rw [HM.out]; rfl), Lib.hid (by have := HS.out.on B1.out; exact this), Below.refl _ _⟩
      case round =>
        obtain ⟨W2, rfl⟩ : ∃ W2, W2 = wr := ⟨_, rfl⟩
        obtain ⟨j, M2, rfl, hj, hM2, hMd, hs2, hb2⟩ := hrel
        by_cases hjk : j < K
        · obtain ⟨p, hp⟩ : ∃ p, q.ps[j]? = some p := ⟨q.ps[j]'(by have := HK.out; omega), List.getElem?_eq_getElem (by have := HK.out; omega)⟩
          have hb12 : Below W0.heap.size W0 W2 := B1.out.trans (hb2.mono B1.out.size)
          obtain ⟨g2, off2, rfl, hg2, p0, p1⟩ := (HPR.out.on hb12).pr_at hp
          have hbx2 : W2.heap[W0.heap.size]? = some (.cells #[.int .i64 qn, .slice (some ⟨g2, off2, none⟩) K pc] 31) := (hb2.block _ zW1).trans HBX.out
          have k0 : W2.cell? ⟨W0.heap.size, 0, none⟩ = some (.int .i64 qn) := Lib.cell_of_heap hbx2 0
          have HT2 := Lib.hid (foldB_take fN q.n q.ps (foldD fN (T.take i)) hp)
          obtain ⟨F, hF⟩ : ∃ F, F = foldB fN q.n (q.ps.take j) (foldD fN (T.take i)) := ⟨_, rfl⟩
          have HMd := Lib.hid (show M2 = F.length by rw [hF]; exact hMd.out)
          have HS2 := Lib.hid (show Sl W2 w.heap.size 1 u3 M2 (stc F) by rw [hF]; exact hs2.out)
          rw [← hF] at HT2
          have hji : (j : Int) < K := by omega
          have zW2 : W0.heap.size < W2.heap.size := Nat.lt_of_lt_of_le zW1 hb2.size
          have HB2 := Lib.hid hb2
          obtain ⟨W3, hW3⟩ : ∃ W3, W3 = W2.alloc (.cells #[.string (bs p.n), .string (bs p.v)] 34) := ⟨_, rfl⟩
          have b3 : Below W2.heap.size W2 W3 := by rw [hW3]; exact (Below.refl _ _).alloc (Nat.le_refl _) _
          have B3 := Lib.hid b3
          have HW3 := Lib.hid hW3
          clear hp hb12 hbx2 hF hMd hs2 hb2 hW3
          have HQ := Lib.hid (show fN F q.n p = insT p.n F by rfl)
          have PUT := Lib.hid (rtexts_any u3 F p.n W3 (by have := HS2.out.on b3; rw [HMd.out] at this; exact Rd.of_sl this) (by have := HMd.out; omega))
          rw [HW3.out] at PUT
          clear b3
          go_wp2_with fail
          refine PUT.out.mono ?_
          rintro e W4 ⟨v4, rfl, s4, b4⟩
          rw [← HW3.out] at s4 b4
          have hz4 : w.heap.size ≤ W3.heap.size := by have := B3.out.size; have := HB2.out.size; have := B1.out.size; omega
          have FF := Lib.hid (show (foldB fN q.n (q.ps.take (j + 1)) (foldD fN (T.take i))) = insT p.n F by rw [HT2.out, HQ.out])
          have BB := Lib.hid (HB2.out.trans ((B3.out.trans (b4.mono B3.out.size)).mono HB2.out.size))
          have S4 := Lib.hid (s4.mono hz4)
          have hpl2 := insT_len p.n F
          rw [← HMd.out] at hpl2
          clear s4 b4 hz4
          go_wp2_with fail
          exact ⟨⟨j + 1, (insT p.n F).length, by simp, by omega, by omega, Lib.hid (by rw [FF.out]), Lib.hid (by rw [FF.out]; exact S4.out), BB.out⟩, by simp [RowKit.intOf]; omega⟩
        · have hjk2 : ¬ (j : Int) < K := by omega
          have FF := Lib.hid (show foldD fN (T.take (i + 1)) = foldB fN q.n (q.ps.take j) (foldD fN (T.take i)) by
            rw [foldD_take _ _ HTQ.out, show q.ps.take j = q.ps from List.take_of_length_le (by have := HK.out; omega)]; rfl)
          have BB := Lib.hid (HB.out.trans ((B1.out.trans (hb2.mono B1.out.size)).mono hbz))
          have HS3 := Lib.hid hs2.out
          have HM3 := Lib.hid hMd.out
          clear hs2 hMd hb2
          go_wp2_with fail
          exact ⟨⟨i + 1, M2, by simp, by omega, by omega, Lib.hid (by rw [FF.out]; exact HM3.out), Lib.hid (by rw [FF.out]; exact HS3.out), BB.out⟩, by simp [RowKit.intOf]; omega⟩
    · obtain rfl : i = N := by omega
      have hil : ¬ (i : Int) < i := by omega
      have FF := Lib.hid (show NewS w (foldD fN T) (.returned u3) W0 from by
        have h1 := hs.out
        have h2 := hM.out
        rw [List.take_of_length_le (by have := HTN.out; omega)] at h1 h2
        exact ⟨_, rfl, by rw [← h2]; exact h1, hb⟩)
      clear hs hM hb
      go_wp2_with fail
      go_ret
      exact FF.out
end Go.Proofs.YteheojiokbdgmaaGreatDoor
