/- Layer 12: an index behind any Adds and Drops: the law. -/
import Derived.Test.YteheojiokbdgmaaGreatDoorMIYC
import Derived.Deep.RegionHeld3
namespace Go.Proofs.YteheojiokbdgmaaGreatDoor
open Go.RowKit Go.Lib
set_option linter.unusedVariables false

set_option maxHeartbeats 4000000 in
set_option maxRecDepth 100000 in
theorem pindex_any (a0 : Option Addr) (len0 cap0 : Nat) (zs : List Oi) (na va : List UInt8) (w : World) (h : OsR w a0 len0 zs) :
    Calls Tryz.prog 3 #[.slice a0 len0 cap0, .string (bs na), .string (bs va)] w fun e w' => e = .returned (.bool true) ∧ Below w.heap.size w w' := by
  have hT := bs_toList
  have GROW := Lib.hid (grow12_any a0 len0 cap0 zs w h)
  have hzl := h.hl
  have HPS := Lib.hid h.ps
  have AW := Lib.hid (fun W => pawake_any W)
  have HZL := Lib.hid (show zs.length ≤ 12 by omega)
  clear h hzl
  go_enter Tryz.func3, Tryz.ntmps3
  go_wp2_with fail
  refine GROW.out.mono ?_
  rintro e w1 ⟨b, mh, ml, tv, rfl, hG⟩
  obtain ⟨T, qs, t1, r1, hTq, b1⟩ := gst_told hG HZL.out (fun z hz => by rw [(HPS.out z hz).2.1]; omega)
  have TL1 := Lib.hid t1
  have RD1 := Lib.hid r1
  have HTQ := Lib.hid hTq
  have B1 := Lib.hid b1
  have hfew := t1.few
  obtain ⟨N, hN⟩ : ∃ N, N = qs.length := ⟨_, rfl⟩
  obtain ⟨_, ta, tcap, tg, toff, rfl, _, _⟩ := r1.rd
  have hTl : T.length = N := by rw [← hTq, List.length_map, hN]
  rw [← hN] at RD1 ⊢
  have HN := Lib.hid hN
  have HTL := Lib.hid hTl
  have hN12 : N ≤ 12 := by omega
  clear hG t1 r1 hTq b1 GROW HPS HZL hfew hN hTl
  go_wp2_with fail
  refine (AW.out _).mono ?_
  rintro e w2 ⟨rfl, b2⟩
  have TL2 := Lib.hid (TL1.out.on b2)
  have RD2 := Lib.hid (RD1.out.on b2)
  have B2 := Lib.hid (B1.out.trans (b2.mono B1.out.size))
  clear TL1 RD1 B1 b2 AW
  go_wp2_with fail
  go_loopw [9, 28] (fun o' i' wr => ∃ (i M : Nat), i' = .int .i64 i ∧ i ≤ N ∧ M ≤ i ∧ Hid (M = (numsT (T.take i)).length) ∧ Hid (Sl wr w2.heap.size 1 o' M (ic (numsT (T.take i)))) ∧ Below w2.heap.size w2 wr) (fun _ i' _ => N - (RowKit.intOf i').toNat)
  case atStart => exact ⟨0, 0, rfl, by omega, by omega, Lib.hid rfl, Lib.hid (Sl.lit w2 w2.heap.size 1 0 #[] _ (Nat.le_refl _) (by decide) rfl), (Below.refl _ _).alloc (Nat.le_refl _) _⟩
  case round =>
    obtain ⟨W0, rfl⟩ : ∃ W0, W0 = wr := ⟨_, rfl⟩
    obtain ⟨i, M, rfl, hi, hMi, hM, hs, hb⟩ := hrel
    by_cases hlt : i < N
    · obtain ⟨q, hq⟩ : ∃ q, qs[i]? = some q := ⟨qs[i]'(by have := HN.out; omega), List.getElem?_eq_getElem (by have := HN.out; omega)⟩
      have R0 := (show TdR W0 _ qs from RD2.out.on hb)
      obtain ⟨g, off, cap', pa, pc, he, hqv, hgl, r0, r1⟩ := R0.at_ hq
      rw [← HN.out] at he
      cases he
      obtain ⟨hprd, hpl⟩ := R0.each q (List.mem_of_getElem? hq)
      rw [hqv] at hprd
      obtain ⟨K, hK⟩ : ∃ K, K = q.ps.length := ⟨_, rfl⟩
      have HTI := Lib.hid (show T[i]? = some q.sr by rw [← HTQ.out, List.getElem?_map, hq]; rfl)
      have HPR := Lib.hid hprd
      rw [← hK] at r1 hpl
      have HK := Lib.hid hK
      obtain ⟨qn, hqn⟩ : ∃ qn, qn = q.n := ⟨_, rfl⟩
      rw [← hqn] at r0
      have HQN := Lib.hid hqn
      have HM := Lib.hid hM.out
      have HB := Lib.hid hb
      have hil : (i : Int) < N := by omega
      have hbz := hb.size
      obtain ⟨W1, hW1⟩ : ∃ W1, W1 = W0.alloc (.cells #[.int .i64 qn, .slice pa K pc] 31) := ⟨_, rfl⟩
      have hbx : W1.heap[W0.heap.size]? = some (.cells #[.int .i64 qn, .slice pa K pc] 31) := by rw [hW1]; exact heap_alloc_new W0 _
      have b1 : Below W0.heap.size W0 W1 := by rw [hW1]; exact (Below.refl _ _).alloc (Nat.le_refl _) _
      have k0 : W1.cell? ⟨W0.heap.size, 0, none⟩ = some (.int .i64 qn) := Lib.cell_of_heap hbx 0
      have zW1 : W0.heap.size < W1.heap.size := (Array.getElem?_eq_some_iff.1 hbx).1
      have PUT := Lib.hid (rput_any u9 (numsT (T.take i)) qn W1 (by have := hs.out.on b1; rw [hM.out] at this; exact Ns.of_sl this (by have := hM.out; omega)))
      have HBX := Lib.hid hbx
      have B1 := Lib.hid b1
      have HW1 := Lib.hid hW1
      rw [hW1] at PUT k0
      clear hq hqv hprd hK hqn hs hM hb hW1 hbx b1 R0
      go_wp2_with fail
      refine PUT.out.mono ?_
      rintro e W4 ⟨v4, rfl, s4, b4⟩
      rw [← HW1.out] at s4 b4
      have hbx4 : W4.heap[W0.heap.size]? = some (.cells #[.int .i64 qn, .slice pa K pc] 31) := (b4.block _ zW1).trans HBX.out
      have k41 : W4.cell? ⟨W0.heap.size, 1, none⟩ = some (.slice pa K pc) := Lib.cell_of_heap hbx4 1
      have HNX := Lib.hid (show numsT (T.take (i + 1)) = putZ (numsT (T.take i)) qn by rw [List.take_add_one, HTI.out]; show numsT (T.take i ++ [q.sr]) = _; rw [numsT_snoc, HQN.out]; rfl)
      have hpl2 := putZ_len (numsT (T.take i)) qn
      rw [← HM.out] at hpl2
      have S4 := Lib.hid (s4.mono (base' := w2.heap.size) (by omega))
      have B4 := Lib.hid (show Below W0.heap.size W0 W4 from B1.out.trans (b4.mono B1.out.size))
      obtain ⟨M4, hM4⟩ : ∃ M4, M4 = (putZ (numsT (T.take i)) qn).length := ⟨_, rfl⟩
      rw [← hM4] at S4 hpl2
      have HM4 := Lib.hid hM4
      clear s4 b4 hbx4 PUT k0 hM4 HM
      go_wp2_with fail
      go_loopw [39] (fun j' wr => ∃ (j : Nat), j' = .int .i64 j ∧ j ≤ K ∧ Below W4.heap.size W4 wr) (fun j' _ => K - (RowKit.intOf j').toNat)
      case atStart => exact ⟨0, rfl, by omega, Below.refl _ _⟩
      case round =>
        obtain ⟨W2, rfl⟩ : ∃ W2, W2 = wr := ⟨_, rfl⟩
        obtain ⟨j, rfl, hj, hb2⟩ := hrel
        have hb12 : Below W0.heap.size W0 W2 := B4.out.trans (hb2.mono B4.out.size)
        by_cases hjk : j < K
        · obtain ⟨p, hp⟩ : ∃ p, q.ps[j]? = some p := ⟨q.ps[j]'(by have := HK.out; omega), List.getElem?_eq_getElem (by have := HK.out; omega)⟩
          obtain ⟨g2, off2, rfl, hg2, p0, p1⟩ := (HPR.out.on hb12).pr_at hp
          have hji : (j : Int) < K := by omega
          have hbT : Below w2.heap.size w2 W2 := HB.out.trans (hb12.mono hbz)
          obtain ⟨pn, hpn⟩ : ∃ pn, pn = p.n := ⟨_, rfl⟩
          obtain ⟨pv, hpv⟩ : ∃ pv, pv = p.v := ⟨_, rfl⟩
          rw [← hpn] at p0
          rw [← hpv] at p1
          obtain ⟨W3, hW3⟩ : ∃ W3, W3 = W2.alloc (.cells #[.string (bs pn), .string (bs pv)] 34) := ⟨_, rfl⟩
          have b3 : Below W2.heap.size W2 W3 := by rw [hW3]; exact (Below.refl _ _).alloc (Nat.le_refl _) _
          have hbx3 : W3.heap[W2.heap.size]? = some (.cells #[.string (bs pn), .string (bs pv)] 34) := by rw [hW3]; exact heap_alloc_new W2 _
          have z3 := (Array.getElem?_eq_some_iff.1 hbx3).1
          have bT3 := hbT.trans (b3.mono hbT.size)
          have FX := Lib.hid (fun W (bb : Below W3.heap.size W3 W) => show W.cell? ⟨W2.heap.size, 0, none⟩ = some (.string (bs pn)) ∧ W.cell? ⟨W2.heap.size, 1, none⟩ = some (.string (bs pv)) from
            ⟨(bb.cell (p := ⟨W2.heap.size, 0, none⟩) z3).trans (Lib.cell_of_heap hbx3 0), (bb.cell (p := ⟨W2.heap.size, 1, none⟩) z3).trans (Lib.cell_of_heap hbx3 1)⟩)
          obtain ⟨G, hG⟩ : ∃ G, G = foldD (fG pn pv) T := ⟨_, rfl⟩
          obtain ⟨V, hV⟩ : ∃ V, V = foldD (fV pn) T := ⟨_, rfl⟩
          have hGl : G.length ≤ 120 := by rw [hG]; exact fold_small _ (fG_len pn pv) TL2.out
          have hVl : V.length ≤ 120 := by rw [hV]; exact fold_small _ (fV_len pn) TL2.out
          have CG := Lib.hid (fun W (bb : Below W3.heap.size W3 W) => show Calls Tryz.prog 9 #[.pointer (some ⟨b, 0, none⟩), .string (bs pn), .string (bs pv)] W (NewN W G) from by rw [hG]; exact told_get (TL2.out.on (bT3.trans (bb.mono bT3.size))) pn pv)
          have CR := Lib.hid (fun W (bb : Below W3.heap.size W3 W) => show Calls Tryz.prog 10 #[.slice (some ⟨g, off, none⟩) N tcap, .string (bs pn), .string (bs pv)] W (NewN W G) from by rw [hG, ← HTQ.out]; exact rget12_any _ qs pn pv W (RD2.out.on (bT3.trans (bb.mono bT3.size))))
          have CV := Lib.hid (fun W (bb : Below W3.heap.size W3 W) => show Calls Tryz.prog 12 #[.pointer (some ⟨b, 0, none⟩), .string (bs pn)] W (NewS W V) from by rw [hV]; exact told_values (TL2.out.on (bT3.trans (bb.mono bT3.size))) pn)
          have CW := Lib.hid (fun W (bb : Below W3.heap.size W3 W) => show Calls Tryz.prog 13 #[.slice (some ⟨g, off, none⟩) N tcap, .string (bs pn)] W (NewS W V) from by rw [hV, ← HTQ.out]; exact rvals12_any _ qs pn W (RD2.out.on (bT3.trans (bb.mono bT3.size))))
          have SM := Lib.hid (fun W a5 c5 a6 c6 (h5 : Sl W W3.heap.size 1 (.slice a5 G.length c5) G.length (ic G)) (h6 : Sl W W3.heap.size 1 (.slice a6 G.length c6) G.length (ic G)) => same12_any (.slice a5 G.length c5) (.slice a6 G.length c6) G W (Ns.of_sl h5 (by omega)) (Ns.of_sl h6 (by omega)))
          have TX := Lib.hid (fun W a5 c5 a6 c6 (h5 : Sl W W3.heap.size 1 (.slice a5 V.length c5) V.length (stc V)) (h6 : Sl W W3.heap.size 1 (.slice a6 V.length c6) V.length (stc V)) => texts_any (.slice a5 V.length c5) (.slice a6 V.length c6) V W (Rd.of_sl h5) (Rd.of_sl h6) (by omega))
          obtain ⟨GL, hGL⟩ : ∃ GL, GL = G.length := ⟨_, rfl⟩
          obtain ⟨VL, hVL⟩ : ∃ VL, VL = V.length := ⟨_, rfl⟩
          rw [← hGL] at SM
          rw [← hVL] at TX
          have HGL := Lib.hid hGL
          have HVL := Lib.hid hVL
          have B0 := (Below.refl W3.heap.size W3).drew
          have HB2 := Lib.hid (hb2.trans (b3.mono hb2.size))
          have HW3 := Lib.hid hW3
          clear hp hb12 hbT hpn hpv hbx3 bT3 hG hV hGl hVl hGL hVL hb2 b3 hW3
          go_upto_region 12 with fail
          rw [← HW3.out]
          clear HW3 p0 p1
          go_region_held3 (fun W => W.cell? ⟨W2.heap.size, 0, none⟩ = some (.string (bs pn)) ∧ W.cell? ⟨W2.heap.size, 1, none⟩ = some (.string (bs pv)))
            (first | (refine FX.out _ ?_; assumption) | assumption | fail)
            (first
              | (go_at_call 9; (with_reducible refine (CG.out _ B0).mono ?_); rintro e w5 ⟨v5, rfl, s5, b5⟩; rw [← HGL.out] at s5; obtain ⟨a5, c5, e5⟩ := s5.slice; subst e5; have B5 : Below W3.heap.size W3 w5 := B0.trans (b5.mono B0.size))
              | (go_at_call 10; (with_reducible refine (CR.out _ B5).mono ?_); rintro e w6 ⟨v6, rfl, s6, b6⟩; rw [← HGL.out] at s6; obtain ⟨a6, c6, e6⟩ := s6.slice; subst e6; have B6 : Below W3.heap.size W3 w6 := B5.trans (b6.mono B5.size))
              | (go_at_call 8; (with_reducible refine (SM.out _ a5 c5 a6 c6 ((s5.on b6).mono B0.size) (s6.mono B5.size)).mono ?_); rintro e w7 ⟨rfl, b7⟩; have B7 : Below W3.heap.size W3 w7 := B6.trans (b7.mono B6.size))
              | (go_at_call 12; (with_reducible refine (CV.out _ B7).mono ?_); rintro e w8 ⟨v8, rfl, s8, b8⟩; rw [← HVL.out] at s8; obtain ⟨a8, c8, e8⟩ := s8.slice; subst e8; have B8 : Below W3.heap.size W3 w8 := B7.trans (b8.mono B7.size))
              | (go_at_call 13; (with_reducible refine (CW.out _ B8).mono ?_); rintro e w9 ⟨v9, rfl, s9, b9⟩; rw [← HVL.out] at s9; obtain ⟨a9, c9, e9⟩ := s9.slice; subst e9; have B9 : Below W3.heap.size W3 w9 := B8.trans (b9.mono B8.size))
              | (go_at_call 11; (with_reducible refine (TX.out _ a8 c8 a9 c9 ((s8.on b9).mono B7.size) (s9.mono B8.size)).mono ?_); rintro e w10 ⟨rfl, b10⟩; have B10 : Below W3.heap.size W3 w10 := B9.trans (b10.mono B9.size))
              | fail)
          have BB := Lib.hid (HB2.out.trans (B10.mono HB2.out.size))
          clear B0 B5 B6 B7 B8 B9 B10 s5 s6 s8 s9 b5 b6 b7 b8 b9 b10 CG CR CV CW SM TX FX
          go_wp2_with fail
          exact ⟨⟨j + 1, by simp, by omega, BB.out⟩, by simp [RowKit.intOf]; omega⟩
        · have hjk2 : ¬ (j : Int) < K := by omega
          have BB := Lib.hid (HB.out.trans (hb12.mono hbz))
          have S5 := Lib.hid (S4.out.on hb2)
          clear hb12 hb2
          go_wp2_with fail
          exact ⟨⟨i + 1, M4, by simp, by omega, by omega, Lib.hid (by rw [HNX.out]; exact HM4.out), Lib.hid (by rw [HNX.out]; exact S5.out), BB.out⟩, by simp [RowKit.intOf]; omega⟩
    · obtain rfl : i = N := by omega
      have hil : ¬ (i : Int) < i := by omega
      have htk : T.take i = T := List.take_of_length_le (by have := HTL.out; omega)
      have HS := Lib.hid (show Sl W0 w2.heap.size 1 u9 (numsT T).length (ic (numsT T)) by have h1 := hs.out; have h2 := hM.out; rw [htk] at h1 h2; rw [← h2]; exact h1)
      obtain ⟨AL, hAL⟩ : ∃ AL, AL = numsT T := ⟨_, rfl⟩
      obtain ⟨NM, hNM⟩ : ∃ NM, NM = foldD fN T := ⟨_, rfl⟩
      obtain ⟨G, hG⟩ : ∃ G, G = foldD (fG na va) T := ⟨_, rfl⟩
      obtain ⟨V, hV⟩ : ∃ V, V = foldD (fV na) T := ⟨_, rfl⟩
      have hAl : AL.length ≤ 120 := by rw [hAL]; have := numsT_len T; have := HTL.out; omega
      have hNl : NM.length ≤ 120 := by rw [hNM]; exact fold_small _ fN_len TL2.out
      have hGl : G.length ≤ 120 := by rw [hG]; exact fold_small _ (fG_len na va) TL2.out
      have hVl : V.length ≤ 120 := by rw [hV]; exact fold_small _ (fV_len na) TL2.out
      rw [← hAL] at HS
      have TL3 := Lib.hid (TL2.out.on hb)
      have RD3 := Lib.hid (RD2.out.on hb)
      have C1 := Lib.hid (fun W (bb : Below W0.heap.size W0 W) => show Calls Tryz.prog 14 #[.pointer (some ⟨b, 0, none⟩)] W (NewN W AL) from by rw [hAL]; exact told_all (TL3.out.on bb))
      have C2 := Lib.hid (fun W (bb : Below W0.heap.size W0 W) => show Calls Tryz.prog 15 #[.pointer (some ⟨b, 0, none⟩)] W (NewS W NM) from by rw [hNM]; exact told_names (TL3.out.on bb))
      have C3 := Lib.hid (fun W (bb : Below W0.heap.size W0 W) => show Calls Tryz.prog 16 #[.slice ta i tcap] W (NewS W NM) from by rw [hNM, ← HTQ.out]; exact rnames12_any _ qs W (RD3.out.on bb))
      have C4 := Lib.hid (fun W (bb : Below W0.heap.size W0 W) => show Calls Tryz.prog 9 #[.pointer (some ⟨b, 0, none⟩), .string (bs na), .string (bs va)] W (NewN W G) from by rw [hG]; exact told_get (TL3.out.on bb) na va)
      have C5 := Lib.hid (fun W (bb : Below W0.heap.size W0 W) => show Calls Tryz.prog 10 #[.slice ta i tcap, .string (bs na), .string (bs va)] W (NewN W G) from by rw [hG, ← HTQ.out]; exact rget12_any _ qs na va W (RD3.out.on bb))
      have C6 := Lib.hid (fun W (bb : Below W0.heap.size W0 W) => show Calls Tryz.prog 12 #[.pointer (some ⟨b, 0, none⟩), .string (bs na)] W (NewS W V) from by rw [hV]; exact told_values (TL3.out.on bb) na)
      have C7 := Lib.hid (fun W (bb : Below W0.heap.size W0 W) => show Calls Tryz.prog 13 #[.slice ta i tcap, .string (bs na)] W (NewS W V) from by rw [hV, ← HTQ.out]; exact rvals12_any _ qs na W (RD3.out.on bb))
      have B0 := Below.refl W0.heap.size W0
      have BW := Lib.hid (B2.out.trans (hb.mono B2.out.size))
      clear hs hM htk hAL hNM hG hV hb TL2 RD2 TL3 RD3
      go_wp2_with fail
      refine (C1.out _ B0).mono ?_
      rintro e w5 ⟨v5, rfl, s5, b5⟩
      have B5 := B0.trans b5
      go_wp2_with fail
      refine (same12_any v5 u9 AL w5 (Ns.of_sl s5 (by omega)) (Ns.of_sl (HS.out.on b5) (by omega))).mono ?_
      rintro e w6 ⟨rfl, b6⟩
      have B6 := B5.trans (b6.mono B5.size)
      clear s5 b5 b6 B5 hAl
      go_wp2_with fail
      refine (C2.out _ B6).mono ?_
      rintro e w7 ⟨v7, rfl, s7, b7⟩
      have B7 := B6.trans (b7.mono B6.size)
      go_wp2_with fail
      refine (C3.out _ B7).mono ?_
      rintro e w8 ⟨v8, rfl, s8, b8⟩
      have B8 := B7.trans (b8.mono B7.size)
      go_wp2_with fail
      refine (texts_any v7 v8 NM w8 (Rd.of_sl (s7.on b8)) (Rd.of_sl s8) (by omega)).mono ?_
      rintro e w9 ⟨rfl, b9⟩
      have B9 := B8.trans (b9.mono B8.size)
      clear s7 s8 b7 b8 b9 B6 B7 B8 hNl
      go_wp2_with fail
      refine (C4.out _ B9).mono ?_
      rintro e w10 ⟨v10, rfl, s10, b10⟩
      have B10 := B9.trans (b10.mono B9.size)
      go_wp2_with fail
      refine (C5.out _ B10).mono ?_
      rintro e w11 ⟨v11, rfl, s11, b11⟩
      have B11 := B10.trans (b11.mono B10.size)
      go_wp2_with fail
      refine (same12_any v10 v11 G w11 (Ns.of_sl (s10.on b11) (by omega)) (Ns.of_sl s11 (by omega))).mono ?_
      rintro e w12 ⟨rfl, b12⟩
      have B12 := B11.trans (b12.mono B11.size)
      clear s10 s11 b10 b11 b12 B9 B10 B11 hGl
      go_wp2_with fail
      refine (C6.out _ B12).mono ?_
      rintro e w13 ⟨v13, rfl, s13, b13⟩
      have B13 := B12.trans (b13.mono B12.size)
      go_wp2_with fail
      refine (C7.out _ B13).mono ?_
      rintro e w14 ⟨v14, rfl, s14, b14⟩
      have B14 := B13.trans (b14.mono B13.size)
      go_wp2_with fail
      refine (texts_any v13 v14 V w14 (Rd.of_sl (s13.on b14)) (Rd.of_sl s14) (by omega)).mono ?_
      rintro e w15 ⟨rfl, b15⟩
      have B15 := Lib.hid (BW.out.trans ((B14.trans (b15.mono B14.size)).mono BW.out.size))
      clear s13 s14 b13 b14 b15 B12 B13 B14 hVl B0 C1 C2 C3 C4 C5 C6 C7
      go_wp2_with fail
      go_ret
      exact ⟨rfl, B15.out⟩
end Go.Proofs.YteheojiokbdgmaaGreatDoor
