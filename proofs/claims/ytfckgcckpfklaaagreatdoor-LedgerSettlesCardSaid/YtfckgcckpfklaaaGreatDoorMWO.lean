/- Layer 14: Between, walked. -/
import Derived.Test.YtfckgcckpfklaaaGreatDoorMWN
namespace Go.Proofs.YtfckgcckpfklaaaGreatDoor
open Go.RowKit Go.Lib Hp
set_option linter.unusedVariables false

set_option maxHeartbeats 8000000 in
set_option maxRecDepth 100000 in
theorem between_any (v : Value) (l : List Rw) (f t : Int) (K : Nat) (w : World) (h : TabR w K v l) (hm : l.length ≤ 1000) (hK : K ≤ 10000) :
    Calls Tryz.prog 42 #[v, .int .i64 f, .int .i64 t] w fun e w' => ∃ v', e = .returned v' ∧ TabC w' K v' (betw f t l) ∧ Below w.heap.size w w' := by
  obtain ⟨i0, hi, hz0, hz1, hz2⟩ := info_parts zc_mrow
  have Hz := Lib.hid hz0; have Hs := Lib.hid hz1; have Hb := Lib.hid hz2; have Hi := Lib.hid hi
  clear hz0 hz1 hz2 hi
  obtain ⟨i2, hi, hz0, hz1, hz2⟩ := info_parts zc_smp
  have Sz := Lib.hid hz0; have Ss := Lib.hid hz1; have Sb := Lib.hid hz2; have Si := Lib.hid hi
  clear hz0 hz1 hz2 hi
  obtain ⟨-, qs0, hqs, ⟨_, a, cap, g, off, rfl, hg, hc⟩, hok⟩ := h
  obtain ⟨n, hn⟩ : ∃ n, n = l.length := ⟨_, rfl⟩
  rw [← hn] at hg hc hm ⊢
  have hq0 : qs0.length = n := by rw [hn, ← hqs, List.length_map]
  have HN := Lib.hid hn
  have HC := Lib.hid hc
  have HG := Lib.hid hg
  have HQ0 := Lib.hid hq0
  have HOK := Lib.hid hok
  have HQS := Lib.hid hqs
  clear hn hc hg hq0 hok hqs
  go_enter Tryz.func42, Tryz.ntmps42
  go_wp2_with fail
  go_loopw [7, 9, 10, 12, 15, 20, 21, 22] (fun p' _ _ _ i' _ _ _ wr => ∃ (i : Nat) (qs : List Rq), i' = .int .i64 i ∧ i ≤ n ∧ Hid (rws qs = betw f t (l.take i) ∧ ∀ q ∈ qs, Capd q.b q.r.ss.length) ∧ qs.length ≤ i ∧ TabN wr w.heap.size K p' qs ∧ Below w.heap.size w wr) (fun _ _ _ _ i' _ _ _ _ => n - (intOf i').toNat)
  case atStart => exact ⟨0, [], rfl, by omega, Lib.hid ⟨rfl, fun q hq => absurd hq (by simp)⟩, Nat.le_refl _, ⟨Sl.nil _ _ _, fun q hq => absurd hq (by simp)⟩, Below.refl _ _⟩
  case round =>
    obtain ⟨W0, rfl⟩ : ∃ W0, W0 = wr := ⟨_, rfl⟩
    obtain ⟨i, qs, rfl, hi, hof, hol, hown, hb⟩ := hrel
    have hbz := hb.size
    obtain ⟨oa, oc, he⟩ := hown.sl.slice
    subst he
    obtain ⟨m, hml⟩ : ∃ m, m = qs.length := ⟨_, rfl⟩
    rw [← hml] at hown hol
    rw [← hml]
    have HOB := Lib.hid (fun k (hk : (Value.slice oa m oc).ownBlock = some k) => (hown.sl.lt k hk).2)
    have HML := Lib.hid hml
    have BW := Lib.hid hb
    have HOWN := Lib.hid hown
    have HBT := Lib.hid hof.out.1
    have HCQ := Lib.hid hof.out.2
    clear hml hown hof
    by_cases hlt : i < n
    · obtain ⟨rfl, hgl⟩ := HG.out (by omega)
      obtain ⟨⟨qa, qb, rl, rs⟩, hx⟩ : ∃ q, qs0[i]? = some q := ⟨qs0[i]'(by have := HQ0.out; omega), List.getElem?_eq_getElem (by have := HQ0.out; omega)⟩
      obtain ⟨v0, v1⟩ := rqc_at qs0 i _ hx
      have hli : l[i]? = some ⟨rl, rs⟩ := by rw [← HQS.out, List.getElem?_map, hx]; rfl
      have ok := HOK.out _ (List.mem_of_getElem? hx)
      have q0 := (hb.cell (p := ⟨g, off + i * 2, none⟩) hgl).trans ((HC.out (i * 2) (by omega)).trans v0)
      have q1 := (hb.cell (p := ⟨g, off + (i * 2 + 1), none⟩) hgl).trans ((HC.out (i * 2 + 1) (by omega)).trans v1)
      rw [← Nat.add_assoc] at q1
      obtain ⟨kl, ks, kn, kk⟩ := ok
      simp only at kl ks kn kk q0 q1
      obtain ⟨aa, ca, ea⟩ := kl.slice
      obtain ⟨ab, cb', eb⟩ := ks.slice
      subst ea eb
      obtain ⟨NL, hNL⟩ : ∃ NL, NL = rl.length := ⟨_, rfl⟩
      obtain ⟨NS, hNS⟩ : ∃ NS, NS = rs.length := ⟨_, rfl⟩
      rw [← hNL] at q0 kn
      rw [← hNS] at q1 kk
      have HNL := Lib.hid hNL; have HNS := Lib.hid hNS
      have hil : (i : Int) < n := by omega
      have STEP := Lib.hid (show betw f t (l.take (i + 1)) = betw f t (l.take i) ++ (if (rs.filter (inB f t)).length = 0 then [] else [⟨rl, rs.filter (inB f t)⟩]) by
        rw [List.take_add_one, hli]; exact betw_snoc f t ⟨rl, rs⟩ (l.take i))
      obtain ⟨V1, hV1⟩ : ∃ V1, V1 = W0.alloc (.cells #[.slice aa NL ca, .slice ab NS cb'] 43) := ⟨_, rfl⟩
      have b1 : Below W0.heap.size W0 V1 := by rw [hV1]; exact (Below.refl _ _).alloc (Nat.le_refl _) _
      have y1 : V1.heap.size = W0.heap.size + 1 := by rw [hV1]; simp
      have hx1 : V1.heap[W0.heap.size]? = some (.cells #[.slice aa NL ca, .slice ab NS cb'] 43) := by rw [hV1]; exact heap_alloc_new W0 _
      have KL := Lib.hid (show Rd V1 2 (.slice aa NL ca) NL (prc rl) by have := (kl.on hb).on b1; rw [← hNL] at this; exact this)
      have KS := Lib.hid (show Rd V1 2 (.slice ab NS cb') NS (spc rs) by have := (ks.on hb).on b1; rw [← hNS] at this; exact this)
      have HX1 := Lib.hid hx1; have B1 := Lib.hid b1; have Y1 := Lib.hid y1
      have r0 := Lib.cell_of_heap hx1 0
      have r1 := Lib.cell_of_heap hx1 1
      simp at r0 r1
      clear hx v0 v1 hli kl ks hNL hNS hx1 b1
      go_upto_region 5 with fail
      rw [← hV1]
      clear hV1 q0 q1
      go_wp2_with fail
      go_loopw [10, 12, 22] (fun s' _ j' wx => ∃ (j : Nat) (k : Nat), j' = .int .i64 j ∧ j ≤ NS ∧ k ≤ j ∧ Hid (k = ((rs.take j).filter (inB f t)).length) ∧ Sl wx V1.heap.size 2 s' k (spc ((rs.take j).filter (inB f t))) ∧ Below V1.heap.size V1 wx) (fun _ _ j' _ => NS - (intOf j').toNat)
      case atStart => exact ⟨0, 0, rfl, by omega, Nat.le_refl _, Lib.hid rfl, Sl.nil _ _ _, Below.refl _ _⟩
      case round =>
        obtain ⟨V2, rfl⟩ : ∃ V2, V2 = wr := ⟨_, rfl⟩
        obtain ⟨j, k, rfl, hj, hkj, hkl, hsl, hyb⟩ := hrel
        have HKL := Lib.hid hkl.out; have HSL := Lib.hid hsl; have HYB := Lib.hid hyb
        obtain ⟨sa, sc, rfl⟩ := hsl.slice
        have ybz := hyb.size
        clear hkl
        by_cases hjt : j < NS
        · obtain ⟨_, _, _, gx, ofx, ex, hgx, hcx⟩ := KS.out.on hyb
          cases ex
          obtain ⟨rfl, hgxl⟩ := hgx (by omega)
          obtain ⟨x, hx⟩ : ∃ x, rs[j]? = some x := ⟨rs[j]'(by have := HNS.out; omega), List.getElem?_eq_getElem (by have := HNS.out; omega)⟩
          obtain ⟨d0, d1⟩ := spc_at rs j x hx
          have u0 := (hcx (j * 2) (by omega)).trans d0
          have u1 := (hcx (j * 2 + 1) (by omega)).trans d1
          rw [← Nat.add_assoc] at u1
          have FST := Lib.hid (show (rs.take (j + 1)).filter (inB f t) = (rs.take j).filter (inB f t) ++ (if inB f t x = true then [x] else []) by
            rw [List.take_add_one, hx]
            show (rs.take j ++ [x]).filter (inB f t) = _
            rw [List.filter_append]
            congr 1
            by_cases hc : inB f t x = true
            · rw [if_pos hc, List.filter_cons_of_pos hc]; rfl
            · rw [if_neg hc, List.filter_cons_of_neg hc]; rfl)
          obtain ⟨xt, hxt⟩ : ∃ xt, xt = x.t := ⟨_, rfl⟩
          obtain ⟨xv, hxv⟩ : ∃ xv, xv = x.v := ⟨_, rfl⟩
          rw [← hxt] at u0
          rw [← hxv] at u1
          have HXS := Lib.hid (show spc [x] = [.int .i64 xt, .int .u64 xv] by rw [hxt, hxv]; rfl)
          have i1 : (j : Int) < NS := by omega
          obtain ⟨V3, hV3⟩ : ∃ V3, V3 = V2.alloc (.cells #[.int .i64 xt, .int .u64 xv] 34) := ⟨_, rfl⟩
          have b3 : Below V2.heap.size V2 V3 := by rw [hV3]; exact (Below.refl _ _).alloc (Nat.le_refl _) _
          have z3 : V3.heap.size = V2.heap.size + 1 := by rw [hV3]; simp
          have hx3 : V3.heap[V2.heap.size]? = some (.cells #[.int .i64 xt, .int .u64 xv] 34) := by rw [hV3]; exact heap_alloc_new V2 _
          have p0 := Lib.cell_of_heap hx3 0
          have p1 := Lib.cell_of_heap hx3 1
          simp at p0 p1
          obtain ⟨Y, hY⟩ : ∃ Y, Y = V3.alloc (.cells #[.int .i64 xt, .int .u64 xv] 34) := ⟨_, rfl⟩
          have bY0 : Below V3.heap.size V3 Y := by rw [hY]; exact (Below.refl _ _).alloc (Nat.le_refl _) _
          have slY : Sl Y V1.heap.size 2 (.slice sa k sc) k (spc ((rs.take j).filter (inB f t))) := (HSL.out.on b3).on bY0
          have bV3 := Lib.hid (HYB.out.trans (b3.mono ybz))
          have bY : Below V1.heap.size V1 Y := bV3.out.trans (bY0.mono bV3.out.size)
          have zY := bY.size
          have litY : ∀ j u, [Value.int .i64 xt, .int .u64 xv][j]? = some u → Y.cell? ((⟨V3.heap.size, 0, none⟩ : Addr).add j) = some u := by
            have := (Sl.lit V3 0 2 1 #[.int .i64 xt, .int .u64 xv] 34 (Nat.zero_le _) (by decide) rfl).cells
            rw [hY]; exact this
          have hone : ∀ v ∈ [Value.int .i64 xt, .int .u64 xv], v.oneCell' = true := by
            rw [hxt, hxv]; exact spc_one [x]
          have HY := Lib.hid hY; have BY := Lib.hid bY
          have HS3 := Lib.hid (HSL.out.on b3)
          have hIN : inB f t x = (decide (f ≤ xt) && decide (xt < t)) := by unfold inB; rw [← hxt]
          have HIN := Lib.hid hIN
          clear hx d0 d1 hxt hxv hyb b3 hsl hcx hx3 bY0 bY hY hIN
          go_upto_region 9 with fail
          rw [← hV3]
          clear hV3 u0 u1
          by_cases c1 : f ≤ xt
          · by_cases c2 : xt < t
            · have HF := Lib.hid (show (rs.take (j + 1)).filter (inB f t) = (rs.take j).filter (inB f t) ++ [x] by rw [FST.out, if_pos (by rw [HIN.out]; simp [c1, c2])])
              go_wp2_with (at_builtin; rw [← z3, ← HY.out]; refine wpList_append_sl _ rfl _ _ 41 rfl V1.heap.size 34 i2 (.agg #[.int .i64 0, .int .u64 0]) 2 16 Tryz.underlying41 Si.out Sz.out Ss.out Sb.out rfl (by decide) _ k _ rfl slY ⟨V3.heap.size, 0, none⟩ 1 1 [.int .i64 xt, .int .u64 xv] rfl rfl litY hone (by unfold maxLen; omega) (by omega) zY ?_; intro v' w5 hx5)
              refine ⟨⟨j + 1, k + 1, by simp, by omega, by omega, Lib.hid (by rw [HF.out, List.length_append, ← HKL.out]; rfl), by rw [HF.out, spc_append, HXS.out]; exact hx5.now, BY.out.trans (hx5.below (Nat.le_refl _) zY)⟩, by simp [intOf]; omega⟩
            · have HF := Lib.hid (show (rs.take (j + 1)).filter (inB f t) = (rs.take j).filter (inB f t) by rw [FST.out, if_neg (by rw [HIN.out]; simp [c2]), List.append_nil])
              go_wp2
              exact ⟨⟨j + 1, k, by simp, by omega, by omega, Lib.hid (by rw [HF.out]; exact HKL.out), by rw [HF.out]; exact HS3.out, bV3.out⟩, by simp [intOf]; omega⟩
          · have HF := Lib.hid (show (rs.take (j + 1)).filter (inB f t) = (rs.take j).filter (inB f t) by rw [FST.out, if_neg (by rw [HIN.out]; simp [c1]), List.append_nil])
            go_wp2
            exact ⟨⟨j + 1, k, by simp, by omega, by omega, Lib.hid (by rw [HF.out]; exact HKL.out), by rw [HF.out]; exact HS3.out, bV3.out⟩, by simp [intOf]; omega⟩
        · have i1 : ¬ (j : Int) < NS := by omega
          have hjn : j = NS := by omega
          have HFL := Lib.hid (show (rs.take j).filter (inB f t) = rs.filter (inB f t) by rw [hjn, HNS.out, List.take_length])
          obtain ⟨SS, hSS⟩ : ∃ SS, SS = rs.filter (inB f t) := ⟨_, rfl⟩
          have HSS := Lib.hid hSS
          have HKS := Lib.hid (show k = SS.length by rw [HKL.out, HFL.out, hSS])
          have HS2 := Lib.hid (show Sl V2 V1.heap.size 2 (.slice sa k sc) k (spc SS) by have := HSL.out; rw [HFL.out, ← hSS] at this; exact this)
          have bV2 : Below W0.heap.size W0 V2 := B1.out.trans (hyb.mono B1.out.size)
          have BV2 := Lib.hid bV2
          have hkK : k ≤ K := by omega
          clear hSS hsl hjt
          by_cases h0 : k = 0
          · have HST := Lib.hid (show betw f t (l.take (i + 1)) = rws qs by rw [STEP.out, if_pos (by rw [← HSS.out, ← HKS.out]; exact h0), List.append_nil]; exact HBT.out.symm)
            have k1 : ¬ (0 : Int) < (k : Int) := by omega
            clear hyb bV2
            go_wp2
            exact ⟨⟨i + 1, qs, by simp, by omega, Lib.hid ⟨HST.out.symm, HCQ.out⟩, by have := HML.out; omega, HOWN.out.on BV2.out, BW.out.trans (BV2.out.mono BW.out.size)⟩, by simp [intOf]; omega⟩
          · have k1 : (0 : Int) < (k : Int) := by omega
            have hxr := (hyb.block W0.heap.size (by have := Y1.out; omega)).trans HX1.out
            have e0 := Lib.cell_of_heap hxr 0
            simp at e0
            have CL := Lib.hid (show Calls Tryz.prog 25 #[.slice aa NL ca] V2 (fun e w' => ∃ v', e = .returned v' ∧ Sl w' V2.heap.size 2 v' NL (prc rl) ∧ Below V2.heap.size V2 w') from by
              have := clone_ls (.slice aa NL ca) rl V2 (by rw [← HNL.out]; exact KL.out.on hyb) (by have := HNL.out; omega)
              rw [← HNL.out] at this
              exact this)
            have hbz2 := bV2.size
            clear hyb bV2 hxr
            go_wp2_with fail
            refine CL.out.mono ?_
            rintro e w4 ⟨v4, rfl, s4, b4⟩
            obtain ⟨a4, c4, rfl⟩ := s4.slice
            obtain ⟨Y, hY⟩ : ∃ Y, Y = w4.alloc (.cells #[.slice a4 NL c4, .slice sa k sc] 43) := ⟨_, rfl⟩
            have bY0 : Below w4.heap.size w4 Y := by rw [hY]; exact (Below.refl _ _).alloc (Nat.le_refl _) _
            have b4Y : Below V2.heap.size V2 Y := b4.trans (bY0.mono b4.size)
            have bYW : Below W0.heap.size W0 Y := BV2.out.trans (b4Y.mono BV2.out.size)
            have bY : Below w.heap.size w Y := BW.out.trans (bYW.mono BW.out.size)
            have TY := HOWN.out.on bYW
            have slY := TY.sl
            rw [← HML.out] at slY
            have litY : ∀ j u, [Value.slice a4 NL c4, .slice sa k sc][j]? = some u → Y.cell? ((⟨w4.heap.size, 0, none⟩ : Addr).add j) = some u := by rw [hY]; exact lit_row w4 _ _ _ _ rfl
            have OKY := Lib.hid (show RowOk Y K ⟨.slice a4 NL c4, .slice sa k sc, ⟨rl, SS⟩⟩ from ⟨by
                show Rd Y 2 (.slice a4 NL c4) rl.length (prc rl)
                rw [← HNL.out]
                exact (Rd.of_sl s4).on bY0, by
                show Rd Y 2 (.slice sa k sc) SS.length (spc SS)
                rw [← HKS.out]
                exact (Rd.of_sl HS2.out).on b4Y, by have := HNL.out; show rl.length ≤ 1000; omega, by have := HKS.out; show SS.length ≤ K; omega⟩)
            have oA := Lib.hid (show Off (.slice a4 NL c4) rl.length (.slice oa m oc) from off_gt (k0 := W0.heap.size) (fun k hk => by have := (s4.lt k hk).1; omega) HOB.out)
            have oB := Lib.hid (show Off (.slice sa k sc) SS.length (.slice oa m oc) from off_gt (k0 := W0.heap.size) (fun k hk => by have := (HS2.out.lt k hk).1; have := Y1.out; omega) HOB.out)
            have HCP := Lib.hid HS2.out.capd
            have HY := Lib.hid hY; have TYH := Lib.hid TY; have BY := Lib.hid bY
            have zY := bY.size
            have HST := Lib.hid (show betw f t (l.take (i + 1)) = rws qs ++ [⟨rl, SS⟩] by rw [STEP.out, if_neg (by rw [← HSS.out, ← HKS.out]; exact h0), HSS.out]; rw [HBT.out])
            clear s4 b4 bY0 b4Y bYW bY TY hY CL
            go_wp2_with (at_builtin; rw [← HY.out]; refine wpList_append_sl _ rfl _ _ 24 rfl w.heap.size 43 i0 (.agg #[.slice none 0 0, .slice none 0 0]) 2 48 Tryz.underlying24 Hi.out Hz.out Hs.out Hb.out rfl (by decide) _ m _ rfl slY ⟨w4.heap.size, 0, none⟩ 1 1 [.slice a4 NL c4, .slice sa k sc] rfl rfl litY (row_one _ _ _ _ _ _) (by unfold maxLen; omega) (by omega) zY ?_; intro v6 w6 hx6)
            have hx7 : Ext w.heap.size 2 Y (.slice oa m oc) m (rqc qs) w6 v6 (m + 1) (rqc qs ++ [.slice a4 NL c4, .slice sa k sc]) := hx6
            have T8 := tab_push HML.out TYH.out hx7 OKY.out oA.out oB.out
            refine ⟨⟨i + 1, qs ++ [⟨.slice a4 NL c4, .slice sa k sc, ⟨rl, SS⟩⟩], by simp, by omega, Lib.hid ⟨by rw [HST.out]; unfold rws; rw [List.map_append]; rfl, fun q hq => ?_⟩, by rw [List.length_append, ← HML.out]; simp only [List.length_cons, List.length_nil]; omega, T8, BY.out.trans (hx7.below (Nat.le_refl _) zY)⟩, by simp [intOf]; omega⟩
            rcases List.mem_append.1 hq with hq | hq
            · exact HCQ.out q hq
            · rw [List.mem_singleton] at hq
              subst hq
              show Capd (.slice sa k sc) SS.length
              rw [← HKS.out]
              exact HCP.out
    · have hil : ¬ (i : Int) < n := by omega
      obtain rfl : i = n := by omega
      have FIN := Lib.hid (show TabC W0 K (.slice oa m oc) (betw f t l) by
        have := HOWN.out.readC (by have := HML.out; omega) HCQ.out
        have h2 := HBT.out
        rw [HN.out, List.take_length] at h2
        rw [show qs.map Rq.r = rws qs from rfl, h2] at this
        exact this)
      clear hb
      go_wp2
      go_ret
      exact ⟨_, rfl, FIN.out, BW.out⟩
end Go.Proofs.YtfckgcckpfklaaaGreatDoor
