/- Layer 14: Between, walked. Layer 14: MergeSplit, walked. -/
import Derived.Test.YtcmalckaekbomaaDoorMWN
namespace Go.Proofs.YtcmalckaekbomaaDoor
open Go.RowKit Go.Lib Hp
set_option linter.unusedVariables false

set_option maxHeartbeats 8000000 in
set_option maxRecDepth 100000 in
theorem between_any (v : Value) (l : List Rw) (f t : Int) (K : Nat) (w : World) (h : TabR w K v l) (hm : l.length ≤ 1000) (hK : K ≤ 10000) :
    Calls Tryd.prog 14 #[v, .int .i64 f, .int .i64 t] w fun e w' => ∃ v', e = .returned v' ∧ TabC w' K v' (betw f t l) ∧ Below w.heap.size w w' := by
  obtain ⟨i0, hi, hz0, hz1, hz2⟩ := info_parts zc_mrow
  have Hz := Lib.hid hz0; have Hs := Lib.hid hz1; have Hb := Lib.hid hz2; have Hi := Lib.hid hi
  clear hz0 hz1 hz2 hi
  obtain ⟨i2, hi, hz0, hz1, hz2⟩ := info_parts zc_smp
  have Sz := Lib.hid hz0; have Ss := Lib.hid hz1; have Sb := Lib.hid hz2; have Si := Lib.hid hi
  clear hz0 hz1 hz2 hi
  obtain ⟨-, qs0, hqs, ⟨_, a, cap, g, off, rfl, hg, hc⟩, hok⟩ := h
  obtain ⟨n, hn⟩ : ∃ n, n = l.length := ⟨_, rfl⟩
  rw [← hn] at hg hc hm ⊢
  have hq0 : qs0.length = n := by rw [hn, ← hqs, List.length_map]
  have HN := Lib.hid hn
  have HC := Lib.hid hc
  have HG := Lib.hid hg
  have HQ0 := Lib.hid hq0
  have HOK := Lib.hid hok
  have HQS := Lib.hid hqs
  clear hn hc hg hq0 hok hqs
  go_enter Tryd.func14, Tryd.ntmps14
  go_wp2_with fail
  go_loopw [7, 9, 10, 12, 15, 20, 21, 22] (fun p' _ _ _ i' _ _ _ wr => ∃ (i : Nat) (qs : List Rq), i' = .int .i64 i ∧ i ≤ n ∧ Hid (rws qs = betw f t (l.take i) ∧ ∀ q ∈ qs, Capd q.b q.r.ss.length) ∧ qs.length ≤ i ∧ TabN wr w.heap.size K p' qs ∧ Below w.heap.size w wr) (fun _ _ _ _ i' _ _ _ _ => n - (intOf i').toNat)
  case atStart => exact ⟨0, [], rfl, by omega, Lib.hid ⟨rfl, fun q hq => absurd hq (by simp)⟩, Nat.le_refl _, ⟨Sl.nil _ _ _, fun q hq => absurd hq (by simp)⟩, Below.refl _ _⟩
  case round =>
    obtain ⟨W0, rfl⟩ : ∃ W0, W0 = wr := ⟨_, rfl⟩
    obtain ⟨i, qs, rfl, hi, hof, hol, hown, hb⟩ := hrel
    have hbz := hb.size
    obtain ⟨oa, oc, he⟩ := hown.sl.slice
    subst he
    obtain ⟨m, hml⟩ : ∃ m, m = qs.length := ⟨_, rfl⟩
    rw [← hml] at hown hol
    rw [← hml]
    have HOB := Lib.hid (fun k (hk : (Value.slice oa m oc).ownBlock = some k) => (hown.sl.lt k hk).2)
    have HML := Lib.hid hml
    have BW := Lib.hid hb
    have HOWN := Lib.hid hown
    have HBT := Lib.hid hof.out.1
    have HCQ := Lib.hid hof.out.2
    clear hml hown hof
    by_cases hlt : i < n
    · obtain ⟨rfl, hgl⟩ := HG.out (by omega)
      obtain ⟨⟨qa, qb, rl, rs⟩, hx⟩ : ∃ q, qs0[i]? = some q := ⟨qs0[i]'(by have := HQ0.out; omega), List.getElem?_eq_getElem (by have := HQ0.out; omega)⟩
      obtain ⟨v0, v1⟩ := rqc_at qs0 i _ hx
      have hli : l[i]? = some ⟨rl, rs⟩ := by rw [← HQS.out, List.getElem?_map, hx]; rfl
      have ok := HOK.out _ (List.mem_of_getElem? hx)
      have q0 := (hb.cell (p := ⟨g, off + i * 2, none⟩) hgl).trans ((HC.out (i * 2) (by omega)).trans v0)
      have q1 := (hb.cell (p := ⟨g, off + (i * 2 + 1), none⟩) hgl).trans ((HC.out (i * 2 + 1) (by omega)).trans v1)
      rw [← Nat.add_assoc] at q1
      obtain ⟨kl, ks, kn, kk⟩ := ok
      simp only at kl ks kn kk q0 q1
      obtain ⟨aa, ca, ea⟩ := kl.slice
      obtain ⟨ab, cb', eb⟩ := ks.slice
      subst ea eb
      obtain ⟨NL, hNL⟩ : ∃ NL, NL = rl.length := ⟨_, rfl⟩
      obtain ⟨NS, hNS⟩ : ∃ NS, NS = rs.length := ⟨_, rfl⟩
      rw [← hNL] at q0 kn
      rw [← hNS] at q1 kk
      have HNL := Lib.hid hNL; have HNS := Lib.hid hNS
      have hil : (i : Int) < n := by omega
      have STEP := Lib.hid (show betw f t (l.take (i + 1)) = betw f t (l.take i) ++ (if (rs.filter (inB f t)).length = 0 then [] else [⟨rl, rs.filter (inB f t)⟩]) by
        rw [List.take_add_one, hli]; exact betw_snoc f t ⟨rl, rs⟩ (l.take i))
      obtain ⟨V1, hV1⟩ : ∃ V1, V1 = W0.alloc (.cells #[.slice aa NL ca, .slice ab NS cb'] 60) := ⟨_, rfl⟩
      have b1 : Below W0.heap.size W0 V1 := by rw [hV1]; exact (Below.refl _ _).alloc (Nat.le_refl _) _
      have y1 : V1.heap.size = W0.heap.size + 1 := by rw [hV1]; simp
      have hx1 : V1.heap[W0.heap.size]? = some (.cells #[.slice aa NL ca, .slice ab NS cb'] 60) := by rw [hV1]; exact heap_alloc_new W0 _
      have KL := Lib.hid (show Rd V1 2 (.slice aa NL ca) NL (prc rl) by have := (kl.on hb).on b1; rw [← hNL] at this; exact this)
      have KS := Lib.hid (show Rd V1 2 (.slice ab NS cb') NS (spc rs) by have := (ks.on hb).on b1; rw [← hNS] at this; exact this)
      have HX1 := Lib.hid hx1; have B1 := Lib.hid b1; have Y1 := Lib.hid y1
      have r0 := Lib.cell_of_heap hx1 0
      have r1 := Lib.cell_of_heap hx1 1
      simp at r0 r1
      clear hx v0 v1 hli kl ks hNL hNS hx1 b1
      go_upto_region 5 with fail
      rw [← hV1]
      clear hV1 q0 q1
      go_wp2_with fail
      go_loopw [10, 12, 22] (fun s' _ j' wx => ∃ (j : Nat) (k : Nat), j' = .int .i64 j ∧ j ≤ NS ∧ k ≤ j ∧ Hid (k = ((rs.take j).filter (inB f t)).length) ∧ Sl wx V1.heap.size 2 s' k (spc ((rs.take j).filter (inB f t))) ∧ Below V1.heap.size V1 wx) (fun _ _ j' _ => NS - (intOf j').toNat)
      case atStart => exact ⟨0, 0, rfl, by omega, Nat.le_refl _, Lib.hid rfl, Sl.nil _ _ _, Below.refl _ _⟩
      case round =>
        obtain ⟨V2, rfl⟩ : ∃ V2, V2 = wr := ⟨_, rfl⟩
        obtain ⟨j, k, rfl, hj, hkj, hkl, hsl, hyb⟩ := hrel
        have HKL := Lib.hid hkl.out; have HSL := Lib.hid hsl; have HYB := Lib.hid hyb
        obtain ⟨sa, sc, rfl⟩ := hsl.slice
        have ybz := hyb.size
        clear hkl
        by_cases hjt : j < NS
        · obtain ⟨_, _, _, gx, ofx, ex, hgx, hcx⟩ := KS.out.on hyb
          cases ex
          obtain ⟨rfl, hgxl⟩ := hgx (by omega)
          obtain ⟨x, hx⟩ : ∃ x, rs[j]? = some x := ⟨rs[j]'(by have := HNS.out; omega), List.getElem?_eq_getElem (by have := HNS.out; omega)⟩
          obtain ⟨d0, d1⟩ := spc_at rs j x hx
          have u0 := (hcx (j * 2) (by omega)).trans d0
          have u1 := (hcx (j * 2 + 1) (by omega)).trans d1
          rw [← Nat.add_assoc] at u1
          have FST := Lib.hid (show (rs.take (j + 1)).filter (inB f t) = (rs.take j).filter (inB f t) ++ (if inB f t x = true then [x] else []) by
            rw [List.take_add_one, hx]
            show (rs.take j ++ [x]).filter (inB f t) = _
            rw [List.filter_append]
            congr 1
            by_cases hc : inB f t x = true
            · rw [if_pos hc, List.filter_cons_of_pos hc]; rfl
            · rw [if_neg hc, List.filter_cons_of_neg hc]; rfl)
          obtain ⟨xt, hxt⟩ : ∃ xt, xt = x.t := ⟨_, rfl⟩
          obtain ⟨xv, hxv⟩ : ∃ xv, xv = x.v := ⟨_, rfl⟩
          rw [← hxt] at u0
          rw [← hxv] at u1
          have HXS := Lib.hid (show spc [x] = [.int .i64 xt, .int .u64 xv] by rw [hxt, hxv]; rfl)
          have i1 : (j : Int) < NS := by omega
          obtain ⟨V3, hV3⟩ : ∃ V3, V3 = V2.alloc (.cells #[.int .i64 xt, .int .u64 xv] 35) := ⟨_, rfl⟩
          have b3 : Below V2.heap.size V2 V3 := by rw [hV3]; exact (Below.refl _ _).alloc (Nat.le_refl _) _
          have z3 : V3.heap.size = V2.heap.size + 1 := by rw [hV3]; simp
          have hx3 : V3.heap[V2.heap.size]? = some (.cells #[.int .i64 xt, .int .u64 xv] 35) := by rw [hV3]; exact heap_alloc_new V2 _
          have p0 := Lib.cell_of_heap hx3 0
          have p1 := Lib.cell_of_heap hx3 1
          simp at p0 p1
          obtain ⟨Y, hY⟩ : ∃ Y, Y = V3.alloc (.cells #[.int .i64 xt, .int .u64 xv] 35) := ⟨_, rfl⟩
          have bY0 : Below V3.heap.size V3 Y := by rw [hY]; exact (Below.refl _ _).alloc (Nat.le_refl _) _
          have slY : Sl Y V1.heap.size 2 (.slice sa k sc) k (spc ((rs.take j).filter (inB f t))) := (HSL.out.on b3).on bY0
          have bV3 := Lib.hid (HYB.out.trans (b3.mono ybz))
          have bY : Below V1.heap.size V1 Y := bV3.out.trans (bY0.mono bV3.out.size)
          have zY := bY.size
          have litY : ∀ j u, [Value.int .i64 xt, .int .u64 xv][j]? = some u → Y.cell? ((⟨V3.heap.size, 0, none⟩ : Addr).add j) = some u := by
            have := (Sl.lit V3 0 2 1 #[.int .i64 xt, .int .u64 xv] 35 (Nat.zero_le _) (by decide) rfl).cells
            rw [hY]; exact this
          have hone : ∀ v ∈ [Value.int .i64 xt, .int .u64 xv], v.oneCell' = true := by
            rw [hxt, hxv]; exact spc_one [x]
          have HY := Lib.hid hY; have BY := Lib.hid bY
          have HS3 := Lib.hid (HSL.out.on b3)
          have hIN : inB f t x = (decide (f ≤ xt) && decide (xt < t)) := by unfold inB; rw [← hxt]
          have HIN := Lib.hid hIN
          clear hx d0 d1 hxt hxv hyb b3 hsl hcx hx3 bY0 bY hY hIN
          go_upto_region 9 with fail
          rw [← hV3]
          clear hV3 u0 u1
          by_cases c1 : f ≤ xt
          · by_cases c2 : xt < t
            · have HF := Lib.hid (show (rs.take (j + 1)).filter (inB f t) = (rs.take j).filter (inB f t) ++ [x] by rw [FST.out, if_pos (by rw [HIN.out]; simp [c1, c2])])
              go_wp2_with (at_builtin; rw [← z3, ← HY.out]; refine wpList_append_sl _ rfl _ _ 30 rfl V1.heap.size 35 i2 (.agg #[.int .i64 0, .int .u64 0]) 2 16 Tryd.underlying30 Si.out Sz.out Ss.out Sb.out rfl (by decide) _ k _ rfl slY ⟨V3.heap.size, 0, none⟩ 1 1 [.int .i64 xt, .int .u64 xv] rfl rfl litY hone (by unfold maxLen; omega) (by omega) zY ?_; intro v' w5 hx5)
              refine ⟨⟨j + 1, k + 1, by simp, by omega, by omega, Lib.hid (by rw [HF.out, List.length_append, ← HKL.out]; rfl), by rw [HF.out, spc_append, HXS.out]; exact hx5.now, BY.out.trans (hx5.below (Nat.le_refl _) zY)⟩, by simp [intOf]; omega⟩
            · have HF := Lib.hid (show (rs.take (j + 1)).filter (inB f t) = (rs.take j).filter (inB f t) by rw [FST.out, if_neg (by rw [HIN.out]; simp [c2]), List.append_nil])
              go_wp2
              exact ⟨⟨j + 1, k, by simp, by omega, by omega, Lib.hid (by rw [HF.out]; exact HKL.out), by rw [HF.out]; exact HS3.out, bV3.out⟩, by simp [intOf]; omega⟩
          · have HF := Lib.hid (show (rs.take (j + 1)).filter (inB f t) = (rs.take j).filter (inB f t) by rw [FST.out, if_neg (by rw [HIN.out]; simp [c1]), List.append_nil])
            go_wp2
            exact ⟨⟨j + 1, k, by simp, by omega, by omega, Lib.hid (by rw [HF.out]; exact HKL.out), by rw [HF.out]; exact HS3.out, bV3.out⟩, by simp [intOf]; omega⟩
        · have i1 : ¬ (j : Int) < NS := by omega
          have hjn : j = NS := by omega
          have HFL := Lib.hid (show (rs.take j).filter (inB f t) = rs.filter (inB f t) by rw [hjn, HNS.out, List.take_length])
          obtain ⟨SS, hSS⟩ : ∃ SS, SS = rs.filter (inB f t) := ⟨_, rfl⟩
          have HSS := Lib.hid hSS
          have HKS := Lib.hid (show k = SS.length by rw [HKL.out, HFL.out, hSS])
          have HS2 := Lib.hid (show Sl V2 V1.heap.size 2 (.slice sa k sc) k (spc SS) by have := HSL.out; rw [HFL.out, ← hSS] at this; exact this)
          have bV2 : Below W0.heap.size W0 V2 := B1.out.trans (hyb.mono B1.out.size)
          have BV2 := Lib.hid bV2
          have hkK : k ≤ K := by omega
          clear hSS hsl hjt
          by_cases h0 : k = 0
          · have HST := Lib.hid (show betw f t (l.take (i + 1)) = rws qs by rw [STEP.out, if_pos (by rw [← HSS.out, ← HKS.out]; exact h0), List.append_nil]; exact HBT.out.symm)
            have k1 : ¬ (0 : Int) < (k : Int) := by omega
            clear hyb bV2
            go_wp2
            exact ⟨⟨i + 1, qs, by simp, by omega, Lib.hid ⟨HST.out.symm, HCQ.out⟩, by have := HML.out; omega, HOWN.out.on BV2.out, BW.out.trans (BV2.out.mono BW.out.size)⟩, by simp [intOf]; omega⟩
          · have k1 : (0 : Int) < (k : Int) := by omega
            have hxr := (hyb.block W0.heap.size (by have := Y1.out; omega)).trans HX1.out
            have e0 := Lib.cell_of_heap hxr 0
            simp at e0
            have CL := Lib.hid (show Calls Tryd.prog 29 #[.slice aa NL ca] V2 (fun e w' => ∃ v', e = .returned v' ∧ Sl w' V2.heap.size 2 v' NL (prc rl) ∧ Below V2.heap.size V2 w') from by
              have := clone_ls (.slice aa NL ca) rl V2 (by rw [← HNL.out]; exact KL.out.on hyb) (by have := HNL.out; omega)
              rw [← HNL.out] at this
              exact this)
            have hbz2 := bV2.size
            clear hyb bV2 hxr
            go_wp2_with fail
            refine CL.out.mono ?_
            rintro e w4 ⟨v4, rfl, s4, b4⟩
            obtain ⟨a4, c4, rfl⟩ := s4.slice
            obtain ⟨Y, hY⟩ : ∃ Y, Y = w4.alloc (.cells #[.slice a4 NL c4, .slice sa k sc] 60) := ⟨_, rfl⟩
            have bY0 : Below w4.heap.size w4 Y := by rw [hY]; exact (Below.refl _ _).alloc (Nat.le_refl _) _
            have b4Y : Below V2.heap.size V2 Y := b4.trans (bY0.mono b4.size)
            have bYW : Below W0.heap.size W0 Y := BV2.out.trans (b4Y.mono BV2.out.size)
            have bY : Below w.heap.size w Y := BW.out.trans (bYW.mono BW.out.size)
            have TY := HOWN.out.on bYW
            have slY := TY.sl
            rw [← HML.out] at slY
            have litY : ∀ j u, [Value.slice a4 NL c4, .slice sa k sc][j]? = some u → Y.cell? ((⟨w4.heap.size, 0, none⟩ : Addr).add j) = some u := by rw [hY]; exact lit_row w4 _ _ _ _ rfl
            have OKY := Lib.hid (show RowOk Y K ⟨.slice a4 NL c4, .slice sa k sc, ⟨rl, SS⟩⟩ from ⟨by
                show Rd Y 2 (.slice a4 NL c4) rl.length (prc rl)
                rw [← HNL.out]
                exact (Rd.of_sl s4).on bY0, by
                show Rd Y 2 (.slice sa k sc) SS.length (spc SS)
                rw [← HKS.out]
                exact (Rd.of_sl HS2.out).on b4Y, by have := HNL.out; show rl.length ≤ 1000; omega, by have := HKS.out; show SS.length ≤ K; omega⟩)
            have oA := Lib.hid (show Off (.slice a4 NL c4) rl.length (.slice oa m oc) from off_gt (k0 := W0.heap.size) (fun k hk => by have := (s4.lt k hk).1; omega) HOB.out)
            have oB := Lib.hid (show Off (.slice sa k sc) SS.length (.slice oa m oc) from off_gt (k0 := W0.heap.size) (fun k hk => by have := (HS2.out.lt k hk).1; have := Y1.out; omega) HOB.out)
            have HCP := Lib.hid HS2.out.capd
            have HY := Lib.hid hY; have TYH := Lib.hid TY; have BY := Lib.hid bY
            have zY := bY.size
            have HST := Lib.hid (show betw f t (l.take (i + 1)) = rws qs ++ [⟨rl, SS⟩] by rw [STEP.out, if_neg (by rw [← HSS.out, ← HKS.out]; exact h0), HSS.out]; rw [HBT.out])
            clear s4 b4 bY0 b4Y bYW bY TY hY CL
            go_wp2_with (at_builtin; rw [← HY.out]; refine wpList_append_sl _ rfl _ _ 25 rfl w.heap.size 60 i0 (.agg #[.slice none 0 0, .slice none 0 0]) 2 48 Tryd.underlying25 Hi.out Hz.out Hs.out Hb.out rfl (by decide) _ m _ rfl slY ⟨w4.heap.size, 0, none⟩ 1 1 [.slice a4 NL c4, .slice sa k sc] rfl rfl litY (row_one _ _ _ _ _ _) (by unfold maxLen; omega) (by omega) zY ?_; intro v6 w6 hx6)
            have hx7 : Ext w.heap.size 2 Y (.slice oa m oc) m (rqc qs) w6 v6 (m + 1) (rqc qs ++ [.slice a4 NL c4, .slice sa k sc]) := hx6
            have T8 := tab_push HML.out TYH.out hx7 OKY.out oA.out oB.out
            refine ⟨⟨i + 1, qs ++ [⟨.slice a4 NL c4, .slice sa k sc, ⟨rl, SS⟩⟩], by simp, by omega, Lib.hid ⟨by rw [HST.out]; unfold rws; rw [List.map_append]; rfl, fun q hq => ?_⟩, by rw [List.length_append, ← HML.out]; simp only [List.length_cons, List.length_nil]; omega, T8, BY.out.trans (hx7.below (Nat.le_refl _) zY)⟩, by simp [intOf]; omega⟩
            rcases List.mem_append.1 hq with hq | hq
            · exact HCQ.out q hq
            · rw [List.mem_singleton] at hq
              subst hq
              show Capd (.slice sa k sc) SS.length
              rw [← HKS.out]
              exact HCP.out
    · have hil : ¬ (i : Int) < n := by omega
      obtain rfl : i = n := by omega
      have FIN := Lib.hid (show TabC W0 K (.slice oa m oc) (betw f t l) by
        have := HOWN.out.readC (by have := HML.out; omega) HCQ.out
        have h2 := HBT.out
        rw [HN.out, List.take_length] at h2
        rw [show qs.map Rq.r = rws qs from rfl, h2] at this
        exact this)
      clear hb
      go_wp2
      go_ret
      exact ⟨_, rfl, FIN.out, BW.out⟩
end Go.Proofs.YtcmalckaekbomaaDoor

namespace Go.Proofs.YtcmalckaekbomaaDoor
open Go.RowKit Go.Lib Hp
set_option linter.unusedVariables false

set_option maxHeartbeats 4000000 in
set_option maxRecDepth 100000 in
theorem mergesplit_any (a : Option Addr) (len cap : Nat) (zs : List On) (f m t : Int) (w : World) (h : OnR w a len zs) :
    Calls Tryd.prog 5 #[.slice a len cap, .int .i64 f, .int .i64 m, .int .i64 t] w fun e w' => e = .returned (.bool true) ∧ Below w.heap.size w w' := by
  have T0 := Lib.hid (table14_any a len cap zs w h)
  have hzl : zs.length ≤ 40 := by have := h.hl; omega
  have AW := Lib.hid (fun W => awake14_any W)
  obtain ⟨P, hP⟩ : ∃ P, P = zs.map onP := ⟨_, rfl⟩
  have hPl : P.length ≤ 40 := by rw [hP]; simpa using hzl
  obtain ⟨R, hR⟩ : ∃ R, R = tableZ zs := ⟨_, rfl⟩
  have hRP : R = addF [] P := by rw [hR, hP]; exact tableZ_P zs
  have hRl : R.length ≤ 40 := by rw [hRP]; have := (addF_len0 P).1; omega
  rw [← hR] at T0
  have BA := Lib.hid (fun (W : World) (o : Obj) => (Below.refl W.heap.size W).alloc (Nat.le_refl _) o)
  have BT := Lib.hid (fun (W : World) (u : Value) (p q : Int) (hu : TabC W 40 u R) => between_any u R p q 40 W hu.r (by omega) (by omega))
  have TB := Lib.hid (fun (p q : Int) => show betw p q R = addF [] (P.filter fun x => inB p q x.2) by rw [hRP]; exact betw_P p q P)
  have FL := Lib.hid (fun (p q : Int) => show (P.filter fun x => inB p q x.2).length ≤ 40 from Nat.le_trans (List.length_filter_le _ _) hPl)
  have hlen : ∀ p q, (betw p q R).length ≤ 40 := fun p q => Nat.le_trans (betw_len p q R) hRl
  have HLEN := Lib.hid hlen
  have TT := Lib.hid (fun (hfm : f ≤ m) (hmt : m ≤ t) (W : World) (u v : Value) (hu : TabC W 40 u (betw f m R)) (hv : TabC W 40 v (betw m t R)) => show Calls Tryd.prog 8 #[.slice (some ⟨W.heap.size, 0, none⟩) 2 2] (W.alloc (.cells #[u, v] 25)) (fun e w' => ∃ v', e = .returned v' ∧ TabC w' 1000 v' (betw f t R) ∧ Below W.heap.size W w') from by
    refine (tables_P _ [P.filter fun x => inB f m x.2, P.filter fun x => inB m t x.2] _ (TsR.lit W [u, v] [P.filter fun x => inB f m x.2, P.filter fun x => inB m t x.2] 25 rfl (fun p x ps h1 h2 => by
      match p, h1, h2 with
      | 0, h1, h2 =>
        obtain rfl := Option.some.inj h1
        obtain rfl := Option.some.inj h2
        rw [← TB.out f m]; exact hu.mono (by omega)
      | 1, h1, h2 =>
        obtain rfl := Option.some.inj h1
        obtain rfl := Option.some.inj h2
        rw [← TB.out m t]; exact hv.mono (by omega)
      | p + 2, h1, _ => simp at h1)) (by simp) (by
        have := FL.out f m
        have := FL.out m t
        simp only [List.flatten_cons, List.flatten_nil, List.append_nil, List.length_append]
        omega)).mono ?_
    rintro e w' ⟨v', rfl, h1, h2⟩
    rw [betw_split hfm hmt P, ← TB.out f t] at h1
    exact ⟨v', rfl, h1, (BA.out W _).trans (h2.mono (BA.out W (.cells #[u, v] 25)).size)⟩)
  have TD := Lib.hid (fun (W : World) (K : Nat) (hK : K ≤ 1000) (u : Value) (l : List Rw) (hl : l.length ≤ 40) (hu : TabC W K u l) => told14_any u l K W hu.r (by omega) (by omega))
  have SM := Lib.hid (fun (W : World) (u v : Value) (l : List Rw) (hl : l.length ≤ 40) (hu : TabR W 1000 u l) (hv : TabR W 40 v l) => same14_any u v l 1000 W hu (hv.mono (by omega)) (by omega) (by omega))
  clear hzl hP hPl hR hRP h hlen hRl
  go_enter Tryd.func5, Tryd.ntmps5
  go_wp2_with fail
  refine T0.out.mono ?_
  rintro e w1 ⟨pv, tv, rfl, tc, tr, b1⟩
  obtain ⟨pa, pc, rfl⟩ := tc.form
  obtain ⟨ta, tc', rfl⟩ := tr.form
  have TC := Lib.hid tc; have B1 := Lib.hid b1
  clear tc tr b1 T0
  go_wp2_with fail
  refine (AW.out _).mono ?_
  rintro e w2 ⟨rfl, b2⟩
  have TC2 := Lib.hid (TC.out.on b2)
  have B2 := Lib.hid (B1.out.trans (b2.mono B1.out.size))
  clear b2 TC B1
  by_cases hfm : m < f
  · have d1 : decide (m < f) = true := decide_eq_true hfm
    clear hfm
    go_wp2_with fail
    refine (AW.out _).mono ?_
    rintro e w3 ⟨rfl, b3⟩
    have B3 := Lib.hid (B2.out.trans (b3.mono B2.out.size))
    clear b3
    go_wp2
    go_ret
    exact ⟨rfl, B3.out⟩
  · have d1 : decide (m < f) = false := decide_eq_false hfm
    by_cases hmt : t < m
    · have d2 : decide (t < m) = true := decide_eq_true hmt
      clear hfm hmt
      go_wp2_with fail
      refine (AW.out _).mono ?_
      rintro e w3 ⟨rfl, b3⟩
      have B3 := Lib.hid (B2.out.trans (b3.mono B2.out.size))
      clear b3
      go_wp2
      go_ret
      exact ⟨rfl, B3.out⟩
    · have d2 : decide (t < m) = false := decide_eq_false hmt
      have TTT := Lib.hid (TT.out (by omega) (by omega))
      have BT1 := Lib.hid (BT.out w2 _ f m TC2.out)
      clear hfm hmt TT
      obtain ⟨RA, hRA⟩ : ∃ RA, RA = betw f m R := ⟨_, rfl⟩
      obtain ⟨RB, hRB⟩ : ∃ RB, RB = betw m t R := ⟨_, rfl⟩
      obtain ⟨RC, hRC⟩ : ∃ RC, RC = betw f t R := ⟨_, rfl⟩
      have HRC := Lib.hid (show RC.length ≤ 40 by rw [hRC]; exact HLEN.out f t)
      rw [← hRA] at BT1 TTT
      rw [← hRB, ← hRC] at TTT
      have HRB := Lib.hid hRB; have HRC2 := Lib.hid hRC
      clear hRA hRB hRC
      go_wp2_with fail
      refine BT1.out.mono ?_
      rintro e w3 ⟨v3, rfl, t3, b3⟩
      have TC3 := Lib.hid (TC2.out.on b3)
      have B3 := Lib.hid (B2.out.trans (b3.mono B2.out.size))
      have BT3 := Lib.hid (BT.out w3 _ m t TC3.out)
      rw [← HRB.out] at BT3
      obtain ⟨a3, c3, rfl⟩ := t3.form
      have T3 := Lib.hid t3
      clear b3 t3 TC2 B2 BT1
      go_wp2_with fail
      refine BT3.out.mono ?_
      rintro e w4 ⟨v4, rfl, t4, b4⟩
      have TC4 := Lib.hid (TC3.out.on b4)
      have B4 := Lib.hid (B3.out.trans (b4.mono B3.out.size))
      have C4 := Lib.hid (TTT.out w4 _ _ (T3.out.on b4) t4)
      obtain ⟨a4, c4, rfl⟩ := t4.form
      clear b4 t4 TC3 B3 BT3 T3 TTT
      go_wp2_with fail
      refine C4.out.mono ?_
      rintro e w5 ⟨v5, rfl, t5, b5⟩
      have TC5 := Lib.hid (TC4.out.on b5)
      have B5 := Lib.hid (B4.out.trans (b5.mono B4.out.size))
      have D5 := Lib.hid (TD.out w5 1000 (by omega) v5 RC HRC.out t5)
      obtain ⟨a5, c5, rfl⟩ := t5.form
      clear b5 t5 TC4 B4 C4
      go_wp2_with fail
      refine D5.out.mono ?_
      rintro e w6 ⟨v6, rfl, t6, b6⟩
      have TC6 := Lib.hid (TC5.out.on b6)
      have T6 := Lib.hid t6
      have B6 := Lib.hid (B5.out.trans (b6.mono B5.out.size))
      have BT6 := Lib.hid (BT.out w6 _ f t TC6.out)
      rw [← HRC2.out] at BT6
      obtain ⟨a6, c6, rfl⟩ := t6.form
      clear b6 t6 TC5 B5 D5
      go_wp2_with fail
      refine BT6.out.mono ?_
      rintro e w7 ⟨v7, rfl, t7, b7⟩
      have T7 := Lib.hid (T6.out.on b7)
      have B7 := Lib.hid (B6.out.trans (b7.mono B6.out.size))
      have D7 := Lib.hid (TD.out w7 40 (by omega) v7 RC HRC.out t7)
      obtain ⟨a7, c7, rfl⟩ := t7.form
      clear b7 t7 TC6 B6 T6 BT6
      go_wp2_with fail
      refine D7.out.mono ?_
      rintro e w8 ⟨v8, rfl, t8, b8⟩
      have B8 := Lib.hid (B7.out.trans (b8.mono B7.out.size))
      have S8 := Lib.hid (SM.out w8 _ v8 RC HRC.out (T7.out.on b8) t8)
      obtain ⟨a8, c8, rfl⟩ := t8.form
      clear b8 t8 B7 T7 D7
      go_wp2_with fail
      refine S8.out.mono ?_
      rintro e w9 ⟨rfl, b9⟩
      have B9 := Lib.hid (B8.out.trans (b9.mono B8.out.size))
      clear b9 B8
      go_wp2
      go_ret
      exact ⟨rfl, B9.out⟩
end Go.Proofs.YtcmalckaekbomaaDoor
