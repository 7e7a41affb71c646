/- Layer 14: MergeTables, walked. -/
import Derived.Test.YtcmalckaekbomaaDoorMWO
namespace Go.Proofs.YtcmalckaekbomaaDoor
open Go.RowKit Go.Lib Hp
set_option linter.unusedVariables false

theorem cntZ_take (l : List Rw) (i : Nat) (r : Rw) (h : l[i]? = some r) : cntZ (l.take (i + 1)) = cntZ (l.take i) + r.ss.length := by
  rw [List.take_add_one, h]; exact cntZ_snoc _ _

set_option maxHeartbeats 8000000 in
set_option maxRecDepth 100000 in
theorem mergetables_any (a : Option Addr) (len cap : Nat) (L : List Ol) (f t : Int) (w : World) (h : OnlR w a len L) :
    Calls Tryd.prog 3 #[.slice a len cap, .int .i64 f, .int .i64 t] w fun e w' => e = .returned (.bool true) ∧ Below w.heap.size w w' := by
  obtain ⟨i0, hi, hz0, hz1, hz2⟩ := info_parts zc_lrow
  have Hz := Lib.hid hz0; have Hs := Lib.hid hz1; have Hb := Lib.hid hz2; have Hi := Lib.hid hi
  clear hz0 hz1 hz2 hi
  obtain ⟨hlm, hLl, hL⟩ := h
  have hlm63 : len ≤ 9223372036854775807 := by unfold maxLen at hlm; exact hlm
  have HLL := Lib.hid hLl; have HL := Lib.hid hL
  have AW := Lib.hid (fun W => awake14_any W)
  obtain ⟨W1, hW1⟩ : ∃ W1, W1 = (w.alloc (.cells #[] 25)).alloc (.cells #[] 32) := ⟨_, rfl⟩
  have B1 := Lib.hid (show Below w.heap.size w W1 by rw [hW1]; exact ((Below.refl _ _).alloc (Nat.le_refl _) _).alloc (by simp) _)
  have z1 : W1.heap.size = w.heap.size + 2 := by rw [hW1]; simp
  have L0 := Lib.hid (show TsN W1 w.heap.size (.slice (some ⟨w.heap.size, 0, none⟩) 0 0) [] by
    refine ⟨?_, fun q hq => absurd hq (by simp)⟩
    rw [hW1]
    exact (Sl.lit w w.heap.size 1 0 #[] _ (Nat.le_refl _) (by decide) rfl).alloc _)
  have S0 := Lib.hid (show TabRP W1 0 (.slice (some ⟨w.heap.size + 1, 0, none⟩) 0 0) [] (OffV (.slice (some ⟨w.heap.size, 0, none⟩) 0 0)) from ⟨by simp, [], rfl, ⟨rfl, _, 0, 0, 0, rfl, fun h => absurd h (Nat.lt_irrefl 0), fun j hj => absurd hj (Nat.not_lt_zero _)⟩, fun q hq => absurd hq (by simp), fun q hq => absurd hq (by simp), fun hn => absurd hn (Nat.lt_irrefl 0)⟩)
  clear hlm hLl hL
  go_enter Tryd.func3, Tryd.ntmps3
  go_upto_region 3 with fail
  rw [← hW1]
  clear hW1
  go_wp2_with fail
  go_loopw [7, 8, 10, 11, 12, 14, 16, 32, 44, 45, 46, 51, 52, 53] (fun l' w' i' _ _ _ _ _ _ _ _ _ _ _ wr => ∃ (i : Nat) (qs : List Tq) (la : Option Addr) (lc k : Nat) (rows : List Rw), i' = .int .i64 i ∧ l' = .slice la i lc ∧ i ≤ len ∧ i ≤ 4 ∧ qs.length = i ∧ TsN wr w.heap.size l' qs ∧ Hid (∀ q ∈ qs, (UpT q.rows ∧ (∀ r ∈ q.rows, r.ss ≠ [])) ∧ cntZ q.rows ≤ 40) ∧ Hid (rows = addF [] (dq qs) ∧ k = (dq qs).length) ∧ TabRP wr k w' rows (OffV l') ∧ Below w.heap.size w wr) (fun _ _ i' _ _ _ _ _ _ _ _ _ _ _ _ => 4 - (intOf i').toNat)
  case atStart => exact ⟨0, [], _, _, 0, [], rfl, rfl, by omega, by omega, rfl, L0.out, Lib.hid (fun q hq => absurd hq (by simp)), Lib.hid ⟨rfl, rfl⟩, S0.out, B1.out⟩
  case round =>
    clear L0 S0 B1
    obtain ⟨W0, rfl⟩ : ∃ W0, W0 = wr := ⟨_, rfl⟩
    obtain ⟨i, qs, la, lc, k, rows, rfl, rfl, hi, hi4, hql, hls, hup, hrw, hwt, hb⟩ := hrel
    have HQL := Lib.hid hql; have HLS := Lib.hid hls; have HUP := Lib.hid hup.out; have HRW := Lib.hid hrw.out.1; have HKK := Lib.hid hrw.out.2; have HWT := Lib.hid hwt; have HB := Lib.hid hb
    have hk160 : k ≤ i * 40 := by
      have := dq_len 40 qs (fun q hq => (HUP.out q hq).2)
      rw [HQL.out] at this
      rw [HKK.out]; exact this
    have hr160 : rows.length ≤ k := by
      have := (addF_len0 (dq qs)).1
      rw [← HRW.out, ← HKK.out] at this
      exact this
    obtain ⟨wa, wc, rfl⟩ := hwt.form
    obtain ⟨wn, hwn⟩ : ∃ wn, wn = rows.length := ⟨_, rfl⟩
    rw [← hwn]
    rw [← hwn] at hr160 HWT
    have HWN := Lib.hid hwn
    clear hql hls hup hrw hwt hb hwn
    by_cases hlt : i < len ∧ i < 4
    · obtain ⟨hil, hi4l⟩ := hlt
      obtain ⟨g, off, rfl, hgw, hcell⟩ := HL.out (by omega)
      obtain ⟨o, ho⟩ : ∃ o, L[i]? = some o := ⟨L[i]'(by have := HLL.out; omega), List.getElem?_eq_getElem (by have := HLL.out; omega)⟩
      obtain ⟨co, hon⟩ := hcell i o ho
      have e0 := (HB.out.cell (p := ⟨g, off + i, none⟩) hgw).trans co
      obtain ⟨ao, no, cc, zs⟩ := o
      simp only at e0 hon
      have TBL := Lib.hid (table14_f ao no cc zs W0 (hon.on HB.out))
      have hzl : zs.length ≤ 40 := by have := hon.hl; omega
      obtain ⟨R, hR⟩ : ∃ R, R = tableZ zs := ⟨_, rfl⟩
      have HRU := Lib.hid (show (UpT R ∧ (∀ r ∈ R, r.ss ≠ [])) ∧ cntZ R ≤ 40 by rw [hR]; exact ⟨tableZ_up zs, tableZ_cnt zs hzl⟩)
      have hRl : R.length ≤ 40 := by rw [hR]; have := tableZ_len zs; omega
      rw [← hR] at TBL
      have j1 : (i : Int) < len := by omega
      have j2 : (i : Int) < 4 := by omega
      clear hcell co hon ho hzl hR
      go_wp2_with fail
      refine TBL.out.mono ?_
      rintro e w1 ⟨pv, tv, rfl, tf, tp, b1⟩
      have hlv : ∀ k, (Value.slice la i lc).ownBlock = some k → k < W0.heap.size := fun k hk => (HLS.out.sl.lt k hk).2
      have XB := Lib.hid (tf.tbb hlv)
      have TP := Lib.hid (tp.offv hlv)
      obtain ⟨pa, pc, rfl⟩ := tf.c.form
      obtain ⟨ta, tc, rfl⟩ := tp.form
      obtain ⟨Y, hY⟩ : ∃ Y, Y = w1.alloc (.cells #[.slice pa R.length pc] 25) := ⟨_, rfl⟩
      have b2 : Below w1.heap.size w1 Y := by rw [hY]; exact (Below.refl _ _).alloc (Nat.le_refl _) _
      have bY0 : Below W0.heap.size W0 Y := b1.trans (b2.mono b1.size)
      have bY : Below w.heap.size w Y := HB.out.trans (bY0.mono HB.out.size)
      have LSY := HLS.out.on bY0
      have slY := LSY.sl
      rw [HQL.out] at slY
      have litY : ∀ j u, [Value.slice pa R.length pc][j]? = some u → Y.cell? ((⟨w1.heap.size, 0, none⟩ : Addr).add j) = some u := by
        have := (Sl.lit w1 0 1 1 #[.slice pa R.length pc] 25 (Nat.zero_le _) (by decide) rfl).cells
        rw [hY]; exact this
      have hone : ∀ v ∈ [Value.slice pa R.length pc], v.oneCell' = true := by
        intro v hv
        rw [List.mem_singleton] at hv
        subst hv
        rfl
      have XY := Lib.hid (XB.out.on b2); have TY := Lib.hid (TP.out.on b2); have WY := Lib.hid (HWT.out.on bY0)
      have LSYH := Lib.hid LSY
      have HY := Lib.hid hY; have BY := Lib.hid bY
      have zY := bY.size
      have PUSH := Lib.hid (fun (w5 : World) (v' : Value) (hx5 : Ext w.heap.size 1 Y (.slice la i lc) i (qs.map Tq.v) w5 v' (i + 1) (qs.map Tq.v ++ [.slice pa R.length pc])) => show TsN w5 w.heap.size v' (qs ++ [⟨.slice pa R.length pc, R⟩]) ∧ TabRP w5 40 (.slice ta R.length tc) R (OffV v') ∧ TabRP w5 k (.slice wa wn wc) rows (OffV v') ∧ Below w.heap.size w w5 ∧ (∃ a5 c5, v' = .slice a5 (i + 1) c5) ∧ ∀ k, v'.ownBlock = some k → k < w5.heap.size from
        ⟨LSYH.out.push HQL.out.symm hx5 XY.out, TY.out.ext hx5, WY.out.ext hx5, BY.out.trans (hx5.below (Nat.le_refl _) zY), hx5.now.slice, fun k hk => (hx5.now.lt k hk).2⟩)
      clear tf tp b1 b2 bY0 bY LSY hY hlv TBL e0 XB TP
      go_wp2_with (at_builtin; rw [← HY.out]; refine wpList_append_sl _ rfl _ _ 23 rfl w.heap.size 25 i0 (.slice none 0 0) 1 24 Tryd.underlying23 Hi.out Hz.out Hs.out Hb.out rfl (by decide) _ i _ rfl slY ⟨w1.heap.size, 0, none⟩ 1 1 [.slice pa R.length pc] rfl rfl litY hone (by unfold maxLen; omega) (by omega) zY ?_; intro v' w5 hx5; obtain ⟨ls5, tp5, wt5, b5, ⟨a5, c5, rfl⟩, lt5⟩ := PUSH.out w5 v' hx5; have LS5 := Lib.hid ls5; have TP5 := Lib.hid tp5; have WT5 := Lib.hid wt5; have B5 := Lib.hid b5; have LT5 := Lib.hid lt5; clear ls5 tp5 wt5 b5 hx5 lt5)
      obtain ⟨RN, hRN⟩ : ∃ RN, RN = R.length := ⟨_, rfl⟩
      rw [← hRN]
      have HRN := Lib.hid hRN
      rw [← hRN] at hRl
      clear hRN PUSH
      go_loopw [8, 14, 16, 46, 51, 52, 53] (fun w' _ _ j' _ _ _ wx => ∃ (j k2 : Nat) (rows2 : List Rw), j' = .int .i64 j ∧ j ≤ RN ∧ Hid (rows2 = addF [] (dq qs ++ prs (R.take j)) ∧ k2 = (dq qs ++ prs (R.take j)).length) ∧ TabRP wx k2 w' rows2 (OffV (.slice a5 (i + 1) c5)) ∧ Below w5.heap.size w5 wx) (fun _ _ _ j' _ _ _ _ => RN - (intOf j').toNat)
      case atStart => exact ⟨0, k, rows, rfl, by omega, Lib.hid (by rw [List.take_zero, show prs [] = [] from rfl, List.append_nil]; exact ⟨HRW.out, HKK.out⟩), WT5.out, Below.refl _ _⟩
      case round =>
        clear WT5
        obtain ⟨V0, rfl⟩ : ∃ V0, V0 = wr := ⟨_, rfl⟩
        obtain ⟨j, k2, rows2, rfl, hj, hof, htab, hyb⟩ := hrel
        have HT := Lib.hid htab; have HYB := Lib.hid hyb
        have HR2 := Lib.hid hof.out.1; have HK2 := Lib.hid hof.out.2
        have ybz := hyb.size
        obtain ⟨ua, uc, rfl⟩ := htab.form
        clear hof htab
        by_cases hjt : j < RN
        · obtain ⟨_, qs0, hqs, ⟨_, _, _, g0, off0, et, hgt, hct⟩, hok, hpq, _⟩ := TP5.out
          cases et
          have hq0l : qs0.length = RN := by rw [HRN.out, ← hqs, List.length_map]
          obtain ⟨rfl, hgtl⟩ := hgt (by have := HRN.out; omega)
          obtain ⟨⟨qa, qb, rl, rs⟩, hx⟩ : ∃ q, qs0[j]? = some q := ⟨qs0[j]'(by omega), List.getElem?_eq_getElem (by omega)⟩
          obtain ⟨v0, v1⟩ := rqc_at qs0 j _ hx
          have hli : R[j]? = some ⟨rl, rs⟩ := by rw [← hqs, List.getElem?_map, hx]; rfl
          have ok := hok _ (List.mem_of_getElem? hx)
          have pq := hpq _ (List.mem_of_getElem? hx)
          have q0 := (hyb.cell (p := ⟨g0, off0 + j * 2, none⟩) hgtl).trans ((hct (j * 2) (by have := HRN.out; omega)).trans v0)
          have q1 := (hyb.cell (p := ⟨g0, off0 + (j * 2 + 1), none⟩) hgtl).trans ((hct (j * 2 + 1) (by have := HRN.out; omega)).trans v1)
          rw [← Nat.add_assoc] at q1
          obtain ⟨kl, ks, kn, kk⟩ := ok
          simp only at kl ks kn kk q0 q1 pq
          obtain ⟨aa, ca, ea⟩ := kl.slice
          obtain ⟨ab, cb', eb⟩ := ks.slice
          subst ea eb
          obtain ⟨NL, hNL⟩ : ∃ NL, NL = rl.length := ⟨_, rfl⟩
          obtain ⟨NS, hNS⟩ : ∃ NS, NS = rs.length := ⟨_, rfl⟩
          have PQ := Lib.hid (show OffV (.slice a5 (i + 1) c5) (.slice aa NL ca) rl.length by rw [hNL]; exact pq.1)
          rw [← hNL] at q0 kn
          rw [← hNS] at q1 kk
          have HNL := Lib.hid hNL; have HNS := Lib.hid hNS; have HLI := Lib.hid hli
          have jil : (j : Int) < RN := by omega
          obtain ⟨V1, hV1⟩ : ∃ V1, V1 = V0.alloc (.cells #[.slice aa NL ca, .slice ab NS cb'] 32) := ⟨_, rfl⟩
          have b1 : Below V0.heap.size V0 V1 := by rw [hV1]; exact (Below.refl _ _).alloc (Nat.le_refl _) _
          have y1 : V1.heap.size = V0.heap.size + 1 := by rw [hV1]; simp
          have hx1 : V1.heap[V0.heap.size]? = some (.cells #[.slice aa NL ca, .slice ab NS cb'] 32) := by rw [hV1]; exact heap_alloc_new V0 _
          have KL := Lib.hid (show Rd V1 2 (.slice aa NL ca) NL (prc rl) by have := (kl.on hyb).on b1; rw [← hNL] at this; exact this)
          have KS := Lib.hid (show Rd V1 2 (.slice ab NS cb') NS (spc rs) by have := (ks.on hyb).on b1; rw [← hNS] at this; exact this)
          have HX1 := Lib.hid hx1; have BB1 := Lib.hid b1; have Y1 := Lib.hid y1
          have HT1 := Lib.hid (HT.out.on b1)
          have r0 := Lib.cell_of_heap hx1 0
          have r1 := Lib.cell_of_heap hx1 1
          simp at r0 r1
          clear hx v0 v1 hli kl ks hNL hNS hx1 b1 hqs hok hpq pq hgt hct
          go_upto_region 12 with fail
          rw [← hV1]
          clear hV1 q0 q1
          go_wp2_with fail
          go_loopw [8, 16, 53] (fun w' _ m' wx => ∃ (m k3 : Nat) (rows3 : List Rw), m' = .int .i64 m ∧ m ≤ NS ∧ Hid (rows3 = addF [] (dq qs ++ doneP R j ⟨rl, rs⟩ m) ∧ k3 = (dq qs ++ doneP R j ⟨rl, rs⟩ m).length) ∧ TabRP wx k3 w' rows3 (OffV (.slice a5 (i + 1) c5)) ∧ Below V1.heap.size V1 wx) (fun _ _ m' _ => NS - (intOf m').toNat)
          case atStart => exact ⟨0, k2, rows2, rfl, by omega, Lib.hid (by rw [doneP_zero]; exact ⟨HR2.out, HK2.out⟩), HT1.out, Below.refl _ _⟩
          case round =>
            clear HT HT1 HR2 HK2
            obtain ⟨V2, rfl⟩ : ∃ V2, V2 = wr := ⟨_, rfl⟩
            obtain ⟨m, k3, rows3, rfl, hm, hof, htab, hzb⟩ := hrel
            have HT := Lib.hid htab; have HZB := Lib.hid hzb
            have HR3 := Lib.hid hof.out.1; have HK3 := Lib.hid hof.out.2
            obtain ⟨ua, uc, rfl⟩ := htab.form
            have zbz := hzb.size
            have hk9 : k3 ≤ 200 := by
              have h1 := dq_len 40 qs (fun q hq => (HUP.out q hq).2)
              have h2 := doneP_le R j ⟨rl, rs⟩ m HLI.out (by have := HNS.out; show m ≤ rs.length; omega)
              rw [prs_len] at h2
              have h3 := HRU.out.2
              have h4 := HK3.out
              rw [List.length_append] at h4
              have h5 := HQL.out
              have h6 : qs.length * 40 ≤ 4 * 40 := Nat.mul_le_mul_right _ (by omega)
              omega
            have hr9 : rows3.length ≤ 200 := by
              have := (addF_len0 (dq qs ++ doneP R j ⟨rl, rs⟩ m)).1
              rw [← HR3.out, ← HK3.out] at this
              omega
            obtain ⟨N3, hN3⟩ : ∃ N3, N3 = rows3.length := ⟨_, rfl⟩
            have HN3 := Lib.hid hN3
            rw [← hN3]
            rw [← hN3] at hr9 HT
            clear hof htab hN3
            by_cases hmt : m < NS
            · obtain ⟨_, _, _, gx, ofx, ex, hgx, hcx⟩ := KS.out.on hzb
              cases ex
              obtain ⟨rfl, hgxl⟩ := hgx (by omega)
              obtain ⟨x, hx⟩ : ∃ x, rs[m]? = some x := ⟨rs[m]'(by have := HNS.out; omega), List.getElem?_eq_getElem (by have := HNS.out; omega)⟩
              obtain ⟨d0, d1⟩ := spc_at rs m x hx
              have u0 := (hcx (m * 2) (by omega)).trans d0
              have u1 := (hcx (m * 2 + 1) (by omega)).trans d1
              rw [← Nat.add_assoc] at u1
              have FST := Lib.hid (show dq qs ++ doneP R j ⟨rl, rs⟩ (m + 1) = (dq qs ++ doneP R j ⟨rl, rs⟩ m) ++ [(rl, x)] by rw [doneP_succ R j ⟨rl, rs⟩ m x hx, List.append_assoc])
              obtain ⟨xt, hxt⟩ : ∃ xt, xt = x.t := ⟨_, rfl⟩
              obtain ⟨xv, hxv⟩ : ∃ xv, xv = x.v := ⟨_, rfl⟩
              rw [← hxt] at u0
              rw [← hxv] at u1
              have i1 : (m : Int) < NS := by omega
              obtain ⟨V3, hV3⟩ : ∃ V3, V3 = V2.alloc (.cells #[.int .i64 xt, .int .u64 xv] 35) := ⟨_, rfl⟩
              have b3 : Below V2.heap.size V2 V3 := by rw [hV3]; exact (Below.refl _ _).alloc (Nat.le_refl _) _
              have hx3 : V3.heap[V2.heap.size]? = some (.cells #[.int .i64 xt, .int .u64 xv] 35) := by rw [hV3]; exact heap_alloc_new V2 _
              have p0 := Lib.cell_of_heap hx3 0
              have p1 := Lib.cell_of_heap hx3 1
              simp at p0 p1
              have hxr := (b3.block V0.heap.size (by have := Y1.out; omega)).trans ((hzb.block V0.heap.size (by have := Y1.out; omega)).trans HX1.out)
              have ee0 := Lib.cell_of_heap hxr 0
              simp at ee0
              have bV3 := Lib.hid (HZB.out.trans (b3.mono zbz))
              have HT3 := Lib.hid (HT.out.on b3)
              have ADD := Lib.hid (show Calls Tryd.prog 7 #[.slice ua N3 uc, .slice aa NL ca, .agg #[.int .i64 xt, .int .u64 xv]] V3 (fun e w' => ∃ v', e = .returned v' ∧ TabRP w' (k3 + 1) v' (addT rows3 rl x) (OffV (.slice a5 (i + 1) c5)) ∧ Below V3.heap.size V3 w') from by
                rw [hxt, hxv]
                exact add14_P (OffV (.slice a5 (i + 1) c5)) (.slice ua N3 uc) (.slice aa NL ca) rows3 rl x k3 V3 (fun v n hv => off_gt hv (fun k hk => Nat.lt_of_lt_of_le (LT5.out k hk) (Nat.le_trans ybz (by have := Y1.out; have := bV3.out.size; omega)))) PQ.out HT3.out (by have := HN3.out; omega) (by have := KL.out.on bV3.out; rw [HNL.out] at this ⊢; exact this) (by have := HNL.out; omega) (by omega))
              have HRS := Lib.hid (show addT rows3 rl x = addF [] (dq qs ++ doneP R j ⟨rl, rs⟩ (m + 1)) by rw [FST.out, addF_snoc, ← HR3.out])
              have HKS := Lib.hid (show k3 + 1 = (dq qs ++ doneP R j ⟨rl, rs⟩ (m + 1)).length by rw [FST.out, List.length_append, ← HK3.out]; rfl)
              clear hx d0 d1 hxt hxv hzb b3 hcx hx3 hxr
              go_upto_region 15 with fail
              rw [← hV3]
              clear hV3 u0 u1
              go_wp2_with fail
              refine ADD.out.mono ?_
              rintro e w6 ⟨v6, rfl, t6, b6⟩
              have T6 := Lib.hid t6
              have B6 := Lib.hid (bV3.out.trans (b6.mono bV3.out.size))
              clear t6 b6 ADD
              go_wp2
              exact ⟨⟨m + 1, k3 + 1, addT rows3 rl x, by simp, by omega, Lib.hid ⟨HRS.out, HKS.out⟩, T6.out, B6.out⟩, by simp [intOf]; omega⟩
            · have i1 : ¬ (m : Int) < NS := by omega
              have HFL := Lib.hid (show doneP R j ⟨rl, rs⟩ m = prs (R.take (j + 1)) by
                have h1 := doneP_full R j ⟨rl, rs⟩ HLI.out
                rw [← h1, show m = rs.length by have := HNS.out; omega])
              have BV2 := Lib.hid (HYB.out.trans ((BB1.out.trans (hzb.mono BB1.out.size)).mono HYB.out.size))
              clear hzb hmt
              go_wp2
              exact ⟨⟨j + 1, k3, rows3, by simp, by omega, Lib.hid (by rw [← HFL.out]; exact ⟨HR3.out, HK3.out⟩), by have := HT.out; rw [HN3.out] at this ⊢; exact this, BV2.out⟩, by simp [intOf]; omega⟩
        · have jil : ¬ (j : Int) < RN := by omega
          have HDQ := Lib.hid (show dq (qs ++ [⟨.slice pa RN pc, R⟩]) = dq qs ++ prs (R.take j) by rw [dq_snoc, List.take_of_length_le (by have := HRN.out; omega)])
          have FUP := Lib.hid (show ∀ q ∈ qs ++ [⟨.slice pa RN pc, R⟩], (UpT q.rows ∧ (∀ r ∈ q.rows, r.ss ≠ [])) ∧ cntZ q.rows ≤ 40 from fun q hq => by
            rcases List.mem_append.1 hq with hq | hq
            · exact HUP.out q hq
            · rw [List.mem_singleton] at hq
              subst hq
              exact HRU.out)
          have LS6 := Lib.hid (show TsN w5 w.heap.size (.slice a5 (i + 1) c5) (qs ++ [⟨.slice pa RN pc, R⟩]) by rw [HRN.out]; exact LS5.out)
          clear hyb hjt
          go_wp2
          exact ⟨⟨i + 1, qs ++ [⟨.slice pa RN pc, R⟩], a5, c5, k2, rows2, by simp, rfl, by omega, by omega, by rw [List.length_append, HQL.out]; rfl, LS6.out.on HYB.out, Lib.hid FUP.out, Lib.hid (by rw [HDQ.out]; exact ⟨HR2.out, HK2.out⟩), HT.out, B5.out.trans (HYB.out.mono B5.out.size)⟩, by simp [intOf]; omega⟩
    · have hcs : ((i : Int) < len ∧ ¬ (i : Int) < 4) ∨ ¬ (i : Int) < len := by omega
      obtain ⟨a1, a2, a3⟩ := addF_nil (dq qs)
      rw [← HRW.out] at a1 a2
      have UPR := Lib.hid a1
      have hcnt : cntZ rows ≤ 160 := by
        have := addF_cnt0 (dq qs)
        rw [← HRW.out, ← HKK.out] at this
        omega
      have HCT := Lib.hid hcnt
      have TBS := Lib.hid (fun (W : World) (b : Below W0.heap.size W0 W) => show Calls Tryd.prog 8 #[.slice la i lc] W (fun e w' => ∃ v', e = .returned v' ∧ TabC w' 1000 v' rows ∧ Below W.heap.size W w') from by
        have hd : (qs.map fun q => prs q.rows).flatten = dq qs := rfl
        have := tables_P _ _ W ((HLS.out.read (fun q hq => (HUP.out q hq).1)).on b) (by rw [List.length_map, HQL.out]; omega) (by rw [hd, ← HKK.out]; omega)
        rw [hd, ← HRW.out] at this
        exact this)
      have WT0 := Lib.hid (show TabR W0 160 (.slice wa wn wc) rows from HWT.out.r.mono (by omega))
      have hw160 : wn ≤ 160 := by omega
      have TD := Lib.hid (fun (W : World) (u : Value) (l : List Rw) (hl : l.length ≤ 160) (hu : TabC W 1000 u l) => told14_any u l 1000 W hu.r (by omega) (by omega))
      have SM := Lib.hid (fun (W : World) (u v : Value) (l : List Rw) (hl : l.length ≤ 160) (hu : TabR W 1000 u l) (hv : TabR W 1000 v l) => same14_any u v l 1000 W hu hv (by omega) (by omega))
      have GD := Lib.hid (fun (W : World) (u : Value) (hu : TabC W 1000 u rows) => good_any u rows 1000 W hu.r (by have := HWN.out; omega) (by omega))
      have CN := Lib.hid (fun (W : World) (u : Value) (hu : TabC W 1000 u rows) => count14_any u rows 1000 W hu.r (by have := HWN.out; omega) (by omega))
      have BT := Lib.hid (fun (W : World) (u : Value) (hu : TabC W 1000 u rows) => between_any u rows f t 1000 W hu.r (by have := HWN.out; omega) (by omega))
      have RB := Lib.hid (fun (W : World) (hu : TabR W 160 (.slice wa wn wc) rows) => show Calls Tryd.prog 15 #[.slice wa wn wc, .int .i64 f, .int .i64 t] W (fun e w' => ∃ v', e = .returned v' ∧ TabR w' 900 v' (betw f t rows) ∧ Below W.heap.size W w') from by
        have := rbetween_any (.slice wa wn wc) rows f t 160 W hu (by have := HWN.out; omega) (by omega) (by rw [prs_len]; have := HCT.out; omega)
        rw [show addF [] (filP f t (prs rows)) = betw f t rows from betw_prs UPR.out f t] at this
        exact this)
      have HGD := Lib.hid (show GoodI rows from goodI_of_up a1)
      have HBL := Lib.hid (show (betw f t rows).length ≤ 160 by have := betw_len f t rows; have := HWN.out; omega)
      have HRL := Lib.hid (show rows.length ≤ 160 by have := HWN.out; omega)
      obtain ⟨CR, hCR⟩ : ∃ CR, CR = cntZ rows := ⟨_, rfl⟩
      have HCR := Lib.hid hCR
      rw [← hCR] at CN
      obtain ⟨BR, hBR⟩ : ∃ BR, BR = betw f t rows := ⟨_, rfl⟩
      rw [← hBR] at BT RB HBL
      clear hlt a1 a2 a3 hcnt hr160 hk160 hCR hBR
      rcases hcs with ⟨k1, k2⟩ | k1
      all_goals
        go_wp2_with fail
        go_loopw [9, 18, 66] (fun n' _ j' wy => ∃ (j c : Nat), j' = .int .i64 j ∧ n' = .int .i64 c ∧ j ≤ wn ∧ c ≤ 160 ∧ Hid (c = cntZ (rows.take j)) ∧ Below W0.heap.size W0 wy) (fun _ _ j' _ => wn - (intOf j').toNat)
        case' atStart => exact ⟨0, 0, rfl, rfl, by omega, by omega, Lib.hid rfl, Below.refl _ _⟩
        case' round =>
          obtain ⟨V0, rfl⟩ : ∃ V0, V0 = wr := ⟨_, rfl⟩
          obtain ⟨j, c, rfl, rfl, hj, hc160, hcc, hyb⟩ := hrel
          have HC0 := Lib.hid hcc.out
          have HYB := Lib.hid hyb
          clear hcc
          by_cases hjt : j < wn
          · obtain ⟨_, qs0, hqs, ⟨_, _, _, g0, off0, et, hgt, hct⟩, hok⟩ := WT0.out.on hyb
            simp only [Value.slice.injEq] at et
            obtain ⟨rfl, -, rfl⟩ := et
            obtain ⟨rfl, hgtl⟩ := hgt (by have := HWN.out; omega)
            have hq0l : qs0.length = wn := by rw [HWN.out, ← hqs, List.length_map]
            obtain ⟨⟨qa, qb, r⟩, hx⟩ : ∃ q, qs0[j]? = some q := ⟨qs0[j]'(by omega), List.getElem?_eq_getElem (by omega)⟩
            obtain ⟨v0, v1⟩ := rqc_at qs0 j _ hx
            have hli : rows[j]? = some r := by rw [← hqs, List.getElem?_map, hx]; rfl
            have ok := hok _ (List.mem_of_getElem? hx)
            have q0 := (hct (j * 2) (by have := HWN.out; omega)).trans v0
            have q1 := (hct (j * 2 + 1) (by have := HWN.out; omega)).trans v1
            rw [← Nat.add_assoc] at q1
            obtain ⟨aa, ca, ea⟩ := ok.l.slice
            obtain ⟨ab, cb', eb⟩ := ok.s.slice
            simp only at ea eb q0 q1
            subst ea eb
            obtain ⟨NL, hNL⟩ : ∃ NL, NL = r.ls.length := ⟨_, rfl⟩
            obtain ⟨NS, hNS⟩ : ∃ NS, NS = r.ss.length := ⟨_, rfl⟩
            rw [← hNL] at q0
            rw [← hNS] at q1
            have HCS := Lib.hid (show c + NS = cntZ (rows.take (j + 1)) by rw [cntZ_take rows j r hli, hNS, ← HC0.out])
            have hcs160 : c + NS ≤ 160 := by
              have h1 := HCS.out
              have h2 : cntZ (rows.take (j + 1)) ≤ cntZ rows := by
                have e : cntZ rows = cntZ (rows.take (j + 1)) + cntZ (rows.drop (j + 1)) := by
                  unfold cntZ
                  rw [← List.sum_append, ← List.map_append, List.take_append_drop]
                omega
              have := HCT.out
              omega
            have jil : (j : Int) < wn := by omega
            have hsum : (c : Int) + (NS : Int) = ((c + NS : Nat) : Int) := by omega
            obtain ⟨c2, hc2⟩ : ∃ c2, c2 = c + NS := ⟨_, rfl⟩
            rw [← hc2] at hsum HCS hcs160
            obtain ⟨V1, hV1⟩ : ∃ V1, V1 = V0.alloc (.cells #[.slice aa NL ca, .slice ab NS cb'] 32) := ⟨_, rfl⟩
            have b1 : Below V0.heap.size V0 V1 := by rw [hV1]; exact (Below.refl _ _).alloc (Nat.le_refl _) _
            have hx1 : V1.heap[V0.heap.size]? = some (.cells #[.slice aa NL ca, .slice ab NS cb'] 32) := by rw [hV1]; exact heap_alloc_new V0 _
            have r1 := Lib.cell_of_heap hx1 1
            simp at r1
            have BV1 := Lib.hid (HYB.out.trans (b1.mono HYB.out.size))
            clear hx v0 v1 hli ok hNL hNS hx1 b1 hqs hok hct hgt hyb hq0l hc2
            go_upto_region 21 with fail
            rw [← hV1]
            clear hV1 q0 q1
            go_wp2
            exact ⟨⟨j + 1, c2, by simp, rfl, by omega, by omega, Lib.hid HCS.out, BV1.out⟩, by simp [intOf]; omega⟩
          · have jil : ¬ (j : Int) < wn := by omega
            have hcf : c = CR := by rw [HC0.out, HCR.out, List.take_of_length_le (by have := HWN.out; omega)]
            have B0 := Lib.hid (HB.out.trans (hyb.mono HB.out.size))
            have WT1 := Lib.hid (WT0.out.on hyb)
            have TBC := Lib.hid (TBS.out _ hyb)
            subst hcf
            clear hyb hjt TBS HC0
            go_wp2_with fail
            refine TBC.out.mono ?_
            rintro e w2 ⟨v2, rfl, t2, b2⟩
            obtain ⟨ga, gc, rfl⟩ := t2.form
            have G2 := Lib.hid t2; have WT2 := Lib.hid (WT1.out.on b2)
            have B2 := Lib.hid (B0.out.trans (b2.mono B0.out.size))
            clear t2 b2 TBC WT1 B0
            go_wp2_with fail
            refine (AW.out _).mono ?_
            rintro e w3 ⟨rfl, b3⟩
            have G3 := Lib.hid (G2.out.on b3); have WT3 := Lib.hid (WT2.out.on b3)
            have B3 := Lib.hid (B2.out.trans (b3.mono B2.out.size))
            have C3 := Lib.hid (TD.out w3 _ rows HRL.out G3.out)
            clear b3 G2 WT2 B2
            go_wp2_with fail
            refine C3.out.mono ?_
            rintro e w4 ⟨v4, rfl, t4, b4⟩
            obtain ⟨a4, c4, rfl⟩ := t4.form
            have G4 := Lib.hid (G3.out.on b4); have WT4 := Lib.hid (WT3.out.on b4)
            have B4 := Lib.hid (B3.out.trans (b4.mono B3.out.size))
            have C4 := Lib.hid (SM.out w4 _ _ rows HRL.out t4 (WT4.out.mono (by omega)))
            rw [← HWN.out] at C4
            rw [← HWN.out]
            clear b4 t4 G3 WT3 B3 C3
            go_wp2_with fail
            refine C4.out.mono ?_
            rintro e w5 ⟨rfl, b5⟩
            have G5 := Lib.hid (G4.out.on b5); have WT5 := Lib.hid (WT4.out.on b5)
            have B5 := Lib.hid (B4.out.trans (b5.mono B4.out.size))
            have C5 := Lib.hid (GD.out w5 _ G5.out)
            rw [← HWN.out] at C5
            clear b5 G4 WT4 B4 C4
            go_wp2_with fail
            refine C5.out.mono ?_
            rintro e w6 ⟨⟨bg, rfl, hbg⟩, b6⟩
            obtain rfl := hbg.2 HGD.out
            have G6 := Lib.hid (G5.out.on b6); have WT6 := Lib.hid (WT5.out.on b6)
            have B6 := Lib.hid (B5.out.trans (b6.mono B5.out.size))
            have C6 := Lib.hid (CN.out w6 _ G6.out)
            rw [← HWN.out] at C6
            clear b6 hbg G5 WT5 B5 C5
            go_wp2_with fail
            refine C6.out.mono ?_
            rintro e w7 ⟨rfl, b7⟩
            have G7 := Lib.hid (G6.out.on b7); have WT7 := Lib.hid (WT6.out.on b7)
            have B7 := Lib.hid (B6.out.trans (b7.mono B6.out.size))
            have C7 := Lib.hid (BT.out w7 _ G7.out)
            rw [← HWN.out] at C7
            clear b7 G6 WT6 B6 C6
            go_wp2_with fail
            refine C7.out.mono ?_
            rintro e w8 ⟨v8, rfl, t8, b8⟩
            obtain ⟨a8, c8, rfl⟩ := t8.form
            have WT8 := Lib.hid (WT7.out.on b8)
            have B8 := Lib.hid (B7.out.trans (b8.mono B7.out.size))
            have C8 := Lib.hid (TD.out w8 _ BR HBL.out t8)
            clear b8 t8 G7 WT7 B7 C7
            go_wp2_with fail
            refine C8.out.mono ?_
            rintro e w9 ⟨v9, rfl, t9, b9⟩
            obtain ⟨a9, c9, rfl⟩ := t9.form
            have T9 := Lib.hid t9
            have WT9 := Lib.hid (WT8.out.on b9)
            have B9 := Lib.hid (B8.out.trans (b9.mono B8.out.size))
            have C9 := Lib.hid (RB.out w9 WT9.out)
            clear b9 t9 WT8 B8 C8
            go_wp2_with fail
            refine C9.out.mono ?_
            rintro e w10 ⟨v10, rfl, t10, b10⟩
            obtain ⟨a10, c10, rfl⟩ := t10.form
            have B10 := Lib.hid (B9.out.trans (b10.mono B9.out.size))
            have C10 := Lib.hid (SM.out w10 _ _ BR HBL.out (T9.out.on b10) (t10.mono (by omega)))
            clear b10 t10 WT9 B9 C9 T9
            go_wp2_with fail
            refine C10.out.mono ?_
            rintro e w11 ⟨rfl, b11⟩
            have B11 := Lib.hid (B10.out.trans (b11.mono B10.out.size))
            clear b11 B10 C10
            go_wp2
            go_ret
            exact ⟨by simp, B11.out⟩
end Go.Proofs.YtcmalckaekbomaaDoor
