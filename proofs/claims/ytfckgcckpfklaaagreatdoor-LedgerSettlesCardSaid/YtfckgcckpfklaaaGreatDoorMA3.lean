/- Layer 14: the document's Add, walked. -/
import Derived.Test.YtfckgcckpfklaaaGreatDoorMA2
namespace Go.Proofs.YtfckgcckpfklaaaGreatDoor
open Go.RowKit Go.Lib
set_option linter.unusedVariables false

theorem zc_rrow : (Tryz.prog.info? 87).map (fun i => (i.zero, i.size, i.bytes)) = some (some (.agg #[.slice none 0 0, .slice none 0 0]), 2, 48) := by kernel_rfl
/-- A literal of one row, in new memory. -/
theorem lit_row (W : World) (x y : Value) (e : TypeId) (B : Nat) (hB : W.heap.size = B) : ∀ j u, [x, y][j]? = some u → (W.alloc (.cells #[x, y] e)).cell? ((⟨B, 0, none⟩ : Addr).add j) = some u := by
  have := (Sl.lit W 0 2 1 #[x, y] e (Nat.zero_le _) (by decide) rfl).cells
  rw [← hB]
  exact this
theorem row_one (a b : Option Addr) (n c m k : Nat) : ∀ v ∈ [Value.slice a n c, .slice b m k], v.oneCell' = true := by
  intro v hv
  simp only [List.mem_cons, List.not_mem_nil, or_false] at hv
  rcases hv with rfl | rfl <;> rfl
theorem off_lt {x v : Value} {n k0 : Nat} (hx : 0 < n → ∀ k, x.ownBlock = some k → k < k0) (hv : ∀ k, v.ownBlock = some k → k0 ≤ k) : Off x n v := fun hn k hk e => by
  have := hx hn k hk
  have := hv k e
  omega
theorem off_gt {x v : Value} {n k0 : Nat} (hx : ∀ k, x.ownBlock = some k → k0 ≤ k) (hv : ∀ k, v.ownBlock = some k → k < k0) : Off x n v := fun hn k hk e => by
  have := hx k hk
  have := hv k e
  omega
theorem Rd.lt {w : World} {size n : Nat} {v : Value} {xs : List Value} (h : Rd w size v n xs) : 0 < n → ∀ k, v.ownBlock = some k → k < w.heap.size := fun hn k hk => by
  obtain ⟨g, hg, hl⟩ := h.own hn
  have : k = g := Option.some.inj (hk.symm.trans hg)
  omega

theorem Ext.block_old {base size n0 n : Nat} {w w' : World} {v0 v : Value} {xs0 xs : List Value} (h : Ext base size w v0 n0 xs0 w' v n xs) (b : Nat) (hb : b < w.heap.size) (hne : ∀ k, v0.ownBlock = some k → k ≠ b) : w'.heap[b]? = w.heap[b]? :=
  h.grown.block b hb (fun e => hne _ e.symm rfl)
theorem tab_push {w w' : World} {base K m oc : Nat} {oa : Option Addr} {v' x y : Value} {qs : List Rq} {r : Rw} (hm : m = qs.length) (h : TabN w base K (.slice oa m oc) qs) (hx : Ext base 2 w (.slice oa m oc) m (rqc qs) w' v' (m + 1) (rqc qs ++ [x, y])) (hq : RowOk w K ⟨x, y, r⟩) (ha : Off x r.ls.length (.slice oa m oc)) (hb : Off y r.ss.length (.slice oa m oc)) : TabN w' base K v' (qs ++ [⟨x, y, r⟩]) := by
  subst hm
  exact h.push hx hq ha hb

set_option maxHeartbeats 4000000 in
set_option maxRecDepth 100000 in
theorem add14_N (P : Value → Nat → Prop) (tv pv : Value) (l : List Rw) (ls : List Pr) (s : Sp) (K : Nat) (w : World) (hfr : ∀ v n, (∀ k, v.ownBlock = some k → w.heap.size ≤ k) → P v n) (hpv : P pv ls.length) (h : TabRP w K tv l P) (hm : l.length ≤ 1000) (hp : Rd w 2 pv ls.length (prc ls)) (hpl : ls.length ≤ 1000) (hK : K ≤ 10000) :
    Calls Tryz.prog 37 #[tv, pv, .agg #[.int .i64 s.t, .int .u64 s.v]] w fun e w' => ∃ v', e = .returned v' ∧ TabNP w' w.heap.size (K + 1) v' (addT l ls s) P ∧ Below w.heap.size w w' := by
  obtain ⟨i0, hi, hz0, hz1, hz2⟩ := info_parts zc_rrow
  have Hz := Lib.hid hz0; have Hs := Lib.hid hz1; have Hb := Lib.hid hz2; have Hi := Lib.hid hi
  clear hz0 hz1 hz2 hi
  obtain ⟨-, qs0, hqs, ⟨_, a, cap, g, off, rfl, hg, hc⟩, hok, hPi, _⟩ := h
  have HPI := Lib.hid hPi; have PF := Lib.hid hfr
  clear hPi hfr
  obtain ⟨n, hn⟩ : ∃ n, n = l.length := ⟨_, rfl⟩
  rw [← hn] at hg hc hm ⊢
  have hq0 : qs0.length = n := by rw [hn, ← hqs, List.length_map]
  have HN := Lib.hid hn
  have HC := Lib.hid hc
  have HG := Lib.hid hg
  have HQ0 := Lib.hid hq0
  have HOK := Lib.hid hok
  have HQS := Lib.hid hqs
  have HP := Lib.hid hp
  obtain ⟨pa, pc, rfl⟩ := hp.slice
  obtain ⟨np, hnp⟩ : ∃ np, np = ls.length := ⟨_, rfl⟩
  have HPP := Lib.hid hpv
  rw [← hnp] at HP hpl HPP ⊢
  clear hpv
  have HNP := Lib.hid hnp
  obtain ⟨st, hst⟩ : ∃ st, st = s.t := ⟨_, rfl⟩
  obtain ⟨sv, hsv⟩ : ∃ sv, sv = s.v := ⟨_, rfl⟩
  have HST := Lib.hid hst; have HSV := Lib.hid hsv
  rw [← hst, ← hsv]
  clear hn hc hg hst hsv hq0 hok hqs hp hnp
  obtain ⟨W1, hW1⟩ : ∃ W1, W1 = w.alloc (.cells #[.int .i64 st, .int .u64 sv] 34) := ⟨_, rfl⟩
  have B1 : Below w.heap.size w W1 := by rw [hW1]; exact (Below.refl _ _).alloc (Nat.le_refl _) _
  have z1 : W1.heap.size = w.heap.size + 1 := by rw [hW1]; simp
  have s0 : W1.cell? ⟨w.heap.size, 0, none⟩ = some (.int .i64 st) := by rw [hW1]; exact Lib.cell_of_heap (heap_alloc_new w _) 0
  have s1 : W1.cell? ⟨w.heap.size, 1, none⟩ = some (.int .u64 sv) := by rw [hW1]; exact Lib.cell_of_heap (heap_alloc_new w _) 1
  have S0 : TabN (W1.alloc (.cells #[] 87)) W1.heap.size (K + 1) (.slice (some ⟨W1.heap.size, 0, none⟩) 0 0) [] := ⟨Sl.lit W1 W1.heap.size 2 0 #[] _ (Nat.le_refl _) (by decide) rfl, fun q hq => absurd hq (by simp)⟩
  have BA : Below W1.heap.size W1 (W1.alloc (.cells #[] 87)) := (Below.refl _ _).alloc (Nat.le_refl _) _
  have HS0 := Lib.hid s0; have HS1 := Lib.hid s1; have HB1 := Lib.hid B1; have HZ1 := Lib.hid z1
  clear s0 s1 B1
  go_enter Tryz.func37, Tryz.ntmps37
  go_upto_region 1 with fail
  rw [← hW1]
  clear hW1
  go_wp2_with fail
  rw [z1] at S0
  go_loopw [7, 8, 10, 11, 15] (fun p' d' x' c' i' wr => ∃ (i : Nat) (qs : List Rq) (d : Bool), i' = .int .i64 i ∧ i ≤ n ∧ Hid (sofarT ls s (l.take i) = (qs.map Rq.r, d) ∧ ∀ q ∈ qs, P q.a q.r.ls.length ∧ P q.b q.r.ss.length) ∧ d' = .bool d ∧ TabN wr W1.heap.size (K + 1) p' qs ∧ Below W1.heap.size W1 wr) (fun _ _ _ _ i' _ => n - (intOf i').toNat)
  case atStart => exact ⟨0, [], false, rfl, by omega, Lib.hid ⟨rfl, fun q hq => absurd hq (by simp)⟩, rfl, by rw [HZ1.out]; exact S0, BA⟩
  case round =>
    clear S0 BA
    obtain ⟨i, qs, d, rfl, hi, hof, rfl, hown, hb⟩ := hrel
    have HPQ := Lib.hid hof.out.2
    have hbz := hb.size
    have e0 : wr.cell? ⟨w.heap.size, 0, none⟩ = some (.int .i64 st) := (hb.cell (p := ⟨w.heap.size, 0, none⟩) (by have := HZ1.out; show w.heap.size < W1.heap.size; omega)).trans HS0.out
    have e1 : wr.cell? ⟨w.heap.size, 1, none⟩ = some (.int .u64 sv) := (hb.cell (p := ⟨w.heap.size, 1, none⟩) (by have := HZ1.out; show w.heap.size < W1.heap.size; omega)).trans HS1.out
    have hol : qs.length ≤ i + 1 := by
      have h := foldT_len ls s (l.take i) ([], false)
      have h2 : (sofarT ls s (l.take i)).1.length + dn (sofarT ls s (l.take i)).2 ≤ 0 + (l.take i).length + 1 := h
      rw [hof.out.1, List.length_take] at h2
      simp only [List.length_map] at h2
      omega
    have BW := Lib.hid (HB1.out.trans (hb.mono (by have := HZ1.out; omega)))
    obtain ⟨oa, oc, he⟩ := hown.sl.slice
    subst he
    have hob : ∀ k, (Value.slice oa qs.length oc).ownBlock = some k → k < wr.heap.size := fun k hk => (hown.sl.lt k hk).2
    have hob1 : ∀ k, (Value.slice oa qs.length oc).ownBlock = some k → W1.heap.size ≤ k := fun k hk => (hown.sl.lt k hk).1
    have HOB := Lib.hid hob; have HOB1 := Lib.hid hob1
    obtain ⟨m, hml⟩ : ∃ m, m = qs.length := ⟨_, rfl⟩
    have HML := Lib.hid hml
    rw [← hml] at hown HOB HOB1 hol
    rw [← hml]
    clear hob hob1 hml
    by_cases hlt : i < n
    · obtain ⟨rfl, hgl⟩ := HG.out (by omega)
      obtain ⟨⟨qa, qb, rl, rs⟩, hx⟩ : ∃ q, qs0[i]? = some q := ⟨qs0[i]'(by have := HQ0.out; omega), List.getElem?_eq_getElem (by have := HQ0.out; omega)⟩
      obtain ⟨v0, v1⟩ := rqc_at qs0 i _ hx
      have hli : l[i]? = some ⟨rl, rs⟩ := by rw [← HQS.out, List.getElem?_map, hx]; rfl
      have ok := HOK.out _ (List.mem_of_getElem? hx)
      have q0 := ((hb.cell (p := ⟨g, off + i * 2, none⟩) (by show g < W1.heap.size; omega)).trans ((HB1.out.cell (p := ⟨g, off + i * 2, none⟩) hgl).trans (HC.out (i * 2) (by omega)))).trans v0
      have q1 := ((hb.cell (p := ⟨g, off + (i * 2 + 1), none⟩) (by show g < W1.heap.size; omega)).trans ((HB1.out.cell (p := ⟨g, off + (i * 2 + 1), none⟩) hgl).trans (HC.out (i * 2 + 1) (by omega)))).trans v1
      rw [← Nat.add_assoc] at q1
      obtain ⟨kl, ks, kn, kk⟩ := ok
      have ip := HPI.out _ (List.mem_of_getElem? hx)
      simp only at kl ks kn kk q0 q1 ip
      obtain ⟨aa, ca, ea⟩ := kl.slice
      obtain ⟨ab, cb', eb⟩ := ks.slice
      subst ea eb
      obtain ⟨NL, hNL⟩ : ∃ NL, NL = rl.length := ⟨_, rfl⟩
      obtain ⟨NS, hNS⟩ : ∃ NS, NS = rs.length := ⟨_, rfl⟩
      have IP := Lib.hid (show P (.slice aa NL ca) rl.length ∧ P (.slice ab NS cb') rs.length by rw [hNL, hNS]; exact ip)
      clear ip
      rw [← hNL] at kl kn q0
      rw [← hNS] at ks kk q1
      have HNL := Lib.hid hNL; have HNS := Lib.hid hNS
      have KL := Lib.hid kl; have KS := Lib.hid ks
      have hil : (i : Int) < n := by omega
      have HTK := Lib.hid (show sofarT ls s (l.take (i + 1)) = stepT ls s (qs.map Rq.r, d) ⟨rl, rs⟩ by rw [List.take_add_one, hli]; show sofarT ls s (l.take i ++ [_]) = _; rw [sofarT_snoc, hof.out.1])
      obtain ⟨V1, hV1⟩ : ∃ V1, V1 = wr.alloc (.cells #[.slice aa NL ca, .slice ab NS cb'] 87) := ⟨_, rfl⟩
      have b1 : Below wr.heap.size wr V1 := by rw [hV1]; exact (Below.refl _ _).alloc (Nat.le_refl _) _
      have y1 : V1.heap.size = wr.heap.size + 1 := by rw [hV1]; simp
      have hx1 : V1.heap[wr.heap.size]? = some (.cells #[.slice aa NL ca, .slice ab NS cb'] 87) := by rw [hV1]; exact heap_alloc_new wr _
      have hwz : w.heap.size < wr.heap.size := by have := HZ1.out; omega
      have f0 := (b1.cell (p := ⟨w.heap.size, 0, none⟩) hwz).trans e0
      have f1 := (b1.cell (p := ⟨w.heap.size, 1, none⟩) hwz).trans e1
      have RC := Lib.hid (rcmp_lb (.slice pa np pc) (.slice aa NL ca) ls rl V1 (by rw [← HNP.out]; exact (HP.out.on BW.out).on b1) (by rw [← HNL.out]; exact (KL.out.on BW.out).on b1) (by have := HNP.out; omega) (by have := HNL.out; omega))
      obtain ⟨c, hcc⟩ : ∃ c, c = cmpS ls rl := ⟨_, rfl⟩
      rw [← hcc] at RC
      have HCC := Lib.hid hcc
      have HX1 := Lib.hid hx1; have F0 := Lib.hid f0; have F1 := Lib.hid f1; have B11 := Lib.hid b1
      have hc0 := Lib.cell_of_heap hx1 0
      clear hx hNL hNS v0 v1 hli kl ks hcc hof hx1
      go_upto_region 6 with fail
      rw [← hV1]
      clear hV1 e0 e1 q0 q1
      simp at hc0
      go_wp2_with fail
      refine RC.out.mono ?_
      rintro e w2 ⟨rfl, b2⟩
      have b12 : Below wr.heap.size wr w2 := B11.out.trans (b2.mono B11.out.size)
      have hx2 := (b2.block wr.heap.size (by omega)).trans HX1.out
      have g0 := (b2.cell (p := ⟨w.heap.size, 0, none⟩) (by show w.heap.size < V1.heap.size; omega)).trans F0.out
      have g1 := (b2.cell (p := ⟨w.heap.size, 1, none⟩) (by show w.heap.size < V1.heap.size; omega)).trans F1.out
      have r0 := Lib.cell_of_heap hx2 0
      have r1 := Lib.cell_of_heap hx2 1
      have rf1 := Lib.frozen_of_heap hx2 1
      simp at r0 r1
      have z2 : wr.heap.size < w2.heap.size := (Array.getElem?_eq_some_iff.1 hx2).1
      have BW2 := Lib.hid (BW.out.trans (b12.mono BW.out.size))
      have HX2 := Lib.hid hx2; have B12 := Lib.hid b12
      have XA : 0 < NL → ∀ k, (Value.slice aa NL ca).ownBlock = some k → k < W1.heap.size := fun h k hk => by have := KL.out.lt h k hk; have := HZ1.out; omega
      have XB : 0 < NS → ∀ k, (Value.slice ab NS cb').ownBlock = some k → k < W1.heap.size := fun h k hk => by have := KS.out.lt h k hk; have := HZ1.out; omega
      have HXA := Lib.hid XA; have HXB := Lib.hid XB
      clear hx2 b2 XA XB hc0 RC
      by_cases h0 : c = 0
      · have h0b : (c == 0) = true := beq_iff_eq.2 h0
        have STEP := Lib.hid (show sofarT ls s (l.take (i + 1)) = (qs.map Rq.r ++ [⟨rl, putS rs s⟩], true) by
          rw [HTK.out]; unfold stepT; rw [if_pos (by rw [← HCC.out]; exact h0)])
        have PUT := Lib.hid (put14_any (.slice ab NS cb') rs s w2 (by rw [← HNS.out]; exact KS.out.on BW2.out) (by have := HNS.out; omega))
        rw [← HST.out, ← HSV.out] at PUT
        obtain ⟨M3, hM3⟩ : ∃ M3, M3 = (putS rs s).length := ⟨_, rfl⟩
        have hM31 : M3 ≤ K + 1 := by rw [hM3]; have := putS_one rs s; have := HNS.out; omega
        rw [← hM3] at PUT
        have HM3 := Lib.hid hM3
        clear h0 HTK HCC hM3
        go_wp2_with fail
        refine PUT.out.mono ?_
        rintro e w3 ⟨v', rfl, s3, b3⟩
        obtain ⟨a3, c3, e3⟩ := s3.slice
        subst e3
        have hx3 := (b3.block wr.heap.size z2).trans HX2.out
        have t0 := Lib.cell_of_heap hx3 0
        have t1 := Lib.cell_of_heap hx3 1
        have tf1 := Lib.frozen_of_heap hx3 1
        simp at t0 t1
        obtain ⟨W4, hW4⟩ : ∃ W4, W4 = w3.setCell ⟨wr.heap.size, 1, none⟩ (.slice a3 M3 c3) := ⟨_, rfl⟩
        have hx4 : W4.heap[wr.heap.size]? = some (.cells #[.slice aa NL ca, .slice a3 M3 c3] 87) := by
          rw [hW4, heap_setCell_same w3 wr.heap.size 1 _ _ (.slice a3 M3 c3) hx3]; rfl
        have b14 : Below wr.heap.size wr W4 := by rw [hW4]; exact (b12.trans (b3.mono b12.size)).setCell (p := ⟨wr.heap.size, 1, none⟩) (Nat.le_refl _) _
        have s4 : Sl W4 w2.heap.size 2 (.slice a3 M3 c3) M3 (spc (putS rs s)) := by rw [hW4]; exact sl_else s3 _ _ z2
        have u0 := Lib.cell_of_heap hx4 0
        have u1 := Lib.cell_of_heap hx4 1
        simp at u0 u1
        have BW4 := Lib.hid (BW.out.trans (b14.mono BW.out.size))
        have HW4 := Lib.hid hW4
        have S4 := Lib.hid s4
        have offB : Off (.slice a3 M3 c3) M3 (.slice oa m oc) := off_gt (k0 := wr.heap.size) (fun k hk => by have := (s4.lt k hk).1; omega) HOB.out
        have HOFB := Lib.hid offB
        go_upto_region 9 with fail
        rw [← hW4]
        clear hW4 s3 b3 hx3 hx4 t0 t1 tf1 s4 r0 r1 rf1 g0 g1 offB
        obtain ⟨Y, hY⟩ : ∃ Y, Y = W4.alloc (.cells #[.slice aa NL ca, .slice a3 M3 c3] 87) := ⟨_, rfl⟩
        have bY0 : Below wr.heap.size wr Y := by rw [hY]; exact b14.alloc b14.size _
        have bYW : Below W4.heap.size W4 Y := by rw [hY]; exact (Below.refl _ _).alloc (Nat.le_refl _) _
        have ownY := hown.on bY0
        have litY : ∀ j u, [.slice aa NL ca, .slice a3 M3 c3][j]? = some u → Y.cell? ((⟨W4.heap.size, 0, none⟩ : Addr).add j) = some u := by rw [hY]; exact lit_row W4 _ _ _ _ rfl
        have bY : Below W1.heap.size W1 Y := hb.trans (bY0.mono hbz)
        have okY : RowOk Y (K + 1) ⟨.slice aa NL ca, .slice a3 M3 c3, ⟨rl, putS rs s⟩⟩ := ⟨by rw [← HNL.out]; exact (KL.out.on BW4.out).on bYW, by rw [← HM3.out]; exact (Rd.of_sl S4.out).on bYW, by have := HNL.out; show rl.length ≤ 1000; omega, by have := HM3.out; show (putS rs s).length ≤ K + 1; omega⟩
        have slY := ownY.sl
        rw [← HML.out] at slY
        have HY := Lib.hid hY
        have OY := Lib.hid ownY
        have KY := Lib.hid okY
        clear hY bYW ownY okY
        go_wp2_with (at_builtin; rw [← HY.out]; refine wpList_append_sl _ rfl _ _ 48 rfl W1.heap.size 87 i0 (.agg #[.slice none 0 0, .slice none 0 0]) 2 48 Tryz.underlying48 Hi.out Hz.out Hs.out Hb.out rfl (by decide) _ m _ rfl slY ⟨W4.heap.size, 0, none⟩ 1 1 [.slice aa NL ca, .slice a3 M3 c3] rfl rfl litY (row_one _ _ _ _ _ _) (by unfold maxLen; omega) (by omega) bY.size ?_; intro v2 w9 hx2)
        have em := HML.out
        have hx3 : Ext W1.heap.size 2 Y (.slice oa m oc) m (rqc qs) w9 v2 (m + 1) (rqc qs ++ [.slice aa NL ca, .slice a3 M3 c3]) := hx2
        have oA : Off (.slice aa NL ca) (⟨rl, putS rs s⟩ : Rw).ls.length (.slice oa m oc) := by rw [← HNL.out]; exact off_lt HXA.out HOB1.out
        have oB : Off (.slice a3 M3 c3) (⟨rl, putS rs s⟩ : Rw).ss.length (.slice oa m oc) := by rw [← HM3.out]; exact HOFB.out
        have oy := OY.out
        subst em
        refine ⟨⟨i + 1, qs ++ [⟨.slice aa NL ca, .slice a3 M3 c3, ⟨rl, putS rs s⟩⟩], true, by simp, by omega, Lib.hid ⟨by rw [STEP.out, List.map_append]; rfl, pq_snoc HPQ.out ⟨IP.out.1, PF.out _ _ (fun k hk => by have := (S4.out.lt k hk).1; have := BW2.out.size; omega)⟩⟩, rfl, oy.push hx3 KY.out oA oB, bY.trans (hx3.below (Nat.le_refl _) bY.size)⟩, by simp [intOf]; omega⟩
      · have h0b : (c == 0) = false := beq_eq_false_iff_ne.2 h0
        by_cases hd : d = false ∧ c < 0
        · obtain ⟨rfl, h1⟩ := hd
          have h1b : decide (c < 0) = true := decide_eq_true h1
          have STEP := Lib.hid (show sofarT ls s (l.take (i + 1)) = (qs.map Rq.r ++ [⟨ls, [s]⟩, ⟨rl, rs⟩], true) by
            rw [HTK.out]; unfold stepT; rw [if_neg (by rw [← HCC.out]; exact h0), if_pos ⟨rfl, by rw [← HCC.out]; exact h1⟩])
          clear h0 h1 HTK HCC
          obtain ⟨X, hX⟩ : ∃ X, X = w2.alloc (.cells #[.int .i64 st, .int .u64 sv] 34) := ⟨_, rfl⟩
          have bX : Below w2.heap.size w2 X := by rw [hX]; exact (Below.refl _ _).alloc (Nat.le_refl _) _
          have zX : X.heap.size = w2.heap.size + 1 := by rw [hX]; simp
          have slX : Sl X w2.heap.size 2 (.slice (some ⟨w2.heap.size, 0, none⟩) 1 1) 1 (spc [⟨st, sv⟩]) := by rw [hX]; exact Sl.lit w2 w2.heap.size 2 1 #[.int .i64 st, .int .u64 sv] _ (Nat.le_refl _) (by decide) rfl
          obtain ⟨Y, hY⟩ : ∃ Y, Y = X.alloc (.cells #[.slice pa np pc, .slice (some ⟨w2.heap.size, 0, none⟩) 1 1] 87) := ⟨_, rfl⟩
          have bXY : Below X.heap.size X Y := by rw [hY]; exact (Below.refl _ _).alloc (Nat.le_refl _) _
          have bY2 : Below w2.heap.size w2 Y := bX.trans (bXY.mono bX.size)
          have bY0 : Below wr.heap.size wr Y := b12.trans (bY2.mono b12.size)
          have ownY := hown.on bY0
          have litY : ∀ j u, [.slice pa np pc, .slice (some ⟨w2.heap.size, 0, none⟩) 1 1][j]? = some u → Y.cell? ((⟨w2.heap.size + 1, 0, none⟩ : Addr).add j) = some u := by rw [hY]; exact lit_row X _ _ _ _ zX
          have bY : Below W1.heap.size W1 Y := hb.trans (bY0.mono hbz)
          have hS : s = ⟨st, sv⟩ := by rw [HST.out, HSV.out]
          have okY : RowOk Y (K + 1) ⟨.slice pa np pc, .slice (some ⟨w2.heap.size, 0, none⟩) 1 1, ⟨ls, [s]⟩⟩ := ⟨by rw [← HNP.out]; exact HP.out.on (BW2.out.trans (bY2.mono BW2.out.size)), by rw [hS]; exact (Rd.of_sl slX).on bXY, by have := HNP.out; show ls.length ≤ 1000; omega, by show 1 ≤ K + 1; omega⟩
          have slY := ownY.sl
          rw [← HML.out] at slY
          have oA1 : Off (.slice pa np pc) np (.slice oa m oc) := off_lt (fun h k hk => by have := HP.out.lt h k hk; have := HZ1.out; omega) HOB1.out
          have oB1 : Off (.slice (some ⟨w2.heap.size, 0, none⟩) 1 1) 1 (.slice oa m oc) := off_gt (k0 := wr.heap.size) (fun k hk => by have : w2.heap.size = k := Option.some.inj hk; omega) HOB.out
          have zY := bY2.size
          have k0 := (bY2.block wr.heap.size z2).trans HX2.out
          have HY := Lib.hid hY; have HX := Lib.hid hX
          have OY := Lib.hid ownY
          have KY := Lib.hid okY
          have K0 := Lib.hid k0
          clear hY bXY ownY okY hX slX k0 bX hS
          go_wp2_with (first
            | (at_builtin; (try rw [zX]); rw [← HX.out]; (try rw [zX]); rw [← HY.out]; refine wpList_append_sl _ rfl _ _ 48 rfl W1.heap.size 87 i0 (.agg #[.slice none 0 0, .slice none 0 0]) 2 48 Tryz.underlying48 Hi.out Hz.out Hs.out Hb.out rfl (by decide) _ m _ rfl slY ⟨w2.heap.size + 1, 0, none⟩ 1 1 [.slice pa np pc, .slice (some ⟨w2.heap.size, 0, none⟩) 1 1] rfl rfl litY (row_one _ _ _ _ _ _) (by unfold maxLen; omega) (by omega) bY.size ?_; intro v2 w5 hx2; have hx3 : Ext W1.heap.size 2 Y (.slice oa m oc) m (rqc qs) w5 v2 (m + 1) (rqc qs ++ [.slice pa np pc, .slice (some ⟨w2.heap.size, 0, none⟩) 1 1]) := hx2; have T5 := tab_push HML.out OY.out hx3 KY.out (by rw [← HNP.out]; exact oA1) oB1; have l0 := (Ext.block_old hx3 wr.heap.size (by omega) (fun k hk => by have := HOB.out k hk; omega)).trans K0.out; have b5 : Below W1.heap.size W1 w5 := bY.trans (hx3.below (Nat.le_refl _) bY.size); obtain ⟨oa5, oc5, e5⟩ := hx3.now.slice; subst e5; have l1 := Lib.cell_of_heap l0 0; have l2 := Lib.cell_of_heap l0 1; simp at l1 l2; have z5 : Y.heap.size ≤ w5.heap.size := hx3.grown.size; obtain ⟨Y2, hY2⟩ : ∃ Y2, Y2 = w5.alloc (.cells #[.slice aa NL ca, .slice ab NS cb'] 87) := ⟨_, rfl⟩; have b52 : Below w5.heap.size w5 Y2 := (by rw [hY2]; exact (Below.refl _ _).alloc (Nat.le_refl _) _); have T6 := T5.on b52; have litY2 : ∀ j u, [.slice aa NL ca, .slice ab NS cb'][j]? = some u → Y2.cell? ((⟨w5.heap.size, 0, none⟩ : Addr).add j) = some u := (by rw [hY2]; exact lit_row w5 _ _ _ _ rfl); have bY3 : Below W1.heap.size W1 Y2 := b5.trans (b52.mono b5.size); have slY2 : Sl Y2 W1.heap.size 2 (.slice oa5 (m + 1) oc5) (m + 1) (rqc (qs ++ [⟨.slice pa np pc, .slice (some ⟨w2.heap.size, 0, none⟩) 1 1, ⟨ls, [s]⟩⟩])) := (by have := T6.sl; rw [List.length_append, ← HML.out] at this; exact this); have HY2 := Lib.hid hY2; have HT6 := Lib.hid T6; clear hY2 hx2 hx3 T5 T6)
            | (at_builtin; rw [← HY2.out]; refine wpList_append_sl _ rfl _ _ 48 rfl W1.heap.size 87 i0 (.agg #[.slice none 0 0, .slice none 0 0]) 2 48 Tryz.underlying48 Hi.out Hz.out Hs.out Hb.out rfl (by decide) _ (m + 1) _ rfl slY2 ⟨w5.heap.size, 0, none⟩ 1 1 [.slice aa NL ca, .slice ab NS cb'] rfl rfl litY2 (row_one _ _ _ _ _ _) (by unfold maxLen; omega) (by omega) bY3.size ?_; intro v6 w6 hx6))
          have hx7 : Ext W1.heap.size 2 Y2 (.slice oa5 (m + 1) oc5) (m + 1) (rqc (qs ++ [⟨.slice pa np pc, .slice (some ⟨w2.heap.size, 0, none⟩) 1 1, ⟨ls, [s]⟩⟩])) w6 v6 (m + 1 + 1) (rqc (qs ++ [⟨.slice pa np pc, .slice (some ⟨w2.heap.size, 0, none⟩) 1 1, ⟨ls, [s]⟩⟩]) ++ [.slice aa NL ca, .slice ab NS cb']) := hx6
          have hlow : ∀ k, (Value.slice oa5 (m + 1) oc5).ownBlock = some k → W1.heap.size ≤ k := fun k hk => (slY2.lt k hk).1
          have bwY := HB1.out.trans (bY3.mono (by have := HZ1.out; omega))
          have T8 := tab_push (r := ⟨rl, rs⟩) (by rw [List.length_append, ← HML.out]; rfl) HT6.out hx7 ⟨by rw [← HNL.out]; exact KL.out.on bwY, by rw [← HNS.out]; exact KS.out.on bwY, by have := HNL.out; show rl.length ≤ 1000; omega, by have := HNS.out; show rs.length ≤ K + 1; omega⟩ (by rw [← HNL.out]; exact off_lt HXA.out hlow) (by rw [← HNS.out]; exact off_lt HXB.out hlow)
          refine ⟨⟨i + 1, qs ++ [⟨.slice pa np pc, .slice (some ⟨w2.heap.size, 0, none⟩) 1 1, ⟨ls, [s]⟩⟩] ++ [⟨.slice aa NL ca, .slice ab NS cb', ⟨rl, rs⟩⟩], true, by simp, by omega, Lib.hid ⟨by rw [STEP.out, List.map_append, List.map_append]; simp, pq_snoc (pq_snoc HPQ.out ⟨by have := HPP.out; rw [HNP.out] at this ⊢; exact this, PF.out _ _ (fun k hk => by have h2 : w2.heap.size = k := Option.some.inj hk; have := BW2.out.size; omega)⟩) IP.out⟩, rfl, T8, bY3.trans (hx7.below (Nat.le_refl _) bY3.size)⟩, by simp [intOf]; omega⟩
        · have STEP := Lib.hid (show sofarT ls s (l.take (i + 1)) = (qs.map Rq.r ++ [⟨rl, rs⟩], d) by
            rw [HTK.out]; unfold stepT; rw [if_neg (by rw [← HCC.out]; exact h0), if_neg (by rw [← HCC.out]; exact hd)])
          have hdb : d = true ∨ (d = false ∧ decide (c < 0) = false) := by
            cases d
            · exact .inr ⟨rfl, decide_eq_false fun h => hd ⟨rfl, h⟩⟩
            · exact .inl rfl
          clear h0 hd HTK HCC
          rcases hdb with rfl | ⟨rfl, h1b⟩
          · clear HX1
            obtain ⟨Y, hY⟩ : ∃ Y, Y = w2.alloc (.cells #[.slice aa NL ca, .slice ab NS cb'] 87) := ⟨_, rfl⟩
            have bY0 : Below wr.heap.size wr Y := by rw [hY]; exact b12.alloc b12.size _
            have bYW : Below w2.heap.size w2 Y := by rw [hY]; exact (Below.refl _ _).alloc (Nat.le_refl _) _
            have ownY := hown.on bY0
            have litY : ∀ j u, [.slice aa NL ca, .slice ab NS cb'][j]? = some u → Y.cell? ((⟨w2.heap.size, 0, none⟩ : Addr).add j) = some u := by rw [hY]; exact lit_row w2 _ _ _ _ rfl
            have bY : Below W1.heap.size W1 Y := hb.trans (bY0.mono hbz)
            have okY : RowOk Y (K + 1) ⟨.slice aa NL ca, .slice ab NS cb', ⟨rl, rs⟩⟩ := ⟨by rw [← HNL.out]; exact (KL.out.on BW2.out).on bYW, by rw [← HNS.out]; exact (KS.out.on BW2.out).on bYW, by have := HNL.out; show rl.length ≤ 1000; omega, by have := HNS.out; show rs.length ≤ K + 1; omega⟩
            have slY := ownY.sl
            rw [← HML.out] at slY
            have HY := Lib.hid hY
            have OY := Lib.hid ownY
            have KY := Lib.hid okY
            clear hY bYW ownY okY
            go_wp2_with (at_builtin; rw [← HY.out]; refine wpList_append_sl _ rfl _ _ 48 rfl W1.heap.size 87 i0 (.agg #[.slice none 0 0, .slice none 0 0]) 2 48 Tryz.underlying48 Hi.out Hz.out Hs.out Hb.out rfl (by decide) _ m _ rfl slY ⟨w2.heap.size, 0, none⟩ 1 1 [.slice aa NL ca, .slice ab NS cb'] rfl rfl litY (row_one _ _ _ _ _ _) (by unfold maxLen; omega) (by omega) bY.size ?_; intro v2 w9 hx2)
            have em := HML.out
            have hx3 : Ext W1.heap.size 2 Y (.slice oa m oc) m (rqc qs) w9 v2 (m + 1) (rqc qs ++ [.slice aa NL ca, .slice ab NS cb']) := hx2
            have oA : Off (.slice aa NL ca) (⟨rl, rs⟩ : Rw).ls.length (.slice oa m oc) := by rw [← HNL.out]; exact off_lt HXA.out HOB1.out
            have oB : Off (.slice ab NS cb') (⟨rl, rs⟩ : Rw).ss.length (.slice oa m oc) := by rw [← HNS.out]; exact off_lt HXB.out HOB1.out
            have oy := OY.out
            subst em
            refine ⟨⟨i + 1, qs ++ [⟨.slice aa NL ca, .slice ab NS cb', ⟨rl, rs⟩⟩], true, by simp, by omega, Lib.hid ⟨by rw [STEP.out, List.map_append]; rfl, pq_snoc HPQ.out IP.out⟩, rfl, oy.push hx3 KY.out oA oB, bY.trans (hx3.below (Nat.le_refl _) bY.size)⟩, by simp [intOf]; omega⟩
          · clear HX1
            obtain ⟨Y, hY⟩ : ∃ Y, Y = w2.alloc (.cells #[.slice aa NL ca, .slice ab NS cb'] 87) := ⟨_, rfl⟩
            have bY0 : Below wr.heap.size wr Y := by rw [hY]; exact b12.alloc b12.size _
            have bYW : Below w2.heap.size w2 Y := by rw [hY]; exact (Below.refl _ _).alloc (Nat.le_refl _) _
            have ownY := hown.on bY0
            have litY : ∀ j u, [.slice aa NL ca, .slice ab NS cb'][j]? = some u → Y.cell? ((⟨w2.heap.size, 0, none⟩ : Addr).add j) = some u := by rw [hY]; exact lit_row w2 _ _ _ _ rfl
            have bY : Below W1.heap.size W1 Y := hb.trans (bY0.mono hbz)
            have okY : RowOk Y (K + 1) ⟨.slice aa NL ca, .slice ab NS cb', ⟨rl, rs⟩⟩ := ⟨by rw [← HNL.out]; exact (KL.out.on BW2.out).on bYW, by rw [← HNS.out]; exact (KS.out.on BW2.out).on bYW, by have := HNL.out; show rl.length ≤ 1000; omega, by have := HNS.out; show rs.length ≤ K + 1; omega⟩
            have slY := ownY.sl
            rw [← HML.out] at slY
            have HY := Lib.hid hY
            have OY := Lib.hid ownY
            have KY := Lib.hid okY
            clear hY bYW ownY okY
            go_wp2_with (at_builtin; rw [← HY.out]; refine wpList_append_sl _ rfl _ _ 48 rfl W1.heap.size 87 i0 (.agg #[.slice none 0 0, .slice none 0 0]) 2 48 Tryz.underlying48 Hi.out Hz.out Hs.out Hb.out rfl (by decide) _ m _ rfl slY ⟨w2.heap.size, 0, none⟩ 1 1 [.slice aa NL ca, .slice ab NS cb'] rfl rfl litY (row_one _ _ _ _ _ _) (by unfold maxLen; omega) (by omega) bY.size ?_; intro v2 w9 hx2)
            have em := HML.out
            have hx3 : Ext W1.heap.size 2 Y (.slice oa m oc) m (rqc qs) w9 v2 (m + 1) (rqc qs ++ [.slice aa NL ca, .slice ab NS cb']) := hx2
            have oA : Off (.slice aa NL ca) (⟨rl, rs⟩ : Rw).ls.length (.slice oa m oc) := by rw [← HNL.out]; exact off_lt HXA.out HOB1.out
            have oB : Off (.slice ab NS cb') (⟨rl, rs⟩ : Rw).ss.length (.slice oa m oc) := by rw [← HNS.out]; exact off_lt HXB.out HOB1.out
            have oy := OY.out
            subst em
            refine ⟨⟨i + 1, qs ++ [⟨.slice aa NL ca, .slice ab NS cb', ⟨rl, rs⟩⟩], false, by simp, by omega, Lib.hid ⟨by rw [STEP.out, List.map_append]; rfl, pq_snoc HPQ.out IP.out⟩, rfl, oy.push hx3 KY.out oA oB, bY.trans (hx3.below (Nat.le_refl _) bY.size)⟩, by simp [intOf]; omega⟩
    · have hil : ¬ (i : Int) < n := by omega
      obtain rfl : i = n := by omega
      have HOF := Lib.hid (show sofarT ls s l = (qs.map Rq.r, d) by rw [← hof.out.1, HN.out, List.take_length])
      clear hof
      cases d
      · have ADD := Lib.hid (show addT l ls s = qs.map Rq.r ++ [⟨ls, [s]⟩] by unfold addT; rw [HOF.out]; rfl)
        obtain ⟨X, hX⟩ : ∃ X, X = wr.alloc (.cells #[.int .i64 st, .int .u64 sv] 34) := ⟨_, rfl⟩
        have bX : Below wr.heap.size wr X := by rw [hX]; exact (Below.refl _ _).alloc (Nat.le_refl _) _
        have zX : X.heap.size = wr.heap.size + 1 := by rw [hX]; simp
        have slX : Sl X wr.heap.size 2 (.slice (some ⟨wr.heap.size, 0, none⟩) 1 1) 1 (spc [⟨st, sv⟩]) := by rw [hX]; exact Sl.lit wr wr.heap.size 2 1 #[.int .i64 st, .int .u64 sv] _ (Nat.le_refl _) (by decide) rfl
        obtain ⟨Y, hY⟩ : ∃ Y, Y = X.alloc (.cells #[.slice pa np pc, .slice (some ⟨wr.heap.size, 0, none⟩) 1 1] 87) := ⟨_, rfl⟩
        have bXY : Below X.heap.size X Y := by rw [hY]; exact (Below.refl _ _).alloc (Nat.le_refl _) _
        have bY0 : Below wr.heap.size wr Y := bX.trans (bXY.mono bX.size)
        have ownY := hown.on bY0
        have litY : ∀ j u, [.slice pa np pc, .slice (some ⟨wr.heap.size, 0, none⟩) 1 1][j]? = some u → Y.cell? ((⟨wr.heap.size + 1, 0, none⟩ : Addr).add j) = some u := by rw [hY]; exact lit_row X _ _ _ _ zX
        have bY : Below W1.heap.size W1 Y := hb.trans (bY0.mono hbz)
        have hS : s = ⟨st, sv⟩ := by rw [HST.out, HSV.out]
        have okY : RowOk Y (K + 1) ⟨.slice pa np pc, .slice (some ⟨wr.heap.size, 0, none⟩) 1 1, ⟨ls, [s]⟩⟩ := ⟨by rw [← HNP.out]; exact HP.out.on (BW.out.trans (bY0.mono BW.out.size)), by rw [hS]; exact (Rd.of_sl slX).on bXY, by have := HNP.out; show ls.length ≤ 1000; omega, by show 1 ≤ K + 1; omega⟩
        have slY := ownY.sl
        rw [← HML.out] at slY
        have oA1 : Off (.slice pa np pc) np (.slice oa m oc) := off_lt (fun h k hk => by have := HP.out.lt h k hk; have := HZ1.out; omega) HOB1.out
        have oB1 : Off (.slice (some ⟨wr.heap.size, 0, none⟩) 1 1) 1 (.slice oa m oc) := off_gt (k0 := wr.heap.size) (fun k hk => by have : wr.heap.size = k := Option.some.inj hk; omega) HOB.out
        have HY := Lib.hid hY; have HX := Lib.hid hX
        have OY := Lib.hid ownY
        have KY := Lib.hid okY
        clear hY bXY ownY okY hX slX bX hS
        go_wp2_with (at_builtin; rw [← HX.out, ← HY.out]; refine wpList_append_sl _ rfl _ _ 48 rfl W1.heap.size 87 i0 (.agg #[.slice none 0 0, .slice none 0 0]) 2 48 Tryz.underlying48 Hi.out Hz.out Hs.out Hb.out rfl (by decide) _ m _ rfl slY ⟨wr.heap.size + 1, 0, none⟩ 1 1 [.slice pa np pc, .slice (some ⟨wr.heap.size, 0, none⟩) 1 1] rfl rfl litY (row_one _ _ _ _ _ _) (by unfold maxLen; omega) (by omega) bY.size ?_; intro v2 w5 hx2)
        have hx3 : Ext W1.heap.size 2 Y (.slice oa m oc) m (rqc qs) w5 v2 (m + 1) (rqc qs ++ [.slice pa np pc, .slice (some ⟨wr.heap.size, 0, none⟩) 1 1]) := hx2
        have T5 := tab_push HML.out OY.out hx3 KY.out (by rw [← HNP.out]; exact oA1) oB1
        go_ret
        have hR := T5.readNP (P := P) (B := w.heap.size) (by have := HZ1.out; omega) (by rw [List.length_append, ← HML.out]; show m + 1 ≤ 100000; omega) (pq_snoc HPQ.out ⟨by have := HPP.out; rw [HNP.out] at this ⊢; exact this, PF.out _ _ (fun k hk => by have h2 : wr.heap.size = k := Option.some.inj hk; have := BW.out.size; omega)⟩) (PF.out _ _ (fun k hk => by have := (T5.sl.lt k hk).1; have := HZ1.out; omega))
        rw [List.map_append] at hR
        refine ⟨_, rfl, by rw [ADD.out]; exact hR, HB1.out.trans ((bY.trans (hx3.below (Nat.le_refl _) bY.size)).mono (by have := HZ1.out; omega))⟩
      · have ADD := Lib.hid (show addT l ls s = qs.map Rq.r by unfold addT; rw [HOF.out]; rfl)
        have HO := Lib.hid hown
        clear hown
        go_wp2
        go_ret
        exact ⟨_, rfl, by rw [ADD.out]; exact HO.out.readNP (B := w.heap.size) (by have := HZ1.out; omega) (by have := HML.out; omega) HPQ.out (PF.out _ _ (fun k hk => by have := (HO.out.sl.lt k hk).1; have := HZ1.out; omega)), HB1.out.trans (hb.mono (by have := HZ1.out; omega))⟩
theorem add14_P (P : Value → Nat → Prop) (tv pv : Value) (l : List Rw) (ls : List Pr) (s : Sp) (K : Nat) (w : World) (hfr : ∀ v n, (∀ k, v.ownBlock = some k → w.heap.size ≤ k) → P v n) (hpv : P pv ls.length) (h : TabRP w K tv l P) (hm : l.length ≤ 1000) (hp : Rd w 2 pv ls.length (prc ls)) (hpl : ls.length ≤ 1000) (hK : K ≤ 10000) :
    Calls Tryz.prog 37 #[tv, pv, .agg #[.int .i64 s.t, .int .u64 s.v]] w fun e w' => ∃ v', e = .returned v' ∧ TabRP w' (K + 1) v' (addT l ls s) P ∧ Below w.heap.size w w' := by
  refine (add14_N P tv pv l ls s K w hfr hpv h hm hp hpl hK).mono ?_
  rintro e w' ⟨v', rfl, h1, h2⟩
  exact ⟨v', rfl, h1.rp, h2⟩
theorem add14_any (tv pv : Value) (l : List Rw) (ls : List Pr) (s : Sp) (K : Nat) (w : World) (h : TabR w K tv l) (hm : l.length ≤ 1000) (hp : Rd w 2 pv ls.length (prc ls)) (hpl : ls.length ≤ 1000) (hK : K ≤ 10000) :
    Calls Tryz.prog 37 #[tv, pv, .agg #[.int .i64 s.t, .int .u64 s.v]] w fun e w' => ∃ v', e = .returned v' ∧ TabR w' (K + 1) v' (addT l ls s) ∧ Below w.heap.size w w' := by
  refine (add14_P (fun _ _ => True) tv pv l ls s K w (fun _ _ _ => trivial) trivial h.p hm hp hpl hK).mono ?_
  rintro e w' ⟨v', rfl, h1, h2⟩
  exact ⟨v', rfl, h1.r, h2⟩
end Go.Proofs.YtfckgcckpfklaaaGreatDoor
