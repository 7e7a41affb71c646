/- Layer 14: MergeGood, walked. -/
import Derived.Test.YtabeaehiidnbbaaDoorMVC
import Derived.Deep.Cut
import Derived.Deep.CutRange
import Derived.Deep.RegionLaw
namespace Go.Proofs.YtabeaehiidnbbaaDoor
open Go.RowKit Go.Lib Hp
set_option linter.unusedVariables false

theorem bel_alloc {a w : World} (h : Below a.heap.size a w) (o : Obj) : Below a.heap.size a (w.alloc o) := h.alloc h.size o
theorem run_fromR (g off n c : Nat) (hn : 1 ≤ n) (hc : 1 < c) (W : World) : (Instr.slice 36 (.slice (some ⟨g, off, none⟩) n c) (some (.int .i64 1)) none none).run Tryd.prog W = .ok (.slice (some ⟨g, off + 2, none⟩) (n - 1) (c - 1)) W := by
  have hu := run_underlying Tryd.underlying36
  have hz := Tryd.sizeOf41
  have h2 : (1 : Int) ≤ n := by omega
  have h3 : ¬ c = 1 := by omega
  simp [Instr.slice, Instr.sliceBounds, go_sem, hu, hz, h2, h3, Addr.add]
theorem rd_from {w : World} {base g off n cap : Nat} {q : Rq} {qs : List Rq} (h : Sl w base 2 (.slice (some ⟨g, off, none⟩) n cap) n (rqc (q :: qs))) : Rd w 2 (.slice (some ⟨g, off + 2, none⟩) (n - 1) (cap - 1)) (n - 1) (rqc qs) := by
  have hl := h.1
  rw [rqc_len, List.length_cons] at hl
  rcases h.2 with ⟨h0, _⟩ | ⟨g', off', cap', he, hb, hg, hnc, hcm, hfree, hcell⟩
  · cases h0
  · cases he
    refine ⟨by rw [rqc_len]; omega, _, _, g, off + 2, rfl, fun _ => ⟨rfl, hg⟩, fun j hj => ?_⟩
    rw [Nat.add_assoc, hcell (2 + j) (by omega)]
    show ([q.a, q.b] ++ rqc qs)[2 + j]? = _
    rw [List.getElem?_append_right (by simp)]
    simp

set_option maxHeartbeats 8000000 in
set_option maxRecDepth 100000 in
theorem mergegood_any (a : Option Addr) (len cap : Nat) (zs : List On) (turned : Bool) (w : World) (h : OnR w a len zs) :
    Calls Tryd.prog 4 #[.slice a len cap, .bool turned] w fun e w' => e = .returned (.bool true) ∧ Below w.heap.size w w' := by
  obtain ⟨i0, hi, hz0, hz1, hz2⟩ := info_parts zc_rrow
  have Hz := Lib.hid hz0; have Hs := Lib.hid hz1; have Hb := Lib.hid hz2; have Hi := Lib.hid hi
  clear hz0 hz1 hz2 hi
  obtain ⟨i1, hi, hz0, hz1, hz2⟩ := info_parts zc_smp
  have Sz := Lib.hid hz0; have Ss := Lib.hid hz1; have Sb := Lib.hid hz2; have Si := Lib.hid hi
  clear hz0 hz1 hz2 hi
  have T0 := Lib.hid (table14_n a len cap zs w h)
  have AW := Lib.hid (fun W => awake14_any W)
  have HZ := Lib.hid h
  have hlm63 : len ≤ 9223372036854775807 := by have := h.hm; unfold maxLen at this; exact this
  clear h
  go_enter Tryd.func4, Tryd.ntmps4
  go_wp2_with fail
  refine T0.out.mono ?_
  rintro e w1 ⟨pv, tv, rfl, tf, ⟨-, qs0, hqs0, tn, -, -⟩, b1⟩
  obtain ⟨n, hn⟩ : ∃ n, n = qs0.length := ⟨_, rfl⟩
  have hnz : n ≤ zs.length := by
    have e : qs0.length = (tableZ zs).length := by rw [← hqs0, List.length_map]
    have := tableZ_len zs
    omega
  have hn40 : n ≤ 40 := by have := HZ.out.hl; omega
  have HNL := Lib.hid (show n ≤ len by have := HZ.out.hl; omega)
  have HNZ := Lib.hid hnz
  obtain ⟨pa, pc, rfl⟩ := tf.c.form
  have TN := Lib.hid tn
  obtain ⟨ta, tc, rfl⟩ := tn.sl.slice
  rw [← hn] at TN
  rw [← hn]
  have HN := Lib.hid hn
  have B1 := Lib.hid b1
  clear tf tn b1 hqs0 hn hnz T0
  go_upto_region 2 with fail
  go_cut [18] from 13 to 17 (fun p wc => ∃ b : Bool, p = .bool b ∧ (b = true → 1 < n) ∧ w1 = wc)
  case first =>
    by_cases hn1 : 1 < n
    · have hn1i : (1 : Int) < n := by omega
      cases turned
      all_goals (go_wp2_with fail)
      all_goals go_meet
      · exact ⟨false, rfl, fun h => (by cases h), rfl⟩
      · exact ⟨true, rfl, fun _ => hn1, rfl⟩
    · have hn1i : ¬ (1 : Int) < n := by omega
      cases turned
      all_goals (go_wp2_with fail)
      all_goals go_meet
      all_goals exact ⟨false, rfl, fun h => (by cases h), rfl⟩
  case rest =>
  obtain ⟨tb, rfl, htb, rfl⟩ := hcut
  have HTB := Lib.hid htb
  clear htb
  go_upto_if 18 with fail
  go_cut [6] from 13 to 27 (fun p wc => ∃ qs, TabN wc w.heap.size 40 p qs ∧ qs.length = n ∧ Below w.heap.size w wc)
  case first =>
    cases tb
    case' true =>
      have hn1 := HTB.out rfl
      obtain ⟨⟨qa, qb, qr⟩, qs, hqs⟩ : ∃ q qs, qs0 = q :: qs := by
        cases qs0 with
        | nil => have := HN.out; simp at this; omega
        | cons q qs => exact ⟨q, qs, rfl⟩
      subst hqs
      obtain ⟨g, off, c0, he, -, hcn, hcm⟩ := (show Sl w1 w.heap.size 2 (.slice ta n tc) n (rqc (⟨qa, qb, qr⟩ :: qs)) from by have := TN.out.sl; rw [← HN.out] at this; exact this).somewhere (by omega)
      simp only [Value.slice.injEq] at he
      obtain ⟨rfl, -, rfl⟩ := he
      have hb0 : w.heap.size ≤ w1.heap.size := B1.out.size
      have TT := Lib.hid (show TabN w1 w.heap.size 40 (.slice (some ⟨g, off, none⟩) n tc) (⟨qa, qb, qr⟩ :: qs) from TN.out)
      have hsl := TT.out.sl
      rw [← HN.out] at hsl
      have hR := Lib.hid (rd_from hsl)
      have hql : qs.length + 1 = n := by have := HN.out; simp at this; omega
      have hone : ∀ u ∈ rqc qs, u.oneCell' = true := fun u hu => by
        obtain ⟨q, hq, hu⟩ := List.mem_flatMap.1 hu
        obtain ⟨o1, -, -⟩ := TT.out.ok q (List.mem_cons_of_mem _ hq)
        obtain ⟨x1, x2, e1⟩ := o1.l.slice
        obtain ⟨x3, x4, e2⟩ := o1.s.slice
        rw [e1, e2] at hu
        exact row_one _ _ _ _ _ _ u hu
      obtain ⟨o1, -, -⟩ := TT.out.ok _ (List.mem_cons_self)
      obtain ⟨x1, x2, e1⟩ := o1.l.slice
      obtain ⟨x3, x4, e2⟩ := o1.s.slice
      simp only at e1 e2
      obtain ⟨NL, hNL⟩ : ∃ NL, NL = qr.ls.length := ⟨_, rfl⟩
      obtain ⟨NS, hNS⟩ : ∃ NS, NS = qr.ss.length := ⟨_, rfl⟩
      rw [← hNL] at e1
      rw [← hNS] at e2
      subst e1 e2
      have hone2 : ∀ u ∈ (#[Value.slice x1 NL x2, .slice x3 NS x4] : Array Value).toList, u.oneCell' = true := row_one _ _ _ _ _ _
      have hglt := (hsl.lt g rfl).2
      have FX := Lib.hid (fun W' (bb : Below w1.heap.size w1 W') => show W'.cell? ⟨g, off, none⟩ = some (.slice x1 NL x2) ∧ W'.cell? ⟨g, off + 1, none⟩ = some (.slice x3 NS x4) from by
        obtain ⟨_, a', c', g', off', e', hg', hc'⟩ := Rd.of_sl hsl
        simp only [Value.slice.injEq] at e'
        obtain ⟨rfl, -, rfl⟩ := e'
        have := (hg' (by omega)).1
        simp only [Option.some.injEq, Addr.mk.injEq, and_true] at this
        obtain ⟨rfl, rfl⟩ := this
        exact ⟨(bb.cell (p := ⟨g, off + 0, none⟩) hglt).trans (hc' 0 (by omega)), (bb.cell (p := ⟨g, off + 1, none⟩) hglt).trans (hc' 1 (by omega))⟩)
      obtain ⟨c0', c1'⟩ := FX.out w1 (Below.refl _ _)
      have ca := fun o => (FX.out _ (bel_alloc (Below.refl w1.heap.size w1) o)).1
      have cb := fun o => (FX.out _ (bel_alloc (Below.refl w1.heap.size w1) o)).2
      have hrun := run_fromR g off n tc (by omega) (by omega)
      have LA := Lib.hid (show ((w1.alloc (.cells #[] 41)).alloc (.cells #[.slice x1 NL x2, .slice x3 NS x4] 41)).heap[w1.heap.size + 1]? = some (.cells #[.slice x1 NL x2, .slice x3 NS x4] 41) from by
        have := heap_alloc_new (w1.alloc (.cells #[] 41)) (.cells #[.slice x1 NL x2, .slice x3 NS x4] 41)
        rwa [show (w1.alloc (.cells #[] 41)).heap.size = w1.heap.size + 1 by simp] at this)
      have LB := Lib.hid (show ((w1.alloc (.cells #[.slice x1 NL x2, .slice x3 NS x4] 41)).alloc (.cells #[] 41)).heap[w1.heap.size]? = some (.cells #[.slice x1 NL x2, .slice x3 NS x4] 41) from
        (Below.heap_alloc _ _ _ (by simp)).trans (heap_alloc_new w1 _))
      have hm1 : n - 1 ≤ maxLen := by unfold maxLen; omega
      have hm2 : n - 1 + 1 ≤ maxLen := by unfold maxLen; omega
      have hmb : (n - 1) * 48 ≤ 140737488355328 := by omega
      have hmb2 : (n - 1 + 1) * 48 ≤ 140737488355328 := by omega
      have hn1i : (1 : Int) < n := by omega
      have hn0i : (0 : Int) < n := by omega
      have hn0 : 0 < n := by omega
      have hn0b : ¬ n = 0 := by omega
      have DONE := Lib.hid (fun (w6 : World) (v6 : Value) (s6 : Sl w6 w1.heap.size 2 v6 (n - 1 + 1) (rqc qs ++ [.slice x1 NL x2, .slice x3 NS x4])) (b6 : Below w1.heap.size w1 w6) => show ∃ qs2, TabN w6 w.heap.size 40 v6 qs2 ∧ qs2.length = n ∧ Below w.heap.size w w6 from by
        refine ⟨qs ++ [⟨.slice x1 NL x2, .slice x3 NS x4, qr⟩], TT.out.turn hb0 ?_ b6 (fun q hq => ?_), by simp; omega, B1.out.trans (b6.mono B1.out.size)⟩
        · rw [List.length_append, rqc_append, List.length_singleton, show qs.length = n - 1 by omega]
          exact s6
        · rcases List.mem_append.1 hq with hq | hq
          · exact List.mem_cons_of_mem _ hq
          · rw [List.mem_singleton] at hq; subst hq; exact List.mem_cons_self)
      clear hsl hql o1 hNL hNS
      go_upto_region 3 with fail
      go_region_law (first
        | (refine step_app1 w1 (.tmp 19) (.tmp 21) 36 rfl rfl 41 i0 _ 2 48 Tryd.underlying36 Hi.out Hz.out Hs.out Hb.out rfl (by decide) _ rfl (by first | (simp; done) | (simp; omega) | omega) (by first | (simp; done) | (simp; omega) | omega) _ rfl (n - 1) (rqc qs) hR.out hone hm1 hmb (by with_reducible repeat (first | exact Below.refl _ _ | assumption | apply Below.drew | apply bel_alloc)) ?_; intro v5 w5 s5 b5 k5; obtain ⟨a5, c5, rfl⟩ := s5.slice; obtain ⟨d0, d1⟩ := FX.out _ b5)
        | (refine step_app2 w1 (.tmp 22) (.tmp 26) 36 rfl rfl 41 i0 _ 2 48 Tryd.underlying36 Hi.out Hz.out Hs.out Hb.out rfl (by decide) _ rfl (n - 1) (rqc qs) (by first | exact s5 | exact s5.alloc _) _ rfl #[.slice x1 NL x2, .slice x3 NS x4] _ (by first | exact heap_alloc_new _ _ | exact k5 _ _ LA.out (by simp) | exact k5 _ _ LB.out (by simp)) rfl hone2 hm2 hmb2 (by with_reducible repeat (first | exact Below.refl _ _ | assumption | apply Below.drew | apply bel_alloc)) ?_; intro v6 w6 s6 b6; obtain ⟨a6, c6, rfl⟩ := s6.slice)
        | fail)
      all_goals (go_wp2_with fail)
      all_goals go_meet
      all_goals exact DONE.out _ _ s6 b6
    case' false =>
      have FIN := Lib.hid (show ∃ qs2, TabN w1 w.heap.size 40 (.slice ta n tc) qs2 ∧ qs2.length = n ∧ Below w.heap.size w w1 from ⟨qs0, TN.out, HN.out.symm, B1.out⟩)
      go_wp2_with fail
      go_meet
      exact FIN.out
  case rest =>
    obtain ⟨qs1, tn1, hq1, bc⟩ := hcut
    have TN1 := Lib.hid tn1; have BC := Lib.hid bc
    obtain ⟨ua, uc, rfl⟩ := tn1.sl.slice
    rw [hq1]
    have HQ1 := Lib.hid hq1
    clear tn1 bc hq1 TN B1
    go_wp2_with fail
    go_loopw [7] (fun i' wr => ∃ (i : Nat) (qs : List Rq), i' = .int .i64 i ∧ i ≤ n ∧ TabN wr w.heap.size (40 + i) (.slice ua n uc) qs ∧ qs.length = n ∧ Below w.heap.size w wr) (fun i' _ => n - (RowKit.intOf i').toNat)
    case atStart => exact ⟨0, qs1, rfl, by omega, by have := TN1.out; rw [HQ1.out] at this; exact this, HQ1.out, BC.out⟩
    case round =>
      clear TN1 BC HQ1
      obtain ⟨W0, rfl⟩ : ∃ W0, W0 = wr := ⟨_, rfl⟩
      obtain ⟨i, qs, rfl, hi, htn, hql, hb⟩ := hrel
      have TN := Lib.hid htn; have HQL := Lib.hid hql; have HB := Lib.hid hb
      by_cases hlt : i < n
      · obtain ⟨g, off, c0, he, -, hcn, hcm⟩ := htn.sl.somewhere (by omega)
        simp only [Value.slice.injEq] at he
        obtain ⟨rfl, -, rfl⟩ := he
        obtain ⟨⟨qa, qb, ql, qss⟩, hq⟩ : ∃ q, qs[i]? = some q := ⟨qs[i]'(by omega), List.getElem?_eq_getElem (by omega)⟩
        obtain ⟨z, hz⟩ : ∃ z, zs[i]? = some z := ⟨zs[i]'(by have := HNZ.out; omega), List.getElem?_eq_getElem (by have := HNZ.out; omega)⟩
        obtain ⟨g1, off1, rfl, hg1, hzc⟩ := HZ.out.at_ (by have := HNL.out; omega)
        obtain ⟨-, z1, z2⟩ := hzc i z hz
        have zr := HZ.out.rng z (List.mem_of_getElem? hz)
        obtain ⟨zt, hzt⟩ : ∃ zt, zt = z.t := ⟨_, rfl⟩
        obtain ⟨zv, hzv⟩ : ∃ zv, zv = z.v := ⟨_, rfl⟩
        rw [← hzt] at z1
        rw [← hzv] at z2
        have j1 : (i : Int) < len := by have := HNL.out; omega
        have j2 : (i : Int) < n := by omega
        have hgl := (htn.sl.lt g rfl).2
        have hrd := Rd.of_sl htn.sl
        have o1 := (htn.ok _ (List.mem_of_getElem? hq)).1
        obtain ⟨y1, y2, e2⟩ := o1.s.slice
        simp only at e2
        have hss := o1.hs
        have hks := o1.s
        simp only at hss hks
        obtain ⟨NS, hNS⟩ : ∃ NS, NS = qss.length := ⟨_, rfl⟩
        rw [← hNS] at e2 hss hks
        subst e2
        have KS := Lib.hid hks
        obtain ⟨v0, v1⟩ := rqc_at qs i _ hq
        have FX := Lib.hid (fun W' (bb : Below W0.heap.size W0 W') => show W'.cell? ⟨g1, off1 + i * 3 + 1, none⟩ = some (.int .i64 zt) ∧ W'.cell? ⟨g, off + i * 2 + 1, none⟩ = some (.slice y1 NS y2) ∧ W'.frozen? ⟨g, off + i * 2 + 1, none⟩ = false from by
          have bW : Below w.heap.size w W' := hb.trans (bb.mono hb.size)
          rcases htn.sl.2 with ⟨h0, _⟩ | ⟨g', off', cap', e', _, hg', hnc', _, hfree', hcell'⟩
          · cases h0
          · simp only [Value.slice.injEq, Option.some.injEq, Addr.mk.injEq, and_true] at e'
            obtain ⟨⟨rfl, rfl⟩, -, rfl⟩ := e'
            refine ⟨(bW.cell (p := ⟨g1, off1 + i * 3 + 1, none⟩) hg1).trans z1, ?_, ?_⟩
            · rw [Nat.add_assoc]
              exact (bb.cell (p := ⟨g, off + (i * 2 + 1), none⟩) hgl).trans ((hcell' (i * 2 + 1) (by omega)).trans v1)
            · rw [Nat.add_assoc]
              exact (World.frozen?_of_block (a := ⟨g, off + (i * 2 + 1), none⟩) (bb.block g hgl)).trans (hfree' (i * 2 + 1) (by omega)).2)
        have z2' := (hb.cell (p := ⟨g1, off1 + i * 3 + 2, none⟩) hg1).trans z2
        have STO := Lib.hid (fun (w6 : World) (v6 : Value) (s6 : Sl w6 W0.heap.size 2 v6 (NS + 1) (spc qss ++ [.int .i64 zt, .int .u64 0])) (b6 : Below W0.heap.size W0 w6) => show ∃ qs2, TabN (w6.setCell ⟨g, off + i * 2 + 1, none⟩ v6) w.heap.size (40 + (i + 1)) (.slice (some ⟨g, off, none⟩) n uc) qs2 ∧ qs2.length = n ∧ Below w.heap.size w (w6.setCell ⟨g, off + i * 2 + 1, none⟩ v6) from by
          refine ⟨qs.set i ⟨qa, v6, ⟨ql, qss ++ [⟨zt, 0⟩]⟩⟩, ?_, ?_, (hb.trans (b6.mono hb.size)).setCell (htn.sl.lt g rfl).1 _⟩
          · rw [Nat.add_assoc off]
            exact TabN.store (s := ⟨zt, 0⟩) htn hql.symm hq (by rw [hNS] at s6; exact s6) b6
          · rw [List.length_set]; exact hql)
        clear htn hql hb hq hz hzc z1 z2 zr hzt hzv hrd o1 hks hNS v0 v1
        obtain ⟨c0', c1', c2'⟩ := FX.out W0 (Below.refl _ _)
        have ca := fun o => (FX.out _ (bel_alloc (Below.refl W0.heap.size W0) o)).1
        have cb := fun o => (FX.out _ (bel_alloc (Below.refl W0.heap.size W0) o)).2.1
        have cd := fun o o2 => (FX.out _ (bel_alloc (bel_alloc (Below.refl W0.heap.size W0) o) o2)).1
        have ce := fun o o2 => (FX.out _ (bel_alloc (bel_alloc (Below.refl W0.heap.size W0) o) o2)).2.1
        have LA := Lib.hid (show ((W0.alloc (.cells #[] 31)).alloc (.cells #[.int .i64 zt, .int .u64 0] 31)).heap[W0.heap.size + 1]? = some (.cells #[.int .i64 zt, .int .u64 0] 31) from by
          have := heap_alloc_new (W0.alloc (.cells #[] 31)) (.cells #[.int .i64 zt, .int .u64 0] 31)
          rwa [show (W0.alloc (.cells #[] 31)).heap.size = W0.heap.size + 1 by simp] at this)
        have LB := Lib.hid (show ((W0.alloc (.cells #[.int .i64 zt, .int .u64 0] 31)).alloc (.cells #[] 31)).heap[W0.heap.size]? = some (.cells #[.int .i64 zt, .int .u64 0] 31) from
          (Below.heap_alloc _ _ _ (by simp)).trans (heap_alloc_new W0 _))
        have hone := spc_one qss
        have hone2 : ∀ u ∈ (#[Value.int .i64 zt, Value.int .u64 0] : Array Value).toList, u.oneCell' = true := by
          intro u hu
          simp at hu
          rcases hu with rfl | rfl <;> rfl
        have hm1 : NS ≤ maxLen := by unfold maxLen; omega
        have hm2 : NS + 1 ≤ maxLen := by unfold maxLen; omega
        have hmb : NS * 16 ≤ 140737488355328 := by omega
        have hmb2 : (NS + 1) * 16 ≤ 140737488355328 := by omega
        have j3 : (0 : Int) ≤ i := by omega
        have TN2 := Lib.hid (TN.out.mono (show 40 + i ≤ 40 + (i + 1) by omega))
        go_upto_region 8 with fail
        · go_region_law (first
            | (refine step_app1 W0 (.tmp 49) (.tmp 54) 24 rfl rfl 31 i1 _ 2 16 Tryd.underlying24 Si.out Sz.out Ss.out Sb.out rfl (by decide) _ rfl (by first | (simp; done) | (simp; omega) | omega) (by first | (simp; done) | (simp; omega) | omega) _ rfl NS (spc qss) KS.out hone hm1 hmb (by with_reducible repeat (first | exact Below.refl _ _ | assumption | apply Below.drew | apply bel_alloc)) ?_; intro v5 w5 s5 b5 k5; obtain ⟨a5, c5, rfl⟩ := s5.slice; obtain ⟨d0, d1, d2⟩ := FX.out _ b5)
            | (refine step_app2 W0 (.tmp 55) (.tmp 62) 24 rfl rfl 31 i1 _ 2 16 Tryd.underlying24 Si.out Sz.out Ss.out Sb.out rfl (by decide) _ rfl NS (spc qss) (by first | exact s5 | exact s5.alloc _) _ rfl #[.int .i64 zt, .int .u64 0] _ (by first | exact heap_alloc_new _ _ | exact k5 _ _ LA.out (by simp) | exact k5 _ _ LB.out (by simp)) rfl hone2 hm2 hmb2 (by with_reducible repeat (first | exact Below.refl _ _ | assumption | apply Below.drew | apply bel_alloc)) ?_; intro v6 w6 s6 b6; obtain ⟨a6, c6, rfl⟩ := s6.slice; obtain ⟨p0, p1, p2⟩ := FX.out _ b6)
            | fail)
          all_goals (go_wp2_with fail)
          all_goals
            obtain ⟨qs2, t2, l2, bb2⟩ := STO.out _ _ s6 b6
            exact ⟨⟨i + 1, qs2, by simp, by omega, t2, l2, bb2⟩, by simp [RowKit.intOf]; omega⟩
        · go_wp2_with fail
          first
            | exact ⟨⟨i + 1, qs, by simp, by omega, TN2.out, HQL.out, HB.out⟩, by simp [RowKit.intOf]; omega⟩
            | exact ⟨⟨i + 1, by omega, by omega, qs, TN2.out, HQL.out, HB.out⟩, by simp [RowKit.intOf]; omega⟩
            | exact ⟨⟨i + 1, by omega, by omega, qs, TN2.out, HQL.out, HB.out⟩, by omega⟩
            | trace_state
      · have j2 : ¬ (i : Int) < n := by omega
        obtain ⟨R, hR⟩ : ∃ R, R = qs.map Rq.r := ⟨_, rfl⟩
        have hRl : R.length = n := by rw [hR, List.length_map]; exact hql
        have TR := Lib.hid (show TabR W0 80 (.slice ua n uc) R from by
          rw [hR]
          exact ((TN.out.mono (show 40 + i ≤ 80 by omega)).read (by omega)))
        have RA := Lib.hid (fun W (t : TabR W 80 (.slice ua n uc) R) => rows14_any _ R 80 W t (by omega) (by omega))
        have GA := Lib.hid (fun W v (t : TabR W 80 v R) => good_any v R 80 W t (by omega) (by omega))
        have GR := Lib.hid (fun W (t : TabR W 80 (.slice ua n uc) R) => rgood_any _ R 80 W t (by omega) (by omega))
        have HR := Lib.hid hR; have HRL := Lib.hid hRl
        clear htn hql hb hR hRl hi hlt
        by_cases hl : (i : Int) < len
        all_goals
          go_wp2_with fail
          with_reducible refine (AW.out _).mono ?_
          rintro e w2 ⟨rfl, b2⟩
          have TR2 := Lib.hid (TR.out.on b2)
          have B2 := Lib.hid (HB.out.trans (b2.mono HB.out.size))
          have C2 := Lib.hid (RA.out _ TR2.out)
          clear b2 TR
          go_wp2_with fail
          with_reducible refine C2.out.mono ?_
          rintro e w3 ⟨v3, rfl, t3, b3⟩
          obtain ⟨a3, c3, e3⟩ := t3.c.form
          rw [HRL.out] at e3
          subst e3
          have TR3 := Lib.hid (TR2.out.on b3)
          have B3 := Lib.hid (B2.out.trans (b3.mono B2.out.size))
          have C3 := Lib.hid (GA.out _ _ t3.c.r)
          clear b3 t3 TR2 B2 C2
          go_wp2_with fail
          with_reducible refine C3.out.mono ?_
          rintro e w4 ⟨⟨bg, rfl, hbg⟩, b4⟩
          have TR4 := Lib.hid (TR3.out.on b4)
          have B4 := Lib.hid (B3.out.trans (b4.mono B3.out.size))
          have C4 := Lib.hid (GR.out _ TR4.out)
          have HBG := Lib.hid hbg
          clear b4 TR3 B3 C3 hbg
          go_wp2_with fail
          with_reducible refine C4.out.mono ?_
          rintro e w5 ⟨⟨br, rfl, hbr⟩, b5⟩
          have B5 := Lib.hid (B4.out.trans (b5.mono B4.out.size))
          have hbb : bg = br := by
            have h1 := HBG.out
            cases bg <;> cases br <;> simp_all
          subst hbb
          clear b5 C4 B4 hbr
          go_wp2
          go_ret
          exact ⟨by simp, B5.out⟩
end Go.Proofs.YtabeaehiidnbbaaDoor
