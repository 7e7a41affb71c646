/- Layer 14: a table's samples one by one, in plain words. Layer 14: the document's Between, walked. -/
import Derived.Test.YtcmalckaekbomaaDoorMWJ
namespace Go.Proofs.YtcmalckaekbomaaDoor
open Go.RowKit Go.Lib Hp
set_option linter.unusedVariables false

/-- A table's samples, each with its labels. -/
def prs (l : List Rw) : Ps := l.flatMap fun r => r.ss.map fun s => (r.ls, s)
theorem prs_append (l m : List Rw) : prs (l ++ m) = prs l ++ prs m := by simp [prs]
theorem prs_len : ∀ l : List Rw, (prs l).length = cntZ l
  | [] => rfl
  | r :: l => by
    have e : prs (r :: l) = (r.ss.map fun s => (r.ls, s)) ++ prs l := rfl
    rw [e, List.length_append, List.length_map, prs_len l]
    simp [cntZ]
theorem lookP_row (r : List Pr) (ls : List Pr) (a : Int) : ∀ ss : List Sp, lookP (ss.map fun s => (r, s)) ls a = if r = ls then look ss a else none
  | [] => by simp [lookP, look]
  | s :: ss => by
    have ih := lookP_row r ls a ss
    rw [List.map_cons, lookP, ih, look]
    by_cases h1 : r = ls
    · by_cases h2 : s.t = a <;> simp [h1, h2]
    · simp [h1]
theorem lookP_prs (ls : List Pr) (a : Int) : ∀ l : List Rw, lookP (prs l) ls a = lookT l ls a
  | [] => rfl
  | r :: l => by
    have e : prs (r :: l) = (r.ss.map fun s => (r.ls, s)) ++ prs l := rfl
    rw [e, lookP_append, lookP_row, lookP_prs ls a l, lookT]
theorem addF_prs {l : List Rw} (h : UpT l) (hn : ∀ r ∈ l, r.ss ≠ []) : addF [] (prs l) = l := by
  obtain ⟨a1, a2, a3⟩ := addF_nil (prs l)
  exact upT_one a1 h a2 hn fun ls a => by rw [a3, lookP_prs]
theorem betw_prs {l : List Rw} (h : UpT l) (f t : Int) : addF [] ((prs l).filter fun p => inB f t p.2) = betw f t l := by
  obtain ⟨a1, a2, a3⟩ := addF_nil ((prs l).filter fun p => inB f t p.2)
  exact upT_one a1 (betw_up f t h) a2 (fun r hr => (betw_mem f t hr).1) fun ls a => by rw [a3, lookP_filter, lookP_prs, betw_look]
theorem insT_cnt (l : List Rw) (ls : List Pr) (s : Sp) : cntZ (insT l ls s) ≤ cntZ l + 1 := by
  induction l with
  | nil => simp [insT, cntZ]
  | cons x l ih =>
    have e : ∀ (y : Rw) (m : List Rw), cntZ (y :: m) = y.ss.length + cntZ m := fun y m => by simp [cntZ]
    unfold insT
    split
    · have := putS_one x.ss s
      rw [e, e]
      show (putS x.ss s).length + cntZ l ≤ _
      omega
    · split
      · rw [e]
        show 1 + cntZ (x :: l) ≤ _
        omega
      · rw [e, e]
        omega
theorem addF_cnt : ∀ (ps : Ps) (t : List Rw), UpT t → cntZ (addF t ps) ≤ cntZ t + ps.length
  | [], t, _ => Nat.le_refl _
  | p :: ps, t, hu => by
    have e : addF t (p :: ps) = addF (insT t p.1 p.2) ps := by rw [← addT_ins t p.1 p.2 hu]; rfl
    have h1 := addF_cnt ps (insT t p.1 p.2) (insT_up p.1 p.2 hu)
    have h2 := insT_cnt t p.1 p.2
    rw [e]
    simp only [List.length_cons]
    omega
theorem addF_cnt0 (ps : Ps) : cntZ (addF [] ps) ≤ ps.length := by
  have := addF_cnt ps [] upT_nil
  simpa [cntZ] using this
theorem addF_snoc (t : List Rw) (ps : Ps) (p : List Pr × Sp) : addF t (ps ++ [p]) = addT (addF t ps) p.1 p.2 := by simp [addF, List.foldl_append]
/-- What of a table's first rows, and of the next one's first samples, was seen. -/
def doneP (l : List Rw) (i : Nat) (r : Rw) (j : Nat) : Ps := prs (l.take i) ++ (r.ss.take j).map fun s => (r.ls, s)
theorem doneP_zero (l : List Rw) (i : Nat) (r : Rw) : doneP l i r 0 = prs (l.take i) := by simp [doneP]
theorem doneP_succ (l : List Rw) (i : Nat) (r : Rw) (j : Nat) (s : Sp) (h : r.ss[j]? = some s) : doneP l i r (j + 1) = doneP l i r j ++ [(r.ls, s)] := by
  unfold doneP
  rw [List.take_add_one, h]
  show prs (l.take i) ++ (r.ss.take j ++ [s]).map _ = _
  rw [List.map_append, List.append_assoc]
  rfl
theorem doneP_full (l : List Rw) (i : Nat) (r : Rw) (h : l[i]? = some r) : doneP l i r r.ss.length = prs (l.take (i + 1)) := by
  unfold doneP
  rw [List.take_add_one, h, List.take_length]
  show _ = prs (l.take i ++ [r])
  rw [prs_append]
  congr 1
  show _ = prs [r]
  simp [prs]
theorem prs_take_le (l : List Rw) (i : Nat) : (prs (l.take i)).length ≤ (prs l).length := by
  have e : prs l = prs (l.take i) ++ prs (l.drop i) := by rw [← prs_append, List.take_append_drop]
  rw [e, List.length_append]
  omega
theorem doneP_le (l : List Rw) (i : Nat) (r : Rw) (j : Nat) (h : l[i]? = some r) (hj : j ≤ r.ss.length) : (doneP l i r j).length ≤ (prs l).length := by
  have h1 := prs_take_le l (i + 1)
  rw [← doneP_full l i r h] at h1
  unfold doneP at h1 ⊢
  rw [List.length_append, List.length_map, List.length_take] at h1 ⊢
  omega
end Go.Proofs.YtcmalckaekbomaaDoor

namespace Go.Proofs.YtcmalckaekbomaaDoor
open Go.RowKit Go.Lib Hp
set_option linter.unusedVariables false

def filP (f t : Int) (ps : Ps) : Ps := ps.filter fun p => inB f t p.2
theorem filP_snoc (f t : Int) (ps : Ps) (p : List Pr × Sp) : filP f t (ps ++ [p]) = filP f t ps ++ (if inB f t p.2 = true then [p] else []) := by
  unfold filP
  rw [List.filter_append]
  congr 1
  by_cases h : inB f t p.2 = true
  · rw [if_pos h, List.filter_cons_of_pos (p := fun p : List Pr × Sp => inB f t p.2) h]; rfl
  · rw [if_neg h, List.filter_cons_of_neg (p := fun p : List Pr × Sp => inB f t p.2) h]; rfl
theorem filP_len (f t : Int) (ps : Ps) : (filP f t ps).length ≤ ps.length := List.length_filter_le _ _
theorem TabR.form2 {w : World} {K : Nat} {v : Value} {rows : List Rw} (h : TabR w K v rows) : ∃ a c, v = .slice a rows.length c := by
  obtain ⟨_, qs, _, h2, _⟩ := h
  exact h2.slice

set_option maxHeartbeats 8000000 in
set_option maxRecDepth 100000 in
theorem rbetween_any (v : Value) (l : List Rw) (f t : Int) (K : Nat) (w : World) (h : TabR w K v l) (hm : l.length ≤ 1000) (hK : K ≤ 10000) (hP : (prs l).length ≤ 900) :
    Calls Tryd.prog 15 #[v, .int .i64 f, .int .i64 t] w fun e w' => ∃ v', e = .returned v' ∧ TabR w' 900 v' (addF [] (filP f t (prs l))) ∧ Below w.heap.size w w' := by
  obtain ⟨-, qs0, hqs, ⟨_, a, cap, g, off, rfl, hg, hc⟩, hok⟩ := h
  obtain ⟨n, hn⟩ : ∃ n, n = l.length := ⟨_, rfl⟩
  rw [← hn] at hg hc hm ⊢
  have hq0 : qs0.length = n := by rw [hn, ← hqs, List.length_map]
  have HN := Lib.hid hn
  have HC := Lib.hid hc
  have HG := Lib.hid hg
  have HQ0 := Lib.hid hq0
  have HOK := Lib.hid hok
  have HQS := Lib.hid hqs
  have HP := Lib.hid hP
  obtain ⟨W1, hW1⟩ : ∃ W1, W1 = w.alloc (.cells #[] 32) := ⟨_, rfl⟩
  have BA := Lib.hid (show Below w.heap.size w W1 by rw [hW1]; exact (Below.refl _ _).alloc (Nat.le_refl _) _)
  have S0 := Lib.hid (show TabR W1 0 (.slice (some ⟨w.heap.size, 0, none⟩) 0 0) [] from ⟨by simp, [], rfl, ⟨rfl, _, 0, 0, 0, rfl, fun h => absurd h (Nat.lt_irrefl 0), fun j hj => absurd hj (Nat.not_lt_zero _)⟩, fun q hq => absurd hq (by simp)⟩)
  clear hn hc hg hq0 hok hqs hP
  go_enter Tryd.func15, Tryd.ntmps15
  go_upto_region 2 with fail
  rw [← hW1]
  clear hW1
  go_wp2_with fail
  go_loopw [7, 9, 11, 15, 20, 21, 22] (fun p' _ _ i' _ _ _ wr => ∃ (i k : Nat) (rows : List Rw), i' = .int .i64 i ∧ i ≤ n ∧ Hid (rows = addF [] (filP f t (prs (l.take i))) ∧ k = (filP f t (prs (l.take i))).length) ∧ TabR wr k p' rows ∧ Below w.heap.size w wr) (fun _ _ _ i' _ _ _ _ => n - (intOf i').toNat)
  case atStart => exact ⟨0, 0, [], rfl, by omega, Lib.hid ⟨rfl, rfl⟩, S0.out, BA.out⟩
  case round =>
    clear S0 BA
    obtain ⟨W0, rfl⟩ : ∃ W0, W0 = wr := ⟨_, rfl⟩
    obtain ⟨i, k, rows, rfl, hi, hof, htab, hb⟩ := hrel
    have hbz := hb.size
    have HT := Lib.hid htab; have HB := Lib.hid hb
    have HR := Lib.hid hof.out.1; have HKK := Lib.hid hof.out.2
    obtain ⟨pa, pc, rfl⟩ := htab.form2
    clear hof htab
    by_cases hlt : i < n
    · obtain ⟨rfl, hgl⟩ := HG.out (by omega)
      obtain ⟨⟨qa, qb, rl, rs⟩, hx⟩ : ∃ q, qs0[i]? = some q := ⟨qs0[i]'(by have := HQ0.out; omega), List.getElem?_eq_getElem (by have := HQ0.out; omega)⟩
      obtain ⟨v0, v1⟩ := rqc_at qs0 i _ hx
      have hli : l[i]? = some ⟨rl, rs⟩ := by rw [← HQS.out, List.getElem?_map, hx]; rfl
      have ok := HOK.out _ (List.mem_of_getElem? hx)
      have q0 := (hb.cell (p := ⟨g, off + i * 2, none⟩) hgl).trans ((HC.out (i * 2) (by omega)).trans v0)
      have q1 := (hb.cell (p := ⟨g, off + (i * 2 + 1), none⟩) hgl).trans ((HC.out (i * 2 + 1) (by omega)).trans v1)
      rw [← Nat.add_assoc] at q1
      obtain ⟨kl, ks, kn, kk⟩ := ok
      simp only at kl ks kn kk q0 q1
      obtain ⟨aa, ca, ea⟩ := kl.slice
      obtain ⟨ab, cb', eb⟩ := ks.slice
      subst ea eb
      obtain ⟨NL, hNL⟩ : ∃ NL, NL = rl.length := ⟨_, rfl⟩
      obtain ⟨NS, hNS⟩ : ∃ NS, NS = rs.length := ⟨_, rfl⟩
      rw [← hNL] at q0 kn
      rw [← hNS] at q1 kk
      have HNL := Lib.hid hNL; have HNS := Lib.hid hNS; have HLI := Lib.hid hli
      have hil : (i : Int) < n := by omega
      obtain ⟨V1, hV1⟩ : ∃ V1, V1 = W0.alloc (.cells #[.slice aa NL ca, .slice ab NS cb'] 32) := ⟨_, rfl⟩
      have b1 : Below W0.heap.size W0 V1 := by rw [hV1]; exact (Below.refl _ _).alloc (Nat.le_refl _) _
      have y1 : V1.heap.size = W0.heap.size + 1 := by rw [hV1]; simp
      have hx1 : V1.heap[W0.heap.size]? = some (.cells #[.slice aa NL ca, .slice ab NS cb'] 32) := by rw [hV1]; exact heap_alloc_new W0 _
      have KL := Lib.hid (show Rd V1 2 (.slice aa NL ca) NL (prc rl) by have := (kl.on hb).on b1; rw [← hNL] at this; exact this)
      have KS := Lib.hid (show Rd V1 2 (.slice ab NS cb') NS (spc rs) by have := (ks.on hb).on b1; rw [← hNS] at this; exact this)
      have HX1 := Lib.hid hx1; have B1 := Lib.hid b1; have Y1 := Lib.hid y1
      have HT1 := Lib.hid (HT.out.on b1)
      have r0 := Lib.cell_of_heap hx1 0
      have r1 := Lib.cell_of_heap hx1 1
      simp at r0 r1
      clear hx v0 v1 hli kl ks hNL hNS hx1 b1
      go_upto_region 5 with fail
      rw [← hV1]
      clear hV1 q0 q1
      go_wp2_with fail
      go_loopw [7, 11, 22] (fun p' _ j' wx => ∃ (j k : Nat) (rows : List Rw), j' = .int .i64 j ∧ j ≤ NS ∧ Hid (rows = addF [] (filP f t (doneP l i ⟨rl, rs⟩ j)) ∧ k = (filP f t (doneP l i ⟨rl, rs⟩ j)).length) ∧ TabR wx k p' rows ∧ Below V1.heap.size V1 wx) (fun _ _ j' _ => NS - (intOf j').toNat)
      case atStart => exact ⟨0, k, rows, rfl, by omega, Lib.hid (by rw [doneP_zero]; exact ⟨HR.out, HKK.out⟩), HT1.out, Below.refl _ _⟩
      case round =>
        clear HT HT1 HR HKK
        obtain ⟨V2, rfl⟩ : ∃ V2, V2 = wr := ⟨_, rfl⟩
        obtain ⟨j, k2, rows2, rfl, hj, hof, htab, hyb⟩ := hrel
        have HT := Lib.hid htab; have HYB := Lib.hid hyb
        have HR := Lib.hid hof.out.1; have HKK := Lib.hid hof.out.2
        obtain ⟨ua, uc, rfl⟩ := htab.form2
        have ybz := hyb.size
        have hk9 : k2 ≤ 900 := by
          have h1 := filP_len f t (doneP l i ⟨rl, rs⟩ j)
          have h2 := doneP_le l i ⟨rl, rs⟩ j HLI.out (by have := HNS.out; show j ≤ rs.length; omega)
          have := HKK.out; have := HP.out
          omega
        have hr9 : rows2.length ≤ 900 := by
          have := (addF_len0 (filP f t (doneP l i ⟨rl, rs⟩ j))).1
          rw [← HR.out, ← HKK.out] at this
          omega
        obtain ⟨RN, hRN⟩ : ∃ RN, RN = rows2.length := ⟨_, rfl⟩
        have HRN := Lib.hid hRN
        rw [← hRN]
        rw [← hRN] at hr9 HT
        clear hof htab hRN
        by_cases hjt : j < NS
        · obtain ⟨_, _, _, gx, ofx, ex, hgx, hcx⟩ := KS.out.on hyb
          cases ex
          obtain ⟨rfl, hgxl⟩ := hgx (by omega)
          obtain ⟨x, hx⟩ : ∃ x, rs[j]? = some x := ⟨rs[j]'(by have := HNS.out; omega), List.getElem?_eq_getElem (by have := HNS.out; omega)⟩
          obtain ⟨d0, d1⟩ := spc_at rs j x hx
          have u0 := (hcx (j * 2) (by omega)).trans d0
          have u1 := (hcx (j * 2 + 1) (by omega)).trans d1
          rw [← Nat.add_assoc] at u1
          have FST := Lib.hid (show filP f t (doneP l i ⟨rl, rs⟩ (j + 1)) = filP f t (doneP l i ⟨rl, rs⟩ j) ++ (if inB f t x = true then [(rl, x)] else []) by
            rw [doneP_succ l i ⟨rl, rs⟩ j x hx]; exact filP_snoc f t _ _)
          obtain ⟨xt, hxt⟩ : ∃ xt, xt = x.t := ⟨_, rfl⟩
          obtain ⟨xv, hxv⟩ : ∃ xv, xv = x.v := ⟨_, rfl⟩
          rw [← hxt] at u0
          rw [← hxv] at u1
          have i1 : (j : Int) < NS := by omega
          obtain ⟨V3, hV3⟩ : ∃ V3, V3 = V2.alloc (.cells #[.int .i64 xt, .int .u64 xv] 35) := ⟨_, rfl⟩
          have b3 : Below V2.heap.size V2 V3 := by rw [hV3]; exact (Below.refl _ _).alloc (Nat.le_refl _) _
          have hx3 : V3.heap[V2.heap.size]? = some (.cells #[.int .i64 xt, .int .u64 xv] 35) := by rw [hV3]; exact heap_alloc_new V2 _
          have p0 := Lib.cell_of_heap hx3 0
          have p1 := Lib.cell_of_heap hx3 1
          simp at p0 p1
          have hxr := (b3.block W0.heap.size (by have := Y1.out; omega)).trans ((hyb.block W0.heap.size (by have := Y1.out; omega)).trans HX1.out)
          have e0 := Lib.cell_of_heap hxr 0
          simp at e0
          have bV3 := Lib.hid (HYB.out.trans (b3.mono ybz))
          have HT3 := Lib.hid (HT.out.on b3)
          have ADD := Lib.hid (show Calls Tryd.prog 7 #[.slice ua RN uc, .slice aa NL ca, .agg #[.int .i64 xt, .int .u64 xv]] V3 (fun e w' => ∃ v', e = .returned v' ∧ TabR w' (k2 + 1) v' (addT rows2 rl x) ∧ Below V3.heap.size V3 w') from by
            rw [hxt, hxv]
            exact add14_any (.slice ua RN uc) (.slice aa NL ca) rows2 rl x k2 V3 (by have := HT3.out; exact this) (by have := HRN.out; omega) (by have := KL.out.on bV3.out; rw [HNL.out] at this ⊢; exact this) (by have := HNL.out; omega) (by omega))
          have hIN : inB f t x = (decide (f ≤ xt) && decide (xt < t)) := by unfold inB; rw [← hxt]
          have HIN := Lib.hid hIN
          clear hx d0 d1 hxt hxv hyb b3 hcx hx3 hxr hIN
          go_upto_region 8 with fail
          rw [← hV3]
          clear hV3 u0 u1
          by_cases c1 : f ≤ xt
          · by_cases c2 : xt < t
            · have HF := Lib.hid (show filP f t (doneP l i ⟨rl, rs⟩ (j + 1)) = filP f t (doneP l i ⟨rl, rs⟩ j) ++ [(rl, x)] by rw [FST.out, if_pos (by rw [HIN.out]; simp [c1, c2])])
              have HRS := Lib.hid (show addT rows2 rl x = addF [] (filP f t (doneP l i ⟨rl, rs⟩ (j + 1))) by rw [HF.out, addF_snoc, ← HR.out])
              have HKS := Lib.hid (show k2 + 1 = (filP f t (doneP l i ⟨rl, rs⟩ (j + 1))).length by rw [HF.out, List.length_append, ← HKK.out]; rfl)
              go_wp2_with fail
              refine ADD.out.mono ?_
              rintro e w5 ⟨v5, rfl, t5, b5⟩
              have T5 := Lib.hid t5
              have B5 := Lib.hid (bV3.out.trans (b5.mono bV3.out.size))
              clear t5 b5 ADD
              go_wp2
              exact ⟨⟨j + 1, k2 + 1, addT rows2 rl x, by simp, by omega, Lib.hid ⟨HRS.out, HKS.out⟩, T5.out, B5.out⟩, by simp [intOf]; omega⟩
            · have HF := Lib.hid (show filP f t (doneP l i ⟨rl, rs⟩ (j + 1)) = filP f t (doneP l i ⟨rl, rs⟩ j) by rw [FST.out, if_neg (by rw [HIN.out]; simp [c2]), List.append_nil])
              go_wp2
              exact ⟨⟨j + 1, k2, rows2, by simp, by omega, Lib.hid (by rw [HF.out]; exact ⟨HR.out, HKK.out⟩), HT3.out, bV3.out⟩, by simp [intOf]; omega⟩
          · have HF := Lib.hid (show filP f t (doneP l i ⟨rl, rs⟩ (j + 1)) = filP f t (doneP l i ⟨rl, rs⟩ j) by rw [FST.out, if_neg (by rw [HIN.out]; simp [c1]), List.append_nil])
            go_wp2
            exact ⟨⟨j + 1, k2, rows2, by simp, by omega, Lib.hid (by rw [HF.out]; exact ⟨HR.out, HKK.out⟩), HT3.out, bV3.out⟩, by simp [intOf]; omega⟩
        · have i1 : ¬ (j : Int) < NS := by omega
          have HFL := Lib.hid (show doneP l i ⟨rl, rs⟩ j = prs (l.take (i + 1)) by
            have h1 := doneP_full l i ⟨rl, rs⟩ HLI.out
            rw [← h1, show j = rs.length by have := HNS.out; omega])
          have BV2 := Lib.hid (HB.out.trans ((B1.out.trans (hyb.mono B1.out.size)).mono HB.out.size))
          clear hyb hjt
          go_wp2
          exact ⟨⟨i + 1, k2, rows2, by simp, by omega, Lib.hid (by rw [← HFL.out]; exact ⟨HR.out, HKK.out⟩), HT.out, BV2.out⟩, by simp [intOf]; omega⟩
    · have hil : ¬ (i : Int) < n := by omega
      have FIN := Lib.hid (show TabR W0 900 (.slice pa rows.length pc) (addF [] (filP f t (prs l))) by
        have h1 := HR.out
        have h2 := HKK.out
        rw [List.take_of_length_le (by have := HN.out; omega)] at h1 h2
        rw [← h1]
        exact HT.out.mono (by have := filP_len f t (prs l); have := HP.out; omega))
      clear hb
      go_wp2
      go_ret
      exact ⟨_, rfl, FIN.out, HB.out⟩
end Go.Proofs.YtcmalckaekbomaaDoor
