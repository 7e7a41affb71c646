/- Layer 14: rows of the same labels as one, walked. Layer 14: Tables, walked. -/
import Derived.Test.YtfckgcckpfklaaaGreatDoorMRV
namespace Go.Proofs.YtfckgcckpfklaaaGreatDoor
open Go.RowKit Go.Lib Hp
set_option linter.unusedVariables false

theorem zc_lsmp : (Tryz.prog.info? 41).map (fun i => (i.zero, i.size, i.bytes)) = some (some (.slice none 0 0), 1, 24) := by kernel_rfl
theorem results_cell1 {P : Program} {fn : Func} {p : Tmp} {ty : TypeId} (h : fn.results = #[.cell p ty]) (tmps : Array Value) (w : World) (g : Nat) (t : TypeId) (cs : Array Value) (fr : Nat × Nat) (d : TypeDesc)
    (hp : tmps.getD p undef = .pointer (some ⟨g, 0, none⟩)) (hg : w.heap[g]? = some (.cells cs t fr))
    (hu : P.underlying ty = some d) (hd : (match d with | .struct _ | .array _ _ => true | _ => false) = true) (hi : (P.info? ty).map (·.size) = some cs.size) :
    (results fn tmps).run P w = .ok (.agg cs) w := by
  have hp' : tmps[p]?.getD undef = .pointer (some ⟨g, 0, none⟩) := by simpa using hp
  simp [results, h, hp', asAddr, run_loadVar_row w g t ty cs fr d hg hu hd hi]
/-- The lists of some rows. -/
def curS (l : List Rq) (p : Nat) : List Sp := (l.getD p default).r.ss
def ivS (l : List Rq) (p : Nat) : Value := (l.getD p default).b
def oneS (l : List Rq) : List Sp := compS (kmg (curS l) l.length (tot (curS l) l.length))
theorem sl_cellV {w : World} {base g off n cap : Nat} {xs : List Value} (h : Sl w base 1 (.slice (some ⟨g, off, none⟩) n cap) n xs) (j : Nat) (x : Value) (hj : xs[j]? = some x) : w.cell? ⟨g, off + j, none⟩ = some x := by
  have := h.cells j x hj
  rw [Addr.add_lit] at this
  exact this
theorem lsR_of {w : World} {base : Nat} {v : Value} {l : List Rq} (h : Sl w base 1 v l.length (l.map Rq.b)) (hok : ∀ q ∈ l, RowOk w 100000 q) (hc : ∀ q ∈ l, Capd q.b q.r.ss.length) : LsR w v l.length (curS l) (ivS l) := by
  have hg : ∀ p, p < l.length → ∃ q, l.getD p default = q ∧ l[p]? = some q ∧ q ∈ l := fun p hp => ⟨l[p], by simp [hp], List.getElem?_eq_getElem hp, List.getElem_mem hp⟩
  refine ⟨?_, fun p hp => ?_, fun p hp => ?_⟩
  · rcases h.2 with ⟨rfl, h0⟩ | ⟨g, off, cap, rfl, hb, hgw, hnc, hcm, hfree, hcell⟩
    · exact ⟨none, 0, 0, 0, by rw [h0], fun hk => by omega, fun p hp => by omega⟩
    · refine ⟨_, cap, g, off, rfl, fun _ => ⟨rfl, hgw⟩, fun p hp => ?_⟩
      obtain ⟨q, h1, h2, h3⟩ := hg p hp
      rw [hcell p (by omega), List.getElem?_map, h2]
      unfold ivS
      rw [h1]; rfl
  · obtain ⟨q, h1, h2, h3⟩ := hg p hp
    unfold ivS curS
    rw [h1]
    exact (hok q h3).s
  · obtain ⟨q, h1, h2, h3⟩ := hg p hp
    unfold ivS curS
    rw [h1]
    exact hc q h3

theorem LsR.on {w w' : World} {v : Value} {k : Nat} {cur : Nat → List Sp} {iv : Nat → Value} (h : LsR w v k cur iv) (b : Below w.heap.size w w') : LsR w' v k cur iv := by
  obtain ⟨⟨a, cap, g, off, hv, hg, hc⟩, h2, h3⟩ := h
  refine ⟨⟨a, cap, g, off, hv, fun hk => ⟨(hg hk).1, Nat.lt_of_lt_of_le (hg hk).2 b.size⟩, fun p hp => ?_⟩, fun p hp => (h2 p hp).on b, h3⟩
  exact (b.cell (p := ⟨g, off + p, none⟩) (hg (by omega)).2).trans (hc p hp)

set_option maxHeartbeats 4000000 in
set_option maxRecDepth 100000 in
theorem one_any (v : Value) (l : List Rq) (q0 : Rq) (w : World) (h : RdQ w v l) (hq0 : l[0]? = some q0) (hm : l.length ≤ 1000) (hcp : ∀ q ∈ l, Capd q.b q.r.ss.length) (hTm : tot (curS l) l.length ≤ 1000000) :
    Calls Tryz.prog 30 #[v] w fun e w' => ∃ a b, e = .returned (.agg #[a, b]) ∧ Sl w' w.heap.size 2 a q0.r.ls.length (prc q0.r.ls) ∧ Sl w' w.heap.size 2 b (oneS l).length (spc (oneS l)) ∧ Below w.heap.size w w' := by
  obtain ⟨i0, hi, hz0, hz1, hz2⟩ := info_parts zc_lsmp
  have Hz := Lib.hid hz0; have Hs := Lib.hid hz1; have Hb := Lib.hid hz2; have Hi := Lib.hid hi
  clear hz0 hz1 hz2 hi
  have h0 : 0 < l.length := (List.getElem?_eq_some_iff.1 hq0).1
  obtain ⟨⟨_, a, cap, g, off, rfl, hg, hc⟩, hok⟩ := h
  obtain ⟨rfl, hgl⟩ := hg h0
  obtain ⟨L, hL⟩ : ∃ L, L = l.length := ⟨_, rfl⟩
  obtain ⟨u0, u1⟩ := rqc_at l 0 q0 hq0
  have HC := Lib.hid hc
  have HOK := Lib.hid hok
  have HQ0 := Lib.hid hq0
  have HL := Lib.hid hL
  have HU0 := Lib.hid u0; have HU1 := Lib.hid u1
  have HCP := Lib.hid hcp
  have HT := Lib.hid hTm
  obtain ⟨SS, hSS⟩ : ∃ SS, SS = oneS l := ⟨_, rfl⟩
  have HSS := Lib.hid hSS
  rw [← hL] at hm h0 ⊢
  rw [← hSS]
  clear hg hc hok hL hq0 u0 u1 hcp hTm hSS
  obtain ⟨W1, hW1⟩ : ∃ W1, W1 = w.alloc (.cells #[.slice none 0 0, .slice none 0 0] 43) := ⟨_, rfl⟩
  have B1 : Below w.heap.size w W1 := by rw [hW1]; exact (Below.refl _ _).alloc (Nat.le_refl _) _
  have z1 : W1.heap.size = w.heap.size + 1 := by rw [hW1]; simp
  have R1 : W1.heap[w.heap.size]? = some (.cells #[.slice none 0 0, .slice none 0 0] 43) := by rw [hW1]; exact heap_alloc_new w _
  have HB1 := Lib.hid B1; have HZ1 := Lib.hid z1; have HR1 := Lib.hid R1
  clear B1 z1 R1
  go_enter Tryz.func30, Tryz.ntmps30
  go_upto_region 1 with fail
  rw [← hW1]
  clear hW1
  go_wp2_with fail
  go_loopw [3, 5, 8] (fun l' _ i' wr => ∃ (i : Nat), i' = .int .i64 i ∧ i ≤ L ∧ Sl wr W1.heap.size 1 l' i ((l.take i).map Rq.b) ∧ Below W1.heap.size W1 wr) (fun _ _ i' _ => L - (intOf i').toNat)
  case atStart => exact ⟨0, rfl, by omega, Sl.nil _ _ _, Below.refl _ _⟩
  case round =>
    obtain ⟨W0, rfl⟩ : ∃ W0, W0 = wr := ⟨_, rfl⟩
    obtain ⟨i, rfl, hi, hs, hb⟩ := hrel
    have HB := Lib.hid hb; have HS := Lib.hid hs
    obtain ⟨oa, oc, rfl⟩ := hs.slice
    have bw : Below w.heap.size w W0 := HB1.out.trans (hb.mono (by have := HZ1.out; omega))
    have BW := Lib.hid bw
    have hbz := hb.size
    by_cases hlt : i < L
    · obtain ⟨⟨qa, qb, r⟩, hq⟩ : ∃ q, l[i]? = some q := ⟨l[i]'(by have := HL.out; omega), List.getElem?_eq_getElem (by have := HL.out; omega)⟩
      obtain ⟨v0, v1⟩ := rqc_at l i _ hq
      have ok := HOK.out _ (List.mem_of_getElem? hq)
      have q0' := (bw.cell (p := ⟨g, off + i * 2, none⟩) hgl).trans ((HC.out (i * 2) (by have := HL.out; omega)).trans v0)
      have q1' := (bw.cell (p := ⟨g, off + (i * 2 + 1), none⟩) hgl).trans ((HC.out (i * 2 + 1) (by have := HL.out; omega)).trans v1)
      rw [← Nat.add_assoc] at q1'
      simp only at q0' q1'
      obtain ⟨aa, ca, ea⟩ := ok.l.slice
      obtain ⟨ab, cb', eb⟩ := ok.s.slice
      simp only at ea eb
      subst ea eb
      have hil : (i : Int) < L := by omega
      obtain ⟨NL, hNL⟩ : ∃ NL, NL = r.ls.length := ⟨_, rfl⟩
      obtain ⟨NS, hNS⟩ : ∃ NS, NS = r.ss.length := ⟨_, rfl⟩
      rw [← hNL] at q0'
      rw [← hNS] at q1'
      obtain ⟨V1, hV1⟩ : ∃ V1, V1 = W0.alloc (.cells #[.slice aa NL ca, .slice ab NS cb'] 43) := ⟨_, rfl⟩
      have b1 : Below W0.heap.size W0 V1 := by rw [hV1]; exact (Below.refl _ _).alloc (Nat.le_refl _) _
      have y1 : V1.heap.size = W0.heap.size + 1 := by rw [hV1]; simp
      have hx1 : V1.heap[W0.heap.size]? = some (.cells #[.slice aa NL ca, .slice ab NS cb'] 43) := by rw [hV1]; exact heap_alloc_new W0 _
      obtain ⟨Y, hY⟩ : ∃ Y, Y = V1.alloc (.cells #[.slice ab NS cb'] 41) := ⟨_, rfl⟩
      have b2 : Below V1.heap.size V1 Y := by rw [hY]; exact (Below.refl _ _).alloc (Nat.le_refl _) _
      have bY : Below W1.heap.size W1 Y := hb.trans ((b1.trans (b2.mono b1.size)).mono hbz)
      have slY : Sl Y W1.heap.size 1 (.slice oa i oc) i ((l.take i).map Rq.b) := (hs.on b1).on b2
      have litY : ∀ j u, [Value.slice ab NS cb'][j]? = some u → Y.cell? ((⟨V1.heap.size, 0, none⟩ : Addr).add j) = some u := by
        have := (Sl.lit V1 0 1 1 #[.slice ab NS cb'] 41 (Nat.zero_le _) (by decide) rfl).cells
        rw [hY]; exact this
      have hone : ∀ v ∈ [Value.slice ab NS cb'], v.oneCell' = true := by
        intro v hv
        rw [List.mem_singleton] at hv
        subst hv
        rfl
      have STEP := Lib.hid (show (l.take (i + 1)).map Rq.b = (l.take i).map Rq.b ++ [.slice ab NS cb'] by rw [List.take_add_one, hq, List.map_append, hNS]; rfl)
      have hc1 := Lib.cell_of_heap hx1 1
      simp at hc1
      have HY := Lib.hid hY
      have BY := Lib.hid bY
      have zY := bY.size
      have NLh := Lib.hid hNL; have NSh := Lib.hid hNS
      clear hq v0 v1 ok hb hs bw hx1 b1 b2 hY bY hNL hNS
      go_upto_region 5 with fail
      rw [← hV1]
      clear hV1 q0' q1'
      go_wp2_with (at_builtin; rw [← y1, ← HY.out]; refine wpList_append_sl _ rfl _ _ 114 rfl W1.heap.size 41 i0 (.slice none 0 0) 1 24 Tryz.underlying114 Hi.out Hz.out Hs.out Hb.out rfl (by decide) _ i _ rfl slY ⟨V1.heap.size, 0, none⟩ 1 1 [.slice ab NS cb'] rfl rfl litY hone (by unfold maxLen; omega) (by omega) zY ?_; intro v' w5 hx5)
      refine ⟨⟨i + 1, by simp, by omega, ?_, BY.out.trans (hx5.below (Nat.le_refl _) zY)⟩, by simp [intOf]; omega⟩
      rw [STEP.out]
      exact hx5.now
    · have hil : ¬ (i : Int) < L := by omega
      obtain rfl : i = L := by omega
      have hs' : Sl W0 W1.heap.size 1 (.slice oa l.length oc) l.length (l.map Rq.b) := by
        have := hs
        rw [List.take_of_length_le (by have := HL.out; omega), HL.out] at this
        exact this
      have LS := lsR_of hs' (fun q hq => (HOK.out q hq).on bw) HCP.out
      have e0 := (bw.cell (p := ⟨g, off, none⟩) hgl).trans ((HC.out 0 (by have := HL.out; omega)).trans HU0.out)
      have ok0 := HOK.out _ (List.mem_of_getElem? HQ0.out)
      obtain ⟨aa, ca, ea⟩ := ok0.l.slice
      have hl0 := ok0.hl
      have CL := Lib.hid (clone_ls q0.a q0.r.ls W0 (ok0.l.on bw) (by omega))
      have SM := Lib.hid (fun W (b : Below W0.heap.size W0 W) => show Calls Tryz.prog 54 #[.slice oa i oc] W (fun e w' => ∃ v', e = .returned v' ∧ Sl w' W.heap.size 2 v' SS.length (spc SS) ∧ Below W.heap.size W w') from by
        have := samples_any (.slice oa l.length oc) l.length (curS l) (ivS l) _ W (LS.on b) (by have := HL.out; omega) rfl HT.out
        rw [HSS.out, HL.out]
        exact this)
      obtain ⟨NL, hNL⟩ : ∃ NL, NL = q0.r.ls.length := ⟨_, rfl⟩
      rw [ea] at e0 CL
      rw [← hNL] at e0 CL
      have BX := hb.block w.heap.size (by have := HZ1.out; omega)
      have hR := BX.trans HR1.out
      have HR := Lib.hid hR
      have hzz := HZ1.out
      have NLH := Lib.hid hNL
      clear hs hs' LS ok0 ea hl0 bw hb BX hR hNL
      go_wp2_with fail
      refine CL.out.mono ?_
      rintro e w2 ⟨v2, rfl, s2, b2⟩
      obtain ⟨a2, c2, rfl⟩ := s2.slice
      have S2 := Lib.hid s2; have B2 := Lib.hid b2
      have SMC := Lib.hid (SM.out _ b2)
      clear s2 b2 SM CL
      go_wp2_with fail
      refine SMC.out.mono ?_
      rintro e w3 ⟨v3, rfl, s3, b3⟩
      obtain ⟨a3, c3, rfl⟩ := s3.slice
      have hRw := (B2.out.trans (b3.mono B2.out.size)).block w.heap.size (by omega)
      have hR3 := hRw.trans HR.out
      have r0 := Lib.cell_of_heap hR3 0
      have r1 := Lib.cell_of_heap hR3 1
      have f0 := Lib.frozen_of_heap hR3 0
      have f1 := Lib.frozen_of_heap hR3 1
      simp at r0 r1
      have S3 := Lib.hid s3; have B3 := Lib.hid b3
      clear s3 b3 hRw SMC
      have hW : ((w3.setCell ⟨w.heap.size, 0, none⟩ (.slice a2 NL c2)).setCell ⟨w.heap.size, 1, none⟩ (.slice a3 SS.length c3)).heap[w.heap.size]? = some (.cells #[.slice a2 NL c2, .slice a3 SS.length c3] 43) := by
        have h1 := heap_setCell_same w3 w.heap.size 0 _ _ (.slice a2 NL c2) hR3
        have h2 := heap_setCell_same _ w.heap.size 1 _ _ (.slice a3 SS.length c3) h1
        rw [h2]; rfl
      have HW := Lib.hid hW
      clear hW hR3
      go_wp2
      refine bodyPost_ret (results_cell1 Tryz.results30 _ _ w.heap.size _ _ _ _ rfl HW.out Tryz.underlying43 rfl (by kernel_rfl)) rfl ?_
      have hz2 := B2.out.size
      have hz3 := B3.out.size
      refine ⟨_, _, rfl, ?_, ?_, ?_⟩
      · rw [← NLH.out]
        exact (sl_else (sl_else (S2.out.on B3.out) _ _ (by simp only; omega)) _ _ (by simp only; omega)).mono (by omega)
      · exact (sl_else (sl_else S3.out _ _ (by simp only; omega)) _ _ (by simp only; omega)).mono (by omega)
      · exact ((BW.out.trans ((B2.out.trans (B3.out.mono hz2)).mono BW.out.size)).setCell (p := ⟨w.heap.size, 0, none⟩) (Nat.le_refl _) _).setCell (p := ⟨w.heap.size, 1, none⟩) (Nat.le_refl _) _
end Go.Proofs.YtfckgcckpfklaaaGreatDoor

namespace Go.Proofs.YtfckgcckpfklaaaGreatDoor
open Go.RowKit Go.Lib Hp
set_option linter.unusedVariables false

def rws (l : List Rq) : List Rw := l.map Rq.r
theorem updR_at (cur : Nat → List Rq) (p q : Nat) (l : List Rq) : updSR cur p l q = if q = p then l else cur q := rfl
theorem kmgR_mem {k : Nat} : ∀ (T : Nat) (cur : Nat → List Rq) (x : Rq), x ∈ kmgR cur k T → ∃ p, p < k ∧ x ∈ cur p
  | 0, cur, x, hx => by simp [kmgR] at hx
  | T + 1, cur, x, hx => by
    cases hp : pickSR cur k with
    | none => simp [kmgR, hp] at hx
    | some p =>
      have hl := pickS_someR cur k p hp
      obtain ⟨y, ys, hy⟩ : ∃ y ys, cur p = y :: ys := List.exists_cons_of_length_pos hl.2.1
      rw [kmg_stepR hl, hy] at hx
      simp only [List.headD_cons, List.tail_cons, List.mem_cons] at hx
      rcases hx with rfl | hx
      · exact ⟨p, hl.1, by rw [hy]; simp⟩
      · obtain ⟨q, hq, hz⟩ := kmgR_mem T (updSR cur p ys) x hx
        rw [updR_at] at hz
        split at hz
        · exact ⟨p, hl.1, by rw [hy]; simp [hz]⟩
        · exact ⟨q, hq, hz⟩
theorem kmgR_len (k : Nat) : ∀ (T : Nat) (cur : Nat → List Rq), (kmgR cur k T).length ≤ T
  | 0, _ => by simp [kmgR]
  | T + 1, cur => by
    unfold kmgR
    split
    · simp
    · have := kmgR_len k T
      simp only [List.length_cons]
      exact Nat.succ_le_succ (this _)
/-- Rows of which those alike stand beside each other, made a table. -/
inductive Tbl : List Rq → List Rw → Prop
  | nil : Tbl [] []
  | cons {l : List Rq} {n : Nat} {q0 : Rq} {t : List Rw} : AlikeN l n → l[0]? = some q0 → Tbl (l.drop n) t → Tbl l (⟨q0.r.ls, oneS (l.take n)⟩ :: t)
theorem compFrom_len : ∀ (l : List Sp) (t : Int), (compFrom t l).length ≤ l.length
  | [], _ => by simp [compFrom]
  | y :: l, t => by
    unfold compFrom
    split
    · have := compFrom_len l t; simp only [List.length_cons]; omega
    · have := compFrom_len l y.t; simp only [List.length_cons]; omega
theorem compS_len (l : List Sp) : (compS l).length ≤ l.length := by
  cases l with
  | nil => simp [compS]
  | cons x l => have := compFrom_len l x.t; simp only [compS, List.length_cons]; omega
theorem oneS_len (l : List Rq) : (oneS l).length ≤ tot (curS l) l.length := Nat.le_trans (compS_len _) (kmg_len _ _ _)
theorem tot_le (c : Nat → List Sp) (K : Nat) : ∀ k, (∀ p, p < k → (c p).length ≤ K) → tot c k ≤ k * K
  | 0, _ => by simp [tot]
  | k + 1, h => by
    have h1 := tot_le c K k (fun p hp => h p (by omega))
    have h2 := h k (by omega)
    simp only [tot]
    rw [Nat.succ_mul]
    omega
theorem tot_curS (l : List Rq) (K : Nat) (h : ∀ q ∈ l, q.r.ss.length ≤ K) : tot (curS l) l.length ≤ l.length * K :=
  tot_le _ _ _ fun p hp => by
    have : l.getD p default = l[p] := by simp [hp]
    unfold curS
    rw [this]
    exact h _ (List.getElem_mem hp)
theorem rqc_take (l : List Rq) (n j : Nat) (hj : j < (l.take n).length * 2) : (rqc (l.take n))[j]? = (rqc l)[j]? := by
  have e : rqc l = rqc (l.take n) ++ rqc (l.drop n) := by rw [← rqc_append, List.take_append_drop]
  rw [e, List.getElem?_append_left (by rw [rqc_len]; exact hj)]
theorem rqc_drop (l : List Rq) (n j : Nat) (hn : n ≤ l.length) : (rqc (l.drop n))[j]? = (rqc l)[n * 2 + j]? := by
  have e : rqc l = rqc (l.take n) ++ rqc (l.drop n) := by rw [← rqc_append, List.take_append_drop]
  have hl : (rqc (l.take n)).length = n * 2 := by rw [rqc_len, List.length_take, Nat.min_eq_left hn]
  rw [e, List.getElem?_append_right (by omega), hl, Nat.add_sub_cancel_left]
theorem RdQ.take {w : World} {g off cap n : Nat} {l : List Rq} (h : RdQ w (.slice (some ⟨g, off, none⟩) l.length cap) l) (hn : n ≤ l.length) : RdQ w (.slice (some ⟨g, off, none⟩) n cap) (l.take n) := by
  obtain ⟨⟨_, a, c, g', off', he, hg, hc⟩, hok⟩ := h
  cases he
  have hl : (l.take n).length = n := by rw [List.length_take]; omega
  refine ⟨⟨rqc_len _, some ⟨g, off, none⟩, cap, g, off, by rw [hl], fun hp => ⟨rfl, ?_⟩, fun j hj => ?_⟩, fun q hq => hok q (List.mem_of_mem_take hq)⟩
  · obtain ⟨e, hlt⟩ := hg (by omega)
    cases e
    exact hlt
  · obtain ⟨e, hlt⟩ := hg (by omega)
    cases e
    rw [rqc_take l n j hj]
    exact hc j (by omega)
theorem RdQ.drop {w : World} {g off cap n m c : Nat} {a : Option Addr} {l : List Rq} (h : RdQ w (.slice (some ⟨g, off, none⟩) l.length cap) l) (hn : n ≤ l.length) (hm : m = l.length - n) (ha : 0 < m → a = some ⟨g, off + n * 2, none⟩) : RdQ w (.slice a m c) (l.drop n) := by
  obtain ⟨⟨_, a', c', g', off', he, hg, hc⟩, hok⟩ := h
  cases he
  have hl : (l.drop n).length = m := by rw [List.length_drop]; omega
  refine ⟨⟨rqc_len _, a, c, g, off + n * 2, by rw [hl], fun hp => ⟨ha (by omega), ?_⟩, fun j hj => ?_⟩, fun q hq => hok q (List.mem_of_mem_drop hq)⟩
  · obtain ⟨e, hlt⟩ := hg (by omega)
    cases e
    exact hlt
  · obtain ⟨e, hlt⟩ := hg (by omega)
    cases e
    rw [rqc_drop l n j hn, Nat.add_assoc]
    exact hc (n * 2 + j) (by omega)

set_option maxHeartbeats 4000000 in
set_option maxRecDepth 100000 in
theorem tables_any (v : Value) (k : Nat) (cur : Nat → List Rq) (iv : Nat → Value) (T : Nat) (w : World) (h : LsRR w v k cur iv) (hk : k ≤ 1000) (hT : T = totR cur k) (hTm : T ≤ 1000) (hcp : ∀ p, p < k → ∀ q ∈ cur p, Capd q.b q.r.ss.length ∧ q.r.ss.length ≤ 1000) :
    Calls Tryz.prog 11 #[v] w fun e w' => ∃ v' rows, e = .returned v' ∧ TabC w' 1000000 v' rows ∧ Tbl (kmgR cur k T) rows ∧ Below w.heap.size w w' := by
  obtain ⟨i0, hi, hz0, hz1, hz2⟩ := info_parts zc_mrow
  have Hz := Lib.hid hz0; have Hs := Lib.hid hz1; have Hb := Lib.hid hz2; have Hi := Lib.hid hi
  clear hz0 hz1 hz2 hi
  have M := Lib.hid (merged_SR v k cur iv T w h hk hT (by omega))
  have hlen : (kmgR cur k T).length ≤ T := kmgR_len _ _ _
  have hmem : ∀ q ∈ kmgR cur k T, RowOk w 100000 q ∧ Capd q.b q.r.ss.length ∧ q.r.ss.length ≤ 1000 := fun q hq => by
    obtain ⟨p, hp, hq⟩ := kmgR_mem _ _ _ hq
    exact ⟨(h.rd p hp).2 q hq, hcp p hp q hq⟩
  obtain ⟨L, hL⟩ : ∃ L, L = kmgR cur k T := ⟨_, rfl⟩
  rw [← hL] at M hlen hmem ⊢
  have HM := Lib.hid hmem
  obtain ⟨⟨a, cap, g, off, rfl, _⟩, _⟩ := h
  clear hL hT hmem hcp
  go_enter Tryz.func11, Tryz.ntmps11
  go_wp2_with fail
  refine M.out.mono ?_
  rintro e w1 ⟨v1, rfl, s1, b1⟩
  have RQ := Lib.hid (show RdQ w1 v1 L from ⟨Rd.of_sl s1, fun q hq => (HM.out q hq).1.on b1⟩)
  have CP := Lib.hid s1.capd
  have B1 := Lib.hid b1
  obtain ⟨a1, c1, rfl⟩ := s1.slice
  clear s1 b1 M
  go_wp2_with fail
  go_loopw [3, 4, 5] (fun t' r' _ wr => ∃ (qs rest : List Rq), Hid (∀ t, Tbl rest t → Tbl L (rws qs ++ t)) ∧ RdQ w1 r' rest ∧ Capd r' rest.length ∧ rest.length ≤ T ∧ Hid (∀ q ∈ rest, q ∈ L) ∧ TabN wr w1.heap.size 1000000 t' qs ∧ Hid (∀ q ∈ qs, Capd q.b q.r.ss.length) ∧ qs.length + rest.length ≤ T ∧ Below w1.heap.size w1 wr) (fun _ r' _ _ => slLen r')
  case atStart => exact ⟨[], L, Lib.hid (fun t ht => ht), RQ.out, CP.out, hlen, Lib.hid (fun q hq => hq), ⟨Sl.nil _ _ _, fun q hq => absurd hq (by simp)⟩, Lib.hid (fun q hq => absurd hq (by simp)), by simpa using hlen, Below.refl _ _⟩
  case round =>
    clear RQ CP
    obtain ⟨W0, rfl⟩ : ∃ W0, W0 = wr := ⟨_, rfl⟩
    obtain ⟨qs, rest, htb, hrq, hrc, hrl, hrm, htn, hqc, hcnt, hb⟩ := hrel
    obtain ⟨ra, rc, her, hrcc⟩ := hrc
    subst her
    obtain ⟨ta, tc, het⟩ := htn.sl.slice
    subst het
    obtain ⟨m, hml⟩ : ∃ m, m = qs.length := ⟨_, rfl⟩
    obtain ⟨R, hRl⟩ : ∃ R, R = rest.length := ⟨_, rfl⟩
    have HTB := Lib.hid htb.out; have HRM := Lib.hid hrm.out; have HQC := Lib.hid hqc.out
    have HTN := Lib.hid htn
    have HB := Lib.hid hb
    have HRQ := Lib.hid hrq
    have HML := Lib.hid hml; have HRL := Lib.hid hRl
    have hbz := hb.size
    rw [← hRl, ← hml] at hcnt
    rw [← hml, ← hRl]
    rw [← hRl] at hrcc hrl
    clear htb hrm hqc htn hb hrq hml hRl
    by_cases h0 : R = 0
    · subst h0
      have HD := Lib.hid (show Tbl L (rws qs) by
        have hr : rest = [] := List.eq_nil_of_length_eq_zero HRL.out.symm
        have := HTB.out [] (by rw [hr]; exact Tbl.nil)
        rw [List.append_nil] at this
        exact this)
      have FIN := Lib.hid (show TabC W0 1000000 (.slice ta m tc) (rws qs) by
        have := HTN.out.readC (by have := HML.out; omega) HQC.out
        rw [← HML.out] at this
        exact this)
      clear HTN HTB
      go_wp2
      go_ret
      exact ⟨_, _, rfl, FIN.out, HD.out, B1.out.trans (HB.out.mono B1.out.size)⟩
    · have hr0 : 0 < rest.length := by have := HRL.out; omega
      obtain ⟨q0, hq0⟩ : ∃ q, rest[0]? = some q := ⟨rest[0], List.getElem?_eq_getElem hr0⟩
      have hrq' := HRQ.out
      obtain ⟨g1, off1, rfl⟩ : ∃ g1 off1, ra = some ⟨g1, off1, none⟩ := by
        obtain ⟨⟨_, a', c', g', off', he, hg, _⟩, _⟩ := hrq'
        cases he
        exact ⟨g', off', (hg hr0).1⟩
      have AL := Lib.hid (show Calls Tryz.prog 29 #[.slice (some ⟨g1, off1, none⟩) R rc] W0 _ from by
        have := alike_any _ rest W0 (HRQ.out.on HB.out) hr0 (by have := HRL.out; omega)
        rw [← HRL.out] at this
        exact this)
      have HQ0 := Lib.hid hq0
      have hRpos : (0 : Int) < (R : Int) := by omega
      clear hq0 hrq' hr0
      go_wp2_with fail
      refine AL.out.mono ?_
      rintro e w2 ⟨n, rfl, han, b2⟩
      have hn1 : 1 ≤ n := han.1
      have hnR : n ≤ R := by have := han.2.1; have := HRL.out; omega
      have HAN := Lib.hid han
      have hbz2 := b2.size
      have HB2 := Lib.hid (HB.out.trans (b2.mono hbz))
      have OB := Lib.hid (fun k (hk : (Value.slice ta m tc).ownBlock = some k) => (HTN.out.sl.lt k (by rw [← HML.out]; exact hk)).2)
      have TN2 := Lib.hid (HTN.out.on b2)
      have ON := Lib.hid (show Calls Tryz.prog 30 #[.slice (some ⟨g1, off1, none⟩) n rc] w2 _ from by
        have hrt := (HRQ.out.on HB2.out)
        rw [HRL.out] at hnR
        have hlt : (rest.take n).length = n := by rw [List.length_take]; omega
        exact one_any _ (rest.take n) q0 w2 (hrt.take hnR) (by rw [List.getElem?_take, if_pos (by omega)]; exact HQ0.out) (by have := HRL.out; omega) (fun q hq => (HM.out q (HRM.out q (List.mem_of_mem_take hq))).2.1) (by
          have := tot_curS (rest.take n) 1000 (fun q hq => (HM.out q (HRM.out q (List.mem_of_mem_take hq))).2.2)
          have h2 : (rest.take n).length * 1000 ≤ 1000 * 1000 := Nat.mul_le_mul_right _ (by have := HRL.out; omega)
          omega))
      have HSL := Lib.hid (oneS_len (rest.take n))
      have HSB := Lib.hid (show tot (curS (rest.take n)) (rest.take n).length ≤ 1000000 by
          have := tot_curS (rest.take n) 1000 (fun q hq => (HM.out q (HRM.out q (List.mem_of_mem_take hq))).2.2)
          have h2 : (rest.take n).length * 1000 ≤ 1000 * 1000 := Nat.mul_le_mul_right _ (by rw [List.length_take]; have := HRL.out; omega)
          omega)
      have hHL := (HM.out q0 (HRM.out q0 (List.mem_of_getElem? HQ0.out))).1.hl
      have i1 : (0 : Int) ≤ (n : Int) := by omega
      have i2 : (n : Int) ≤ (R : Int) := by omega
      have i3 : (n : Int) ≤ (rc : Int) := by omega
      have i4 : (R : Int) ≤ (rc : Int) := by omega
      obtain ⟨SS, hSS⟩ : ∃ SS, SS = oneS (rest.take n) := ⟨_, rfl⟩
      have HSS := Lib.hid hSS
      rw [← hSS] at ON HSL
      obtain ⟨NL, hNL⟩ : ∃ NL, NL = q0.r.ls.length := ⟨_, rfl⟩
      have HNL := Lib.hid hNL
      rw [← hNL] at hHL ON
      clear hSS hNL han b2 AL HTN HB
      go_wp2_with fail
      refine ON.out.mono ?_
      rintro e w3 ⟨x, y, rfl, sx, sy, b3⟩
      obtain ⟨xa, xc, rfl⟩ := sx.slice
      obtain ⟨ya, yc, rfl⟩ := sy.slice
      obtain ⟨SL, hSLn⟩ : ∃ SL, SL = SS.length := ⟨_, rfl⟩
      have HSN := Lib.hid hSLn
      obtain ⟨Y, hY⟩ : ∃ Y, Y = w3.alloc (.cells #[.slice xa NL xc, .slice ya SL yc] 43) := ⟨_, rfl⟩
      have bY0 : Below w3.heap.size w3 Y := by rw [hY]; exact (Below.refl _ _).alloc (Nat.le_refl _) _
      have b3Y : Below w2.heap.size w2 Y := b3.trans (bY0.mono b3.size)
      have bY : Below w1.heap.size w1 Y := HB2.out.trans (b3Y.mono HB2.out.size)
      have TY := TN2.out.on b3Y
      have slY := TY.sl
      rw [← HML.out] at slY
      have litY : ∀ j u, [Value.slice xa NL xc, .slice ya SL yc][j]? = some u → Y.cell? ((⟨w3.heap.size, 0, none⟩ : Addr).add j) = some u := by rw [hY]; exact lit_row w3 _ _ _ _ rfl
      have okY : RowOk Y 1000000 ⟨.slice xa NL xc, .slice ya SL yc, ⟨q0.r.ls, oneS (rest.take n)⟩⟩ := ⟨by
          show Rd Y 2 (.slice xa NL xc) q0.r.ls.length (prc q0.r.ls)
          have := (Rd.of_sl sx).on bY0
          rw [← HNL.out]
          exact this, by
          show Rd Y 2 (.slice ya SL yc) (oneS (rest.take n)).length (spc (oneS (rest.take n)))
          rw [← HSS.out, ← hSLn]
          have := (Rd.of_sl sy).on bY0
          rw [← hSLn] at this
          exact this, by have := HNL.out; show q0.r.ls.length ≤ 1000; omega, by
          show (oneS (rest.take n)).length ≤ 1000000
          rw [← HSS.out]
          exact Nat.le_trans HSL.out HSB.out⟩
      have OKY := Lib.hid okY
      have oA := Lib.hid (show Off (.slice xa NL xc) q0.r.ls.length (.slice ta m tc) from off_gt (k0 := w2.heap.size) (fun k hk => (sx.lt k hk).1) (fun k hk => Nat.lt_of_lt_of_le (OB.out k hk) hbz2))
      have oB := Lib.hid (show Off (.slice ya SL yc) (oneS (rest.take n)).length (.slice ta m tc) from off_gt (k0 := w2.heap.size) (fun k hk => by
        rw [hSLn] at hk
        exact (sy.lt k hk).1) (fun k hk => Nat.lt_of_lt_of_le (OB.out k hk) hbz2))
      have YC := Lib.hid sy.capd
      have HY := Lib.hid hY; have TYH := Lib.hid TY; have BY := Lib.hid bY
      have zY := bY.size
      have DR := Lib.hid (fun (a' : Option Addr) (c' M : Nat) (hM : M = rest.length - n) (ha : 0 < M → a' = some ⟨g1, off1 + n * 2, none⟩) => HRQ.out.drop (n := n) (m := M) (c := c') (a := a') (l := rest) (by have := HRL.out; omega) hM ha) 
      rw [← hSLn]
      clear sx sy b3 bY0 b3Y bY TY okY hY hSLn ON
      go_wp2_with (at_builtin; rw [← HY.out]; refine wpList_append_sl _ rfl _ _ 24 rfl w1.heap.size 43 i0 (.agg #[.slice none 0 0, .slice none 0 0]) 2 48 Tryz.underlying24 Hi.out Hz.out Hs.out Hb.out rfl (by decide) _ m _ rfl slY ⟨w3.heap.size, 0, none⟩ 1 1 [.slice xa NL xc, .slice ya SL yc] rfl rfl litY (row_one _ _ _ _ _ _) (by unfold maxLen; omega) (by omega) zY ?_; intro v' w5 hx5; obtain ⟨a5, c5, rfl⟩ := hx5.now.slice)
      have hx7 : Ext w1.heap.size 2 Y (.slice ta m tc) m (rqc qs) w5 (.slice a5 (m + 1) c5) (m + 1) (rqc qs ++ [.slice xa NL xc, .slice ya SL yc]) := hx5
      have T8 := tab_push HML.out (by rw [HML.out]; exact TYH.out) hx7 OKY.out oA.out oB.out
      have hR := HRL.out
      refine ⟨⟨qs ++ [⟨.slice xa NL xc, .slice ya SL yc, ⟨q0.r.ls, oneS (rest.take n)⟩⟩], rest.drop n, Lib.hid (fun t ht => ?_), DR.out _ _ _ (by rw [← hR]) (fun hp => if_neg (by omega)), ⟨_, _, by rw [List.length_drop, ← hR], by rw [List.length_drop, ← hR]; omega⟩, by rw [List.length_drop]; omega, Lib.hid (fun q hq => HRM.out q (List.mem_of_mem_drop hq)), T8, Lib.hid (fun q hq => ?_), by rw [List.length_append, List.length_drop, ← HML.out, ← hR]; simp only [List.length_cons, List.length_nil]; omega, BY.out.trans (hx5.below (Nat.le_refl _) zY)⟩, by simp only [slLen]; omega⟩
      · have := HTB.out (⟨q0.r.ls, oneS (rest.take n)⟩ :: t) (Tbl.cons HAN.out HQ0.out ht)
        simpa [rws] using this
      · rcases List.mem_append.1 hq with hq | hq
        · exact HQC.out q hq
        · rw [List.mem_singleton] at hq
          subst hq
          show Capd (.slice ya SL yc) (oneS (rest.take n)).length
          rw [← HSS.out, HSN.out]
          exact YC.out
end Go.Proofs.YtfckgcckpfklaaaGreatDoor
