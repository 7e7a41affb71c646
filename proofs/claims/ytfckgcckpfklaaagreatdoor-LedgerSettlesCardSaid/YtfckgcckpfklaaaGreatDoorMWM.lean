/- Layer 14: Good, the program's, walked. Layer 14: the document's Good, walked. Layer 14: a table whose rows are put elsewhere, whose samples are replaced. -/
import Derived.Test.YtfckgcckpfklaaaGreatDoorMWL
import Derived.Test.YtfckgcckpfklaaaGreatDoorMWF
import Derived.Deep.RegionHeld3
import Derived.Test.YtfckgcckpfklaaaGreatDoorMRd
namespace Go.Proofs.YtfckgcckpfklaaaGreatDoor
open Go.RowKit Go.Lib Hp
set_option linter.unusedVariables false

set_option maxHeartbeats 4000000 in
set_option maxRecDepth 100000 in
theorem good_any (v : Value) (rows : List Rw) (K : Nat) (w : World) (h : TabR w K v rows) (hm : rows.length ≤ 100000) (hK : K ≤ 100000) :
    Calls Tryz.prog 55 #[v] w fun e w' => Ans (GoodI rows) e ∧ Below w.heap.size w w' := by
  obtain ⟨-, qs, hqs, hrd, hok⟩ := h
  have hl : rows.length = qs.length := by rw [← hqs, List.length_map]
  rw [hl] at hrd hm
  have RR := Lib.hid (fun W (bb : Below w.heap.size w W) => rises_R v qs W ⟨hrd.on bb, fun q hq => ((hok q hq).mono hK).on bb⟩ (by omega))
  obtain ⟨_, a, cap, g, off, rfl, hg, hc⟩ := hrd
  obtain ⟨n, hn⟩ : ∃ n, n = qs.length := ⟨_, rfl⟩
  have HN := Lib.hid hn
  have HC := Lib.hid hc
  have HG := Lib.hid hg
  have HOK := Lib.hid hok
  have HRW := Lib.hid (show rws qs = rows from hqs)
  rw [← hn] at hm HG RR
  rw [← hn]
  clear hn hc hg hok hqs hl
  go_enter Tryz.func55, Tryz.ntmps55
  go_wp2_with fail
  go_loopw [4, 7] (fun _ i' wr => ∃ (i : Nat), i' = .int .i64 i ∧ i ≤ n ∧ Hid (∀ j q, j < i → qs[j]? = some q → UpI q.r.ss) ∧ Below w.heap.size w wr) (fun _ i' _ => n - (RowKit.intOf i').toNat)
  case atStart => exact ⟨0, rfl, by omega, Lib.hid (fun j q hj => absurd hj (Nat.not_lt_zero _)), Below.refl _ _⟩
  case round =>
    obtain ⟨W0, rfl⟩ : ∃ W0, W0 = wr := ⟨_, rfl⟩
    obtain ⟨i, rfl, hi, hof, hb⟩ := hrel
    have HB := Lib.hid hb
    have HOF := Lib.hid hof.out
    clear hof
    by_cases hlt : i < n
    · obtain ⟨rfl, hgl⟩ := HG.out (by omega)
      obtain ⟨⟨qa, qb, r⟩, hq⟩ : ∃ q, qs[i]? = some q := ⟨qs[i]'(by have := HN.out; omega), List.getElem?_eq_getElem (by have := HN.out; omega)⟩
      obtain ⟨v0, v1⟩ := rqc_at qs i _ hq
      have ok := HOK.out _ (List.mem_of_getElem? hq)
      have q0 := (hb.cell (p := ⟨g, off + i * 2, none⟩) hgl).trans ((HC.out (i * 2) (by have := HN.out; omega)).trans v0)
      have q1 := (hb.cell (p := ⟨g, off + (i * 2 + 1), none⟩) hgl).trans ((HC.out (i * 2 + 1) (by have := HN.out; omega)).trans v1)
      rw [← Nat.add_assoc] at q1
      simp only at q0 q1
      obtain ⟨aa, ca, ea⟩ := ok.l.slice
      obtain ⟨ab, cb', eb⟩ := ok.s.slice
      simp only at ea eb
      subst ea eb
      obtain ⟨V1, hV1⟩ : ∃ V1, V1 = W0.alloc (.cells #[.slice aa r.ls.length ca, .slice ab r.ss.length cb'] 43) := ⟨_, rfl⟩
      have b1 : Below W0.heap.size W0 V1 := by rw [hV1]; exact (Below.refl _ _).alloc (Nat.le_refl _) _
      have hx1 : V1.heap[W0.heap.size]? = some (.cells #[.slice aa r.ls.length ca, .slice ab r.ss.length cb'] 43) := by rw [hV1]; exact heap_alloc_new W0 _
      have hc1 := Lib.cell_of_heap hx1 1
      simp at hc1
      have hss := ok.hs
      simp only at hss
      have RS := Lib.hid (rises_S (.slice ab r.ss.length cb') r.ss V1 ((ok.s.on hb).on b1) (by omega))
      have B1 := Lib.hid (hb.trans (b1.mono hb.size))
      obtain ⟨NL, hNL⟩ : ∃ NL, NL = r.ls.length := ⟨_, rfl⟩
      obtain ⟨NS, hNS⟩ : ∃ NS, NS = r.ss.length := ⟨_, rfl⟩
      rw [← hNL] at q0 hV1
      rw [← hNS] at q1 hV1 hc1 RS
      have hil : (i : Int) < n := by omega
      have HNO := Lib.hid (show ¬ UpI r.ss → ¬ GoodI rows from fun h hg => h (hg.1 r (by rw [← HRW.out]; exact List.mem_map.2 ⟨_, List.mem_of_getElem? hq, rfl⟩)))
      have HOF2 := Lib.hid (show UpI r.ss → ∀ j q, j < i + 1 → qs[j]? = some q → UpI q.r.ss from fun h j q hj hjq => by
        by_cases hji : j = i
        · subst hji
          rw [hq] at hjq
          obtain rfl := Option.some.inj hjq
          exact h
        · exact HOF.out j q (by omega) hjq)
      clear hq v0 v1 ok hb hx1 b1 hss hNL hNS
      go_upto_region 4 with fail
      rw [← hV1]
      clear hV1 q0 q1
      go_wp2_with fail
      refine RS.out.mono ?_
      rintro e w2 ⟨⟨b, rfl, hbi⟩, b2⟩
      have HBI := Lib.hid hbi
      have B2 := Lib.hid (B1.out.trans (b2.mono B1.out.size))
      clear hbi b2 RS
      cases b
      case' false =>
        have FIN := Lib.hid (HNO.out (fun h => by have := HBI.out.2 h; cases this))
        clear HNO HOF2 HBI
        go_wp2
        go_ret
        exact ⟨Ans.no FIN.out, B2.out⟩
      case' true =>
        have h1 := Lib.hid (HOF2.out (HBI.out.1 rfl))
        clear HNO HOF2 HBI
        go_wp2
        exact ⟨⟨i + 1, by simp, by omega, h1, B2.out⟩, by simp [RowKit.intOf]; omega⟩
    · have hil : ¬ (i : Int) < n := by omega
      have RC := Lib.hid (RR.out W0 hb)
      have HUP := Lib.hid (show ∀ r ∈ rows, UpI r.ss from fun r hr => by
        rw [← HRW.out] at hr
        obtain ⟨q, hq, rfl⟩ := List.mem_map.1 hr
        obtain ⟨j, hj, rfl⟩ := List.mem_iff_getElem.1 hq
        exact HOF.out j _ (by have := HN.out; omega) (List.getElem?_eq_getElem hj))
      clear hb RR
      go_wp2_with fail
      refine RC.out.mono ?_
      rintro e w2 ⟨⟨b, rfl, hbi⟩, b2⟩
      have FIN := Lib.hid (show Ans (GoodI rows) (.returned (.bool b)) from ⟨b, rfl, hbi.trans (by rw [HRW.out]; exact ⟨fun h => ⟨HUP.out, h⟩, fun h => h.2⟩)⟩)
      clear hbi
      go_wp2
      go_ret
      exact ⟨FIN.out, HB.out.trans (b2.mono HB.out.size)⟩
end Go.Proofs.YtfckgcckpfklaaaGreatDoor

namespace Go.Proofs.YtfckgcckpfklaaaGreatDoor
open Go.RowKit Go.Lib Hp
set_option linter.unusedVariables false

theorem upI_no {l : List Sp} {k : Nat} {x y : Sp} (hy : l[k]? = some y) (hx : l[k + 1]? = some x) (h : x.t ≤ y.t) : ¬ UpI l := fun hu => by
  have := hu k y x hy hx
  omega

end Go.Proofs.YtfckgcckpfklaaaGreatDoor

namespace Go.Proofs.YtfckgcckpfklaaaGreatDoor
open Go.RowKit Go.Lib
set_option linter.unusedVariables false

section
variable {P : Program}
theorem step_append_rd {ops : Array Oper} {o : Oper} {a : Act} {w : World} {K : Act → World → Prop} {Q : Exit → Act → World → Prop} {E : Prop} (hgd : o.guard = none) (s x : Operand) (t : TypeId)
    (ho : o.op = .call { callee := .builtin .append, args := #[s, x], argTypes := #[t, t] })
    (base : Nat) (e : TypeId) (i : TypeInfo) (z : Value) (size bytes : Nat) (ht : P.underlying t = some (.slice e)) (hi : P.info? e = some i) (hz : i.zero = some z)
    (hsize : i.size = size) (hby : i.bytes = bytes) (hzs : z.cells.size = size) (hsz : 0 < size)
    (v : Value) (n : Nat) (xs : List Value) (hs : a.eval s = v) (hown : Sl w base size v n xs)
    (xv : Value) (m : Nat) (news : List Value) (hx : a.eval x = xv) (hnew : Rd w size xv m news) (h1 : ∀ u ∈ news, u.oneCell' = true)
    (h63 : n + m ≤ maxLen) (hbytes : (n + m) * bytes ≤ 140737488355328) (hbase : base ≤ w.heap.size)
    (h : ∀ v' w', Ext base size w v n xs w' v' (n + m) (xs ++ news) → K (a.put o.dst v') w') :
    if Region.wanted o (yielded ops a.tmps) = true then Oper.wp P o a w K Q else E := by
  obtain ⟨hl, ax, cap, g, off, rfl, hg, hc⟩ := hnew
  cases ax with
  | none =>
    have hm : m = 0 := by
      rcases Nat.eq_zero_or_pos m with h0 | h0
      · exact h0
      · have := (hg h0).1; cases this
    subst hm
    have hn : news = [] := List.eq_nil_of_length_eq_zero (by omega)
    subst hn
    have hw : Region.wanted o (yielded ops a.tmps) = true := by simp [Region.wanted, hgd]
    rw [if_pos hw]
    have hr := run_append_none_rd (P := P) w base cap t o.type e i size ht hi v n xs hown
    unfold Oper.wp execOp
    simp only [ho, resolve, invoke, builtin, Sem.run_bind, Sem.run_pure, Result.andThen_ok, List.map_toArray, List.map_cons, List.map_nil, hs, hx, hr]
    have := h v w
    rw [Nat.add_zero, List.append_nil] at this
    exact this (Ext.refl hown)
  | some ad =>
    refine step_append_slB hgd s x t ho base e i z size bytes ht hi hz hsize hby hzs hsz v n xs hs hown ad m cap news hx hl (fun j u hu => ?_) h1 h63 hbytes hbase h
    have hj : j < news.length := (List.getElem?_eq_some_iff.1 hu).1
    have hm : 0 < m := by
      rcases Nat.eq_zero_or_pos m with h0 | h0
      · subst h0; simp at hl; rw [hl] at hj; simp at hj
      · exact h0
    obtain ⟨he, _⟩ := hg hm
    obtain rfl : ad = ⟨g, off, none⟩ := Option.some.inj he
    rw [Addr.add_lit, hc j (by omega), hu]

theorem Sl.emp {wc : World} {base size g : Nat} (hb : base ≤ g) (hg : g < wc.heap.size) : Sl wc base size (.slice (some ⟨g, 0, none⟩) 0 0) 0 [] :=
  ⟨by simp, .inr ⟨g, 0, 0, rfl, hb, hg, Nat.le_refl _, by unfold maxLen; omega, fun j hj => by omega, fun j hj => by omega⟩⟩

theorem step_app1 {ops : Array Oper} {o : Oper} {a : Act} {wc : World} {K : Act → World → Prop} {Q : Exit → Act → World → Prop} {E : Prop} (W : World) (s x : Operand) (t : TypeId) (hgd : o.guard = none)
    (ho : o.op = .call { callee := .builtin .append, args := #[s, x], argTypes := #[t, t] })
    (e : TypeId) (i : TypeInfo) (z : Value) (size bytes : Nat) (ht : P.underlying t = some (.slice e)) (hi : P.info? e = some i) (hz : i.zero = some z)
    (hsize : i.size = size) (hby : i.bytes = bytes) (hzs : z.cells.size = size) (hsz : 0 < size)
    (g0 : Nat) (hv : a.eval s = .slice (some ⟨g0, 0, none⟩) 0 0) (hg : W.heap.size ≤ g0) (hg2 : g0 < wc.heap.size)
    (xv : Value) (hxv : a.eval x = xv) (m : Nat) (news : List Value) (hnew : Rd W size xv m news) (h1 : ∀ u ∈ news, u.oneCell' = true) (h63 : m ≤ maxLen) (hbytes : m * bytes ≤ 140737488355328)
    (hb : Below W.heap.size W wc)
    (h : ∀ v5 w5, Sl w5 W.heap.size size v5 m news → Below W.heap.size W w5 → (∀ k ob, wc.heap[k]? = some ob → k ≠ g0 → w5.heap[k]? = some ob) → K (a.put o.dst v5) w5) :
    if Region.wanted o (yielded ops a.tmps) = true then Oper.wp P o a wc K Q else E := by
  refine step_append_rd hgd s x t ho W.heap.size e i z size bytes ht hi hz hsize hby hzs hsz _ 0 [] hv (Sl.emp hg hg2) xv m news hxv (hnew.on hb) h1 (by omega) (by rw [Nat.zero_add]; exact hbytes) hb.size fun v' w' hx => ?_
  have n1 := hx.now
  rw [Nat.zero_add, List.nil_append] at n1
  refine h v' w' n1 (hb.trans (hx.below (Nat.le_refl _) hb.size)) fun k ob hk hne => ?_
  have hkl : k < wc.heap.size := (Array.getElem?_eq_some_iff.1 hk).1
  exact (hx.grown.block k hkl (fun e => hne (Option.some.inj e))).trans hk

theorem step_app2 {ops : Array Oper} {o : Oper} {a : Act} {wc : World} {K : Act → World → Prop} {Q : Exit → Act → World → Prop} {E : Prop} (W : World) (s x : Operand) (t : TypeId) (hgd : o.guard = none)
    (ho : o.op = .call { callee := .builtin .append, args := #[s, x], argTypes := #[t, t] })
    (e : TypeId) (i : TypeInfo) (z : Value) (size bytes : Nat) (ht : P.underlying t = some (.slice e)) (hi : P.info? e = some i) (hz : i.zero = some z)
    (hsize : i.size = size) (hby : i.bytes = bytes) (hzs : z.cells.size = size) (hsz : 0 < size)
    (v : Value) (hv : a.eval s = v) (n : Nat) (xs : List Value) (hs : Sl wc W.heap.size size v n xs)
    (g1 : Nat) (hx : a.eval x = .slice (some ⟨g1, 0, none⟩) 1 1) (cs : Array Value) (T : TypeId) (hl : wc.heap[g1]? = some (.cells cs T)) (hcs : cs.size = size) (h1 : ∀ u ∈ cs.toList, u.oneCell' = true)
    (h63 : n + 1 ≤ maxLen) (hbytes : (n + 1) * bytes ≤ 140737488355328) (hb : Below W.heap.size W wc)
    (h : ∀ v6 w6, Sl w6 W.heap.size size v6 (n + 1) (xs ++ cs.toList) → Below W.heap.size W w6 → K (a.put o.dst v6) w6) :
    if Region.wanted o (yielded ops a.tmps) = true then Oper.wp P o a wc K Q else E := by
  refine step_append_slB hgd s x t ho W.heap.size e i z size bytes ht hi hz hsize hby hzs hsz v n xs hv hs ⟨g1, 0, none⟩ 1 1 cs.toList hx (by rw [Nat.one_mul, Array.length_toList]; exact hcs) (fun j u hu => ?_) h1 h63 hbytes hb.size fun v' w' hx' => h v' w' hx'.now (hb.trans (hx'.below (Nat.le_refl _) hb.size))
  rw [Addr.add_lit, Nat.zero_add]
  have := Lib.cell_of_heap hl j
  rw [this, ← hu]
  simp
end

theorem Rd.setOff {w : World} {size n : Nat} {v : Value} {xs : List Value} (h : Rd w size v n xs) (g o : Nat) (u : Value) (ho : 0 < n → v.ownBlock ≠ some g) : Rd (w.setCell ⟨g, o, none⟩ u) size v n xs := by
  obtain ⟨h0, a, cap, g', off, hv, h1, h2⟩ := h
  refine ⟨h0, a, cap, g', off, hv, fun hn => ⟨(h1 hn).1, by simpa [World.setCell] using (h1 hn).2⟩, fun j hj => ?_⟩
  have hn : 0 < n := by
    rcases Nat.eq_zero_or_pos n with h | h
    · subst h; rw [Nat.zero_mul] at hj; exact absurd hj (Nat.not_lt_zero _)
    · exact h
  have hne : g' ≠ g := fun e => ho hn (by rw [hv, (h1 hn).1, e]; rfl)
  rw [cell_setCell_other _ _ _ _ _ (.inl hne)]
  exact h2 j hj
theorem sl_setG {w : World} {base size g off n cap : Nat} {xs : List Value} (h : Sl w base size (.slice (some ⟨g, off, none⟩) n cap) n xs) (k : Nat) (x : Value) : Sl (w.setCell ⟨g, off + k, none⟩ x) base size (.slice (some ⟨g, off, none⟩) n cap) n (xs.set k x) := by
  have hl := h.1
  rcases h.2 with ⟨h0, _⟩ | ⟨g', off', cap', he, hb, hg, hnc, hcm, hfree, hcell⟩
  · cases h0
  · cases he
    have hle : n * size ≤ cap * size := Nat.mul_le_mul_right _ hnc
    refine ⟨by rw [List.length_set]; exact hl, .inr ⟨g, off, cap, rfl, hb, by simpa [World.setCell] using hg, hnc, hcm, fun j hj => ⟨?_, ?_⟩, fun j hj => ?_⟩⟩
    · by_cases hjk : j = k
      · subst hjk
        rw [cell_setCell_same _ _ _ _ (hfree j hj).1]; rfl
      · rw [cell_setCell_other _ _ _ _ _ (.inr (by simp only; omega))]; exact (hfree j hj).1
    · rw [frozen_setCell]; exact (hfree j hj).2
    · rw [List.getElem?_set]
      by_cases hjk : k = j
      · subst hjk
        rw [if_pos rfl, if_pos (by omega), cell_setCell_same _ _ _ _ (hfree k (by omega)).1]
      · rw [if_neg hjk, cell_setCell_other _ _ _ _ _ (.inr (by simp only; omega)), hcell j hj]
theorem rqc_set : ∀ (l : List Rq) (i : Nat) (q q' : Rq), l[i]? = some q → q'.a = q.a → rqc (l.set i q') = (rqc l).set (i * 2 + 1) q'.b
  | [], i, q, q', h, _ => by simp at h
  | x :: l, 0, q, q', h, e => by
    simp only [List.getElem?_cons_zero, Option.some.injEq] at h
    subst h
    show [q'.a, q'.b] ++ rqc l = ([x.a, x.b] ++ rqc l).set 1 q'.b
    rw [e]; rfl
  | x :: l, i + 1, q, q', h, e => by
    have ih := rqc_set l i q q' (by simpa using h) e
    show [x.a, x.b] ++ rqc (l.set i q') = ([x.a, x.b] ++ rqc l).set ((i + 1) * 2 + 1) q'.b
    rw [ih, show (i + 1) * 2 + 1 = i * 2 + 1 + 1 + 1 by omega]; rfl
theorem TabN.mono {w : World} {base K K' : Nat} {v : Value} {qs : List Rq} (h : TabN w base K v qs) (hk : K ≤ K') : TabN w base K' v qs :=
  ⟨h.sl, fun q hq => ⟨⟨(h.ok q hq).1.l, (h.ok q hq).1.s, (h.ok q hq).1.hl, Nat.le_trans (h.ok q hq).1.hs hk⟩, (h.ok q hq).2⟩⟩
/-- The same rows in another order, in memory of their own. -/
theorem TabN.turn {W w6 : World} {base K : Nat} {v v6 : Value} {qs qs2 : List Rq} (h : TabN W base K v qs) (hb : base ≤ W.heap.size) (hs : Sl w6 W.heap.size 2 v6 qs2.length (rqc qs2)) (b6 : Below W.heap.size W w6) (hm : ∀ q ∈ qs2, q ∈ qs) : TabN w6 base K v6 qs2 := by
  refine ⟨hs.mono hb, fun q hq => ?_⟩
  have ok := (h.ok q (hm q hq)).1
  have far : ∀ k, v6.ownBlock = some k → W.heap.size ≤ k := fun k hk => (hs.lt k hk).1
  refine ⟨ok.on b6, fun hn k hk e => ?_, fun hn k hk e => ?_⟩
  · obtain ⟨g, hg, hlt⟩ := ok.l.own hn
    have := far k e
    have : k = g := Option.some.inj (hk.symm.trans hg)
    omega
  · obtain ⟨g, hg, hlt⟩ := ok.s.own hn
    have := far k e
    have : k = g := Option.some.inj (hk.symm.trans hg)
    omega
/-- One row's samples are replaced by new ones. -/
theorem TabN.store {W w6 : World} {base K g off n cap i : Nat} {v6 : Value} {qs : List Rq} {q : Rq} {s : Sp} (h : TabN W base K (.slice (some ⟨g, off, none⟩) n cap) qs) (hn : n = qs.length) (hq : qs[i]? = some q)
    (s6 : Sl w6 W.heap.size 2 v6 (q.r.ss.length + 1) (spc q.r.ss ++ [.int .i64 s.t, .int .u64 s.v])) (b6 : Below W.heap.size W w6) :
    TabN (w6.setCell ⟨g, off + (i * 2 + 1), none⟩ v6) base (K + 1) (.slice (some ⟨g, off, none⟩) n cap) (qs.set i ⟨q.a, v6, ⟨q.r.ls, q.r.ss ++ [s]⟩⟩) := by
  subst hn
  have hgl := (h.sl.lt g rfl).2
  refine ⟨?_, fun p hp => ?_⟩
  · rw [List.length_set, rqc_set qs i q ⟨q.a, v6, ⟨q.r.ls, q.r.ss ++ [s]⟩⟩ hq rfl]
    exact sl_setG (h.sl.on b6) _ _
  · rcases List.mem_or_eq_of_mem_set hp with hp | rfl
    · obtain ⟨ok, o1, o2⟩ := h.ok p hp
      have ok6 := ok.on b6
      exact ⟨⟨ok6.l.setOff _ _ _ (fun hn e => o1 hn g e rfl), ok6.s.setOff _ _ _ (fun hn e => o2 hn g e rfl), ok6.hl, by have := ok6.hs; omega⟩, o1, o2⟩
    · obtain ⟨ok, o1, o2⟩ := h.ok q (List.mem_of_getElem? hq)
      have ok6 := ok.on b6
      have far : ∀ k, v6.ownBlock = some k → W.heap.size ≤ k := fun k hk => (s6.lt k hk).1
      have es : spc q.r.ss ++ [.int .i64 s.t, .int .u64 s.v] = spc (q.r.ss ++ [s]) := by simp [spc]
      rw [es] at s6
      have r6 := Rd.of_sl s6
      refine ⟨⟨ok6.l.setOff _ _ _ (fun hn e => o1 hn g e rfl), ?_, ok6.hl, ?_⟩, o1, ?_⟩
      · show Rd _ 2 v6 (q.r.ss ++ [s]).length (spc (q.r.ss ++ [s]))
        rw [List.length_append]
        exact r6.setOff _ _ _ (fun hn e => by have := far g e; omega)
      · show (q.r.ss ++ [s]).length ≤ K + 1
        rw [List.length_append]
        have := ok6.hs
        simp only [List.length_cons, List.length_nil]; omega
      · intro hn k hk e
        have h1 := far k hk
        have : g = k := Option.some.inj e
        omega
end Go.Proofs.YtfckgcckpfklaaaGreatDoor
