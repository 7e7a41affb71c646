/- Layer 25: an ask without matchers, of a table; Answers, walked. The statement LedgerAnswers, walked. -/
import Derived.Test.YtfckgcckpfklaaaGreatDoorMDGF
import Derived.Test.YtfckgcckpfklaaaGreatDoorMWO
namespace Go.Proofs.YtfckgcckpfklaaaGreatDoor
open Go.RowKit Go.Lib Hp
set_option linter.unusedVariables false

set_option maxRecDepth 100000 in
theorem match_nil (v : Value) (w : World) : Calls Tryz.prog 41 #[v, .slice none 0 0] w fun e w' => e = .returned (.bool true) ∧ w = w' := by
  go_enter Tryz.func41, Tryz.ntmps41
  go_wp2_with fail
  go_loopw [6, 9] (fun _ i' wr => i' = .int .i64 0 ∧ w = wr) (fun _ _ _ => 0)
  case atStart => exact ⟨rfl, rfl⟩
  case round =>
    obtain ⟨rfl, rfl⟩ := hrel
    go_wp2
    go_ret
    exact ⟨rfl, rfl⟩

set_option maxHeartbeats 4000000 in
set_option maxRecDepth 100000 in
theorem of_any (v : Value) (l : List Rw) (f t : Int) (K : Nat) (w : World) (h : TabR w K v l) (hm : l.length ≤ 1000) (hK : K ≤ 10000) :
    Calls Tryz.prog 21 #[.agg #[.int .i64 f, .int .i64 t, .slice none 0 0], v] w fun e w' => ∃ v', e = .returned v' ∧ TabC w' K v' (betw f t l) ∧ Below w.heap.size w w' := by
  obtain ⟨i0, hi, hz0, hz1, hz2⟩ := info_parts zc_mrow
  have Hz := Lib.hid hz0; have Hs := Lib.hid hz1; have Hb := Lib.hid hz2; have Hi := Lib.hid hi
  clear hz0 hz1 hz2 hi
  obtain ⟨-, qs0, hqs, ⟨_, a, cap, g, off, rfl, hg, hc⟩, hok⟩ := h
  obtain ⟨n, hn⟩ : ∃ n, n = l.length := ⟨_, rfl⟩
  rw [← hn] at hg hc hm ⊢
  have hq0 : qs0.length = n := by rw [hn, ← hqs, List.length_map]
  have HQ0 := Lib.hid hq0; have HC := Lib.hid hc; have HG := Lib.hid hg; have HOK := Lib.hid hok; have HQS := Lib.hid hqs
  have MN := Lib.hid (fun v W => match_nil v W)
  obtain ⟨V0, hV0⟩ : ∃ V0, V0 = w.alloc (.cells #[.int .i64 f, .int .i64 t, .slice none 0 0] 60) := ⟨_, rfl⟩
  have b0 : Below w.heap.size w V0 := by rw [hV0]; exact (Below.refl _ _).alloc (Nat.le_refl _) _
  have hb0 : V0.heap[w.heap.size]? = some (.cells #[.int .i64 f, .int .i64 t, .slice none 0 0] 60) := by rw [hV0]; exact heap_alloc_new w _
  have z0 := (Array.getElem?_eq_some_iff.1 hb0).1
  have ASK := Lib.hid (fun W (bb : Below V0.heap.size V0 W) => show W.cell? ⟨w.heap.size, 0, none⟩ = some (.int .i64 f) ∧ W.cell? ⟨w.heap.size, 1, none⟩ = some (.int .i64 t) ∧ W.cell? ⟨w.heap.size, 2, none⟩ = some (.slice none 0 0) from
    ⟨(bb.cell (p := ⟨w.heap.size, 0, none⟩) z0).trans (Lib.cell_of_heap hb0 0), (bb.cell (p := ⟨w.heap.size, 1, none⟩) z0).trans (Lib.cell_of_heap hb0 1), (bb.cell (p := ⟨w.heap.size, 2, none⟩) z0).trans (Lib.cell_of_heap hb0 2)⟩)
  have BV0 := Lib.hid b0
  clear hn hc hg hq0 hok hqs hb0 b0
  go_enter Tryz.func21, Tryz.ntmps21
  go_upto_region 2 with fail
  rw [← hV0]
  clear hV0
  obtain ⟨A, hA⟩ : ∃ A, A = w.heap.size := ⟨_, rfl⟩
  have HA := Lib.hid hA
  rw [← hA]
  rw [← hA] at ASK z0
  clear hA
  go_wp2_with fail
  go_loopw [5, 7, 10] (fun o' _ i' wr => ∃ (i : Nat) (qs : List Rq), i' = .int .i64 i ∧ i ≤ n ∧ Hid (rws qs = l.take i) ∧ Hid (qs.length = i) ∧ Hid (TabN wr V0.heap.size K o' qs) ∧ (∃ oa oc, o' = .slice oa i oc) ∧ Below V0.heap.size V0 wr) (fun _ _ i' _ => n - (intOf i').toNat)
  case atStart => exact ⟨0, [], rfl, by omega, Lib.hid rfl, Lib.hid rfl, Lib.hid ⟨Sl.nil _ _ _, fun q hq => absurd hq (by simp)⟩, ⟨_, _, rfl⟩, Below.refl _ _⟩
  case round =>
    obtain ⟨W0, rfl⟩ : ∃ W0, W0 = wr := ⟨_, rfl⟩
    obtain ⟨i, qs, rfl, hi, hrw, hql, htn, ⟨oa, oc, rfl⟩, hb⟩ := hrel
    have BB := Lib.hid hb
    have BW : Below w.heap.size w W0 := BV0.out.trans (hb.mono BV0.out.size)
    by_cases hlt : i < n
    · obtain ⟨rfl, hgl⟩ := HG.out (by omega)
      obtain ⟨⟨qa, qb, rl, rs⟩, hx⟩ : ∃ q, qs0[i]? = some q := ⟨qs0[i]'(by have := HQ0.out; omega), List.getElem?_eq_getElem (by have := HQ0.out; omega)⟩
      obtain ⟨v0, v1⟩ := rqc_at qs0 i _ hx
      have hli : l[i]? = some ⟨rl, rs⟩ := by rw [← HQS.out, List.getElem?_map, hx]; rfl
      have ok := HOK.out _ (List.mem_of_getElem? hx)
      have q0 := (BW.cell (p := ⟨g, off + i * 2, none⟩) hgl).trans ((HC.out (i * 2) (by omega)).trans v0)
      have q1 := (BW.cell (p := ⟨g, off + (i * 2 + 1), none⟩) hgl).trans ((HC.out (i * 2 + 1) (by omega)).trans v1)
      rw [← Nat.add_assoc] at q1
      obtain ⟨aa, ca, rfl⟩ : ∃ a c, qa = .slice a rl.length c := ok.l.slice
      obtain ⟨ab, cb, rfl⟩ : ∃ a c, qb = .slice a rs.length c := ok.s.slice
      simp only at q0 q1
      obtain ⟨V1, hV1⟩ : ∃ V1, V1 = W0.alloc (.cells #[.slice aa rl.length ca, .slice ab rs.length cb] 43) := ⟨_, rfl⟩
      have b1 : Below W0.heap.size W0 V1 := by rw [hV1]; exact (Below.refl _ _).alloc (Nat.le_refl _) _
      have hbx : V1.heap[W0.heap.size]? = some (.cells #[.slice aa rl.length ca, .slice ab rs.length cb] 43) := by rw [hV1]; exact heap_alloc_new W0 _
      obtain ⟨Y, hY⟩ : ∃ Y, Y = V1.alloc (.cells #[.slice aa rl.length ca, .slice ab rs.length cb] 43) := ⟨_, rfl⟩
      have bY : Below V1.heap.size V1 Y := by rw [hY]; exact (Below.refl _ _).alloc (Nat.le_refl _) _
      have hlit : Y.heap[V1.heap.size]? = some (.cells #[.slice aa rl.length ca, .slice ab rs.length cb] 43) := by rw [hY]; exact heap_alloc_new V1 _
      have B0Y : Below W0.heap.size W0 Y := b1.trans (bY.mono b1.size)
      have TY := htn.out.on B0Y
      have slY := TY.sl
      rw [hql.out] at slY
      have zb := hb.size
      have zY := B0Y.size
      have zw := BV0.out.size
      have LIT := Lib.hid (show ∀ j u, [Value.slice aa rl.length ca, .slice ab rs.length cb][j]? = some u → Y.cell? ((⟨V1.heap.size, 0, none⟩ : Addr).add j) = some u from fun j u hu => by
        rw [Addr.add_lit, Nat.zero_add, ← hu]
        exact (Lib.cell_of_heap hlit j).trans (by simp))
      have okY : RowOk Y K ⟨.slice aa rl.length ca, .slice ab rs.length cb, rl, rs⟩ := (ok.on BW).on B0Y
      have F1 := Lib.hid (fun (v' : Value) (w5 : World) (hx5 : Ext V0.heap.size 2 Y (.slice oa i oc) i (rqc qs) w5 v' (i + 1) (rqc qs ++ [.slice aa rl.length ca, .slice ab rs.length cb])) => show Hid (TabN w5 V0.heap.size K v' (qs ++ [⟨.slice aa rl.length ca, .slice ab rs.length cb, rl, rs⟩])) ∧ Below V0.heap.size V0 w5 from by
        have offs : ∀ (x : Value) (m : Nat) (ys : List Value), Rd w 2 x m ys → Off x m (.slice oa i oc) := fun x m ys hr hn k hk e => by
          obtain ⟨g', hg', hlt'⟩ := hr.own hn
          have : k = g' := Option.some.inj (hk.symm.trans hg')
          have := (htn.out.sl.lt k e).1
          omega
        refine ⟨Lib.hid (TY.push (q := ⟨.slice aa rl.length ca, .slice ab rs.length cb, rl, rs⟩) (by rw [hql.out]; exact hx5) okY (offs _ _ _ ok.l) (offs _ _ _ ok.s)), (hb.trans (B0Y.mono zb)).trans (hx5.below (Nat.le_refl _) (by omega))⟩)
      obtain ⟨m1, m2, m3⟩ := ASK.out V1 (hb.trans (b1.mono zb))
      have e0 := Lib.cell_of_heap hbx 0
      have e1 := Lib.cell_of_heap hbx 1
      have SL1 := Lib.hid slY
      have ZY := Lib.hid (show V0.heap.size ≤ Y.heap.size by omega)
      have STP := Lib.hid (show rws (qs ++ [(⟨.slice aa rl.length ca, .slice ab rs.length cb, rl, rs⟩ : Rq)]) = l.take (i + 1) from by
        have e := hrw.out
        rw [List.take_add_one, hli]
        unfold rws at e ⊢
        rw [List.map_append, e]
        rfl)
      have HQL := Lib.hid (show ∀ x : Rq, (qs ++ [x]).length = i + 1 from fun x => by rw [List.length_append, hql.out]; rfl)
      have n1 : i + 1 ≤ maxLen := by unfold maxLen; omega
      have n2 : (i + 1) * 48 ≤ 140737488355328 := by omega
      have HYY := Lib.hid hY
      clear hbx hlit b1 bY B0Y TY slY hx hli ok okY v0 v1 hY hb BW zb zY zw hrw hql htn
      go_upto_region 5 with fail
      rw [← hV1]
      clear hV1 q0 q1
      go_wp2_with fail
      refine (MN.out _ V1).mono ?_
      rintro e w3 ⟨rfl, rfl⟩
      go_upto_region 7 with (at_builtin; rw [← HYY.out]; refine wpList_append_sl _ rfl _ _ 24 rfl V0.heap.size 43 i0 (.agg #[.slice none 0 0, .slice none 0 0]) 2 48 Tryz.underlying24 Hi.out Hz.out Hs.out Hb.out rfl (by decide) _ i _ rfl SL1.out ⟨V1.heap.size, 0, none⟩ 1 1 [.slice aa rl.length ca, .slice ab rs.length cb] rfl rfl LIT.out (by simp [Value.oneCell']) n1 n2 ZY.out ?_; intro v' w5 hx5; obtain ⟨a5, c5, rfl⟩ := hx5.now.slice)
      obtain ⟨f1, f2⟩ := F1.out _ w5 hx5
      clear hx5
      go_wp2
      exact ⟨⟨i + 1, _, by go_num, by omega, STP, Lib.hid (HQL.out _), f1, ⟨_, _, rfl⟩, f2⟩, by simp [intOf]; omega⟩
    · obtain rfl : i = n := by omega
      have hfin : TabR W0 K (.slice oa i oc) l := by
        have h1 := htn.out.read (by rw [hql.out]; omega)
        have h2 : rws qs = l := by rw [hrw.out, List.take_of_length_le (by have := HQ0.out; rw [← HQS.out, List.length_map]; omega)]
        have h3 : qs.map Rq.r = l := h2
        rw [h3] at h1
        exact h1
      have BT := Lib.hid (between_any (.slice oa i oc) l f t K W0 hfin (by rw [← HQS.out, List.length_map]; have := HQ0.out; omega) hK)
      obtain ⟨m1, m2, m3⟩ := ASK.out W0 hb
      have BW' := Lib.hid BW
      clear hfin hrw hql htn hb BW
      go_wp2_with fail
      refine BT.out.mono ?_
      rintro e w9 ⟨v9, rfl, t9, b9⟩
      go_wp2
      go_ret
      exact ⟨_, rfl, t9, BW'.out.trans (b9.mono BW'.out.size)⟩

set_option maxHeartbeats 4000000 in
set_option maxRecDepth 100000 in
theorem answers_any (b B K K1 K2 : Nat) (sure low got : List Rw) (ps : List Pq) (f t : Int) (lv gv : Value) (w : World) (h : Led w b B K sure ps) (hl : TabR w K1 lv low) (hg : TabR w K2 gv got) (u : UpT got) (hn : sure.length + ps.length ≤ 1000) (hm : low.length ≤ 1000) (hK : K + ps.length ≤ 10000) (k1 : K1 ≤ 10000) (k2 : K2 ≤ 10000) :
    Calls Tryz.prog 20 #[.pointer (some ⟨b, 0, none⟩), .agg #[.int .i64 f, .int .i64 t, .slice none 0 0], lv, gv] w fun e w' => HoldsP (betw f t low) (betw f t (addF sure (pts ps))) got e ∧ Below w.heap.size w w' := by
  have MY := Lib.hid (fun W (bb : Below w.heap.size w W) => may_any b B K sure ps W (h.on bb) (by omega) (by omega))
  have OL := Lib.hid (fun W (bb : Below w.heap.size w W) => of_any lv low f t K1 W (hl.on bb) hm k1)
  have OM := Lib.hid (fun W (mv : Value) (T : List Rq) (B0 : Nat) (tt : TabO W B0 (K + ps.length) mv T) (et : rws T = addF sure (pts ps)) (lt : T.length ≤ sure.length + ps.length) => show Calls Tryz.prog 21 #[.agg #[.int .i64 f, .int .i64 t, .slice none 0 0], mv] W (fun e w' => ∃ v', e = .returned v' ∧ TabC w' (K + ps.length) v' (betw f t (addF sure (pts ps))) ∧ Below W.heap.size W w') from by
    rw [← et]
    exact of_any mv (rws T) f t (K + ps.length) W (tt.readF (by omega)).c.r (by rw [rws_len]; omega) hK)
  have HO := Lib.hid (fun W (av bv : Value) (bb : Below w.heap.size w W) (ta : TabR W K1 av (betw f t low)) (tb : TabR W (K + ps.length) bv (betw f t (addF sure (pts ps)))) (um : UpT (addF sure (pts ps))) => holds_any gv av bv got (betw f t low) (betw f t (addF sure (pts ps))) K2 K1 (K + ps.length) W (hg.on bb) ta tb u (betw_up f t um) k2 k1 hK)
  obtain ⟨la, lc, rfl⟩ := hl.form
  obtain ⟨ga, gc, rfl⟩ := hg.form
  obtain ⟨nl, hnl⟩ : ∃ n, n = low.length := ⟨_, rfl⟩
  obtain ⟨ng, hng⟩ : ∃ n, n = got.length := ⟨_, rfl⟩
  rw [← hnl] at OL
  rw [← hng] at HO
  rw [← hnl, ← hng]
  obtain ⟨V0, hV0⟩ : ∃ V0, V0 = w.alloc (.cells #[.int .i64 f, .int .i64 t, .slice none 0 0] 60) := ⟨_, rfl⟩
  have b0 : Below w.heap.size w V0 := by rw [hV0]; exact (Below.refl _ _).alloc (Nat.le_refl _) _
  have hb0 : V0.heap[w.heap.size]? = some (.cells #[.int .i64 f, .int .i64 t, .slice none 0 0] 60) := by rw [hV0]; exact heap_alloc_new w _
  have z0 := (Array.getElem?_eq_some_iff.1 hb0).1
  obtain ⟨A, hA⟩ : ∃ A, A = w.heap.size := ⟨_, rfl⟩
  have ASK := Lib.hid (fun W (bb : Below V0.heap.size V0 W) => show W.cell? ⟨A, 0, none⟩ = some (.int .i64 f) ∧ W.cell? ⟨A, 1, none⟩ = some (.int .i64 t) ∧ W.cell? ⟨A, 2, none⟩ = some (.slice none 0 0) from by
    rw [hA]
    exact ⟨(bb.cell (p := ⟨w.heap.size, 0, none⟩) z0).trans (Lib.cell_of_heap hb0 0), (bb.cell (p := ⟨w.heap.size, 1, none⟩) z0).trans (Lib.cell_of_heap hb0 1), (bb.cell (p := ⟨w.heap.size, 2, none⟩) z0).trans (Lib.cell_of_heap hb0 2)⟩)
  have BV := Lib.hid b0
  have HA := Lib.hid hA
  have z0' : A < V0.heap.size := by rw [hA]; exact z0
  clear h hl hg u hn hm hK k1 k2 hnl hng b0 hb0 z0
  go_enter Tryz.func20, Tryz.ntmps20
  go_upto_region 1 with fail
  rw [← hV0, ← hA]
  clear hV0 hA
  have kk := ASK.out V0 (Below.refl _ _)
  have B0 := (Below.refl V0.heap.size V0).drew
  go_region_held3 (fun W => W.cell? ⟨A, 0, none⟩ = some (.int .i64 f) ∧ W.cell? ⟨A, 1, none⟩ = some (.int .i64 t) ∧ W.cell? ⟨A, 2, none⟩ = some (.slice none 0 0))
    (first | with_reducible exact ASK.out _ B4 | with_reducible exact ASK.out _ B3 | with_reducible exact ASK.out _ B2 | with_reducible exact ASK.out _ B1 | exact kk | fail)
    (first
      | (go_at_call 17; ((with_reducible refine (MY.out _ (BV.out.trans (B1.mono BV.out.size))).mono ?_)); rintro e w2 ⟨v2, T, rfl, t2, e2, u2, l2, b2⟩; have B2 : Below V0.heap.size V0 w2 := B1.trans (b2.mono B1.size); have TA := Lib.hid (ta.on b2); have OM2 := Lib.hid (OM.out w2 v2 T _ t2 e2 l2); have UM := Lib.hid (show UpT (addF sure (pts ps)) by rw [← e2]; exact u2); clear t2 e2 u2 l2 ta)
      | (go_at_call 21; (first
          | ((with_reducible refine OM2.out.mono ?_); rintro e w3 ⟨v3, rfl, t3, b3⟩; have B3 : Below V0.heap.size V0 w3 := B2.trans (b3.mono B2.size); have HH := Lib.hid (HO.out w3 _ v3 (BV.out.trans (B3.mono BV.out.size)) (TA.out.on b3) t3.r UM.out))
          | ((with_reducible refine (OL.out _ (BV.out.trans (B0.mono BV.out.size))).mono ?_); rintro e w1 ⟨v1, rfl, t1, b1⟩; have B1 : Below V0.heap.size V0 w1 := B0.trans (b1.mono B0.size); have ta := t1.r; clear t1)))
      | (go_at_call 33; ((with_reducible refine HH.out.mono ?_)); rintro e w4 ⟨hc, b4⟩; have B4 : Below V0.heap.size V0 w4 := B3.trans (b4.mono B3.size); have HC := Lib.hid hc; obtain ⟨c, e4, _⟩ := hc; subst e4)
      | fail)
  go_wp2
  go_ret
  exact ⟨HC.out, BV.out.trans (B4.mono BV.out.size)⟩
end Go.Proofs.YtfckgcckpfklaaaGreatDoor

namespace Go.Proofs.YtfckgcckpfklaaaGreatDoor
open Go.RowKit Go.Lib Hp
set_option linter.unusedVariables false

theorem lookP_mem {ls : List Pr} {a : Int} {s : Sp} : ∀ {ps : List (List Pr × Sp)}, lookP ps ls a = some s → ∃ p ∈ ps, p.2.t = a
  | [], h => by cases h
  | p :: ps, h => by
    rw [lookP] at h
    split at h
    · rename_i e
      exact ⟨p, by simp, e.2⟩
    · obtain ⟨q, h1, h2⟩ := lookP_mem (by simpa using h)
      exact ⟨q, by simp [h1], h2⟩
theorem t1000_lt (t : Int) : t1000 t < 1000 := by
  unfold t1000
  exact Int.tmod_lt_of_pos _ (by decide)
theorem lookP_far (zs : List On) (ls : List Pr) : lookP (zs.map onP) ls 5000 = none := by
  cases h : lookP (zs.map onP) ls 5000 with
  | none => rfl
  | some s =>
    obtain ⟨p, hp, h1⟩ := lookP_mem h
    obtain ⟨z, _, rfl⟩ := List.mem_map.1 hp
    have := t1000_lt z.t
    simp only [onP] at h1
    omega
theorem within_betw {x y : List Rw} (f t : Int) (hu : UpT x) (h : WithinP x y) : WithinP (betw f t x) (betw f t y) := within_of (betw_up f t hu) fun ls a s hs => by
  rw [betw_look] at hs ⊢
  split at hs
  · rename_i c
    rw [if_pos c]
    exact within_look h hs
  · cases hs
/-- A table of one row of one sample, laid. -/
theorem TabR.one {w : World} {x : Value} {ls : List Pr} {s : Sp} {g g2 : Nat} (hx : Rd w 2 x ls.length (prc ls)) (hl : ls.length ≤ 1000) (h1 : w.heap[g]? = some (.cells #[.int .i64 s.t, .int .u64 s.v] 34)) (h2 : w.heap[g2]? = some (.cells #[x, .slice (some ⟨g, 0, none⟩) 1 1] 43)) :
    TabR w 1 (.slice (some ⟨g2, 0, none⟩) 1 1) [⟨ls, [s]⟩] := by
  refine ⟨by simp, [⟨x, .slice (some ⟨g, 0, none⟩) 1 1, ls, [s]⟩], rfl, ⟨rfl, _, 1, g2, 0, rfl, fun _ => ⟨rfl, (Array.getElem?_eq_some_iff.1 h2).1⟩, fun j hj => ?_⟩, fun q hq => ?_⟩
  · rw [Nat.zero_add]
    refine (Lib.cell_of_heap h2 j).trans ?_
    simp [rqc]
  · rw [List.mem_singleton] at hq
    subst hq
    refine ⟨hx, ⟨rfl, _, 1, g, 0, rfl, fun _ => ⟨rfl, (Array.getElem?_eq_some_iff.1 h1).1⟩, fun j hj => ?_⟩, hl, Nat.le_refl _⟩
    rw [Nat.zero_add]
    refine (Lib.cell_of_heap h1 j).trans ?_
    simp [spc]
theorem up_oneR (ls : List Pr) (s : Sp) : UpT [(⟨ls, [s]⟩ : Rw)] := ⟨List.pairwise_singleton _ _, fun r hr => by
  rw [List.mem_singleton] at hr
  subst hr
  exact List.pairwise_singleton _ _⟩

set_option maxHeartbeats 8000000 in
set_option maxRecDepth 100000 in
theorem lanswers_any (a0 : Option Addr) (len0 cap0 : Nat) (a1 : Option Addr) (len1 cap1 : Nat) (z0 z1 : List On) (f t zn zt zv : Int) (w : World) (h0 : OnR w a0 len0 z0) (h1 : OnR w a1 len1 z1) (hn0 : 0 ≤ zn) (hn1 : zn ≤ 255) :
    Calls Tryz.prog 5 #[.slice a0 len0 cap0, .slice a1 len1 cap1, .int .i64 f, .int .i64 t, .agg #[.int .u8 zn, .int .i64 zt, .int .u64 zv]] w fun e w' => e = .returned (.bool true) ∧ Below w.heap.size w w' := by
  have AW := Lib.hid (fun W => awake25_any W)
  have PO0 := Lib.hid (fun W (bb : Below w.heap.size w W) => points_any25 a0 len0 cap0 z0 W (h0.on bb))
  have PO1 := Lib.hid (fun W (bb : Below w.heap.size w W) => points_any25 a1 len1 cap1 z1 W (h1.on bb))
  obtain ⟨P0, hP0⟩ : ∃ P0, P0 = (z0.take 12).map onP := ⟨_, rfl⟩
  obtain ⟨P1, hP1⟩ : ∃ P1, P1 = (z1.take 12).map onP := ⟨_, rfl⟩
  have l0 : P0.length ≤ 12 := by rw [hP0, List.length_map, List.length_take]; omega
  have l1 : P1.length ≤ 12 := by rw [hP1, List.length_map, List.length_take]; omega
  rw [← hP0] at PO0
  rw [← hP1] at PO1
  obtain ⟨S, hS⟩ : ∃ S, S = addF [] P0 := ⟨_, rfl⟩
  obtain ⟨M, hM⟩ : ∃ M, M = addF S P1 := ⟨_, rfl⟩
  obtain ⟨us, ns, ls0⟩ : UpT S ∧ (∀ r ∈ S, r.ss ≠ []) ∧ ∀ ls a, lookT S ls a = lookP P0 ls a := by rw [hS]; exact addF_nil P0
  obtain ⟨um, nm, lm⟩ : UpT M ∧ (∀ r ∈ M, r.ss ≠ []) ∧ ∀ ls a, lookT M ls a = (lookT S ls a).or (lookP P1 ls a) := by rw [hM]; exact addF_look P1 S us ns
  have sl : S.length ≤ 12 := by rw [hS]; have := (addF_len0 P0).1; omega
  have hsm : WithinP S M := within_of us fun ls a s hs => by rw [lm, hs]; rfl
  have hfar : ¬ WithinP [(⟨labs zn, [⟨5000, zv⟩]⟩ : Rw)] (betw 0 9000 M) := fun h => by
    have h1 := h ⟨labs zn, [⟨5000, zv⟩]⟩ (List.mem_cons_self ..) ⟨5000, zv⟩ (List.mem_cons_self ..)
    rw [betw_look, if_pos (show (0 : Int) ≤ 5000 ∧ (5000 : Int) < 9000 by decide), lm, ls0, hP0, hP1, lookP_far, lookP_far] at h1
    cases h1
  have HBS := Lib.hid (within_betw f t us hsm)
  have HSS := Lib.hid (within_self (betw_up f t us)); have HMM := Lib.hid (within_self (betw_up f t um))
  have HFAR := Lib.hid hfar
  have UBS := Lib.hid (betw_up f t us); have UBM := Lib.hid (betw_up f t um)
  have HS := Lib.hid hS; have HM := Lib.hid hM
  have hLL := labs_len zn
  have LB := Lib.hid (fun W => labels14_any zn W hn0 hn1)
  obtain ⟨V0, hV0⟩ : ∃ V0, V0 = w.alloc (.cells #[.int .u8 zn, .int .i64 zt, .int .u64 zv] 57) := ⟨_, rfl⟩
  have b0 : Below w.heap.size w V0 := by rw [hV0]; exact (Below.refl _ _).alloc (Nat.le_refl _) _
  have hb0 : V0.heap[w.heap.size]? = some (.cells #[.int .u8 zn, .int .i64 zt, .int .u64 zv] 57) := by rw [hV0]; exact heap_alloc_new w _
  have zz0 := (Array.getElem?_eq_some_iff.1 hb0).1
  have BX := Lib.hid hb0
  have BV := Lib.hid b0
  have BA := Lib.hid (fun (W : World) (o : Obj) => (Below.refl W.heap.size W).alloc (Nat.le_refl _) o)
  clear h0 h1 hP0 hP1 us ns ls0 um nm lm hsm hfar hS hM b0 hb0
  go_enter Tryz.func5, Tryz.ntmps5
  go_upto_region 1 with fail
  rw [← hV0]
  clear hV0
  go_wp2_with fail
  refine (AW.out V0).mono ?_
  rintro e w1 ⟨rfl, b1⟩
  obtain ⟨V2, hV2⟩ : ∃ V2, V2 = w1.alloc (.cells #[.slice none 0 0, .slice none 0 0] 27) := ⟨_, rfl⟩
  have bV2 : Below w1.heap.size w1 V2 := by rw [hV2]; exact (Below.refl _ _).alloc (Nat.le_refl _) _
  have hl2 : V2.heap[w1.heap.size]? = some (.cells #[.slice none 0 0, .slice none 0 0] 27) := by rw [hV2]; exact heap_alloc_new w1 _
  have zl2 := (Array.getElem?_eq_some_iff.1 hl2).1
  have zw1 : V0.heap.size ≤ w1.heap.size := b1.size
  have B02 : Below V0.heap.size V0 V2 := b1.trans (bV2.mono b1.size)
  have HL2 := Lib.hid hl2
  obtain ⟨b, hb⟩ : ∃ b, b = w1.heap.size := ⟨_, rfl⟩
  obtain ⟨mb, hmb⟩ : ∃ mb, mb = w.heap.size := ⟨_, rfl⟩
  have BB2 := Lib.hid B02
  have D2 := Lib.hid (BV.out.trans (B02.mono BV.out.size))
  have BX2 := Lib.hid (show V2.heap[mb]? = some (.cells #[.int .u8 zn, .int .i64 zt, .int .u64 zv] 57) from by rw [hmb]; exact (B02.block _ zz0).trans BX.out)
  have hmbb : mb < b := by omega
  have hwb : w.heap.size ≤ mb := by omega
  have hwl : w.heap.size ≤ b := by omega
  rw [← hb] at HL2 zl2
  clear bV2 hl2 b1 B02 BX BB2
  go_upto_region 4 with fail
  rw [← hV2, ← hb, ← hmb]
  clear hV2 hb hmb zw1 zz0
  go_wp2_with fail
  refine (PO0.out _ D2.out).mono ?_
  rintro e w3 ⟨pv, ptv, qs0, rfl, op0, hq0, b3⟩
  have D3 := Lib.hid (D2.out.trans (b3.mono D2.out.size))
  have hb3 := (b3.block b zl2).trans HL2.out
  have DN := Lib.hid (done_any b 100 pv qs0 w3 hb3 op0.ptsF.1 (by have := congrArg List.length hq0; unfold pts at this; rw [List.length_map] at this; omega) (by have := congrArg List.length hq0; unfold pts at this; rw [List.length_map] at this; omega))
  rw [hq0, ← HS.out] at DN
  have BX3 := Lib.hid ((b3.block mb (by omega)).trans BX2.out)
  obtain ⟨pva, pvc, rfl⟩ := op0.sl.slice
  obtain ⟨nq0, hnq0⟩ : ∃ n, n = qs0.length := ⟨_, rfl⟩
  rw [← hnq0] at DN ⊢
  have z3 := b3.size
  clear op0 hq0 b3 hb3 PO0 D2 BX2 HL2 hnq0
  go_wp2_with fail
  refine DN.out.mono ?_
  rintro e w4 ⟨rfl, L4, ho4, T4⟩
  have D4 := Lib.hid (D3.out.trans (T4.below D3.out.size (fun k hk => by omega)))
  have BX4 := Lib.hid ((T4.block mb (by omega) (by omega)).trans BX3.out)
  have SU := Lib.hid (sure_any b (b + 1) 100 S [] w4 L4 (by decide))
  have L4' := Lib.hid L4; have HO4 := Lib.hid ho4
  have z4 := T4.size
  clear L4 ho4 T4 DN D3 BX3
  go_wp2_with fail
  refine SU.out.mono ?_
  rintro e w5 ⟨lv, TL, rfl, tl, el, b5⟩
  have hTL : TL.length ≤ 12 := by have := rws_len TL; rw [el] at this; omega
  have LOW5 := Lib.hid (show TabF w5 (b + 1) 100 lv S from by rw [← el]; exact (tl.readF (by omega)).mono (by omega) (Nat.le_refl _))
  have L5 := Lib.hid (L4'.out.on b5); have HO5 := Lib.hid (show ∃ sv, w5.heap[b]? = some (.cells #[sv, .slice none 0 0] 27) from by
    obtain ⟨sv, h⟩ := HO4.out
    exact ⟨sv, (b5.block b (by omega)).trans h⟩)
  have D5 := Lib.hid (D4.out.trans (b5.mono D4.out.size))
  have BX5 := Lib.hid ((b5.block mb (by omega)).trans BX4.out)
  obtain ⟨la, lc, rfl⟩ := LOW5.out.c.form
  obtain ⟨nl, hnl⟩ : ∃ n, n = S.length := ⟨_, rfl⟩
  rw [← hnl] at LOW5 ⊢
  have z5 := b5.size
  clear tl el b5 SU L4' HO4 D4 BX4 hTL hnl
  go_wp2_with fail
  refine (PO1.out _ D5.out).mono ?_
  rintro e w6 ⟨qv, qtv, qs1, rfl, op1, hq1, b6⟩
  have D6 := Lib.hid (D5.out.trans (b6.mono D5.out.size))
  have hq1l : qs1.length ≤ 12 := by have := congrArg List.length hq1; unfold pts at this; rw [List.length_map] at this; omega
  have L6 := L5.out.on b6
  have TR := Lib.hid (tried_any b (b + 1) 100 S qv qs1 w6 L6 (by
    obtain ⟨sv, h⟩ := HO5.out
    exact ⟨sv, (b6.block b (by omega)).trans h⟩) (op1.ptsF.mono (by omega)) (by omega))
  rw [hq1] at TR
  have LOW6 := Lib.hid (LOW5.out.on b6)
  have BX6 := Lib.hid ((b6.block mb (by omega)).trans BX5.out)
  obtain ⟨qva, qvc, rfl⟩ := op1.sl.slice
  obtain ⟨nq1, hnq1⟩ : ∃ n, n = qs1.length := ⟨_, rfl⟩
  rw [← hnq1]
  rw [← hnq1] at TR
  have z6 := b6.size
  clear op1 hq1 b6 PO1 D5 L5 L6 HO5 LOW5 BX5 hnq1
  go_wp2_with fail
  refine TR.out.mono ?_
  rintro e w7 ⟨qs, rfl, L7, hqs, T7⟩
  have D7 := Lib.hid (D6.out.trans (T7.below D6.out.size (fun k hk => by omega)))
  have LOW7 := Lib.hid ((LOW6.out.turn T7 (fun k hk => by omega)).c.r)
  have BX7 := Lib.hid ((T7.block mb (by omega) (by omega)).trans BX6.out)
  have hqsl : qs.length ≤ 12 := by have := congrArg List.length hqs; unfold pts at this; rw [List.length_map] at this; omega
  have L7' := Lib.hid L7
  have HQS := Lib.hid (show addF S (pts qs) = M by rw [hqs, HM.out])
  have z7 := T7.size
  clear L7 hqs T7 TR D6 LOW6 BX6
  obtain ⟨V8, hV8⟩ : ∃ V8, V8 = w7.alloc (.cells #[.int .i64 f, .int .i64 t, .slice none 0 0] 60) := ⟨_, rfl⟩
  have b78 : Below w7.heap.size w7 V8 := by rw [hV8]; exact (Below.refl _ _).alloc (Nat.le_refl _) _
  have hk8 : V8.heap[w7.heap.size]? = some (.cells #[.int .i64 f, .int .i64 t, .slice none 0 0] 60) := by rw [hV8]; exact heap_alloc_new w7 _
  have zk8 := (Array.getElem?_eq_some_iff.1 hk8).1
  obtain ⟨kb, hkb⟩ : ∃ kb, kb = w7.heap.size := ⟨_, rfl⟩
  have ASK := Lib.hid (fun W (bb : Below V8.heap.size V8 W) => show W.cell? ⟨kb, 0, none⟩ = some (.int .i64 f) ∧ W.cell? ⟨kb, 1, none⟩ = some (.int .i64 t) ∧ W.cell? ⟨kb, 2, none⟩ = some (.slice none 0 0) from by
    rw [hkb]
    exact ⟨(bb.cell (p := ⟨w7.heap.size, 0, none⟩) zk8).trans (Lib.cell_of_heap hk8 0), (bb.cell (p := ⟨w7.heap.size, 1, none⟩) zk8).trans (Lib.cell_of_heap hk8 1), (bb.cell (p := ⟨w7.heap.size, 2, none⟩) zk8).trans (Lib.cell_of_heap hk8 2)⟩)
  have D8 := Lib.hid (D7.out.trans (b78.mono D7.out.size))
  have L8 := Lib.hid (L7'.out.on b78); have LOW8 := Lib.hid (LOW7.out.on b78)
  have BX8 := Lib.hid ((b78.block mb (by omega)).trans BX7.out)
  have OL := Lib.hid (fun W (bb : Below V8.heap.size V8 W) => of_any (.slice la nl lc) S f t 100 W (LOW8.out.on bb) (by omega) (by decide))
  have AN1 := Lib.hid (fun W gv (bb : Below V8.heap.size V8 W) (tg : TabC W 100 gv (betw f t S)) => show Calls Tryz.prog 20 #[.pointer (some ⟨b, 0, none⟩), .agg #[.int .i64 f, .int .i64 t, .slice none 0 0], .slice la nl lc, gv] W (fun e w' => e = .returned (.int .i64 0) ∧ Below W.heap.size W w') from by
    refine (answers_any b (b + 1) 100 100 100 S S (betw f t S) qs f t _ gv W (L8.out.on bb) (LOW8.out.on bb) tg.r UBS.out (by omega) (by omega) (by omega) (by decide) (by decide)).mono ?_
    rintro e w' ⟨⟨c, rfl, hc, _⟩, b'⟩
    rw [HQS.out] at hc
    exact ⟨by rw [hc.2 ⟨HSS.out, HBS.out⟩], b'⟩)
  have MY := Lib.hid (fun W (bb : Below V8.heap.size V8 W) => may_any b (b + 1) 100 S qs W (L8.out.on bb) (by omega) (by omega))
  have OM := Lib.hid (fun W (mv : Value) (T : List Rq) (B0 : Nat) (tt : TabO W B0 (100 + qs.length) mv T) (et : rws T = addF S (pts qs)) (lt : T.length ≤ S.length + qs.length) => show Calls Tryz.prog 21 #[.agg #[.int .i64 f, .int .i64 t, .slice none 0 0], mv] W (fun e w' => ∃ v', e = .returned v' ∧ TabC w' 200 v' (betw f t M) ∧ Below W.heap.size W w') from by
    rw [HQS.out] at et
    refine (of_any mv (rws T) f t 200 W ((tt.mono (by omega)).readF (by omega)).c.r (by rw [rws_len]; omega) (by decide)).mono ?_
    rintro e w' ⟨v', rfl, t', b'⟩
    rw [et] at t'
    exact ⟨v', rfl, t', b'⟩)
  have AN2 := Lib.hid (fun W gv (bb : Below V8.heap.size V8 W) (tg : TabC W 200 gv (betw f t M)) => show Calls Tryz.prog 20 #[.pointer (some ⟨b, 0, none⟩), .agg #[.int .i64 f, .int .i64 t, .slice none 0 0], .slice la nl lc, gv] W (fun e w' => e = .returned (.int .i64 0) ∧ Below W.heap.size W w') from by
    refine (answers_any b (b + 1) 100 100 200 S S (betw f t M) qs f t _ gv W (L8.out.on bb) (LOW8.out.on bb) tg.r UBM.out (by omega) (by omega) (by omega) (by decide) (by decide)).mono ?_
    rintro e w' ⟨⟨c, rfl, hc, _⟩, b'⟩
    rw [HQS.out] at hc
    exact ⟨by rw [hc.2 ⟨HBS.out, HMM.out⟩], b'⟩)
  have AN3 := Lib.hid (fun W gv (bb : Below V8.heap.size V8 W) (tg : TabR W 1 gv [⟨labs zn, [⟨5000, zv⟩]⟩]) => show Calls Tryz.prog 20 #[.pointer (some ⟨b, 0, none⟩), .agg #[.int .i64 0, .int .i64 9000, .slice none 0 0], .slice none 0 0, gv] W (fun e w' => e = .returned (.int .i64 6) ∧ Below W.heap.size W w') from by
    refine (answers_any b (b + 1) 100 0 1 S [] [⟨labs zn, [⟨5000, zv⟩]⟩] qs 0 9000 _ gv W (L8.out.on bb) (TabC.empty W 0).r tg (up_oneR _ _) (by omega) (by simp) (by omega) (by decide) (by decide)).mono ?_
    rintro e w' ⟨⟨c, rfl, _, _, hc⟩, b'⟩
    rw [HQS.out] at hc
    exact ⟨by rw [hc (fun r hr => absurd hr (by simp [betw])) HFAR.out], b'⟩)
  have kk := ASK.out V8 (Below.refl _ _)
  clear b78 hk8 D7 L7' LOW7 BX7
  go_upto_region 10 with fail
  rw [← hV8, ← hkb]
  clear hV8 hkb
  have B0 := (Below.refl V8.heap.size V8).drew
  go_region_held3 (fun W => W.cell? ⟨kb, 0, none⟩ = some (.int .i64 f) ∧ W.cell? ⟨kb, 1, none⟩ = some (.int .i64 t) ∧ W.cell? ⟨kb, 2, none⟩ = some (.slice none 0 0))
    (first | with_reducible exact ASK.out _ B13 | with_reducible exact ASK.out _ B12 | with_reducible exact ASK.out _ B11 | with_reducible exact ASK.out _ B10 | with_reducible exact ASK.out _ B9 | exact kk | fail)
    (first
      | (go_at_call 21; (first
          | ((with_reducible refine OM2.out.mono ?_); rintro e w12 ⟨v12, rfl, t12, b12⟩; have B12 : Below V8.heap.size V8 w12 := B11.trans (b12.mono B11.size); have A2 := Lib.hid (AN2.out w12 v12 B12 t12); clear t12 b12)
          | ((with_reducible refine (OL.out _ B0).mono ?_); rintro e w9 ⟨v9, rfl, t9, b9⟩; have B9 : Below V8.heap.size V8 w9 := B0.trans (b9.mono B0.size); have A1 := Lib.hid (AN1.out w9 v9 B9 t9); clear t9 b9)))
      | (go_at_call 20; (first
          | ((with_reducible refine A2.out.mono ?_); rintro e w13 ⟨rfl, b13⟩; have B13 : Below V8.heap.size V8 w13 := B12.trans (b13.mono B12.size); clear b13)
          | ((with_reducible refine A1.out.mono ?_); rintro e w10 ⟨rfl, b10⟩; have B10 : Below V8.heap.size V8 w10 := B9.trans (b10.mono B9.size); clear b10)))
      | (go_at_call 17; ((with_reducible refine (MY.out _ B10).mono ?_)); rintro e w11 ⟨v11, T11, rfl, t11, e11, u11, l11, b11⟩; have B11 : Below V8.heap.size V8 w11 := B10.trans (b11.mono B10.size); have OM2 := Lib.hid (OM.out w11 v11 T11 _ t11 e11 l11); clear t11 e11 u11 l11 b11)
      | fail)
  have D13 := Lib.hid (D8.out.trans (B13.mono D8.out.size))
  have z13 := B13.size
  obtain ⟨V14, hV14⟩ : ∃ V14, V14 = w13.alloc (.cells #[.int .i64 5000, .int .u64 zv] 34) := ⟨_, rfl⟩
  have b14 : Below w13.heap.size w13 V14 := by rw [hV14]; exact (Below.refl _ _).alloc (Nat.le_refl _) _
  have hs14 : V14.heap[w13.heap.size]? = some (.cells #[.int .i64 5000, .int .u64 zv] 34) := by rw [hV14]; exact heap_alloc_new w13 _
  have zs14 := (Array.getElem?_eq_some_iff.1 hs14).1
  have hm13 := (B13.block mb (by omega)).trans BX8.out
  have hm14 := (b14.block mb (by omega)).trans hm13
  have zm14 := (Array.getElem?_eq_some_iff.1 hm14).1
  obtain ⟨sb, hsb⟩ : ∃ sb, sb = w13.heap.size := ⟨_, rfl⟩
  have KX := Lib.hid (fun W (bb : Below V14.heap.size V14 W) => show W.cell? ⟨mb, 0, none⟩ = some (.int .u8 zn) ∧ W.cell? ⟨sb, 0, none⟩ = some (.int .i64 5000) ∧ W.cell? ⟨sb, 1, none⟩ = some (.int .u64 zv) from by
    rw [hsb]
    exact ⟨(bb.cell (p := ⟨mb, 0, none⟩) zm14).trans (Lib.cell_of_heap hm14 0), (bb.cell (p := ⟨w13.heap.size, 0, none⟩) zs14).trans (Lib.cell_of_heap hs14 0), (bb.cell (p := ⟨w13.heap.size, 1, none⟩) zs14).trans (Lib.cell_of_heap hs14 1)⟩)
  have B814 : Below V8.heap.size V8 V14 := B13.trans (b14.mono z13)
  have G3 := Lib.hid (fun (W : World) (x : Value) (g : Nat) (bb : Below V14.heap.size V14 W) (hx : Rd W 2 x (labs zn).length (prc (labs zn))) (hg : W.heap[g]? = some (.cells #[.int .i64 5000, .int .u64 zv] 34)) => show Calls Tryz.prog 20 #[.pointer (some ⟨b, 0, none⟩), .agg #[.int .i64 0, .int .i64 9000, .slice none 0 0], .slice none 0 0, .slice (some ⟨W.heap.size, 0, none⟩) 1 1] (W.alloc (.cells #[x, .slice (some ⟨g, 0, none⟩) 1 1] 43)) (fun e w' => e = .returned (.int .i64 6) ∧ Below V14.heap.size V14 w') from by
    have ba : Below W.heap.size W (W.alloc (.cells #[x, .slice (some ⟨g, 0, none⟩) 1 1] 43)) := (Below.refl _ _).alloc (Nat.le_refl _) _
    have b8 := (B814.trans (bb.mono B814.size)).trans (ba.mono (Nat.le_trans B814.size bb.size))
    refine (AN3.out _ _ b8 (TabR.one (g := g) (g2 := W.heap.size) (s := ⟨5000, zv⟩) (hx.on ba) (by omega) ((ba.block g (Array.getElem?_eq_some_iff.1 hg).1).trans hg) (heap_alloc_new W _))).mono ?_
    rintro e w' ⟨rfl, b'⟩
    exact ⟨rfl, (bb.trans (ba.mono bb.size)).trans (b'.mono (Nat.le_trans bb.size ba.size))⟩)
  have BS := Lib.hid b14
  have m2 := Lib.cell_of_heap hm13 2
  have k14 := KX.out V14 (Below.refl _ _)
  have BD : Below V14.heap.size V14 V14.drew := (Below.refl V14.heap.size V14).drew
  have BL : Below V14.heap.size V14 (V14.alloc (.cells #[.int .i64 5000, .int .u64 zv] 34)).drew := ((Below.refl V14.heap.size V14).alloc (Nat.le_refl _) _).drew
  have hlit14 : (V14.alloc (.cells #[.int .i64 5000, .int .u64 zv] 34)).drew.heap[V14.heap.size]? = some (.cells #[.int .i64 5000, .int .u64 zv] 34) := heap_alloc_new V14 _
  have HL14 := Lib.hid hlit14
  have FIN := Lib.hid (fun w' (bb : Below V14.heap.size V14 w') => show Below w.heap.size w w' from (D13.out.trans (BS.out.mono D13.out.size)).trans (bb.mono (Nat.le_trans D13.out.size BS.out.size)))
  clear hs14 hm13 hm14 B814 b14 hlit14 OL AN1 MY OM AN2 AN3 ASK OM2 A1 A2 B9 B10 B11 B12 B13 B0 kk
  go_upto_region 13 with fail
  rw [← hV14, ← hsb]
  clear hV14 hsb m2
  go_region_held3 (fun W => W.cell? ⟨mb, 0, none⟩ = some (.int .u8 zn) ∧ W.cell? ⟨sb, 0, none⟩ = some (.int .i64 5000) ∧ W.cell? ⟨sb, 1, none⟩ = some (.int .u64 zv))
    (first | with_reducible exact KX.out _ B16 | with_reducible exact KX.out _ ((B15.alloc B15.size _).alloc (B15.alloc B15.size _).size _) | with_reducible exact KX.out _ (B15.alloc B15.size _) | with_reducible exact KX.out _ B15 | with_reducible exact KX.out _ BL | exact k14 | exact KX.out _ BL | fail)
    (first
      | (go_at_call 22; ((with_reducible refine (LB.out _).mono ?_)); rintro e w15 ⟨x, rfl, sx, b15⟩; obtain ⟨xa, xc, ex⟩ := sx.slice; subst ex; first
          | (have B15 : Below V14.heap.size V14 w15 := BD.trans (b15.mono BD.size); have RX := Lib.hid ((Rd.of_sl sx).on ((Below.refl w15.heap.size w15).alloc (Nat.le_refl _) (.cells #[.int .i64 5000, .int .u64 zv] 34))); have A3 := Lib.hid (G3.out _ (.slice xa (labs zn).length xc) w15.heap.size (B15.alloc B15.size (.cells #[.int .i64 5000, .int .u64 zv] 34)) RX.out (heap_alloc_new w15 _)); rw [show (w15.alloc (.cells #[.int .i64 5000, .int .u64 zv] 34)).heap.size = w15.heap.size + 1 by simp] at A3; clear sx b15)
          | (have B15 : Below V14.heap.size V14 w15 := BL.trans (b15.mono BL.size); have A3 := Lib.hid (G3.out w15 (.slice xa (labs zn).length xc) V14.heap.size B15 (Rd.of_sl sx) ((b15.block _ (Array.getElem?_eq_some_iff.1 HL14.out).1).trans HL14.out)); clear sx b15))
      | (go_at_call 20; ((with_reducible refine A3.out.mono ?_)); rintro e w16 ⟨rfl, B16⟩)
      | fail)
  all_goals
    go_wp2
    go_ret
    exact ⟨rfl, FIN.out _ B16⟩
end Go.Proofs.YtfckgcckpfklaaaGreatDoor
