/- Layer 25: the statements' points, a list of them, walked. -/
import Derived.Test.YtfckgcckpfklaaaGreatDoorMDGC
import Derived.Test.YtfckgcckpfklaaaGreatDoorMWF
namespace Go.Proofs.YtfckgcckpfklaaaGreatDoor
open Go.RowKit Go.Lib Hp
set_option linter.unusedVariables false

theorem zc_pt24 : (Tryz.prog.info? 67).map (fun i => (i.zero, i.size, i.bytes)) = some (some (.agg #[.slice none 0 0, .int .i64 0, .int .u64 0]), 3, 40) := by kernel_rfl
theorem OpN.same {w w' : World} {B : Nat} {v : Value} {qs : List Pq} (h : OpN w B v qs) (hz : w.heap.size ≤ w'.heap.size) (hk : ∀ k, (v.ownBlock = some k ∨ ∃ p ∈ qs, p.a.ownBlock = some k) → k < w.heap.size → w'.heap[k]? = w.heap[k]?) : OpN w' B v qs :=
  ⟨h.sl.same hz fun k e => hk k (.inl e) (h.sl.lt k e).2, fun p hp => ⟨(h.ok p hp).1.same hz fun k e hlt => hk k (.inr ⟨p, hp, e⟩) hlt, (h.ok p hp).2⟩⟩
/-- Two lists side by side: the points, and the document's. -/
structure PtT (w : World) (B : Nat) (ov tv : Value) (n : Nat) (qs : List Pq) : Prop where
  o : OpN w B ov qs
  t : ∃ xs, Sl w B 3 tv n xs
  ne : ∀ k, tv.ownBlock = some k → ov.ownBlock ≠ some k ∧ ∀ p ∈ qs, p.a.ownBlock ≠ some k
  lt : ∀ p ∈ qs, ∀ k, p.a.ownBlock = some k → k < w.heap.size
theorem PtT.on {w w' : World} {B n : Nat} {ov tv : Value} {qs : List Pq} (h : PtT w B ov tv n qs) (b : Below w.heap.size w w') : PtT w' B ov tv n qs := by
  obtain ⟨xs, hx⟩ := h.t
  exact ⟨h.o.on b, ⟨xs, hx.on b⟩, h.ne, fun p hp k hk => Nat.lt_of_lt_of_le (h.lt p hp k hk) b.size⟩
theorem rdOwn {w : World} {size n : Nat} {v : Value} {xs : List Value} (h : Sl w 0 size v n xs) : ∀ k, v.ownBlock = some k → k < w.heap.size := fun k hk => (h.lt k hk).2
/-- A point more in the first list. -/
theorem PtT.push {w w' : World} {B n B2 : Nat} {ov tv v' : Value} {qs : List Pq} {q : Pq} (h : PtT w B ov tv n qs) (hx : Ext B 3 w ov qs.length (pqc qs) w' v' (qs.length + 1) (pqc qs ++ [q.a, .int .i64 q.s.t, .int .u64 q.s.v])) (hq : Sl w B2 2 q.a q.ls.length (prc q.ls)) (hl : q.ls.length ≤ 1000) (hB : B ≤ B2)
    (hf : ∀ k, q.a.ownBlock = some k → ov.ownBlock ≠ some k ∧ tv.ownBlock ≠ some k) : PtT w' B v' tv n (qs ++ [q]) := by
  obtain ⟨xs, hxs⟩ := h.t
  refine ⟨h.o.push hx (Rd.of_sl hq) hl (fun k hk => Nat.le_trans hB (hq.lt k hk).1) (fun hn k hk => (hf k hk).1), ⟨xs, hxs.same hx.grown.size fun k hk => hx.grown.block k (hxs.lt k hk).2 fun e => (h.ne k hk).1 e.symm⟩, fun k hk => ⟨fun e => ?_, fun p hp => ?_⟩, fun p hp k hk => ?_⟩
  · rcases hx.alias with ⟨a, cap, h1, h2, _⟩ | h1
    · exact (h.ne k hk).1 (by rw [h1]; rw [h2] at e; cases a <;> exact e)
    · have := h1 k e
      have := (hxs.lt k hk).2
      omega
  · rcases List.mem_append.1 hp with hp | hp
    · exact (h.ne k hk).2 p hp
    · rw [List.mem_singleton] at hp
      subst hp
      exact fun e => (hf k e).2 hk
  · have hz := hx.grown.size
    rcases List.mem_append.1 hp with hp | hp
    · have := h.lt p hp k hk; omega
    · rw [List.mem_singleton] at hp
      subst hp
      have := (hq.lt k hk).2; omega
/-- One more in the second. -/
theorem PtT.told {w w' : World} {B n : Nat} {ov tv v' : Value} {qs : List Pq} {xs ys : List Value} (h : PtT w B ov tv n qs) (hx : Ext B 3 w tv n xs w' v' (n + 1) ys) : PtT w' B ov v' (n + 1) qs := by
  have hd := h.lt
  refine ⟨h.o.same hx.grown.size fun k hk hlt => hx.grown.block k hlt fun e => ?_, ⟨ys, hx.now⟩, fun k hk => ?_, fun p hp k hk => Nat.lt_of_lt_of_le (hd p hp k hk) hx.grown.size⟩
  · rcases hk with hk | ⟨p, hp, hk⟩
    · exact (h.ne k e.symm).1 hk
    · exact (h.ne k e.symm).2 p hp hk
  · rcases hx.alias with ⟨a, cap, h1, h2, _⟩ | h1
    · refine h.ne k ?_
      rw [h1]
      rw [h2] at hk
      cases a <;> exact hk
    · have hge := h1 k hk
      exact ⟨fun e => by have := (h.o.sl.lt k e).2; omega, fun p hp e => by have := hd p hp k e; omega⟩

/-- Points come, and the document's. -/
def PtsE (w : World) (Z : List (List Pr × Sp)) (e : Ending) (w' : World) : Prop := ∃ pv tv qs, e = .returned (.tuple #[pv, tv]) ∧ OpN w' w.heap.size pv qs ∧ pts qs = Z ∧ Below w.heap.size w w'
set_option maxHeartbeats 4000000 in
set_option maxRecDepth 100000 in
theorem points_any25 (a : Option Addr) (len cap : Nat) (zs : List On) (w : World) (h : OnR w a len zs) :
    Calls Tryz.prog 7 #[.slice a len cap] w (PtsE w ((zs.take 12).map onP)) := by
  obtain ⟨i0, hi, hz0, hz1, hz2⟩ := info_parts zc_pnt
  have Hz := Lib.hid hz0; have Hs := Lib.hid hz1; have Hb := Lib.hid hz2; have Hi := Lib.hid hi
  clear hz0 hz1 hz2 hi
  obtain ⟨i1, hi, hz0, hz1, hz2⟩ := info_parts zc_pt24
  have Gz := Lib.hid hz0; have Gs := Lib.hid hz1; have Gb := Lib.hid hz2; have Gi := Lib.hid hi
  clear hz0 hz1 hz2 hi
  obtain ⟨hl, hm, hat, hrng⟩ := h
  unfold maxLen at hm
  obtain ⟨N, hN⟩ : ∃ N, N = (zs.take 12).length := ⟨_, rfl⟩
  have hNl : N = min len 12 := by
    have h1 : (zs.take 12).length = min 12 zs.length := List.length_take
    rw [hN, h1, hl]
    simp only [Nat.min_def]
    split <;> split <;> (try split) <;> omega
  have HN := Lib.hid hN
  have HA := Lib.hid hat
  have HR := Lib.hid hrng
  have HZL := Lib.hid hl
  have hN1 : N ≤ len := by omega
  have hN2 : N ≤ 12 := by omega
  have hN3 : len ≤ N ∨ 12 ≤ N := by omega
  have P0 : PtT ((w.alloc (.cells #[] 38)).alloc (.cells #[] 67)) w.heap.size (.slice (some ⟨w.heap.size, 0, none⟩) 0 0) (.slice (some ⟨w.heap.size + 1, 0, none⟩) 0 0) 0 [] := by
    refine ⟨⟨?_, fun p hp => absurd hp (by simp)⟩, ⟨[], ?_⟩, fun k hk => ⟨fun e => ?_, fun p hp => absurd hp (by simp)⟩, fun p hp => absurd hp (by simp)⟩
    · exact (Sl.lit w w.heap.size 3 0 #[] _ (Nat.le_refl _) (by decide) rfl).alloc _
    · have := Sl.lit (w.alloc (.cells #[] 38)) w.heap.size 3 0 #[] 67 (by simp) (by decide) rfl
      simpa using this
    · have h1 : w.heap.size + 1 = k := Option.some.inj hk
      have h2 : w.heap.size = k := Option.some.inj e
      omega
  have BA : Below w.heap.size w ((w.alloc (.cells #[] 38)).alloc (.cells #[] 67)) := ((Below.refl _ _).alloc (Nat.le_refl _) _).alloc (by simp) _
  clear hl hat hrng hN hNl
  obtain ⟨Z, hZ⟩ : ∃ Z, Z = (zs.take 12).map onP := ⟨_, rfl⟩
  rw [← hZ]
  have HZ := Lib.hid hZ
  clear hZ
  go_enter Tryz.func7, Tryz.ntmps7
  go_wp2_with fail
  go_loopw [4, 5, 6, 7, 8, 21] (fun o' t' i' _ _ _ wr => ∃ (i : Nat) (qs : List Pq), i' = .int .i64 i ∧ i ≤ N ∧ Hid (pts qs = (zs.take i).map onP) ∧ Hid (qs.length = i) ∧ Hid (PtT wr w.heap.size o' t' i qs) ∧ (∃ oa oc, o' = .slice oa i oc) ∧ (∃ ta tc, t' = .slice ta i tc) ∧ Below w.heap.size w wr) (fun _ _ i' _ _ _ _ => N - (intOf i').toNat)
  case atStart => exact ⟨0, [], rfl, by omega, Lib.hid rfl, Lib.hid rfl, Lib.hid P0, ⟨_, _, rfl⟩, ⟨_, _, rfl⟩, BA⟩
  case round =>
    clear P0 BA
    obtain ⟨W0, rfl⟩ : ∃ W0, W0 = wr := ⟨_, rfl⟩
    obtain ⟨i, qs, rfl, hi, hps, hql, hpt, ⟨oa, oc, rfl⟩, ⟨ta, tc, rfl⟩, hb⟩ := hrel
    by_cases hlt : i < N
    · obtain ⟨g, off, rfl, hgl, hcell⟩ := HA.out (by omega)
      have hiz : i < zs.length := by have := HN.out; rw [List.length_take] at this; omega
      obtain ⟨⟨zn, zt, zv⟩, hz⟩ : ∃ z, zs[i]? = some z := ⟨zs[i]'hiz, List.getElem?_eq_getElem hiz⟩
      obtain ⟨⟨hn0, hn1⟩, ht0, ht1⟩ := HR.out _ (List.mem_of_getElem? hz)
      obtain ⟨c0, c1, c2⟩ := hcell i _ hz
      have q0 := (hb.cell (p := ⟨g, off + i * 3, none⟩) hgl).trans c0
      have q1 := (hb.cell (p := ⟨g, off + i * 3 + 1, none⟩) hgl).trans c1
      have q2 := (hb.cell (p := ⟨g, off + i * 3 + 2, none⟩) hgl).trans c2
      simp only at q0 q1 q2 hn0 hn1
      have PT := Lib.hid (point_any zn zt zv W0 hn0 hn1)
      have STEP := Lib.hid (show ∀ x, pts (qs ++ [(⟨x, labs zn, ⟨t1000 zt, zv⟩⟩ : Pq)]) = (zs.take (i + 1)).map onP from fun x => by
        have e := hps.out
        rw [List.take_add_one, hz]
        unfold pts at e ⊢
        rw [List.map_append, e]
        simp [onP])
      have hLL := labs_len zn
      obtain ⟨LS, hLS⟩ : ∃ LS, LS = labs zn := ⟨_, rfl⟩
      obtain ⟨T, hT⟩ : ∃ T, T = t1000 zt := ⟨_, rfl⟩
      rw [← hLS, ← hT] at PT STEP
      rw [← hLS] at hLL
      have hil : (i : Int) < len := by omega
      have hi12 : (i : Int) < 12 := by omega
      have BW := Lib.hid hb
      have n1 : i + 1 ≤ maxLen := by unfold maxLen; omega
      have n2 : (i + 1) * 40 ≤ 140737488355328 := by omega
      clear c0 c1 c2 hz hLS hT ht0 ht1 hb hcell hps
      go_wp2_with fail
      refine PT.out.mono ?_
      rintro e w2 ⟨a3, c3, a4, c4, rfl, s3, b2⟩
      obtain ⟨V2, hV2⟩ : ∃ V2, V2 = (w2.alloc (.cells #[.slice a3 LS.length c3, .int .i64 T, .int .u64 zv] 38)).alloc (.cells #[.slice a4 LS.length c4, .int .i64 T, .int .u64 zv] 67) := ⟨_, rfl⟩
      have b22 : Below w2.heap.size w2 V2 := by rw [hV2]; exact ((Below.refl _ _).alloc (Nat.le_refl _) _).alloc (by simp) _
      have hbx1 : V2.heap[w2.heap.size]? = some (.cells #[.slice a3 LS.length c3, .int .i64 T, .int .u64 zv] 38) := by
        rw [hV2, heap_alloc_old _ _ (by simp)]
        exact heap_alloc_new w2 _
      have hbx2 : V2.heap[w2.heap.size + 1]? = some (.cells #[.slice a4 LS.length c4, .int .i64 T, .int .u64 zv] 67) := by
        rw [hV2]
        have := heap_alloc_new (w2.alloc (.cells #[.slice a3 LS.length c3, .int .i64 T, .int .u64 zv] 38)) (.cells #[.slice a4 LS.length c4, .int .i64 T, .int .u64 zv] 67)
        simpa using this
      obtain ⟨Y1, hY1⟩ : ∃ Y1, Y1 = V2.alloc (.cells #[.slice a3 LS.length c3, .int .i64 T, .int .u64 zv] 38) := ⟨_, rfl⟩
      have bY1 : Below V2.heap.size V2 Y1 := by rw [hY1]; exact (Below.refl _ _).alloc (Nat.le_refl _) _
      have hl1 : Y1.heap[V2.heap.size]? = some (.cells #[.slice a3 LS.length c3, .int .i64 T, .int .u64 zv] 38) := by rw [hY1]; exact heap_alloc_new V2 _
      have zz2 := b2.size
      have zz22 := b22.size
      have zzY := bY1.size
      have B2Y : Below w2.heap.size w2 Y1 := b22.trans (bY1.mono zz22)
      have zw := BW.out.size
      have PT1 := (hpt.out.on b2).on B2Y
      have sl1 := PT1.o.sl
      rw [hql.out] at sl1
      have litc : ∀ (W : World) (g : Nat) (x y z : Value) (t : TypeId), W.heap[g]? = some (.cells #[x, y, z] t) → ∀ j u, [x, y, z][j]? = some u → W.cell? ((⟨g, 0, none⟩ : Addr).add j) = some u := fun W g x y z t h j u hu => by
        rw [Addr.add_lit, Nat.zero_add, ← hu]
        exact (Lib.cell_of_heap h j).trans (by simp)
      have LIT1 := Lib.hid (litc Y1 _ _ _ _ _ hl1)
      have F1 := Lib.hid (fun (v' : Value) (w5 Y2 : World) (hx : Ext w.heap.size 3 Y1 (.slice oa i oc) i (pqc qs) w5 v' (i + 1) (pqc qs ++ [.slice a3 LS.length c3, .int .i64 T, .int .u64 zv])) (hY2 : Y2 = w5.alloc (.cells #[.slice a4 LS.length c4, .int .i64 T, .int .u64 zv] 67)) => show
          (w5.cell? ⟨w2.heap.size + 1, 0, none⟩ = some (.slice a4 LS.length c4) ∧ w5.cell? ⟨w2.heap.size + 1, 1, none⟩ = some (.int .i64 T) ∧ w5.cell? ⟨w2.heap.size + 1, 2, none⟩ = some (.int .u64 zv)) ∧
          (∀ j u, [Value.slice a4 LS.length c4, .int .i64 T, .int .u64 zv][j]? = some u → Y2.cell? ((⟨w5.heap.size, 0, none⟩ : Addr).add j) = some u) ∧ w.heap.size ≤ Y2.heap.size ∧
          ∃ xs, Sl Y2 w.heap.size 3 (.slice ta i tc) i xs ∧ ∀ w7 v7 ys, Ext w.heap.size 3 Y2 (.slice ta i tc) i xs w7 v7 (i + 1) ys → Hid (PtT w7 w.heap.size v' v7 (i + 1) (qs ++ [⟨.slice a3 LS.length c3, LS, ⟨T, zv⟩⟩])) ∧ Hid (Below w.heap.size w w7) from by
        have hne : (Value.slice oa i oc).ownBlock ≠ some (w2.heap.size + 1) := fun e => by have := (hpt.out.o.sl.lt _ e).2; omega
        have h5 : w5.heap[w2.heap.size + 1]? = _ := (hx.grown.block _ (by have := (Array.getElem?_eq_some_iff.1 hbx2).1; omega) (fun e => hne e.symm)).trans ((bY1.block _ (Array.getElem?_eq_some_iff.1 hbx2).1).trans hbx2)
        have s3' : Sl Y1 W0.heap.size 2 (.slice a3 LS.length c3) LS.length (prc LS) := s3.on B2Y
        have P2 := PT1.push (B2 := W0.heap.size) (q := ⟨.slice a3 LS.length c3, LS, ⟨T, zv⟩⟩) (v' := v') (w' := w5) (by rw [hql.out]; exact hx) s3' (by show LS.length ≤ 1000; omega) zw (fun k hk => by
          have h1 := (s3.lt k hk).1
          obtain ⟨xs, hxs⟩ := hpt.out.t
          exact ⟨fun e => by have := (hpt.out.o.sl.lt k e).2; omega, fun e => by have := (hxs.lt k e).2; omega⟩)
        have z5 := hx.grown.size
        have b5 : Below w5.heap.size w5 Y2 := by rw [hY2]; exact (Below.refl _ _).alloc (Nat.le_refl _) _
        have P3 := P2.on b5
        have hl2 : Y2.heap[w5.heap.size]? = some (.cells #[.slice a4 LS.length c4, .int .i64 T, .int .u64 zv] 67) := by rw [hY2]; exact heap_alloc_new w5 _
        have z6 := b5.size
        obtain ⟨xs, hxs⟩ := P3.t
        have B15 : Below w.heap.size w w5 := ((BW.out.trans (b2.mono zw)).trans (B2Y.mono (by omega))).trans (hx.below (Nat.le_refl _) (by omega))
        refine ⟨⟨Lib.cell_of_heap h5 0, Lib.cell_of_heap h5 1, Lib.cell_of_heap h5 2⟩, litc Y2 _ _ _ _ _ hl2, by omega, xs, hxs, fun w7 v7 ys h7 => ⟨Lib.hid (P3.told h7), Lib.hid ((B15.trans (b5.mono (by omega))).trans (h7.below (Nat.le_refl _) (by omega)))⟩⟩)
      have e1 := Lib.cell_of_heap hbx1 0
      have e2 := Lib.cell_of_heap hbx1 1
      have e3 := Lib.cell_of_heap hbx1 2
      have SL1 := Lib.hid sl1
      have ZY := Lib.hid (show w.heap.size ≤ Y1.heap.size by omega)
      have HQL := Lib.hid (show ∀ x : Pq, (qs ++ [x]).length = i + 1 from fun x => by rw [List.length_append, hql.out]; rfl)
      have HY1 := Lib.hid hY1
      clear hbx1 hbx2 hl1 bY1 b22 B2Y PT1 sl1 s3 b2 zz2 zz22 zzY zw PT hpt hql hY1 q0 q1 q2 litc
      go_upto_region 7 with fail
      rw [← hV2]
      clear hV2
      go_upto_region 8 with (at_builtin; rw [← HY1.out]; refine wpList_append_sl _ rfl _ _ 25 rfl w.heap.size 38 i0 (.agg #[.slice none 0 0, .int .i64 0, .int .u64 0]) 3 40 Tryz.underlying25 Hi.out Hz.out Hs.out Hb.out rfl (by decide) _ i _ rfl SL1.out ⟨V2.heap.size, 0, none⟩ 1 1 [.slice a3 LS.length c3, .int .i64 T, .int .u64 zv] rfl rfl LIT1.out (by simp [Value.oneCell']) n1 n2 ZY.out ?_; intro v' w5 hx5; obtain ⟨a5, c5, rfl⟩ := hx5.now.slice)
      obtain ⟨Y2, hY2⟩ : ∃ Y2, Y2 = w5.alloc (.cells #[.slice a4 LS.length c4, .int .i64 T, .int .u64 zv] 67) := ⟨_, rfl⟩
      obtain ⟨⟨f1, f2, f3⟩, lit2, z7, xs, sl7, E7⟩ := F1.out _ w5 Y2 hx5 hY2
      have LIT2 := Lib.hid lit2; have Z7 := Lib.hid z7; have SL7 := Lib.hid sl7; have E7' := Lib.hid E7; have HY2 := Lib.hid hY2
      clear lit2 z7 sl7 E7 hx5 hY2 F1 SL1 LIT1 ZY e1 e2 e3
      go_upto_region 5 with (at_builtin; rw [← HY2.out]; refine wpList_append_sl _ rfl _ _ 28 rfl w.heap.size 67 i1 (.agg #[.slice none 0 0, .int .i64 0, .int .u64 0]) 3 40 Tryz.underlying28 Gi.out Gz.out Gs.out Gb.out rfl (by decide) _ i _ rfl SL7.out ⟨w5.heap.size, 0, none⟩ 1 1 [.slice a4 LS.length c4, .int .i64 T, .int .u64 zv] rfl rfl LIT2.out (by simp [Value.oneCell']) n1 n2 Z7.out ?_; intro v7 w7 hx7; obtain ⟨a7, c7, rfl⟩ := hx7.now.slice)
      obtain ⟨g1, g2⟩ := E7'.out w7 _ _ hx7
      clear hx7 f1 f2 f3
      go_wp2
      exact ⟨⟨i + 1, _, by go_num, by omega, Lib.hid (STEP.out _), Lib.hid (HQL.out _), g1, ⟨_, _, rfl⟩, ⟨_, _, rfl⟩, g2.out⟩, by simp [intOf]; omega⟩
    · have hil : ¬ (i : Int) < len ∨ ¬ (i : Int) < 12 := by omega
      obtain rfl : i = N := by omega
      have HB := Lib.hid hb
      have FINq := Lib.hid (show pts qs = Z from by
        rw [HZ.out]
        rw [hps.out, HN.out, List.length_take]
        by_cases h : zs.length ≤ 12
        · rw [Nat.min_eq_right h, List.take_of_length_le (Nat.le_refl _), List.take_of_length_le h]
        · rw [Nat.min_eq_left (by omega)])
      have GO := Lib.hid (show PtsE w Z (.returned (.tuple #[.slice oa i oc, .slice ta i tc])) W0 from ⟨_, _, qs, rfl, hpt.out.o, FINq.out, HB.out⟩)
      by_cases hlen : (i : Int) < len
      · have h12 : ¬ (i : Int) < 12 := by omega
        clear hil hb
        go_wp2
        go_ret2
        exact GO.out
      · clear hil hb
        go_wp2
        go_ret2
        exact GO.out
end Go.Proofs.YtfckgcckpfklaaaGreatDoor
