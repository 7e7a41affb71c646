/- Layer 13: the document's Parse, walked. -/
import Derived.Test.YtobdlfikomnmcaaGreatDoorMTB9
namespace Go.Proofs.YtobdlfikomnmcaaGreatDoor
open Go.RowKit Go.Lib
set_option linter.unusedVariables false

/-- What lies apart from a slice that grows, stays, and stays apart. -/
theorem ext_keepB {W X W4 : World} {B s n n' : Nat} {v v' : Value} {xs xs' : List Value} (hz : W.heap.size ≤ X.heap.size) (hX : ∀ k, k < W.heap.size → X.heap[k]? = W.heap[k]?)
    (hx : Ext B s X v n xs W4 v' n' xs') {su nu : Nat} {u : Value} {xu : List Value} (hu : Sl W B su u nu xu) (hne : ∀ k, u.ownBlock = some k → v.ownBlock ≠ some k) :
    Sl W4 B su u nu xu ∧ ∀ k, u.ownBlock = some k → v'.ownBlock ≠ some k := by
  refine ⟨hu.same (Nat.le_trans hz hx.grown.size) fun k hk => ?_, fun k hk => ?_⟩
  · have hlt := (hu.lt k hk).2
    exact (hx.grown.block k (by omega) (fun e => hne k hk e.symm)).trans (hX k hlt)
  · have hlt := (hu.lt k hk).2
    rcases hx.alias with ⟨a, cap, e1, e2, _⟩ | hnew
    · have := hne k hk
      rw [e1] at this
      rw [e2]
      cases a <;> exact this
    · intro e
      have := hnew k e
      omega
theorem zc_rmatB : (Tryz.prog.info? 33).map (fun i => (i.zero, i.size, i.bytes)) = some (some (.agg #[.int .i64 0, .string ByteArray.empty, .slice none 0 0]), 3, 48) := by kernel_rfl
/-- The document's matchers of the first parts. -/
structure RpM (w : World) (ps : List (List UInt8)) (i : Nat) (W : World) (v : Value) (l : List (Mr × Value)) : Prop where
  e : l.map (·.1) = (ps.take i).map mrOf
  ok : ∀ p ∈ ps.take i, mOk (mrOf p) = true
  m : MsO W w.heap.size v l
  b : Below w.heap.size w W

set_option maxHeartbeats 4000000 in
set_option maxRecDepth 100000 in
theorem rparse13_all (s : List UInt8) (w : World) (hl : s.length ≤ 100000) (hne : s ≠ []) : Calls Tryz.prog 6 #[.string (bs s)] w fun e w' =>
    ((∀ p ∈ parts 44 s, mOk (mrOf p) = true) ∧ ∃ v l, e = .returned (.tuple #[v, .int .i64 0]) ∧ l.map (·.1) = (parts 44 s).map mrOf ∧ MsO w' w.heap.size v l ∧ Below w.heap.size w w') ∨ ((∃ p ∈ parts 44 s, mOk (mrOf p) = false) ∧ e = .returned (.tuple #[.slice none 0 0, .int .i64 3]) ∧ Below w.heap.size w w') := by
  have hT := bs_toList
  have hse : (s == []) = false := by rw [beq_eq_false_iff_ne]; exact hne
  obtain ⟨j0, hj, hy0, hy1, hy2⟩ := info_parts zc_rmatB
  have Jz := Lib.hid hy0; have Js := Lib.hid hy1; have Jb := Lib.hid hy2; have Ji := Lib.hid hj
  clear hy0 hy1 hy2 hj
  have CU := Lib.hid (fun W => rcut13_any s 44 W hl)
  go_enter Tryz.func6, Tryz.ntmps6
  go_wp2_with fail
  refine (CU.out _).mono ?_
  rintro e w1 ⟨v1, rfl, s1, b1⟩
  obtain ⟨g, off, cap, rfl, hg1, hg2, _⟩ := s1.somewhere (List.length_pos_iff.2 (parts_ne 44 s))
  obtain ⟨ps, hps⟩ : ∃ ps, ps = parts 44 s := ⟨_, rfl⟩
  obtain ⟨N, hN⟩ : ∃ N, N = ps.length := ⟨_, rfl⟩
  rw [← hps, ← hN] at s1
  rw [← hps, ← hN]
  have HS1 := Lib.hid s1
  have HPS := Lib.hid hps
  have HN := Lib.hid hN
  have hN6 : N ≤ 100001 := by rw [hN, hps]; have := parts_count 44 s; omega
  have z1 := b1.size
  simp at z1
  have G0 := Lib.hid (show RpM w ps 0 w1 (.slice (some ⟨w.heap.size, 0, none⟩) 0 0) [] from by
    have b0 := (Below.refl w.heap.size w).alloc (Nat.le_refl _) (.cells #[] 33)
    refine ⟨rfl, fun p hp => (by cases hp), ⟨?_, fun p hp => (by cases hp)⟩, b0.trans (b1.mono b0.size)⟩
    exact (Sl.lit w w.heap.size 3 0 #[] 33 (Nat.le_refl _) (by decide) rfl).on (b1.mono (by simp)))
  have HG := Lib.hid (show w.heap.size < g from by simp at hg1; omega)
  have hg3 : g < w1.heap.size := by have := (s1.lt g rfl).2; exact this
  clear s1 b1 hps hN hg1 hg2 CU
  go_wp2_with fail
  go_loopw [4, 16] (fun o' i' wr => ∃ (i : Nat) (l : List (Mr × Value)), i' = .int .i64 i ∧ i ≤ N ∧ Hid (RpM w ps i wr o' l ∧ (w1.heap.size ≤ wr.heap.size ∧ wr.heap[g]? = w1.heap[g]?) ∧ o'.ownBlock ≠ some g)) (fun _ i' _ => N - (intOf i').toNat)
  case atStart => exact ⟨0, [], rfl, by omega, Lib.hid ⟨G0.out, ⟨Nat.le_refl _, rfl⟩, fun e => by have := HG.out; have e2 : some w.heap.size = some g := e; have := Option.some.inj e2; omega⟩⟩
  case round =>
    clear G0
    obtain ⟨W0, rfl⟩ : ∃ W0, W0 = wr := ⟨_, rfl⟩
    obtain ⟨i, l, rfl, hi, hgg⟩ := hrel
    obtain ⟨va, vc, rfl⟩ := hgg.out.1.m.1.slice
    have hll0 : l.length = i := by have := congrArg List.length hgg.out.1.e; simp at this; have := HN.out; omega
    rw [hll0]
    have HLL := Lib.hid hll0
    clear hll0
    by_cases hlt : i < N
    · have hil : (i : Int) < N := by omega
      have h0i : (0 : Int) ≤ (i : Int) := by omega
      obtain ⟨x, hx⟩ : ∃ x, ps[i]? = some x := ⟨_, List.getElem?_eq_getElem (by have := HN.out; omega)⟩
      have c0 : W0.cell? ⟨g, off + i, none⟩ = some (.string (bs x)) := by
        obtain ⟨_, a', cap', g', off', e, hgx, hcell⟩ := Rd.of_sl HS1.out
        cases e
        obtain ⟨e2, _⟩ := hgx (by omega)
        cases e2
        exact (World.cell?_of_block (a := ⟨g, off + i, none⟩) hgg.out.2.1.2).trans ((hcell i (by omega)).trans (txs_at ps i x hx))
      have hxm : x ∈ parts 44 s := by rw [← HPS.out]; exact List.mem_of_getElem? hx
      have hxl : x.length ≤ 100000 := Nat.le_trans (parts_len 44 s x hxm) hl
      have ON := Lib.hid (fun W => rone13_any x W hxl)
      have HX := Lib.hid hx
      have HGG := Lib.hid hgg.out
      have HXM := Lib.hid hxm
      clear hx hgg hxm
      go_wp2_with fail
      refine (ON.out _).mono ?_
      rintro e w2 ⟨k, nm, a1, m1, c1, rfl, b2, hv⟩
      obtain ⟨ok, hok⟩ : ∃ ok, mOk (mrOf x) = ok := ⟨_, rfl⟩
      rw [hok] at hv ⊢
      have HOK := Lib.hid hok
      have z2 := b2.size
      have hbz := HGG.out.1.b.size
      have z1b := HGG.out.2.1.1
      have B2 := Lib.hid b2
      clear hok b2 ON
      cases ok with
      | false =>
        clear hv
        go_wp2_with fail
        go_ret2
        exact Or.inr ⟨⟨x, HXM.out, HOK.out⟩, rfl, (HGG.out.1.b.trans (B2.out.mono hbz)).alloc (by omega) _⟩
      | true =>
        obtain ⟨rfl, rfl, s2⟩ := hv rfl
        clear hv
        obtain ⟨a1', c1', he⟩ := s2.slice
        cases he
        obtain ⟨m, hm⟩ : ∃ m, m = mrOf x := ⟨_, rfl⟩
        rw [← hm] at s2 ⊢
        obtain ⟨n1, hn1⟩ : ∃ n1, n1 = m.vs.length := ⟨_, rfl⟩
        rw [← hn1] at s2 ⊢
        have hx2 := heap_alloc_new w2 (.cells #[.int .i64 m.k, .string (bs m.n), .slice a1 n1 c1] 33)
        obtain ⟨w3, hw3⟩ : ∃ w3, w3 = w2.alloc (.cells #[.int .i64 m.k, .string (bs m.n), .slice a1 n1 c1] 33) := ⟨_, rfl⟩
        rw [← hw3] at hx2
        have z3 : w3.heap.size = w2.heap.size + 1 := by rw [hw3]; simp
        have b3 : Below W0.heap.size W0 w3 := by rw [hw3]; exact B2.out.alloc z2 _
        have s3 : Sl w3 W0.heap.size 1 (.slice a1 n1 c1) n1 (txs m.vs) := by rw [hw3]; exact Sl.alloc s2 _
        have q0 := Lib.cell_of_heap hx2 0; have q1 := Lib.cell_of_heap hx2 1; have q2 := Lib.cell_of_heap hx2 2
        simp at q0 q1 q2
        have n3 : i + 1 ≤ maxLen := by unfold maxLen; omega
        have n4 : (i + 1) * 48 ≤ 140737488355328 := by omega
        have hone : ∀ u ∈ [Value.int .i64 m.k, .string (bs m.n), .slice a1 n1 c1], u.oneCell' = true := by
          intro u hu
          simp only [List.mem_cons, List.not_mem_nil, or_false] at hu
          rcases hu with rfl | rfl | rfl <;> rfl
        have hlit := (Sl.lit w3 W0.heap.size 3 1 #[.int .i64 m.k, .string (bs m.n), .slice a1 n1 c1] 33 (by omega) (by decide) rfl).cells
        have own0 := HGG.out.1.m.1
        rw [HLL.out] at own0
        have own1 : Sl (w3.alloc (.cells #[.int .i64 m.k, .string (bs m.n), .slice a1 n1 c1] 33)) w.heap.size 3 (.slice va i vc) i (mcs l) := (own0.on b3).alloc _
        have HO1 := Lib.hid (show ∀ k, (Value.slice va i vc).ownBlock = some k → w.heap.size ≤ k ∧ k < W0.heap.size from fun k e => own0.lt k e)
        have hng := HGG.out.2.2
        rw [HLL.out] at hng
        have HNG := Lib.hid hng
        clear hng
        have hb1 : w.heap.size ≤ (w3.alloc (.cells #[.int .i64 m.k, .string (bs m.n), .slice a1 n1 c1] 33)).heap.size := by simp; omega
        rw [z3, hw3] at hlit
        rw [hw3] at own1 hb1
        have HM := Lib.hid hm; have HN1 := Lib.hid hn1; have HW3 := Lib.hid hw3; have S3 := Lib.hid s3; have B3 := Lib.hid b3
        clear hm hn1 hw3 s2 s3 b3 hx2 own0
        go_wp2_with (at_builtin; refine wpList_append_sl _ rfl _ _ 30 rfl w.heap.size 33 j0 (.agg #[.int .i64 0, .string ⟨#[]⟩, .slice none 0 0]) 3 48 Tryz.underlying30 Ji.out Jz.out Js.out Jb.out rfl (by decide) _ i _ rfl own1 ⟨w2.heap.size + 1, 0, none⟩ 1 1 [.int .i64 m.k, .string (bs m.n), .slice a1 n1 c1] rfl rfl hlit hone n3 n4 hb1 ?_; intro v4 w4 hx4; obtain ⟨a4, c4, rfl⟩ := hx4.now.slice)
        rw [← HW3.out] at hx4 hb1
        have gb := hx4.grown.block g (by simp; omega) (fun e => HNG.out e.symm)
        have z4 := hx4.grown.size
        simp at z4
        have hg4 : w4.heap[g]? = w1.heap[g]? := gb.trans ((Below.heap_alloc _ _ _ (by omega)).trans ((B3.out.block g (by omega)).trans HGG.out.2.1.2))
        have hne4 : (Value.slice a4 (i + 1) c4).ownBlock ≠ some g := by
          rcases hx4.alias with ⟨a, cap, e1, e2, _⟩ | hnew
          · have := HNG.out
            have e1' : Value.slice va i vc = _ := e1
            rw [e1'] at this
            rw [e2]
            cases a <;> exact this
          · intro e
            have := hnew g e
            simp at this; omega
        have hlen : (l ++ [(m, Value.slice a1 n1 c1)]).length = i + 1 := by rw [List.length_append, HLL.out]; rfl
        have hfin : RpM w ps (i + 1) w4 (.slice a4 (i + 1) c4) (l ++ [(m, .slice a1 n1 c1)]) := by
          refine ⟨?_, fun p hp => ?_, ⟨?_, fun p hp => ?_⟩, ((HGG.out.1.b.trans (B3.out.mono hbz)).alloc (by omega) _).trans (hx4.below (Nat.le_refl _) hb1)⟩
          · rw [List.take_add_one, HX.out]
            show _ = List.map mrOf (ps.take i ++ [x])
            rw [List.map_append, List.map_append, HGG.out.1.e, List.map_singleton, List.map_singleton, ← HM.out]
          · rw [List.take_add_one, HX.out] at hp
            rcases List.mem_append.1 hp with hp | hp
            · exact HGG.out.1.ok p hp
            · have hp : p ∈ [x] := hp
              rw [List.mem_singleton] at hp
              rw [hp]; exact HOK.out
          · rw [hlen, show mcs (l ++ [(m, Value.slice a1 n1 c1)]) = mcs l ++ [.int .i64 m.k, .string (bs m.n), .slice a1 n1 c1] by simp [mcs]]
            exact hx4.now
          · rcases List.mem_append.1 hp with hp | hp
            · obtain ⟨g1, g2⟩ := HGG.out.1.m.2 p hp
              rw [HLL.out] at g2
              exact ext_keepB (W := w3) (by simp) (fun k hk => Below.heap_alloc _ _ _ hk) hx4 (g1.on B3.out) g2
            · rw [List.mem_singleton] at hp
              subst hp
              have g1 := S3.out
              rw [HN1.out] at g1
              simp only
              rw [HN1.out]
              exact ext_keepB (W := w3) (by simp) (fun k hk => Below.heap_alloc _ _ _ hk) hx4 (g1.mono hbz) (fun k e e2 => by have h1 := (g1.lt k e).1; have h2 := (HO1.out k e2).2; omega)
        exact ⟨⟨i + 1, _, by go_num, by omega, Lib.hid ⟨hfin, ⟨by omega, hg4⟩, hne4⟩⟩, by simp [intOf]; omega⟩
    · have hil : ¬ (i : Int) < N := by omega
      have HGG := Lib.hid hgg.out
      clear hgg
      go_wp2_with fail
      go_ret2
      have htk : ps.take i = ps := List.take_of_length_le (by have := HN.out; omega)
      have hm := HGG.out.1.m
      have he := HGG.out.1.e
      have hok := HGG.out.1.ok
      rw [htk, HPS.out] at he hok
      rw [MsO, HLL.out] at hm
      exact Or.inl ⟨hok, _, rfl, l, he, by rw [MsO, HLL.out]; exact hm, HGG.out.1.b⟩
end Go.Proofs.YtobdlfikomnmcaaGreatDoor
