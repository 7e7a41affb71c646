/- Layer 13: the law's Few. -/
import Derived.Test.YtobdlfikomnmcaaDoorMTME
namespace Go.Proofs.YtobdlfikomnmcaaDoor
open Go.RowKit Go.Lib
set_option linter.unusedVariables false

/-- What lies apart from a slice that grows, stays, and stays apart. -/
theorem ext_keep {W X W4 : World} {B s n n' : Nat} {v v' : Value} {xs xs' : List Value} (hz : W.heap.size ≤ X.heap.size) (hX : ∀ k, k < W.heap.size → X.heap[k]? = W.heap[k]?)
    (hx : Ext B s X v n xs W4 v' n' xs') {su nu : Nat} {u : Value} {xu : List Value} (hu : Sl W B su u nu xu) (hne : ∀ k, u.ownBlock = some k → v.ownBlock ≠ some k) :
    Sl W4 B su u nu xu ∧ ∀ k, u.ownBlock = some k → v'.ownBlock ≠ some k := by
  refine ⟨hu.same (Nat.le_trans hz hx.grown.size) fun k hk => ?_, fun k hk => ?_⟩
  · have hlt := (hu.lt k hk).2
    exact (hx.grown.block k (by omega) (fun e => hne k hk e.symm)).trans (hX k hlt)
  · have hlt := (hu.lt k hk).2
    rcases hx.alias with ⟨a, cap, e1, e2, _⟩ | hnew
    · have := hne k hk
      rw [e1] at this
      rw [e2]
      cases a <;> exact this
    · intro e
      have := hnew k e
      omega
theorem zc_rmatcher : (Tryd.prog.info? 35).map (fun i => (i.zero, i.size, i.bytes)) = some (some (.agg #[.int .i64 0, .string ByteArray.empty, .slice none 0 0]), 3, 48) := by kernel_rfl
theorem rOk_good {k : Int} {n : List UInt8} {vs : List (List UInt8)} (h : rOk k n vs = true) : 1 ≤ k ∧ k ≤ 4 ∧ vs.length ≤ 10 ∧ (k = 3 → vs.length = 1) := by
  unfold rOk at h
  simp only [Bool.and_eq_true, Bool.not_eq_true', decide_eq_false_iff_not, Bool.and_eq_false_iff] at h
  obtain ⟨h1, h2, _, _, h3, h4, h5, _⟩ := h
  refine ⟨by omega, by omega, by omega, fun hk => ?_⟩
  rcases h5 with h5 | h5 <;> omega
/-- A matcher that may be. -/
def MrGood (m : Mr) : Prop := 1 ≤ m.k ∧ m.k ≤ 4 ∧ m.vs.length ≤ 10 ∧ (m.k = 3 → m.vs.length = 1)
structure FwR (w W : World) (v1 v2 : Value) (ms : List (Mr × Value)) : Prop where
  s1 : Sl W w.heap.size 3 v1 ms.length (mcs ms)
  s2 : Sl W w.heap.size 3 v2 ms.length (mcs ms)
  a12 : ∀ k, v1.ownBlock = some k → v2.ownBlock ≠ some k
  ps : ∀ p ∈ ms, Sl W w.heap.size 1 p.2 p.1.vs.length (txs p.1.vs) ∧ (∀ k, p.2.ownBlock = some k → v1.ownBlock ≠ some k) ∧ (∀ k, p.2.ownBlock = some k → v2.ownBlock ≠ some k) ∧ MrGood p.1
  b : Below w.heap.size w W
  ok : ∀ p ∈ ms, rOk p.1.k p.1.n p.1.vs = true
theorem FwR.on {w W W' : World} {v1 v2 : Value} {ms : List (Mr × Value)} (h : FwR w W v1 v2 ms) (b : Below W.heap.size W W') : FwR w W' v1 v2 ms :=
  ⟨h.s1.on b, h.s2.on b, h.a12, fun p hp => ⟨(h.ps p hp).1.on b, (h.ps p hp).2⟩, h.b.trans (b.mono h.b.size), h.ok⟩

set_option maxHeartbeats 4000000 in
set_option maxRecDepth 100000 in
theorem few13_any (ao : Option Addr) (len cap : Nat) (zs : List Om) (w : World) (h : OmR w ao len zs) :
    Calls Tryd.prog 4 #[.slice ao len cap] w fun e w' => ∃ v1 v2 ms, e = .returned (.tuple #[v1, v2]) ∧ FwR w w' v1 v2 ms ∧ ms.length ≤ 4 := by
  obtain ⟨i0, hi, hz0, hz1, hz2⟩ := info_parts zc_matcher
  have Hz := Lib.hid hz0; have Hs := Lib.hid hz1; have Hb := Lib.hid hz2; have Hi := Lib.hid hi
  clear hz0 hz1 hz2 hi
  obtain ⟨j0, hj, hy0, hy1, hy2⟩ := info_parts zc_rmatcher
  have Jz := Lib.hid hy0; have Js := Lib.hid hy1; have Jb := Lib.hid hy2; have Ji := Lib.hid hj
  clear hy0 hy1 hy2 hj
  have H := Lib.hid h
  clear h
  go_enter Tryd.func4, Tryd.ntmps4
  go_wp2_with fail
  go_loopw [4, 5, 6] (fun o' t' i' wr => ∃ (i : Nat) (ms : List (Mr × Value)), i' = .int .i64 i ∧ i ≤ 20 ∧ i ≤ len ∧ ms.length ≤ 4 ∧ FwR w wr o' t' ms) (fun _ _ i' _ => 20 - (intOf i').toNat)
  case atStart => exact ⟨0, [], rfl, by omega, by omega, by simp, ⟨(Sl.lit w w.heap.size 3 0 #[] _ (Nat.le_refl _) (by decide) rfl).alloc _, by { have := Sl.lit (w.alloc (.cells #[] 37)) w.heap.size 3 0 #[] 35 (by simp) (by decide) rfl; simp only [World.size_alloc] at this; exact this }, fun k hk e => (by { have h1 : some w.heap.size = some k := hk; have h2 : some (w.heap.size + 1) = some k := e; rw [← h1] at h2; have := Option.some.inj h2; omega }), fun p hp => (by cases hp), ((Below.refl _ _).alloc (Nat.le_refl _) _).alloc (by simp only [World.size_alloc]; omega) _, fun p hp => (by cases hp)⟩⟩
  case round =>
    obtain ⟨W0, rfl⟩ : ∃ W0, W0 = wr := ⟨_, rfl⟩
    obtain ⟨i, ms, rfl, hi, hil0, hml, hf⟩ := hrel
    obtain ⟨va, vc, rfl⟩ := hf.s1.slice
    obtain ⟨ta, tc, rfl⟩ := hf.s2.slice
    obtain ⟨nm, hnm⟩ : ∃ nm, nm = ms.length := ⟨_, rfl⟩
    have hf' := hf
    rw [← hnm] at hml hf' ⊢
    have HNM := Lib.hid hnm
    have HF := Lib.hid hf'
    clear hf hf' hnm
    by_cases hl : i < len
    · have hli : (i : Int) < len := by omega
      by_cases h4 : nm < 4
      · have h4i : (nm : Int) < 4 := by omega
        by_cases h20 : i < 20
        · have h20i : (i : Int) < 20 := by omega
          have HH := H.out.on HF.out.b
          obtain ⟨g, off, rfl, hgl, hc⟩ := H.out.at_ (by omega)
          obtain ⟨z, hz⟩ : ∃ z, zs[i]? = some z := ⟨_, List.getElem?_eq_getElem (by have := H.out.hl; omega)⟩
          obtain ⟨c0, c1, c2⟩ := hc i z hz
          have d0 := (HF.out.b.cell (p := ⟨g, off + i * 3, none⟩) hgl).trans c0
          have d1 := (HF.out.b.cell (p := ⟨g, off + i * 3 + 1, none⟩) hgl).trans c1
          have d2 := (HF.out.b.cell (p := ⟨g, off + i * 3 + 2, none⟩) hgl).trans c2
          have HO1 := Lib.hid (show ∀ k, (Value.slice va nm vc).ownBlock = some k → w.heap.size ≤ k ∧ k < W0.heap.size from fun k e => HF.out.s1.lt k e)
          have HO2 := Lib.hid (show ∀ k, (Value.slice ta nm tc).ownBlock = some k → w.heap.size ≤ k ∧ k < W0.heap.size from fun k e => HF.out.s2.lt k e)
          have hwz := HF.out.b.size
          have SH := Lib.hid (short13_any z W0 (HH.ps z (List.mem_of_getElem? hz)))
          clear hc c0 c1 c2 HH
          go_wp2_with fail
          refine SH.out.mono ?_
          rintro e w1 ⟨v, rfl, s1, b1⟩
          obtain ⟨a1, c1, rfl⟩ := s1.slice
          have z1 := b1.size
          have hvl : (vsS z).length ≤ 12 := by unfold vsS; simp; omega
          obtain ⟨n1, hn1⟩ : ∃ n1, n1 = (vsS z).length := ⟨_, rfl⟩
          have hx := heap_alloc_new w1 (.cells #[.int .i64 z.k, .string (bs (z.n.take 42)), .slice a1 n1 c1] 35)
          obtain ⟨w2, hw2⟩ : ∃ w2, w2 = w1.alloc (.cells #[.int .i64 z.k, .string (bs (z.n.take 42)), .slice a1 n1 c1] 35) := ⟨_, rfl⟩
          rw [← hw2] at hx
          have z2 : w2.heap.size = w1.heap.size + 1 := by rw [hw2]; simp
          have b2 : Below W0.heap.size W0 w2 := by rw [hw2]; exact b1.alloc z1 _
          have s2 : Sl w2 W0.heap.size 1 (.slice a1 n1 c1) n1 (txs (vsS z)) := by rw [hw2, hn1]; exact Sl.alloc s1 _
          have CK := Lib.hid (rcheck13_any z.k (z.n.take 42) (vsS z) (.slice a1 n1 c1) w2 (by rw [← hn1]; exact Rd.of_sl s2) (by omega) (by simp; omega) (fun x hx => by unfold vsS at hx; obtain ⟨y, _, rfl⟩ := List.mem_map.1 hx; simp; omega))
          obtain ⟨r, hr⟩ : ∃ r, rOk z.k (z.n.take 42) (vsS z) = r := ⟨_, rfl⟩
          rw [hr] at CK
          rw [← hn1]
          have HR := Lib.hid hr
          have HW2 := Lib.hid hw2
          have S2 := Lib.hid s2; have B2 := Lib.hid b2; have HXX := Lib.hid hx; have HN1 := Lib.hid hn1
          clear SH s1 b1 hx hr hw2 s2 b2 hn1
          go_wp2_with fail
          rw [← HW2.out]
          refine CK.out.mono ?_
          rintro e w3 ⟨rfl, b3⟩
          have z3 := b3.size
          have B3 := Lib.hid (B2.out.trans (b3.mono (by omega)))
          have hx3 := (b3.block w1.heap.size (by omega)).trans HXX.out
          have S3 := Lib.hid (S2.out.on b3)
          have HF3 := Lib.hid (HF.out.on B3.out)
          clear b3 CK S2 B2 HXX HF
          cases r with
          | false =>
            clear hx3
            go_wp2_with fail
            exact ⟨⟨i + 1, ms, by go_num, by omega, by omega, by have := HNM.out; omega, by have := HF3.out; rw [HNM.out] at this ⊢; exact this⟩, by simp [intOf]; omega⟩
          | true =>
            have hgood := rOk_good HR.out
            have q0 := Lib.cell_of_heap hx3 0; have q1 := Lib.cell_of_heap hx3 1; have q2 := Lib.cell_of_heap hx3 2
            simp at q0 q1 q2
            have HX3 := Lib.hid hx3
            have n3 : ms.length + 1 ≤ maxLen := by have := HNM.out; unfold maxLen; omega
            have n4 : (ms.length + 1) * 48 ≤ 140737488355328 := by have := HNM.out; omega
            have hone : ∀ u ∈ [Value.int .i64 z.k, .string (bs (z.n.take 42)), .slice a1 n1 c1], u.oneCell' = true := by
              intro u hu
              simp only [List.mem_cons, List.not_mem_nil, or_false] at hu
              rcases hu with rfl | rfl | rfl <;> rfl
            have hlit1 := (Sl.lit w3 W0.heap.size 3 1 #[.int .i64 z.k, .string (bs (z.n.take 42)), .slice a1 n1 c1] 37 (by omega) (by decide) rfl).cells
            have hlit2 := Lib.hid (fun (w4 : World) (hz : W0.heap.size ≤ w4.heap.size) => (Sl.lit w4 W0.heap.size 3 1 #[.int .i64 z.k, .string (bs (z.n.take 42)), .slice a1 n1 c1] 35 hz (by decide) rfl).cells)
            have own1 : Sl (w3.alloc (.cells #[.int .i64 z.k, .string (bs (z.n.take 42)), .slice a1 n1 c1] 37)) w.heap.size 3 (.slice va nm vc) ms.length (mcs ms) := HF3.out.s1.alloc _
            have hb1 : w.heap.size ≤ (w3.alloc (.cells #[.int .i64 z.k, .string (bs (z.n.take 42)), .slice a1 n1 c1] 37)).heap.size := by simp; omega
            have FA := Lib.hid (fun (w4 : World) (v4 : Value) (xs4 : List Value) (hx4 : Ext w.heap.size 3 (w3.alloc (.cells #[.int .i64 z.k, .string (bs (z.n.take 42)), .slice a1 n1 c1] 37)) (.slice va nm vc) ms.length (mcs ms) w4 v4 (ms.length + 1) xs4) =>
              show w4.heap[w1.heap.size]? = some (.cells #[.int .i64 z.k, .string (bs (z.n.take 42)), .slice a1 n1 c1] 35) ∧ w3.heap.size + 1 ≤ w4.heap.size from by
                refine ⟨(hx4.grown.block w1.heap.size (by simp; omega) (fun e => by have := (HO1.out _ e.symm).2; omega)).trans ((Below.heap_alloc _ _ _ (by omega)).trans HX3.out), by have := hx4.grown.size; simpa using this⟩)
            have own2 := Lib.hid (fun (w4 : World) (v4 : Value) (xs4 : List Value) (hx4 : Ext w.heap.size 3 (w3.alloc (.cells #[.int .i64 z.k, .string (bs (z.n.take 42)), .slice a1 n1 c1] 37)) (.slice va nm vc) ms.length (mcs ms) w4 v4 (ms.length + 1) xs4) =>
              ext_keep (W := w3) (by simp) (fun k hk => Below.heap_alloc _ _ _ hk) hx4 HF3.out.s2 (fun k e e2 => HF3.out.a12 k e2 e))
            clear hx3
            go_wp2_with (at_builtin; (first
              | (refine wpList_append_sl _ rfl _ _ 22 rfl w.heap.size 37 i0 (.agg #[.int .i64 0, .string ⟨#[]⟩, .slice none 0 0]) 3 48 Tryd.underlying22 Hi.out Hz.out Hs.out Hb.out rfl (by decide) _ ms.length _ rfl own1 ⟨w3.heap.size, 0, none⟩ 1 1 [.int .i64 z.k, .string (bs (z.n.take 42)), .slice a1 n1 c1] rfl rfl hlit1 hone n3 n4 hb1 ?_; intro v4 w4 hx4; obtain ⟨hx5, z4⟩ := FA.out w4 v4 _ hx4; have K2 := own2.out w4 v4 _ hx4; have q0 := Lib.cell_of_heap hx5 0; have q1 := Lib.cell_of_heap hx5 1; have q2 := Lib.cell_of_heap hx5 2; simp at q0 q1 q2; obtain ⟨a4, c4, rfl⟩ := hx4.now.slice)
              | (refine wpList_append_sl _ rfl _ _ 23 rfl w.heap.size 35 j0 (.agg #[.int .i64 0, .string ⟨#[]⟩, .slice none 0 0]) 3 48 Tryd.underlying23 Ji.out Jz.out Js.out Jb.out rfl (by decide) _ ms.length _ rfl (K2.1.alloc _) ⟨w4.heap.size, 0, none⟩ 1 1 [.int .i64 z.k, .string (bs (z.n.take 42)), .slice a1 n1 c1] rfl rfl (hlit2.out w4 (by omega)) hone n3 n4 (by simp; omega) ?_; intro v5 w5 hx6; obtain ⟨a5, c5, rfl⟩ := hx6.now.slice)))
            have hgk : ((z.k.toNat : Nat) : Int) = z.k := by omega
            have hws : mcs (ms ++ [((⟨z.k.toNat, z.n.take 42, vsS z⟩ : Mr), Value.slice a1 n1 c1)]) = mcs ms ++ [.int .i64 z.k, .string (bs (z.n.take 42)), .slice a1 n1 c1] := by
              simp only [mcs, List.flatMap_append, List.flatMap_cons, List.flatMap_nil, List.append_nil]
              rw [hgk]
            have K4 := ext_keep (W := w4) (by simp) (fun k hk => Below.heap_alloc _ _ _ hk) hx6 hx4.now (fun k e e2 => K2.2 k e2 e)
            have hb5 : Below w.heap.size w w5 := ((((HF3.out.b.alloc (by omega) _).trans (hx4.below (Nat.le_refl _) hb1)).alloc (by omega) _).trans (hx6.below (Nat.le_refl _) (by simp; omega)))
            have hlen : (ms ++ [((⟨z.k.toNat, z.n.take 42, vsS z⟩ : Mr), Value.slice a1 n1 c1)]).length = ms.length + 1 := by simp
            have hfin : FwR w w5 (.slice a4 (ms.length + 1) c4) (.slice a5 (ms.length + 1) c5) (ms ++ [((⟨z.k.toNat, z.n.take 42, vsS z⟩ : Mr), Value.slice a1 n1 c1)]) := by
              refine ⟨by rw [hlen, hws]; exact K4.1, by rw [hlen, hws]; exact hx6.now, K4.2, fun p hp => ?_, hb5, fun p hp => ?_⟩
              rotate_left
              · rcases List.mem_append.1 hp with hp | hp
                · exact HF3.out.ok p hp
                · rw [List.mem_singleton] at hp
                  subst hp
                  simp only
                  rw [hgk]
                  exact HR.out
              rcases List.mem_append.1 hp with hp | hp
              · obtain ⟨g1, g2, g3, g4⟩ := HF3.out.ps p hp
                have A1 := ext_keep (W := w3) (by simp) (fun k hk => Below.heap_alloc _ _ _ hk) hx4 g1 g2
                have A2 := ext_keep (W := w4) (by simp) (fun k hk => Below.heap_alloc _ _ _ hk) hx6 A1.1 g3
                exact ⟨A2.1, A1.2, A2.2, g4⟩
              · rw [List.mem_singleton] at hp
                subst hp
                have g1 := S3.out
                rw [HN1.out] at g1
                have g1' := g1.mono (show w.heap.size ≤ W0.heap.size from hwz)
                have A1 := ext_keep (W := w3) (by simp) (fun k hk => Below.heap_alloc _ _ _ hk) hx4 g1' (fun k e e2 => by have h1 := (g1.lt k e).1; have h2 := (HO1.out k e2).2; omega)
                have A2 := ext_keep (W := w4) (by simp) (fun k hk => Below.heap_alloc _ _ _ hk) hx6 A1.1 (fun k e e2 => by have h1 := (g1.lt k e).1; have h2 := (HO2.out k e2).2; omega)
                rw [HN1.out]
                exact ⟨A2.1, A1.2, A2.2, by show 1 ≤ z.k.toNat; omega, by show z.k.toNat ≤ 4; omega, hgood.2.2.1, fun hk => hgood.2.2.2 (by have : z.k.toNat = 3 := hk; omega)⟩
            exact ⟨⟨i + 1, _, by go_num, by omega, by omega, by rw [hlen]; have := HNM.out; omega, hfin⟩, by simp [intOf]; omega⟩
        · have h20i : ¬ (i : Int) < 20 := by omega
          go_wp2_with fail
          go_ret2
          exact ⟨_, _, rfl, ms, HF.out, by have := HNM.out; omega⟩
      · have h4i : ¬ (nm : Int) < 4 := by omega
        go_wp2_with fail
        go_ret2
        exact ⟨_, _, rfl, ms, HF.out, by have := HNM.out; omega⟩
    · have hli : ¬ (i : Int) < len := by omega
      go_wp2_with fail
      go_ret2
      exact ⟨_, _, rfl, ms, HF.out, by have := HNM.out; omega⟩
end Go.Proofs.YtobdlfikomnmcaaDoor
