/- Layer 13: texts of matchers, are matchers these? -/
import Derived.Test.YtobdlfikomnmcaaGreatDoorMTB2
import Derived.Test.YtobdlfikomnmcaaGreatDoorMTJ0
import Derived.Test.YtobdlfikomnmcaaGreatDoorMTM8
import Derived.Test.YtobdlfikomnmcaaGreatDoorMQC
import Derived.Deep.RegionHeld3
import Derived.Deep.Cut
namespace Go.Proofs.YtobdlfikomnmcaaGreatDoor
open Go.RowKit Go.Lib
set_option linter.unusedVariables false

theorem join13_any (v : Value) (xs : List (List UInt8)) (c : UInt8) (w : World) (h : Rd w 1 v xs.length (txs xs)) (hcap : ∀ a n k, v = .slice a n k → n ≤ k) (hl : xs.length ≤ 100000) (hj : (joinB c xs).length ≤ 100000) :
    Calls Tryz.prog 25 #[v, .string (bs [c])] w fun e w' => e = .returned (.string (bs (joinB c xs))) ∧ Below w.heap.size w w' := by
  obtain ⟨_, a, cap, g, off, rfl, hg, hc⟩ := h
  have hk := hcap _ _ _ rfl
  simp only [Nat.mul_one] at hg hc
  have hmap : (xs.map bs).map (·.data.toList) = xs := by
    rw [List.map_map]
    conv => rhs; rw [← List.map_id xs]
    exact List.map_congr_left fun _ _ => rfl
  have hlen : (xs.map bs).length = xs.length := List.length_map ..
  cases xs with
  | nil =>
    have := Any.strings_Join_none joins joinX a cap (bs [c]) w
    exact this.mono fun e w' ⟨he, hw⟩ => ⟨he, hw ▸ Below.refl _ _⟩
  | cons x r =>
    obtain ⟨rfl, hgl⟩ := hg (by simp)
    have := Any.strings_Join joins joinX g off cap ((x :: r).map bs) (bs [c]) w (fun j y hy => by
      rw [List.getElem?_map] at hy
      cases hj2 : (x :: r)[j]? with
      | none => rw [hj2] at hy; cases hy
      | some z =>
        rw [hj2] at hy
        obtain rfl := Option.some.inj hy
        have hlt := (List.getElem?_eq_some_iff.1 hj2).1
        rw [hc j (by omega), txs_at (x :: r) j z hj2]) hgl (by rw [hlen]; omega) (by rw [hlen]; exact hk) (by rw [hmap, bs_list, joinB_is]; omega)
    rw [hlen, hmap, bs_list, joinB_is] at this
    exact this
theorem sgn_ne {k : Nat} (h1 : 1 ≤ k) (h4 : k ≤ 4) : (sgn k == []) = false := by
  rcases (by omega : k = 1 ∨ k = 2 ∨ k = 3 ∨ k = 4) with rfl | rfl | rfl | rfl <;> rfl
set_option maxHeartbeats 1000000 in
set_option maxRecDepth 100000 in
theorem string13_any (m : Mr) (v : Value) (w : World) (h : Rd w 1 v m.vs.length (txs m.vs)) (hcap : ∀ a n k, v = .slice a n k → n ≤ k) (ho : OkM m) :
    Calls Tryz.prog 12 #[mrV m v] w fun e w' => e = .returned (.string (bs (tOf m))) ∧ Below w.heap.size w w' := by
  have hT := bs_toList
  have hA := bs_append
  have SG := Lib.hid (fun W => sign_any m.k W ho.k1 ho.k4)
  have hj : (joinB 124 m.vs).length ≤ 100000 := by
    have := joinB_len 124 40 m.vs (fun v hv => (plain_out (ho.vs v hv).1).2)
    have := ho.v10
    omega
  have JN := Lib.hid (fun W (b : Below w.heap.size w W) => join13_any v m.vs 124 W (h.on b) hcap (by have := ho.v10; omega) hj)
  have hse := sgn_ne ho.k1 ho.k4
  have HZ := Lib.hid (show tOf m = m.n ++ (sgn m.k ++ joinB 124 m.vs) from rfl)
  have hn40 := (plain_out ho.pn).2
  have hs2 : (sgn m.k).length ≤ 2 := by
    rcases (by have := ho.k1; have := ho.k4; omega : m.k = 1 ∨ m.k = 2 ∨ m.k = 3 ∨ m.k = 4) with e | e | e | e <;> rw [e] <;> decide
  obtain ⟨_, a, cap, g, off, rfl, -, -⟩ := h
  obtain ⟨k, n, vs⟩ := m
  simp only at SG JN hse HZ hn40 hs2 hj
  unfold mrV
  simp only
  obtain ⟨sg, hsg⟩ : ∃ sg, sg = sgn k := ⟨_, rfl⟩
  obtain ⟨jn, hjn⟩ : ∃ jn, jn = joinB 124 vs := ⟨_, rfl⟩
  obtain ⟨nv, hnv⟩ : ∃ nv, nv = vs.length := ⟨_, rfl⟩
  rw [← hsg] at SG hse HZ hs2
  rw [← hjn] at JN HZ hj
  rw [← hnv] at JN ⊢
  rw [HZ.out]
  have b1 : Below w.heap.size w (w.alloc (.cells #[.int .i64 k, .string (bs n), .slice a nv cap] 24)) := (Below.refl _ _).alloc (Nat.le_refl _) _
  have HB := Lib.hid b1
  have z1 := bs_size_le n 40 hn40
  have z2 := bs_size_le sg 2 hs2
  have z3 := bs_size_le jn 100000 hj
  clear hsg hjn hnv hcap ho HZ b1
  go_enter Tryz.func12, Tryz.ntmps12
  go_wp2_with fail
  refine (SG.out _).mono ?_
  rintro e w1 ⟨rfl, rfl⟩
  go_upto_region 4 with fail
  obtain ⟨w1, hw1⟩ : ∃ w1, w1 = w.alloc (.cells #[.int .i64 k, .string (bs n), .slice a nv cap] 24) := ⟨_, rfl⟩
  rw [← hw1] at HB ⊢
  have hx := heap_alloc_new w (.cells #[.int .i64 k, .string (bs n), .slice a nv cap] 24)
  rw [← hw1] at hx
  have d1 := Lib.cell_of_heap hx 1; have d2 := Lib.cell_of_heap hx 2
  simp at d1 d2
  have h2z : w1.heap.size = w.heap.size + 1 := by rw [hw1]; simp
  have hzz : w.heap.size < w1.heap.size := by omega
  clear h2z
  have f1 : (bs n).size + (bs sg).size ≤ 9223372036854775807 := by omega
  have z4 := bs_size_le (n ++ sg) 42 (by simp; omega)
  have f2 : (bs (n ++ sg)).size + (bs jn).size ≤ 9223372036854775807 := by omega
  clear hx hw1
  have CT := Lib.hid (fun W (b : Below w1.heap.size w1 W) => show W.cell? ⟨w.heap.size, 1, none⟩ = some (.string (bs n)) ∧ W.cell? ⟨w.heap.size, 2, none⟩ = some (.slice a nv cap) from
    ⟨(b.cell (p := ⟨w.heap.size, 1, none⟩) hzz).trans d1, (b.cell (p := ⟨w.heap.size, 2, none⟩) hzz).trans d2⟩)
  have JN2 := Lib.hid (fun W (b : Below w1.heap.size w1 W) => (JN.out W (HB.out.trans (b.mono HB.out.size))).mono (R' := fun e w' => e = .returned (.string (bs jn)) ∧ Below w1.heap.size w1 w') (fun e w' h => ⟨h.1, b.trans (h.2.mono b.size)⟩))
  clear d1 d2 JN
  refine wp_region_quietC (C := fun W => Below w1.heap.size w1 W) (by kernel_rfl) (by kernel_rfl) (Below.refl w1.heap.size w1).drew ?_
  repeat (first
    | go_big_quiet_skip
    | (go_big_quiet_want; go_big_quiet_op; go_big_quiet_on)
    | (go_big_quiet_want; go_big_quiet_op; refine ⟨_, fun _ _ => rfl, ?_⟩; go_big_quiet_on)
    | (go_big_quiet_want; go_big_quiet_op; apply Exists.intro; refine And.intro (fun W hW => ?_) ?_; (obtain ⟨k1, k2⟩ := CT.out W hW; (try go_simp); (first | done | with_reducible rfl | (go_at_call 25; exact JN2.out _ hW) | fail)); go_big_quiet_on)
    | (go_big_quiet_want; apply Exists.intro; refine And.intro (fun W hW => ?_) ?_; (obtain ⟨k1, k2⟩ := CT.out W hW; go_simp; (first | done | with_reducible rfl | (go_at_call 25; exact JN2.out _ hW) | fail)); go_big_quiet_on; try simp only [Act.put, List.setIfInBounds_toArray, List.set_cons_zero, List.set_cons_succ]))
  with_reducible refine wpQuiet_nil ?_
  intro w9 hw9
  have BF := Lib.hid (HB.out.trans (hw9.mono HB.out.size))
  go_wp2_with fail
  go_ret
  exact ⟨rfl, BF.out⟩

set_option maxHeartbeats 4000000 in
set_option maxRecDepth 100000 in
theorem same13b_any (v u : Value) (l1 l2 : List (Mr × Value)) (w : World) (h1 : MsR w v l1) (h2 : MsR w u l2) (he : l1.map (·.1) = l2.map (·.1)) (hl : l1.length ≤ 100000) :
    Calls Tryz.prog 9 #[v, u] w fun e w' => e = .returned (.bool true) ∧ Below w.heap.size w w' := by
  have hT := bs_toList
  have hlen : l2.length = l1.length := by have := congrArg List.length he; simpa using this.symm
  have H1 := Lib.hid h1
  have H2 := Lib.hid h2
  obtain ⟨_, a, cap, g, off, rfl, hg, hc⟩ := h1.r
  obtain ⟨_, a2, cap2, g2, off2, rfl, hg2, hc2⟩ := h2.r
  rw [hlen] at hg2 hc2 ⊢
  obtain ⟨n, hn⟩ : ∃ n, n = l1.length := ⟨_, rfl⟩
  rw [← hn] at hg hc hg2 hc2 hl hlen ⊢
  have HN := Lib.hid hn
  have HL := Lib.hid hlen
  have HG := Lib.hid hg; have HC := Lib.hid hc; have HG2 := Lib.hid hg2; have HC2 := Lib.hid hc2
  have HE := Lib.hid he
  clear h1 h2 hn hlen hg hc hg2 hc2 he
  go_enter Tryz.func9, Tryz.ntmps9
  go_wp2_with fail
  go_loopw [16] (fun i' wr => ∃ i : Nat, i' = .int .i64 i ∧ i ≤ n ∧ Below w.heap.size w wr) (fun i' _ => n - (intOf i').toNat)
  case atStart => exact ⟨0, rfl, by omega, Below.refl _ _⟩
  case round =>
    obtain ⟨W0, rfl⟩ : ∃ W0, W0 = wr := ⟨_, rfl⟩
    obtain ⟨i, rfl, hi, hb⟩ := hrel
    have hbz := hb.size
    by_cases hlt : i < n
    · obtain ⟨rfl, hgl⟩ := HG.out (by omega)
      obtain ⟨rfl, hgl2⟩ := HG2.out (by omega)
      obtain ⟨p, hp⟩ : ∃ p, l1[i]? = some p := ⟨l1[i]'(by have := HN.out; omega), List.getElem?_eq_getElem (by have := HN.out; omega)⟩
      obtain ⟨q, hq⟩ : ∃ q, l2[i]? = some q := ⟨l2[i]'(by have := HL.out; omega), List.getElem?_eq_getElem (by have := HL.out; omega)⟩
      have hpq : p.1 = q.1 := by
        have := congrArg (·[i]?) HE.out
        simp only [List.getElem?_map, hp, hq, Option.map_some, Option.some.injEq] at this
        exact this
      obtain ⟨m0, m1, m2⟩ := mcs_at l1 i p hp
      obtain ⟨r0, r1, r2⟩ := mcs_at l2 i q hq
      rw [← hpq] at r0 r1
      obtain ⟨rv1, hv1, -⟩ := H1.out.vs p (List.mem_of_getElem? hp)
      obtain ⟨rv2, -, -⟩ := H2.out.vs q (List.mem_of_getElem? hq)
      rw [← hpq] at rv2
      obtain ⟨_, b1, c1, x1, o1, e1, hx1, hy1⟩ := rv1
      obtain ⟨_, b2, c2, x2, o2, e2, hx2, hy2⟩ := rv2
      rw [e1] at m2
      rw [e2] at r2
      have hz1 : ∀ j, j < n * 3 → W0.cell? ⟨g, off + j, none⟩ = (mcs l1)[j]? := fun j hj => (hb.cell (p := ⟨g, off + j, none⟩) hgl).trans (HC.out j hj)
      have hz2 : ∀ j, j < n * 3 → W0.cell? ⟨g2, off2 + j, none⟩ = (mcs l2)[j]? := fun j hj => (hb.cell (p := ⟨g2, off2 + j, none⟩) hgl2).trans (HC2.out j hj)
      have q0 := (hz1 (i * 3) (by omega)).trans m0
      have q1 := (hz1 (i * 3 + 1) (by omega)).trans m1
      have q2 := (hz1 (i * 3 + 2) (by omega)).trans m2
      have t0 := (hz2 (i * 3) (by omega)).trans r0
      have t1 := (hz2 (i * 3 + 1) (by omega)).trans r1
      have t2 := (hz2 (i * 3 + 2) (by omega)).trans r2
      rw [← Nat.add_assoc] at q1 q2 t1 t2
      obtain ⟨kk, hkk⟩ : ∃ kk : Int, kk = (p.1.k : Int) := ⟨_, rfl⟩
      obtain ⟨nn, hnn⟩ : ∃ nn, nn = p.1.n := ⟨_, rfl⟩
      obtain ⟨vs, hvs⟩ : ∃ vs, vs = p.1.vs := ⟨_, rfl⟩
      rw [← hkk] at q0 t0
      rw [← hnn] at q1 t1
      rw [← hvs] at q2 t2 hx1 hy1 hx2 hy2 hv1
      obtain ⟨nv, hnv⟩ : ∃ nv, nv = vs.length := ⟨_, rfl⟩
      rw [← hnv] at q2 t2 hx1 hy1 hx2 hy2 hv1
      have HNV := Lib.hid hnv
      simp only [Nat.mul_one] at hx1 hy1 hx2 hy2
      have HX1 := Lib.hid hx1; have HY1 := Lib.hid hy1; have HX2 := Lib.hid hx2; have HY2 := Lib.hid hy2
      have hil : (i : Int) < n := by omega
      obtain ⟨W1, hW1⟩ : ∃ W1, W1 = W0.alloc (.cells #[.int .i64 kk, .string (bs nn), .slice b2 nv c2] 33) := ⟨_, rfl⟩
      have hh := heap_alloc_new W0 (.cells #[.int .i64 kk, .string (bs nn), .slice b2 nv c2] 33)
      rw [← hW1] at hh
      have d0 := Lib.cell_of_heap hh 0; have d1 := Lib.cell_of_heap hh 1; have d2 := Lib.cell_of_heap hh 2
      simp at d0 d1 d2
      have z1 : W1.heap.size = W0.heap.size + 1 := by rw [hW1]; simp
      have b01 : Below W0.heap.size W0 W1 := by rw [hW1]; exact (Below.refl _ _).alloc (Nat.le_refl _) _
      have BW1 := Lib.hid (hb.trans (b01.mono hbz))
      have u0 := (b01.cell (p := ⟨g, off + i * 3, none⟩) (by show g < _; omega)).trans q0
      have u1 := (b01.cell (p := ⟨g, off + i * 3 + 1, none⟩) (by show g < _; omega)).trans q1
      have u2 := (b01.cell (p := ⟨g, off + i * 3 + 2, none⟩) (by show g < _; omega)).trans q2
      have CT := Lib.hid (fun W (b : Below W1.heap.size W1 W) => show W.cell? ⟨W0.heap.size, 0, none⟩ = some (.int .i64 kk) ∧ W.cell? ⟨W0.heap.size, 1, none⟩ = some (.string (bs nn)) ∧ W.cell? ⟨W0.heap.size, 2, none⟩ = some (.slice b2 nv c2) ∧ W.cell? ⟨g, off + i * 3, none⟩ = some (.int .i64 kk) ∧ W.cell? ⟨g, off + i * 3 + 1, none⟩ = some (.string (bs nn)) ∧ W.cell? ⟨g, off + i * 3 + 2, none⟩ = some (.slice b1 nv c1) from
        ⟨(b.cell (p := ⟨W0.heap.size, 0, none⟩) (by show W0.heap.size < _; omega)).trans d0, (b.cell (p := ⟨W0.heap.size, 1, none⟩) (by show W0.heap.size < _; omega)).trans d1, (b.cell (p := ⟨W0.heap.size, 2, none⟩) (by show W0.heap.size < _; omega)).trans d2,
          (b.cell (p := ⟨g, off + i * 3, none⟩) (by show g < _; omega)).trans u0, (b.cell (p := ⟨g, off + i * 3 + 1, none⟩) (by show g < _; omega)).trans u1, (b.cell (p := ⟨g, off + i * 3 + 2, none⟩) (by show g < _; omega)).trans u2⟩)
      have HW1 := Lib.hid hW1
      have HB0 := Lib.hid hb
      clear hp hq hpq m0 m1 m2 r0 r1 r2 e1 e2 hx1 hy1 hx2 hy2 hz1 hz2 hkk hnn hvs hnv hW1 hh d0 d1 d2 u0 u1 u2 b01 hb q0 q1 q2 z1
      go_upto_region 6 with fail
      rw [← HW1.out]
      clear t0 t1 t2
      refine wp_region_quietC (C := fun W => Below W1.heap.size W1 W) (by kernel_rfl) (by kernel_rfl) (Below.refl W1.heap.size W1).drew ?_
      repeat (first
        | go_big_quiet_skip
        | (go_big_quiet_want; go_big_quiet_op; go_big_quiet_on)
        | (go_big_quiet_want; go_big_quiet_op; refine ⟨_, fun _ _ => rfl, ?_⟩; go_big_quiet_on)
        | (go_big_quiet_want; go_big_quiet_op; apply Exists.intro; refine And.intro (fun W hW => ?_) ?_; (obtain ⟨k0, k1, k2, k3, k4, k5⟩ := CT.out W hW; (try go_simp); (first | done | with_reducible rfl | fail)); go_big_quiet_on)
        | (go_big_quiet_want; apply Exists.intro; refine And.intro (fun W hW => ?_) ?_; (obtain ⟨k0, k1, k2, k3, k4, k5⟩ := CT.out W hW; go_simp; (first | done | with_reducible rfl | fail)); go_big_quiet_on; try simp only [Act.put, List.setIfInBounds_toArray, List.set_cons_zero, List.set_cons_succ]))
      with_reducible refine wpQuiet_nil ?_
      intro w9 hw9
      have HB9 := Lib.hid (BW1.out.trans (hw9.mono (by have := BW1.out.size; omega)))
      obtain ⟨k0, k1, k2, k3, k4, k5⟩ := CT.out w9 hw9
      clear k0 k1 k3 k4
      have BZ9 := Lib.hid (show Below w.heap.size w w9 from HB9.out)
      clear hw9
      go_wp2_with fail
      go_loopw [54] (fun j' wr => ∃ j : Nat, j' = .int .i64 j ∧ j ≤ nv ∧ wr = w9) (fun j' _ => nv - (intOf j').toNat)
      case atStart => exact ⟨0, rfl, by omega, rfl⟩
      case round =>
        obtain ⟨j, rfl, hj, rfl⟩ := hrel
        by_cases hjk : j < nv
        · obtain ⟨rfl, hl1⟩ := HX1.out (by omega)
          obtain ⟨rfl, hl2⟩ := HX2.out (by omega)
          obtain ⟨y, hy⟩ : ∃ y, vs[j]? = some y := ⟨vs[j]'(by have := HNV.out; omega), List.getElem?_eq_getElem (by have := HNV.out; omega)⟩
          have s1 := ((BZ9.out.cell (p := ⟨x1, o1 + j, none⟩) hl1).trans (HY1.out j hjk)).trans (txs_at vs j y hy)
          have s2 := ((BZ9.out.cell (p := ⟨x2, o2 + j, none⟩) hl2).trans (HY2.out j hjk)).trans (txs_at vs j y hy)
          have hil2 : (j : Int) < nv := by omega
          clear hy
          go_wp2_with fail
          exact ⟨⟨j + 1, by go_num, by omega, trivial⟩, by simp [intOf]; omega⟩
        · have hil2 : ¬ (j : Int) < nv := by omega
          go_wp2_with fail
          exact ⟨⟨i + 1, by go_num, by omega, BZ9.out⟩, by simp [intOf]; omega⟩
    · have hil : ¬ (i : Int) < n := by omega
      have HB := Lib.hid hb
      clear hb
      go_wp2_with fail
      go_ret
      exact ⟨rfl, HB.out⟩

set_option maxHeartbeats 1000000 in
set_option maxRecDepth 100000 in
theorem parse13_nil (w : World) : Calls Tryz.prog 5 #[.string (bs [])] w fun e w' => e = .returned (.tuple #[.slice none 0 0, .int .i64 0]) ∧ Below w.heap.size w w' := by
  have hT := bs_toList
  refine (callsIn_wide (n := 5)).1 ?_
  refine callsIn_of_wp_marks Tryz.func5 rfl trivial ?_ rfl
  simp only [Tryz.ntmps5, List.size_toArray, List.length_cons, List.length_nil, Nat.reduceAdd, Nat.reduceSub, Array.replicate_succ, Array.replicate_zero, List.push_toArray, List.append_toArray, List.nil_append, List.cons_append]
  gi_wp2
  refine ⟨.tuple #[.slice none 0 0, .int .i64 0], ?_, rfl, ((Below.refl _ _).alloc (Nat.le_refl _) _).alloc (by simp) _⟩
  simp [results, Tryz.results5, go_sem]
end Go.Proofs.YtobdlfikomnmcaaGreatDoor
