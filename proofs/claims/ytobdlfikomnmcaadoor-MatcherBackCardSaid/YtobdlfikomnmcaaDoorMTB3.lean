/- Layer 13: a matcher as a text, matchers as a text. -/
import Derived.Test.YtobdlfikomnmcaaDoorMTB2
import Derived.Test.YtobdlfikomnmcaaDoorMTJ0
import Derived.Test.YtobdlfikomnmcaaDoorMTMF
import Derived.Test.YtobdlfikomnmcaaDoorMQC
import Derived.Deep.RegionHeld3
import Derived.Deep.Cut
namespace Go.Proofs.YtobdlfikomnmcaaDoor
open Go.RowKit Go.Lib
set_option linter.unusedVariables false

theorem join13_any (v : Value) (xs : List (List UInt8)) (c : UInt8) (w : World) (h : Rd w 1 v xs.length (txs xs)) (hcap : ∀ a n k, v = .slice a n k → n ≤ k) (hl : xs.length ≤ 100000) (hj : (joinB c xs).length ≤ 100000) :
    Calls Tryd.prog 15 #[v, .string (bs [c])] w fun e w' => e = .returned (.string (bs (joinB c xs))) ∧ Below w.heap.size w w' := by
  obtain ⟨_, a, cap, g, off, rfl, hg, hc⟩ := h
  have hk := hcap _ _ _ rfl
  simp only [Nat.mul_one] at hg hc
  have hmap : (xs.map bs).map (·.data.toList) = xs := by
    rw [List.map_map]
    conv => rhs; rw [← List.map_id xs]
    exact List.map_congr_left fun _ _ => rfl
  have hlen : (xs.map bs).length = xs.length := List.length_map ..
  cases xs with
  | nil =>
    have := Any.strings_Join_none joins joinX a cap (bs [c]) w
    exact this.mono fun e w' ⟨he, hw⟩ => ⟨he, hw ▸ Below.refl _ _⟩
  | cons x r =>
    obtain ⟨rfl, hgl⟩ := hg (by simp)
    have := Any.strings_Join joins joinX g off cap ((x :: r).map bs) (bs [c]) w (fun j y hy => by
      rw [List.getElem?_map] at hy
      cases hj2 : (x :: r)[j]? with
      | none => rw [hj2] at hy; cases hy
      | some z =>
        rw [hj2] at hy
        obtain rfl := Option.some.inj hy
        have hlt := (List.getElem?_eq_some_iff.1 hj2).1
        rw [hc j (by omega), txs_at (x :: r) j z hj2]) hgl (by rw [hlen]; omega) (by rw [hlen]; exact hk) (by rw [hmap, bs_list, joinB_is]; omega)
    rw [hlen, hmap, bs_list, joinB_is] at this
    exact this
theorem sgn_ne {k : Nat} (h1 : 1 ≤ k) (h4 : k ≤ 4) : (sgn k == []) = false := by
  rcases (by omega : k = 1 ∨ k = 2 ∨ k = 3 ∨ k = 4) with rfl | rfl | rfl | rfl <;> rfl
set_option maxHeartbeats 1000000 in
set_option maxRecDepth 100000 in
theorem string13_any (m : Mr) (v : Value) (w : World) (h : Rd w 1 v m.vs.length (txs m.vs)) (hcap : ∀ a n k, v = .slice a n k → n ≤ k) (ho : OkM m) :
    Calls Tryd.prog 14 #[mrV m v] w fun e w' => e = .returned (.string (bs (tOf m))) ∧ Below w.heap.size w w' := by
  have hT := bs_toList
  have hA := bs_append
  have SG := Lib.hid (fun W => sign_any m.k W ho.k1 ho.k4)
  have hj : (joinB 124 m.vs).length ≤ 100000 := by
    have := joinB_len 124 40 m.vs (fun v hv => (plain_out (ho.vs v hv).1).2)
    have := ho.v10
    omega
  have JN := Lib.hid (fun W (b : Below w.heap.size w W) => join13_any v m.vs 124 W (h.on b) hcap (by have := ho.v10; omega) hj)
  have hse := sgn_ne ho.k1 ho.k4
  have HZ := Lib.hid (show tOf m = m.n ++ (sgn m.k ++ joinB 124 m.vs) from rfl)
  have hn40 := (plain_out ho.pn).2
  have hs2 : (sgn m.k).length ≤ 2 := by
    rcases (by have := ho.k1; have := ho.k4; omega : m.k = 1 ∨ m.k = 2 ∨ m.k = 3 ∨ m.k = 4) with e | e | e | e <;> rw [e] <;> decide
  obtain ⟨_, a, cap, g, off, rfl, -, -⟩ := h
  obtain ⟨k, n, vs⟩ := m
  simp only at SG JN hse HZ hn40 hs2 hj
  unfold mrV
  simp only
  obtain ⟨sg, hsg⟩ : ∃ sg, sg = sgn k := ⟨_, rfl⟩
  obtain ⟨jn, hjn⟩ : ∃ jn, jn = joinB 124 vs := ⟨_, rfl⟩
  obtain ⟨nv, hnv⟩ : ∃ nv, nv = vs.length := ⟨_, rfl⟩
  rw [← hsg] at SG hse HZ hs2
  rw [← hjn] at JN HZ hj
  rw [← hnv] at JN ⊢
  rw [HZ.out]
  have b1 : Below w.heap.size w (w.alloc (.cells #[.int .i64 k, .string (bs n), .slice a nv cap] 37)) := (Below.refl _ _).alloc (Nat.le_refl _) _
  have HB := Lib.hid b1
  have z1 := bs_size_le n 40 hn40
  have z2 := bs_size_le sg 2 hs2
  have z3 := bs_size_le jn 100000 hj
  clear hsg hjn hnv hcap ho HZ b1
  go_enter Tryd.func14, Tryd.ntmps14
  go_wp2_with fail
  refine (SG.out _).mono ?_
  rintro e w1 ⟨rfl, rfl⟩
  go_upto_region 4 with fail
  obtain ⟨w1, hw1⟩ : ∃ w1, w1 = w.alloc (.cells #[.int .i64 k, .string (bs n), .slice a nv cap] 37) := ⟨_, rfl⟩
  rw [← hw1] at HB ⊢
  have hx := heap_alloc_new w (.cells #[.int .i64 k, .string (bs n), .slice a nv cap] 37)
  rw [← hw1] at hx
  have d1 := Lib.cell_of_heap hx 1; have d2 := Lib.cell_of_heap hx 2
  simp at d1 d2
  have h2z : w1.heap.size = w.heap.size + 1 := by rw [hw1]; simp
  have hzz : w.heap.size < w1.heap.size := by omega
  clear h2z
  have f1 : (bs n).size + (bs sg).size ≤ 9223372036854775807 := by omega
  have z4 := bs_size_le (n ++ sg) 42 (by simp; omega)
  have f2 : (bs (n ++ sg)).size + (bs jn).size ≤ 9223372036854775807 := by omega
  clear hx hw1
  have CT := Lib.hid (fun W (b : Below w1.heap.size w1 W) => show W.cell? ⟨w.heap.size, 1, none⟩ = some (.string (bs n)) ∧ W.cell? ⟨w.heap.size, 2, none⟩ = some (.slice a nv cap) from
    ⟨(b.cell (p := ⟨w.heap.size, 1, none⟩) hzz).trans d1, (b.cell (p := ⟨w.heap.size, 2, none⟩) hzz).trans d2⟩)
  have JN2 := Lib.hid (fun W (b : Below w1.heap.size w1 W) => (JN.out W (HB.out.trans (b.mono HB.out.size))).mono (R' := fun e w' => e = .returned (.string (bs jn)) ∧ Below w1.heap.size w1 w') (fun e w' h => ⟨h.1, b.trans (h.2.mono b.size)⟩))
  clear d1 d2 JN
  refine wp_region_quietC (C := fun W => Below w1.heap.size w1 W) (by kernel_rfl) (by kernel_rfl) (Below.refl w1.heap.size w1).drew ?_
  repeat (first
    | go_big_quiet_skip
    | (go_big_quiet_want; go_big_quiet_op; go_big_quiet_on)
    | (go_big_quiet_want; go_big_quiet_op; refine ⟨_, fun _ _ => rfl, ?_⟩; go_big_quiet_on)
    | (go_big_quiet_want; go_big_quiet_op; apply Exists.intro; refine And.intro (fun W hW => ?_) ?_; (obtain ⟨k1, k2⟩ := CT.out W hW; (try go_simp); (first | done | with_reducible rfl | (go_at_call 15; exact JN2.out _ hW) | fail)); go_big_quiet_on)
    | (go_big_quiet_want; apply Exists.intro; refine And.intro (fun W hW => ?_) ?_; (obtain ⟨k1, k2⟩ := CT.out W hW; go_simp; (first | done | with_reducible rfl | (go_at_call 15; exact JN2.out _ hW) | fail)); go_big_quiet_on; try simp only [Act.put, List.setIfInBounds_toArray, List.set_cons_zero, List.set_cons_succ]))
  with_reducible refine wpQuiet_nil ?_
  intro w9 hw9
  have BF := Lib.hid (HB.out.trans (hw9.mono HB.out.size))
  go_wp2_with fail
  go_ret
  exact ⟨rfl, BF.out⟩

theorem wpList_make_sl16 (w : World) {ops : Array Oper} {rest : List Oper} {o : Oper} {a : Act} {Q : Exit → Act → World → Prop} {P : Program} (hgd : o.guard = none) (l c : Operand) (t : TypeId) (ho : o.op = Op.makeSlice t l c)
    (e : TypeId) (i : TypeInfo) (z : Value) (ht : P.underlying t = some (.slice e)) (hi : P.info? e = some i) (hz : i.zero = some z) (hs1 : i.size = 1) (hb1 : i.bytes = 16)
    (kl kc : IntKind) (L C : Int) (hl : a.eval l = .int kl L) (hc : a.eval c = .int kc C) (G n m : Nat) (hG : w.heap.size = G) (hL : L = (n : Int)) (hC : C = (m : Int)) (hlc : n ≤ m) (hbytes : m ≤ 1000000)
    (h : ∀ w' xs, Sl w' G 1 (.slice (some ⟨G, 0, none⟩) n m) n xs → w.grownBy w' none → G < w'.heap.size → wpList P ops Q rest (a.put o.dst (.slice (some ⟨G, 0, none⟩) n m)) w') : wpList P ops Q (o :: rest) a w := by
  subst hG; subst hL; subst hC
  refine wpList_plain hgd fun K hK => ?_
  obtain ⟨w', xs, hr, h2, h3⟩ := run_make_sl (P := P) w t e i z ht hi hz hs1 kl kc n m (by omega) (by omega) (by rw [hb1]; omega) (by omega)
  rw [Int.toNat_natCast, Int.toNat_natCast] at hr h2
  unfold Oper.wp
  simp [execOp, ho, hl, hc, hr, Result.andThen]
  exact hK _ _ (h w' xs h2 h3 (h2.lt _ rfl).2)
theorem sl_cell13 {w : World} {base size g off n cap : Nat} {xs : List Value} (h : Sl w base size (.slice (some ⟨g, off, none⟩) n cap) n xs) (j : Nat) (hj : j < n * size) : (w.cell? ⟨g, off + j, none⟩).isSome ∧ w.frozen? ⟨g, off + j, none⟩ = false := by
  rcases h.2 with ⟨h0, _⟩ | ⟨g', off', cap', he, hb, hg, hnc, hcm, hfree, hcell⟩
  · cases h0
  · cases he
    have hle : n * size ≤ cap * size := Nat.mul_le_mul_right _ hnc
    exact hfree j (by omega)
theorem sl_set13 {w : World} {base size g off n cap : Nat} {xs : List Value} (h : Sl w base size (.slice (some ⟨g, off, none⟩) n cap) n xs) (k : Nat) (x : Value) : Sl (w.setCell ⟨g, off + k, none⟩ x) base size (.slice (some ⟨g, off, none⟩) n cap) n (xs.set k x) := by
  have hl := h.1
  rcases h.2 with ⟨h0, _⟩ | ⟨g', off', cap', he, hb, hg, hnc, hcm, hfree, hcell⟩
  · cases h0
  · cases he
    have hle : n * size ≤ cap * size := Nat.mul_le_mul_right _ hnc
    refine ⟨by rw [List.length_set]; exact hl, .inr ⟨g, off, cap, rfl, hb, by simpa [World.setCell] using hg, hnc, hcm, fun j hj => ⟨?_, ?_⟩, fun j hj => ?_⟩⟩
    · by_cases hjk : j = k
      · subst hjk
        rw [cell_setCell_same _ _ _ _ (hfree j hj).1]; rfl
      · rw [cell_setCell_other _ _ _ _ _ (.inr (by simp only; omega))]; exact (hfree j hj).1
    · rw [frozen_setCell]; exact (hfree j hj).2
    · rw [List.getElem?_set]
      by_cases hjk : k = j
      · subst hjk
        rw [if_pos rfl, if_pos (by omega), cell_setCell_same _ _ _ _ (hfree k (by omega)).1]
      · rw [if_neg hjk, cell_setCell_other _ _ _ _ _ (.inr (by simp only; omega)), hcell j hj]

/-- The texts of some matchers. -/
def tsOf (ms : List (Mr × Value)) : List (List UInt8) := ms.map fun p => tOf p.1
theorem bi_str13 : (Tryd.prog.info? 9).map (fun i => (i.zero, i.size, i.bytes)) = some (some (.string ⟨#[]⟩), 1, 16) := by kernel_rfl

set_option maxHeartbeats 4000000 in
set_option maxRecDepth 100000 in
theorem format13_any (v1 v2 : Value) (ms : List (Mr × Value)) (w0 w : World) (h : FwR w0 w v1 v2 ms) (hl : ms.length ≤ 4) :
    Calls Tryd.prog 6 #[v1] w fun e w' => e = .returned (.string (bs (joinB 44 (tsOf ms)))) ∧ Below w.heap.size w w' := by
  obtain ⟨i0, hi, hz0, hz1, hz2⟩ := info_parts bi_str13
  have Hz := Lib.hid hz0; have Hs := Lib.hid hz1; have Hb := Lib.hid hz2; have Hi := Lib.hid hi
  clear hz0 hz1 hz2 hi
  have H := Lib.hid h
  have hT := bs_toList
  obtain ⟨va, vc, rfl⟩ := h.s1.slice
  have ST := Lib.hid (fun p W (hp : p ∈ ms) (b : Below w.heap.size w W) => show Calls Tryd.prog 14 #[mrV p.1 p.2] W (fun e w' => e = .returned (.string (bs (tOf p.1))) ∧ Below W.heap.size W w') from
    string13_any p.1 p.2 W ((Rd.of_sl (h.ps p hp).1).on b) (fun a n k e => by
      have hs := (h.ps p hp).1
      rcases hs.2 with ⟨e0, h0⟩ | ⟨g, off, cap, e0, _, _, hnc, _⟩
      · rw [e0] at e; cases e; omega
      · rw [e0] at e; cases e; exact hnc) (rOk_out (h.ok p hp)))
  have JN := Lib.hid (fun v W (hr : Rd W 1 v (tsOf ms).length (txs (tsOf ms))) (hcap : ∀ a n k, v = .slice a n k → n ≤ k) => join13_any v (tsOf ms) 44 W hr hcap (by unfold tsOf; rw [List.length_map]; omega) (by
    have := joinB_len 44 500 (tsOf ms) (fun x hx => by
      obtain ⟨p, hp, rfl⟩ := List.mem_map.1 hx
      exact (tOf_len (rOk_out (h.ok p hp))).1)
    have h2 : (tsOf ms).length ≤ 4 := by unfold tsOf; rw [List.length_map]; exact hl
    have h3 : (tsOf ms).length * (500 + 1) ≤ 4 * 501 := Nat.mul_le_mul_right _ h2
    omega))
  obtain ⟨n, hn⟩ : ∃ n, n = ms.length := ⟨_, rfl⟩
  have HN := Lib.hid hn
  rw [← hn] at hl ⊢
  clear h hn
  go_enter Tryd.func6, Tryd.ntmps6
  go_wp2_with (at_make; refine wpList_make_sl16 _ rfl _ _ 33 rfl 9 i0 (.string ⟨#[]⟩) Tryd.underlying33 Hi.out Hz.out Hs.out Hb.out .i64 .i64 _ _ rfl rfl w.heap.size n n rfl rfl rfl (Nat.le_refl _) (by omega) ?_; intro w1 xs1 s1 g1 z1)
  have B1 := Lib.hid (show Below w.heap.size w w1 from ⟨g1.os, g1.tape, g1.output, g1.size, fun k hk => g1.block k hk (by simp)⟩)
  have S1 := Lib.hid s1
  clear s1 g1
  go_loopw [11] (fun i' wr => ∃ (i : Nat) (xs : List Value), i' = .int .i64 i ∧ i ≤ n ∧ Hid (Sl wr w.heap.size 1 (.slice (some ⟨w.heap.size, 0, none⟩) n n) n xs ∧ ∀ (j : Nat) t, j < i → (tsOf ms)[j]? = some t → xs[j]? = some (.string (bs t))) ∧ Below w.heap.size w wr) (fun i' _ => n - (intOf i').toNat)
  case atStart => exact ⟨0, xs1, rfl, by omega, Lib.hid ⟨S1.out, fun j t hj => absurd hj (Nat.not_lt_zero _)⟩, B1.out⟩
  case round =>
    obtain ⟨W0, rfl⟩ : ∃ W0, W0 = wr := ⟨_, rfl⟩
    obtain ⟨i, xs, rfl, hi, hst, hb⟩ := hrel
    have hbz := hb.size
    by_cases hlt : i < n
    · have hll : i < ms.length := by have := HN.out; omega
      have hx0 : ms[i]? = some ms[i] := List.getElem?_eq_getElem hll
      have hpm : ms[i] ∈ ms := List.getElem_mem hll
      obtain ⟨p, hp⟩ : ∃ p, ms[i] = p := ⟨_, rfl⟩
      rw [hp] at hx0 hpm
      obtain ⟨m0, m1, m2⟩ := mcs_at ms i p hx0
      have ht0 : (tsOf ms)[i]? = some (tOf p.1) := by unfold tsOf; rw [List.getElem?_map, hx0]; rfl
      obtain ⟨_, e1a, e1c, g, off, ev1, hg1, hc1⟩ := Rd.of_sl H.out.s1
      rw [← HN.out] at ev1 hg1 hc1
      cases ev1
      obtain ⟨rfl, hgl⟩ := hg1 (by omega)
      have q0 := ((hb.cell (p := ⟨g, off + i * 3, none⟩) hgl).trans (hc1 (i * 3) (by omega))).trans m0
      have q1 := ((hb.cell (p := ⟨g, off + (i * 3 + 1), none⟩) hgl).trans (hc1 (i * 3 + 1) (by omega))).trans m1
      have q2 := ((hb.cell (p := ⟨g, off + (i * 3 + 2), none⟩) hgl).trans (hc1 (i * 3 + 2) (by omega))).trans m2
      rw [← Nat.add_assoc] at q1 q2
      obtain ⟨a3, cap3, hv3⟩ := (H.out.ps p hpm).1.slice
      rw [hv3] at q2
      have hil : (i : Int) < n := by omega
      obtain ⟨W1, hW1⟩ : ∃ W1, W1 = W0.alloc (.cells #[.int .i64 p.1.k, .string (bs p.1.n), .slice a3 p.1.vs.length cap3] 37) := ⟨_, rfl⟩
      have hh := heap_alloc_new W0 (.cells #[.int .i64 p.1.k, .string (bs p.1.n), .slice a3 p.1.vs.length cap3] 37)
      rw [← hW1] at hh
      have d0 := Lib.cell_of_heap hh 0; have d1 := Lib.cell_of_heap hh 1; have d2 := Lib.cell_of_heap hh 2
      simp at d0 d1 d2
      have b01 : Below W0.heap.size W0 W1 := by rw [hW1]; exact (Below.refl _ _).alloc (Nat.le_refl _) _
      have B01 := Lib.hid b01
      have CF := ST.out p W1 hpm (hb.trans (b01.mono hbz))
      have z1 := b01.size
      unfold mrV at CF
      rw [hv3] at CF
      obtain ⟨kk, hkk⟩ : ∃ kk : Int, kk = (p.1.k : Int) := ⟨_, rfl⟩
      obtain ⟨nn, hnn⟩ : ∃ nn, nn = p.1.n := ⟨_, rfl⟩
      obtain ⟨nv, hnv⟩ : ∃ nv : Nat, nv = p.1.vs.length := ⟨_, rfl⟩
      obtain ⟨tt, htt⟩ : ∃ tt, tt = tOf p.1 := ⟨_, rfl⟩
      rw [← hkk] at CF q0 d0 hW1
      rw [← hnn] at CF q1 d1 hW1
      rw [← hnv] at CF q2 d2 hW1
      rw [← htt] at CF ht0
      have HCF := Lib.hid CF
      have HW1 := Lib.hid hW1
      have HST := Lib.hid hst.out
      have HT0 := Lib.hid ht0
      have HB := Lib.hid hb
      clear hx0 hpm m0 m1 m2 hv3 hW1 hh b01 CF hkk hnn hnv htt hst hp hg1 hc1 hb ht0
      go_wp2_with fail
      rw [← HW1.out]
      refine HCF.out.mono ?_
      rintro e w3 ⟨rfl, b3⟩
      have b03 := B01.out.trans (b3.mono z1)
      have HB3 := Lib.hid (HB.out.trans (b03.mono hbz))
      have s3 := HST.out.1.on b03
      obtain ⟨c0, f0⟩ := sl_cell13 s3 i (by omega)
      rw [Nat.zero_add] at c0 f0
      obtain ⟨cv, hcv⟩ := Option.isSome_iff_exists.1 c0
      have S3 := Lib.hid (sl_set13 s3 i (.string (bs tt)))
      rw [Nat.zero_add] at S3
      have HXL := Lib.hid s3.1
      clear b3 HCF s3 b03 q0 q1 q2 d0 d1 d2
      go_wp2_with fail
      refine ⟨⟨i + 1, xs.set i (.string (bs tt)), by go_num, by omega, Lib.hid ⟨S3.out, fun j t hj ht => ?_⟩, HB3.out.setCell (p := ⟨w.heap.size, i, none⟩) (Nat.le_refl _) _⟩, by simp [intOf]; omega⟩
      rw [List.getElem?_set]
      by_cases hji : i = j
      · subst hji
        rw [HT0.out] at ht
        cases ht
        rw [if_pos rfl, if_pos (by have := HXL.out; omega)]
      · rw [if_neg hji]
        exact HST.out.2 j t (by omega) ht
    · have hil : ¬ (i : Int) < n := by omega
      obtain ⟨hs, hx⟩ := hst.out
      have hxs : xs = txs (tsOf ms) := by
        refine List.ext_getElem? fun j => ?_
        have hlen := hs.1
        have htl : (tsOf ms).length = n := by unfold tsOf; rw [List.length_map]; exact HN.out.symm
        by_cases hj : j < n
        · rw [txs_at (tsOf ms) j ((tsOf ms)[j]'(by omega)) (List.getElem?_eq_getElem (by omega))]
          exact hx j _ (by omega) (List.getElem?_eq_getElem (by omega))
        · rw [List.getElem?_eq_none (by omega), List.getElem?_eq_none (by unfold txs; rw [List.length_map]; omega)]
      have htl : (tsOf ms).length = n := by unfold tsOf; rw [List.length_map]; exact HN.out.symm
      rw [hxs] at hs
      have CJ := Lib.hid (JN.out (.slice (some ⟨w.heap.size, 0, none⟩) n n) W0 (by rw [htl]; exact Rd.of_sl hs) (fun a m k e => by cases e; exact Nat.le_refl _))
      have HB := Lib.hid hb
      clear hst hs hx hxs htl hb
      go_wp2_with fail
      refine CJ.out.mono ?_
      rintro e w2 ⟨rfl, b2⟩
      have BF := Lib.hid (HB.out.trans (b2.mono hbz))
      clear b2 CJ
      go_wp2
      go_ret
      exact ⟨rfl, BF.out⟩
end Go.Proofs.YtobdlfikomnmcaaDoor
