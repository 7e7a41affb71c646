/- Layer 13: are matchers these? Matchers go as a text, and come back: the law. -/
import Derived.Test.YtobdlfikomnmcaaDoorMTB3
import Derived.Test.YtobdlfikomnmcaaDoorMTM8
namespace Go.Proofs.YtobdlfikomnmcaaDoor
open Go.RowKit Go.Lib
set_option linter.unusedVariables false

set_option maxHeartbeats 4000000 in
set_option maxRecDepth 100000 in
theorem same13b_any (v u : Value) (l1 l2 : List (Mr × Value)) (w : World) (h1 : MsR w v l1) (h2 : MsR w u l2) (he : l1.map (·.1) = l2.map (·.1)) (hl : l1.length ≤ 100000) :
    Calls Tryd.prog 8 #[v, u] w fun e w' => e = .returned (.bool true) ∧ Below w.heap.size w w' := by
  have hT := bs_toList
  have hlen : l2.length = l1.length := by have := congrArg List.length he; simpa using this.symm
  have H1 := Lib.hid h1
  have H2 := Lib.hid h2
  obtain ⟨_, a, cap, g, off, rfl, hg, hc⟩ := h1.r
  obtain ⟨_, a2, cap2, g2, off2, rfl, hg2, hc2⟩ := h2.r
  rw [hlen] at hg2 hc2 ⊢
  obtain ⟨n, hn⟩ : ∃ n, n = l1.length := ⟨_, rfl⟩
  rw [← hn] at hg hc hg2 hc2 hl hlen ⊢
  have HN := Lib.hid hn
  have HL := Lib.hid hlen
  have HG := Lib.hid hg; have HC := Lib.hid hc; have HG2 := Lib.hid hg2; have HC2 := Lib.hid hc2
  have HE := Lib.hid he
  clear h1 h2 hn hlen hg hc hg2 hc2 he
  go_enter Tryd.func8, Tryd.ntmps8
  go_wp2_with fail
  go_loopw [16] (fun i' wr => ∃ i : Nat, i' = .int .i64 i ∧ i ≤ n ∧ Below w.heap.size w wr) (fun i' _ => n - (intOf i').toNat)
  case atStart => exact ⟨0, rfl, by omega, Below.refl _ _⟩
  case round =>
    obtain ⟨W0, rfl⟩ : ∃ W0, W0 = wr := ⟨_, rfl⟩
    obtain ⟨i, rfl, hi, hb⟩ := hrel
    have hbz := hb.size
    by_cases hlt : i < n
    · obtain ⟨rfl, hgl⟩ := HG.out (by omega)
      obtain ⟨rfl, hgl2⟩ := HG2.out (by omega)
      obtain ⟨p, hp⟩ : ∃ p, l1[i]? = some p := ⟨l1[i]'(by have := HN.out; omega), List.getElem?_eq_getElem (by have := HN.out; omega)⟩
      obtain ⟨q, hq⟩ : ∃ q, l2[i]? = some q := ⟨l2[i]'(by have := HL.out; omega), List.getElem?_eq_getElem (by have := HL.out; omega)⟩
      have hpq : p.1 = q.1 := by
        have := congrArg (·[i]?) HE.out
        simp only [List.getElem?_map, hp, hq, Option.map_some, Option.some.injEq] at this
        exact this
      obtain ⟨m0, m1, m2⟩ := mcs_at l1 i p hp
      obtain ⟨r0, r1, r2⟩ := mcs_at l2 i q hq
      rw [← hpq] at r0 r1
      obtain ⟨rv1, hv1, -⟩ := H1.out.vs p (List.mem_of_getElem? hp)
      obtain ⟨rv2, -, -⟩ := H2.out.vs q (List.mem_of_getElem? hq)
      rw [← hpq] at rv2
      obtain ⟨_, b1, c1, x1, o1, e1, hx1, hy1⟩ := rv1
      obtain ⟨_, b2, c2, x2, o2, e2, hx2, hy2⟩ := rv2
      rw [e1] at m2
      rw [e2] at r2
      have hz1 : ∀ j, j < n * 3 → W0.cell? ⟨g, off + j, none⟩ = (mcs l1)[j]? := fun j hj => (hb.cell (p := ⟨g, off + j, none⟩) hgl).trans (HC.out j hj)
      have hz2 : ∀ j, j < n * 3 → W0.cell? ⟨g2, off2 + j, none⟩ = (mcs l2)[j]? := fun j hj => (hb.cell (p := ⟨g2, off2 + j, none⟩) hgl2).trans (HC2.out j hj)
      have q0 := (hz1 (i * 3) (by omega)).trans m0
      have q1 := (hz1 (i * 3 + 1) (by omega)).trans m1
      have q2 := (hz1 (i * 3 + 2) (by omega)).trans m2
      have t0 := (hz2 (i * 3) (by omega)).trans r0
      have t1 := (hz2 (i * 3 + 1) (by omega)).trans r1
      have t2 := (hz2 (i * 3 + 2) (by omega)).trans r2
      rw [← Nat.add_assoc] at q1 q2 t1 t2
      obtain ⟨kk, hkk⟩ : ∃ kk : Int, kk = (p.1.k : Int) := ⟨_, rfl⟩
      obtain ⟨nn, hnn⟩ : ∃ nn, nn = p.1.n := ⟨_, rfl⟩
      obtain ⟨vs, hvs⟩ : ∃ vs, vs = p.1.vs := ⟨_, rfl⟩
      rw [← hkk] at q0 t0
      rw [← hnn] at q1 t1
      rw [← hvs] at q2 t2 hx1 hy1 hx2 hy2 hv1
      obtain ⟨nv, hnv⟩ : ∃ nv, nv = vs.length := ⟨_, rfl⟩
      rw [← hnv] at q2 t2 hx1 hy1 hx2 hy2 hv1
      have HNV := Lib.hid hnv
      simp only [Nat.mul_one] at hx1 hy1 hx2 hy2
      have HX1 := Lib.hid hx1; have HY1 := Lib.hid hy1; have HX2 := Lib.hid hx2; have HY2 := Lib.hid hy2
      have hil : (i : Int) < n := by omega
      obtain ⟨W1, hW1⟩ : ∃ W1, W1 = W0.alloc (.cells #[.int .i64 kk, .string (bs nn), .slice b2 nv c2] 35) := ⟨_, rfl⟩
      have hh := heap_alloc_new W0 (.cells #[.int .i64 kk, .string (bs nn), .slice b2 nv c2] 35)
      rw [← hW1] at hh
      have d0 := Lib.cell_of_heap hh 0; have d1 := Lib.cell_of_heap hh 1; have d2 := Lib.cell_of_heap hh 2
      simp at d0 d1 d2
      have z1 : W1.heap.size = W0.heap.size + 1 := by rw [hW1]; simp
      have b01 : Below W0.heap.size W0 W1 := by rw [hW1]; exact (Below.refl _ _).alloc (Nat.le_refl _) _
      have BW1 := Lib.hid (hb.trans (b01.mono hbz))
      have u0 := (b01.cell (p := ⟨g, off + i * 3, none⟩) (by show g < _; omega)).trans q0
      have u1 := (b01.cell (p := ⟨g, off + i * 3 + 1, none⟩) (by show g < _; omega)).trans q1
      have u2 := (b01.cell (p := ⟨g, off + i * 3 + 2, none⟩) (by show g < _; omega)).trans q2
      have CT := Lib.hid (fun W (b : Below W1.heap.size W1 W) => show W.cell? ⟨W0.heap.size, 0, none⟩ = some (.int .i64 kk) ∧ W.cell? ⟨W0.heap.size, 1, none⟩ = some (.string (bs nn)) ∧ W.cell? ⟨W0.heap.size, 2, none⟩ = some (.slice b2 nv c2) ∧ W.cell? ⟨g, off + i * 3, none⟩ = some (.int .i64 kk) ∧ W.cell? ⟨g, off + i * 3 + 1, none⟩ = some (.string (bs nn)) ∧ W.cell? ⟨g, off + i * 3 + 2, none⟩ = some (.slice b1 nv c1) from
        ⟨(b.cell (p := ⟨W0.heap.size, 0, none⟩) (by show W0.heap.size < _; omega)).trans d0, (b.cell (p := ⟨W0.heap.size, 1, none⟩) (by show W0.heap.size < _; omega)).trans d1, (b.cell (p := ⟨W0.heap.size, 2, none⟩) (by show W0.heap.size < _; omega)).trans d2,
          (b.cell (p := ⟨g, off + i * 3, none⟩) (by show g < _; omega)).trans u0, (b.cell (p := ⟨g, off + i * 3 + 1, none⟩) (by show g < _; omega)).trans u1, (b.cell (p := ⟨g, off + i * 3 + 2, none⟩) (by show g < _; omega)).trans u2⟩)
      have HW1 := Lib.hid hW1
      have HB0 := Lib.hid hb
      clear hp hq hpq m0 m1 m2 r0 r1 r2 e1 e2 hx1 hy1 hx2 hy2 hz1 hz2 hkk hnn hvs hnv hW1 hh d0 d1 d2 u0 u1 u2 b01 hb q0 q1 q2 z1
      go_upto_region 6 with fail
      rw [← HW1.out]
      clear t0 t1 t2
      refine wp_region_quietC (C := fun W => Below W1.heap.size W1 W) (by kernel_rfl) (by kernel_rfl) (Below.refl W1.heap.size W1).drew ?_
      repeat (first
        | go_big_quiet_skip
        | (go_big_quiet_want; go_big_quiet_op; go_big_quiet_on)
        | (go_big_quiet_want; go_big_quiet_op; refine ⟨_, fun _ _ => rfl, ?_⟩; go_big_quiet_on)
        | (go_big_quiet_want; go_big_quiet_op; apply Exists.intro; refine And.intro (fun W hW => ?_) ?_; (obtain ⟨k0, k1, k2, k3, k4, k5⟩ := CT.out W hW; (try go_simp); (first | done | with_reducible rfl | fail)); go_big_quiet_on)
        | (go_big_quiet_want; apply Exists.intro; refine And.intro (fun W hW => ?_) ?_; (obtain ⟨k0, k1, k2, k3, k4, k5⟩ := CT.out W hW; go_simp; (first | done | with_reducible rfl | fail)); go_big_quiet_on; try simp only [Act.put, List.setIfInBounds_toArray, List.set_cons_zero, List.set_cons_succ]))
      with_reducible refine wpQuiet_nil ?_
      intro w9 hw9
      have HB9 := Lib.hid (BW1.out.trans (hw9.mono (by have := BW1.out.size; omega)))
      obtain ⟨k0, k1, k2, k3, k4, k5⟩ := CT.out w9 hw9
      clear k0 k1 k3 k4
      have BZ9 := Lib.hid (show Below w.heap.size w w9 from HB9.out)
      clear hw9
      go_wp2_with fail
      go_loopw [54] (fun j' wr => ∃ j : Nat, j' = .int .i64 j ∧ j ≤ nv ∧ wr = w9) (fun j' _ => nv - (intOf j').toNat)
      case atStart => exact ⟨0, rfl, by omega, rfl⟩
      case round =>
        obtain ⟨j, rfl, hj, rfl⟩ := hrel
        by_cases hjk : j < nv
        · obtain ⟨rfl, hl1⟩ := HX1.out (by omega)
          obtain ⟨rfl, hl2⟩ := HX2.out (by omega)
          obtain ⟨y, hy⟩ : ∃ y, vs[j]? = some y := ⟨vs[j]'(by have := HNV.out; omega), List.getElem?_eq_getElem (by have := HNV.out; omega)⟩
          have s1 := ((BZ9.out.cell (p := ⟨x1, o1 + j, none⟩) hl1).trans (HY1.out j hjk)).trans (txs_at vs j y hy)
          have s2 := ((BZ9.out.cell (p := ⟨x2, o2 + j, none⟩) hl2).trans (HY2.out j hjk)).trans (txs_at vs j y hy)
          have hil2 : (j : Int) < nv := by omega
          clear hy
          go_wp2_with fail
          exact ⟨⟨j + 1, by go_num, by omega, trivial⟩, by simp [intOf]; omega⟩
        · have hil2 : ¬ (j : Int) < nv := by omega
          go_wp2_with fail
          exact ⟨⟨i + 1, by go_num, by omega, BZ9.out⟩, by simp [intOf]; omega⟩
    · have hil : ¬ (i : Int) < n := by omega
      have HB := Lib.hid hb
      clear hb
      go_wp2_with fail
      go_ret
      exact ⟨rfl, HB.out⟩

set_option maxHeartbeats 1000000 in
set_option maxRecDepth 100000 in
theorem parse13_nil (w : World) : Calls Tryd.prog 5 #[.string (bs [])] w fun e w' => e = .returned (.tuple #[.slice none 0 0, .int .i64 0]) ∧ Below w.heap.size w w' := by
  have hT := bs_toList
  refine (callsIn_wide (n := 5)).1 ?_
  refine callsIn_of_wp_marks Tryd.func5 rfl trivial ?_ rfl
  simp only [Tryd.ntmps5, List.size_toArray, List.length_cons, List.length_nil, Nat.reduceAdd, Nat.reduceSub, Array.replicate_succ, Array.replicate_zero, List.push_toArray, List.append_toArray, List.nil_append, List.cons_append]
  gi_wp2
  refine ⟨.tuple #[.slice none 0 0, .int .i64 0], ?_, rfl, ((Below.refl _ _).alloc (Nat.le_refl _) _).alloc (by simp) _⟩
  simp [results, Tryd.results5, go_sem]
theorem MsO.rdB {W : World} {B : Nat} {v : Value} {l : List (Mr × Value)} {ms : List Mr} (h : MsO W B v l) (e : l.map (·.1) = ms) (ho : ∀ m ∈ ms, OkM m) : MsR W v l := h.rd fun p hp => by
  have := ho p.1 (by rw [← e]; exact List.mem_map_of_mem hp)
  exact ⟨by have := this.v10; omega, this.k4⟩
theorem parse_back {w0 w : World} {v1 v2 : Value} {ms : List (Mr × Value)} (h : FwR w0 w v1 v2 ms) (hl : ms.length ≤ 4) (W : World) :
    Calls Tryd.prog 5 #[.string (bs (joinB 44 (tsOf ms)))] W fun e w' => ∃ v l, e = .returned (.tuple #[v, .int .i64 0]) ∧ l.map (·.1) = ms.map (·.1) ∧ MsR w' v l ∧ Below W.heap.size W w' := by
  have ho : ∀ m ∈ ms.map (·.1), OkM m := fun m hm => by
    obtain ⟨p, hp, rfl⟩ := List.mem_map.1 hm
    exact rOk_out (h.ok p hp)
  have ht : tsOf ms = (ms.map (·.1)).map tOf := by unfold tsOf; rw [List.map_map]; rfl
  cases ms with
  | nil =>
    refine (parse13_nil W).mono ?_
    rintro e w' ⟨rfl, b⟩
    exact ⟨_, [], rfl, rfl, ⟨Rd.of_sl (Sl.nil w' 0 3), fun p hp => by cases hp⟩, b⟩
  | cons q ms =>
    have hp := parts_all ho (by simp)
    rw [← ht] at hp
    have hb := mrs_back ho
    rw [← ht] at hb
    have hlen : (joinB 44 (tsOf (q :: ms))).length ≤ 100000 := by
      have := joinB_len 44 500 (tsOf (q :: ms)) (fun x hx => by
        obtain ⟨p, hp, rfl⟩ := List.mem_map.1 hx
        exact (tOf_len (rOk_out (h.ok p hp))).1)
      have h2 : (tsOf (q :: ms)).length ≤ 4 := by unfold tsOf; rw [List.length_map]; exact hl
      have h3 : (tsOf (q :: ms)).length * (500 + 1) ≤ 4 * 501 := Nat.mul_le_mul_right _ h2
      omega
    have hne : joinB 44 (tsOf (q :: ms)) ≠ [] := fun e => by
      have h1 := (tOf_len (rOk_out (h.ok q (by simp)))).2
      rw [e] at hp
      have h2 : parts 44 [] = [[]] := rfl
      rw [h2] at hp
      unfold tsOf at hp
      rw [List.map_cons] at hp
      exact h1 (List.cons.inj hp).1.symm
    refine (parse13_any _ W hlen hne (fun x hx => ?_)).mono ?_
    · rw [hp, ht] at hx
      obtain ⟨m, hm, rfl⟩ := List.mem_map.1 hx
      rw [mrOf_tOf (ho m hm)]
      exact mOk_of (ho m hm)
    · rintro e w' ⟨v, l, rfl, hm, ho2, b⟩
      rw [hp, hb] at hm
      exact ⟨v, l, rfl, hm, ho2.rdB hm ho, b⟩
theorem FwR.r2B {w W : World} {v1 v2 : Value} {ms : List (Mr × Value)} (h : FwR w W v1 v2 ms) : MsR W v2 ms := ⟨Rd.of_sl h.s2, fun p hp => ⟨Rd.of_sl (h.ps p hp).1, by have := (h.ps p hp).2.2.2.2.2.1; omega, (h.ps p hp).2.2.2.2.1⟩⟩

set_option maxHeartbeats 2000000 in
set_option maxRecDepth 100000 in
theorem mback_any (a0 : Option Addr) (len0 cap0 : Nat) (zs : List Om) (w : World) (h : OmR w a0 len0 zs) :
    Calls Tryd.prog 3 #[.slice a0 len0 cap0] w fun e w' => e = .returned (.bool true) ∧ Below w.heap.size w w' := by
  have FW := Lib.hid (few13_any a0 len0 cap0 zs w h)
  have AW := Lib.hid (fun W => awake13_any W)
  clear h
  go_enter Tryd.func3, Tryd.ntmps3
  go_wp2_with fail
  refine FW.out.mono ?_
  rintro e w1 ⟨v1, v2, ms, rfl, F1, hml⟩
  have FF := Lib.hid F1
  have PB := Lib.hid (fun W => parse_back F1 hml W)
  have FM := Lib.hid (format13_any v1 v2 ms w w1 F1 hml)
  have B1 := Lib.hid F1.b
  obtain ⟨b1a, b1c, rfl⟩ := F1.s1.slice
  obtain ⟨b2a, b2c, rfl⟩ := F1.s2.slice
  obtain ⟨s, hs⟩ : ∃ s, s = joinB 44 (tsOf ms) := ⟨_, rfl⟩
  rw [← hs] at PB FM
  clear F1 FW hs
  go_wp2_with fail
  refine FM.out.mono ?_
  rintro e w2 ⟨rfl, b2⟩
  have B12 := Lib.hid b2
  clear b2 FM
  go_wp2_with fail
  refine (PB.out _).mono ?_
  rintro e w3 ⟨v, l, rfl, hm, hr, b3⟩
  have B13 := Lib.hid (B12.out.trans (b3.mono B12.out.size))
  obtain ⟨_, va, vc, vg, vo, rfl, -, -⟩ := id hr.r
  have HR := Lib.hid hr
  have HM := Lib.hid hm
  clear b3 hm hr PB B12
  go_wp2_with fail
  refine (AW.out _).mono ?_
  rintro e w4 ⟨rfl, b4⟩
  have B14 := Lib.hid (B13.out.trans (b4.mono B13.out.size))
  have hl4 : l.length ≤ 100000 := by have := congrArg List.length HM.out; simp at this; omega
  have SM := Lib.hid (same13b_any (.slice va l.length vc) (.slice b2a ms.length b2c) l ms w4 (HR.out.on b4) ((FF.out.on B14.out).r2B) HM.out hl4)
  clear b4 AW B13 HR
  go_wp2_with fail
  refine SM.out.mono ?_
  rintro e w5 ⟨rfl, b5⟩
  have BF := Lib.hid (B1.out.trans ((B14.out.trans (b5.mono B14.out.size)).mono B1.out.size))
  clear b5 SM
  go_wp2_with fail
  go_ret
  exact ⟨rfl, BF.out⟩
end Go.Proofs.YtobdlfikomnmcaaDoor
