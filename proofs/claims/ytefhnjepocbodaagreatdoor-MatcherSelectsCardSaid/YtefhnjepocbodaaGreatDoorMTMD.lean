/- Layer 13: the document's Fits. Layer 13: the document's Match. -/
import Derived.Test.YtefhnjepocbodaaGreatDoorMTMB
namespace Go.Proofs.YtefhnjepocbodaaGreatDoor
open Go.RowKit Go.Lib
set_option linter.unusedVariables false

set_option maxHeartbeats 4000000 in
set_option maxRecDepth 100000 in
theorem rfits13_any (m : Mr) (v : Value) (x : List UInt8) (w : World) (h : Rd w 1 v m.vs.length (txs m.vs)) (hl : m.vs.length ≤ 1000000) (h1 : 1 ≤ m.k) (h4 : m.k ≤ 4) (h3 : m.k = 3 → m.vs.length = 1) :
    Calls Tryz.prog 49 #[mrV m v, .string (bs x)] w fun e w' => e = .returned (.bool (fitB m x)) ∧ Below w.heap.size w w' := by
  have hT := bs_toList
  obtain ⟨k, n, vs⟩ := m
  simp only at h hl h1 h4 h3
  obtain ⟨_, a, cap, g, off, rfl, hg, hcell⟩ := h
  simp only [Nat.mul_one] at hcell
  unfold mrV
  simp only
  obtain ⟨N, hN⟩ : ∃ N, N = vs.length := ⟨_, rfl⟩
  rw [← hN] at hg hcell hl h3 ⊢
  obtain ⟨kz, hkz⟩ : ∃ kz : Int, kz = (k : Int) := ⟨_, rfl⟩
  rw [← hkz]
  obtain ⟨r, hr⟩ : ∃ r, fitB ⟨k, n, vs⟩ x = r := ⟨_, rfl⟩
  rw [hr]
  have hx : ∀ (j : Nat), j < N → ∃ y, vs[j]? = some y ∧ w.cell? ⟨g, off + j, none⟩ = some (.string (bs y)) := fun j hj => by
    obtain ⟨y, hy⟩ : ∃ y, vs[j]? = some y := ⟨_, List.getElem?_eq_getElem (by omega)⟩
    exact ⟨y, hy, (hcell j hj).trans (txs_at vs j y hy)⟩
  have HX := Lib.hid hx
  have HN := Lib.hid hN
  have HG := Lib.hid hg
  have HKZ := Lib.hid hkz
  have HR := Lib.hid hr
  have bz := (Below.refl w.heap.size w).alloc (Nat.le_refl _) (.cells #[.int .i64 kz, .string (bs n), .slice a N cap] 57)
  have HBZ := Lib.hid bz
  have H3 := Lib.hid h3
  clear hx hN hcell hg hkz hr bz h3
  go_enter Tryz.func49, Tryz.ntmps49
  go_wp2_with fail
  obtain ⟨W1, hW1⟩ : ∃ W1, W1 = w.alloc (.cells #[.int .i64 kz, .string (bs n), .slice a N cap] 57) := ⟨_, rfl⟩
  have hbx := heap_alloc_new w (.cells #[.int .i64 kz, .string (bs n), .slice a N cap] 57)
  rw [← hW1] at HBZ hbx ⊢
  have r0 := Lib.cell_of_heap hbx 0; have r1 := Lib.cell_of_heap hbx 1; have r2 := Lib.cell_of_heap hbx 2
  simp at r0 r1 r2
  have R0 := Lib.hid r0; have R2 := Lib.hid r2
  clear hW1 hbx r0 r1 r2
  go_loopw [5, 12] (fun b' i' wr => ∃ (i : Nat) (b : Bool), b' = .bool b ∧ i' = .int .i64 i ∧ i ≤ N ∧ wr = W1 ∧ Hid (b = decide (x ∈ vs.take i))) (fun _ i' _ => N - (intOf i').toNat)
  case atStart => exact ⟨0, false, rfl, rfl, Nat.zero_le _, rfl, Lib.hid (by simp)⟩
  case round =>
    obtain ⟨i, b, rfl, rfl, hi, rfl, hb⟩ := hrel
    by_cases hil : i < N
    · have hili : (i : Int) < N := by omega
      obtain ⟨rfl, hgl⟩ := HG.out (by omega)
      obtain ⟨y, hy, cy⟩ := HX.out i hil
      have c0 := (HBZ.out.cell (p := ⟨g, off + i, none⟩) hgl).trans cy
      have ht : vs.take (i + 1) = vs.take i ++ [y] := by rw [List.take_add_one, hy]; rfl
      have hb2 := hb.out
      cases b with
      | true =>
        have HB := Lib.hid (show true = decide (x ∈ vs.take (i + 1)) by
          rw [ht]; have := of_decide_eq_true hb2.symm; simp [this])
        clear hb hb2 ht hy cy
        go_wp2_with fail
        exact ⟨⟨i + 1, true, rfl, by go_num, by omega, trivial, HB⟩, by simp [intOf]; omega⟩
      | false =>
        have hn : ¬ x ∈ vs.take i := of_decide_eq_false hb2.symm
        by_cases hyx : y = x
        · have hq : (y == x) = true := beq_iff_eq.2 hyx
          have HB := Lib.hid (show true = decide (x ∈ vs.take (i + 1)) by
            rw [ht, hyx]; simp)
          clear hb hb2 ht hy cy hn hyx
          go_wp2_with fail
          exact ⟨⟨i + 1, true, rfl, by go_num, by omega, trivial, HB⟩, by simp [intOf]; omega⟩
        · have hq : (y == x) = false := beq_eq_false_iff_ne.2 hyx
          have HB := Lib.hid (show false = decide (x ∈ vs.take (i + 1)) by
            rw [ht]
            have hne : ¬ x = y := fun e => hyx e.symm
            simp [hn, hne])
          clear hb hb2 ht hy cy hn hyx
          go_wp2_with fail
          exact ⟨⟨i + 1, false, rfl, by go_num, by omega, trivial, HB⟩, by simp [intOf]; omega⟩
    · have hili : ¬ (i : Int) < N := by omega
      have HB := Lib.hid (show b = decide (x ∈ vs) by rw [hb.out, List.take_of_length_le (by have := HN.out; omega)])
      have r0 := R0.out; have r2 := R2.out
      have hkz := HKZ.out
      clear hb
      have hc : k = 1 ∨ k = 2 ∨ k = 3 ∨ k = 4 := by omega
      rcases hc with rfl | rfl | rfl | rfl
      · obtain rfl : kz = 1 := hkz
        have HRR := Lib.hid (show r = b by rw [← HR.out, HB.out]; rfl)
        clear HR HB
        go_wp2_with fail
        go_ret
        exact ⟨by rw [HRR.out]; rfl, HBZ.out⟩
      · obtain rfl : kz = 2 := hkz
        have HRR := Lib.hid (show r = !b by rw [← HR.out, HB.out]; rfl)
        clear HR HB
        go_wp2_with fail
        go_ret
        exact ⟨by rw [HRR.out]; rfl, HBZ.out⟩
      · obtain rfl : kz = 3 := hkz
        have hN1 := H3.out rfl
        obtain ⟨rfl, hgl⟩ := HG.out (by omega)
        obtain ⟨y, hy, cy⟩ := HX.out 0 (by omega)
        have hvs : vs = [y] := by
          have hl1 : vs.length = 1 := by have := HN.out; omega
          match vs, hl1, hy with
          | [z], _, hy => cases hy; rfl
        have c0 : wr.cell? ⟨g, off, none⟩ = some (.string (bs y)) := (HBZ.out.cell (p := ⟨g, off, none⟩) hgl).trans cy
        have HRR := Lib.hid (show r = (!(x == []) && pre y x) by rw [← HR.out]; unfold fitB; rw [hvs]; simp)
        have hNz : (0 : Int) < N := by omega
        obtain ⟨xe, hxe⟩ : ∃ xe : Bool, (x == []) = xe := ⟨_, rfl⟩
        rw [hxe] at HRR
        have hzx : (bs x).size = x.length := bs_size x
        have hzy : (bs y).size = y.length := bs_size y
        have htk := bs_take x y.length
        have hpq : (x.take y.length == y) = pre y x := by
          unfold pre
          rw [Bool.eq_iff_iff]
          simp only [beq_iff_eq, decide_eq_true_eq]
          rw [List.prefix_iff_eq_take]
          exact eq_comm
        clear HR HB hN1 hy cy hvs
        cases xe with
        | true =>
          go_wp2_with fail
          go_ret
          exact ⟨by rw [HRR.out]; rfl, HBZ.out⟩
        | false =>
          by_cases hle : y.length ≤ x.length
          · have hlez : (y.length : Int) ≤ x.length := by omega
            obtain ⟨pq, hpp⟩ : ∃ pq, pre y x = pq := ⟨_, rfl⟩
            rw [hpp] at hpq HRR
            clear hpp
            go_wp2_with fail
            go_ret
            exact ⟨by rw [HRR.out]; rfl, HBZ.out⟩
          · have hlez : ¬ (y.length : Int) ≤ x.length := by omega
            have HF := Lib.hid (show r = false by
              rw [HRR.out]
              have : pre y x = false := by
                unfold pre
                rw [decide_eq_false_iff_not]
                intro h
                exact hle h.length_le
              rw [this]; simp)
            clear hpq HRR
            go_wp2_with fail
            go_ret
            exact ⟨by rw [HF.out]; rfl, HBZ.out⟩
      · obtain rfl : kz = 4 := hkz
        have HRR := Lib.hid (show r = b by rw [← HR.out, HB.out]; rfl)
        clear HR HB
        go_wp2_with fail
        go_ret
        exact ⟨by rw [HRR.out]; rfl, HBZ.out⟩
end Go.Proofs.YtefhnjepocbodaaGreatDoor

namespace Go.Proofs.YtefhnjepocbodaaGreatDoor
open Go.RowKit Go.Lib
set_option linter.unusedVariables false

set_option maxHeartbeats 1000000 in
set_option maxRecDepth 100000 in
theorem rget13_any (v : Value) (ds : List Pr) (q : List UInt8) (w : World) (h : Rd w 2 v ds.length (prc ds)) (hn0 : ds.length ≤ 1000000) :
    Calls Tryz.prog 50 #[v, .string (bs q)] w fun e w' => e = .returned (.string (bs (getP q ds))) ∧ Below w.heap.size w w' := by
  have hT := bs_toList
  obtain ⟨_, a, cap, g, off, rfl, hg, hc⟩ := h
  obtain ⟨n, hn⟩ : ∃ n, n = ds.length := ⟨_, rfl⟩
  rw [← hn] at hg hc hn0 ⊢
  have HN := Lib.hid hn
  have HC := Lib.hid hc
  have HG := Lib.hid hg
  clear hn hc hg
  go_enter Tryz.func50, Tryz.ntmps50
  go_wp2_with fail
  go_loopw [9] (fun i' wr => ∃ (i : Nat), i' = .int .i64 i ∧ i ≤ n ∧ Hid (getP q ds = getP q (ds.drop i)) ∧ Below w.heap.size w wr) (fun i' _ => n - (intOf i').toNat)
  case atStart => exact ⟨0, rfl, by omega, rfl, Below.refl _ _⟩
  case round =>
    obtain ⟨i, rfl, hi, hk, hb⟩ := hrel
    by_cases hlt : i < n
    · obtain ⟨rfl, hgl⟩ := HG.out (by omega)
      obtain ⟨x, hx⟩ : ∃ x, ds[i]? = some x := ⟨ds[i]'(by have := HN.out; omega), List.getElem?_eq_getElem (by have := HN.out; omega)⟩
      obtain ⟨v0, v1⟩ := prc_at ds i x hx
      have q0 := ((hb.cell (p := ⟨g, off + i * 2, none⟩) hgl).trans (HC.out (i * 2) (by omega))).trans v0
      have q1 := ((hb.cell (p := ⟨g, off + (i * 2 + 1), none⟩) hgl).trans (HC.out (i * 2 + 1) (by omega))).trans v1
      rw [← Nat.add_assoc] at q1
      have hd : ds.drop i = x :: ds.drop (i + 1) := by
        rw [List.drop_eq_getElem_cons (by have := HN.out; omega)]
        congr 1
        rw [List.getElem?_eq_getElem (by have := HN.out; omega)] at hx
        exact Option.some.inj hx
      have hkk := hk.out
      rw [hd, getP] at hkk
      have hgw : g ≠ wr.heap.size := by have := hb.size; omega
      have hil : (i : Int) < n := by omega
      by_cases he : x.n = q
      · rw [if_pos he] at hkk
        have HQ := Lib.hid hkk
        have hbq : (x.n == q) = true := by simpa using he
        clear hkk hk hd v0 v1 hx he
        go_wp2
        go_ret
        exact ⟨by rw [HQ.out]; rfl, hb.alloc hb.size _⟩
      · rw [if_neg he] at hkk
        have HQ := Lib.hid hkk
        have hbq : (x.n == q) = false := by simpa using he
        clear hkk hk hd v0 v1 hx he
        go_wp2
        exact ⟨⟨i + 1, by simp, by omega, HQ.out, hb.alloc hb.size _⟩, by simp [intOf]; omega⟩
    · have hil : ¬ (i : Int) < n := by omega
      have hd : ds.drop i = [] := List.drop_eq_nil_of_le (by have := HN.out; omega)
      have hkk := hk.out
      rw [hd, getP] at hkk
      have HQ := Lib.hid hkk
      clear hkk hk hd
      go_wp2
      go_ret
      exact ⟨by rw [HQ.out]; rfl, hb⟩


set_option maxHeartbeats 2000000 in
set_option maxRecDepth 100000 in
theorem rmatch13_any (v u : Value) (ds : List Pr) (l : List (Mr × Value)) (w : World) (h : Rd w 2 v ds.length (prc ds)) (hd : ds.length ≤ 1000000) (hm : MsR w u l) (hgd : ∀ p ∈ l, 1 ≤ p.1.k ∧ (p.1.k = 3 → p.1.vs.length = 1)) (hl : l.length ≤ 1000000) :
    Calls Tryz.prog 26 #[v, u] w fun e w' => e = .returned (.bool (matchB ds (l.map (·.1)))) ∧ Below w.heap.size w w' := by
  have HM := Lib.hid hm
  have GT := Lib.hid (fun q W (b : Below w.heap.size w W) => rget13_any v ds q W (h.on b) hd)
  have FT := Lib.hid (fun p x W (b : Below w.heap.size w W) (hp : p ∈ l) => rfits13_any p.1 p.2 x W ((hm.on b).vs p hp).1 (hm.vs p hp).2.1 (hgd p hp).1 (hm.vs p hp).2.2 (hgd p hp).2)
  obtain ⟨_, a, cap, g, off, rfl, hg, hc⟩ := hm.r
  obtain ⟨_, a2, cap2, g2, off2, rfl, -, -⟩ := h
  obtain ⟨n2, hn2⟩ : ∃ n2, n2 = ds.length := ⟨_, rfl⟩
  rw [← hn2] at GT ⊢
  obtain ⟨n, hn⟩ : ∃ n, n = l.length := ⟨_, rfl⟩
  rw [← hn] at hg hc hl ⊢
  have HN := Lib.hid hn
  have HG := Lib.hid hg
  have HC := Lib.hid hc
  clear hn hg hc hm hn2 hgd
  go_enter Tryz.func26, Tryz.ntmps26
  go_wp2_with fail
  go_loopw [9] (fun i' wr => ∃ i : Nat, i' = .int .i64 i ∧ i ≤ n ∧ Hid (matchB ds (l.map (·.1)) = matchB ds ((l.drop i).map (·.1)) ∧ Below w.heap.size w wr)) (fun i' _ => n - (intOf i').toNat)
  case atStart => exact ⟨0, rfl, by omega, Lib.hid ⟨rfl, Below.refl _ _⟩⟩
  case round =>
    obtain ⟨W0, rfl⟩ : ∃ W0, W0 = wr := ⟨_, rfl⟩
    obtain ⟨i, rfl, hi, hk⟩ := hrel
    obtain ⟨he, hb⟩ := hk.out
    by_cases hlt : i < n
    · obtain ⟨rfl, hgl⟩ := HG.out (by omega)
      have hll : i < l.length := by have := HN.out; omega
      have hdr : l.drop i = l[i] :: l.drop (i + 1) := List.drop_eq_getElem_cons hll
      have hx0 : l[i]? = some l[i] := List.getElem?_eq_getElem hll
      have hpm : l[i] ∈ l := List.getElem_mem hll
      obtain ⟨p, hp⟩ : ∃ p, l[i] = p := ⟨_, rfl⟩
      rw [hp] at hdr hx0 hpm
      obtain ⟨m0, m1, m2⟩ := mcs_at l i p hx0
      have hz : ∀ j, j < n * 3 → W0.cell? ⟨g, off + j, none⟩ = (mcs l)[j]? := fun j hj => (hb.cell (p := ⟨g, off + j, none⟩) hgl).trans (HC.out j hj)
      have q0 := (hz (i * 3) (by omega)).trans m0
      have q1 := (hz (i * 3 + 1) (by omega)).trans m1
      have q2 := (hz (i * 3 + 2) (by omega)).trans m2
      rw [← Nat.add_assoc] at q1 q2
      obtain ⟨rp, hp1, hp2⟩ := HM.out.vs p hpm
      obtain ⟨_, a3, cap3, g3, off3, hv3, -, -⟩ := rp
      rw [hv3] at q2
      have hil : (i : Int) < n := by omega
      rw [hdr] at he
      unfold matchB at he
      rw [List.map_cons, List.all_cons] at he
      have FP := Lib.hid (fun x W b => FT.out p x W b hpm)
      unfold mrV at FP
      rw [hv3] at FP
      obtain ⟨x, hx⟩ : ∃ x, getP p.1.n ds = x := ⟨_, rfl⟩
      rw [hx] at he
      obtain ⟨ft, hft⟩ : ∃ ft, fitB p.1 x = ft := ⟨_, rfl⟩
      rw [hft] at he
      have HE := Lib.hid he
      have GP := Lib.hid (fun W b => GT.out p.1.n W b)
      rw [hx] at GP
      have FX := Lib.hid (fun W b => FP.out x W b)
      rw [hft] at FX
      obtain ⟨nm, hnm⟩ : ∃ nm, nm = p.1.n := ⟨_, rfl⟩
      obtain ⟨kk, hkk⟩ : ∃ kk : Nat, kk = p.1.k := ⟨_, rfl⟩
      obtain ⟨nv, hnv⟩ : ∃ nv : Nat, nv = p.1.vs.length := ⟨_, rfl⟩
      rw [← hnm] at q1 GP FX
      rw [← hkk] at q0 FX
      rw [← hnv] at q2 FX
      obtain ⟨W1, hW1⟩ : ∃ W1, W1 = W0.alloc (.cells #[.int .i64 kk, .string (bs nm), .slice a3 nv cap3] 57) := ⟨_, rfl⟩
      have hh := heap_alloc_new W0 (.cells #[.int .i64 kk, .string (bs nm), .slice a3 nv cap3] 57)
      rw [← hW1] at hh
      have d0 := Lib.cell_of_heap hh 0; have d1 := Lib.cell_of_heap hh 1; have d2 := Lib.cell_of_heap hh 2
      simp at d0 d1 d2
      have bW1 : Below w.heap.size w W1 := by rw [hW1]; exact hb.alloc hb.size _
      have z1 : W0.heap.size < W1.heap.size := by rw [hW1]; simp
      have G1 := Lib.hid (fun W (b : Below W1.heap.size W1 W) => GP.out W (bW1.trans (b.mono bW1.size)))
      have F1 := Lib.hid (fun W (b : Below W1.heap.size W1 W) => FX.out W (bW1.trans (b.mono bW1.size)))
      have B1 := Lib.hid bW1
      have BD := (Below.refl W1.heap.size W1).drew
      have HW1 := Lib.hid hW1
      clear he hk hb hdr hx0 hpm m0 m1 m2 hz hp1 hp2 hv3 FP hx hft GP FX hnm hkk hnv hW1 hh bW1 FT GT hp
      go_upto_region 4 with fail
      rw [← HW1.out]
      clear q0 q1 q2
      go_region_held3 (fun W => W.cell? ⟨W0.heap.size, 0, none⟩ = some (.int .i64 kk) ∧ W.cell? ⟨W0.heap.size, 1, none⟩ = some (.string (bs nm)) ∧ W.cell? ⟨W0.heap.size, 2, none⟩ = some (.slice a3 nv cap3)) (first | exact ⟨d0, d1, d2⟩ | exact kp | exact kq | assumption | fail)
        (first
          | (go_at_call 50; refine (G1.out _ BD).mono ?_; rintro e W2 ⟨rfl, b2⟩; have B2 := BD.trans (b2.mono (by exact Nat.le_refl _)); have kp := And.intro ((b2.cell (p := ⟨W0.heap.size, 0, none⟩) z1).trans d0) (And.intro ((b2.cell (p := ⟨W0.heap.size, 1, none⟩) z1).trans d1) ((b2.cell (p := ⟨W0.heap.size, 2, none⟩) z1).trans d2)))
          | (go_at_call 49; (first | refine (F1.out _ B2).mono ?_ | refine (F1.out _ B2.drew).mono ?_); rintro e W3 ⟨rfl, b3⟩; have B3 := B2.trans (b3.mono B2.size); have zz := Nat.lt_of_lt_of_le z1 B2.size; have kq := And.intro ((b3.cell (p := ⟨W0.heap.size, 0, none⟩) zz).trans kp.1) (And.intro ((b3.cell (p := ⟨W0.heap.size, 1, none⟩) zz).trans kp.2.1) ((b3.cell (p := ⟨W0.heap.size, 2, none⟩) zz).trans kp.2.2)))
          | fail)
      have BF := Lib.hid (B1.out.trans (B3.mono B1.out.size))
      cases ft with
      | false =>
        have HE2 := Lib.hid (show matchB ds (l.map (·.1)) = false from HE.out.trans (Bool.false_and _))
        clear HE
        go_wp2_with fail
        go_ret
        exact ⟨by rw [HE2.out]; rfl, BF.out⟩
      | true =>
        have HE2 := Lib.hid (show matchB ds (l.map (·.1)) = matchB ds ((l.drop (i + 1)).map (·.1)) from HE.out.trans (Bool.true_and _))
        clear HE
        go_wp2_with fail
        exact ⟨⟨i + 1, by go_num, by omega, Lib.hid ⟨HE2.out, BF.out⟩⟩, by simp [intOf]; omega⟩
    · have hil : ¬ (i : Int) < n := by omega
      have HK := Lib.hid (show matchB ds (l.map (·.1)) = true by
        rw [he, show i = l.length by have := HN.out; omega, List.drop_length]; rfl)
      have HB := Lib.hid hb
      clear hk he hb
      go_wp2_with fail
      go_ret
      exact ⟨by rw [HK.out]; rfl, HB.out⟩
end Go.Proofs.YtefhnjepocbodaaGreatDoor
