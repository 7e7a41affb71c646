/- Layer 13: any matchers, any labels: the law. -/
import Derived.Test.YtboiboojkomplaaDoorMTMF
import Derived.Test.YtboiboojkomplaaDoorMTM8
import Derived.Test.YtboiboojkomplaaDoorMLG
import Derived.Test.YtboiboojkomplaaDoorMQC
import Derived.Deep.RegionHeld3
import Derived.Deep.Cut
namespace Go.Proofs.YtboiboojkomplaaDoor
open Go.RowKit Go.Lib
set_option linter.unusedVariables false

theorem cut40_13 (d : List UInt8) (w : World) : Calls Tryd.prog 5 #[.string (bs d), .int .i64 40] w fun e w' => e = .returned (.string (bs (d.take 40))) ∧ w = w' :=
  cut_is (bs d) (d.take 40) 40 40 rfl (cutB_bs d 40) w
theorem FwR.r1 {w W : World} {v1 v2 : Value} {ms : List (Mr × Value)} (h : FwR w W v1 v2 ms) : MsR W v1 ms := ⟨Rd.of_sl h.s1, fun p hp => ⟨Rd.of_sl (h.ps p hp).1, by have := (h.ps p hp).2.2.2.2.2.1; omega, (h.ps p hp).2.2.2.2.1⟩⟩
theorem FwR.r2 {w W : World} {v1 v2 : Value} {ms : List (Mr × Value)} (h : FwR w W v1 v2 ms) : MsR W v2 ms := ⟨Rd.of_sl h.s2, fun p hp => ⟨Rd.of_sl (h.ps p hp).1, by have := (h.ps p hp).2.2.2.2.2.1; omega, (h.ps p hp).2.2.2.2.1⟩⟩

set_option maxHeartbeats 4000000 in
set_option maxRecDepth 100000 in
theorem matches13_any (a0 : Option Addr) (len0 cap0 : Nat) (ds : List Pr) (a1 : Option Addr) (len1 cap1 : Nat) (zs : List Om) (val : List UInt8) (w : World) (h0 : len0 ≤ maxLen) (w0 : PrsAt w a0 len0 ds) (w1 : OmR w a1 len1 zs) :
    Calls Tryd.prog 3 #[.slice a0 len0 cap0, .slice a1 len1 cap1, .string (bs val)] w fun e w' => e = .returned (.bool true) ∧ Below w.heap.size w w' := by
  have hT := bs_toList
  have CU := Lib.hid (fun W => cut40_13 val W)
  have FW := Lib.hid (fun W (b : Below w.heap.size w W) => few13_any a1 len1 cap1 zs W (w1.on b))
  have FE := Lib.hid (fun W (b : Below w.heap.size w W) => few_any a0 len0 cap0 ds W h0 (w0.below b))
  have AW := Lib.hid awake13_any
  obtain ⟨x, hx⟩ : ∃ x, x = val.take 40 := ⟨_, rfl⟩
  rw [← hx] at CU
  clear hx
  have hdl : ds.length ≤ 10 := by have := w0.1; omega
  obtain ⟨dd, hdd⟩ : ∃ dd, dd = f42 ds := ⟨_, rfl⟩
  have hddl : dd.length ≤ 10 := by rw [hdd, f42_len]; exact hdl
  rw [← hdd] at FE
  clear hdd
  go_enter Tryd.func3, Tryd.ntmps3
  go_wp2_with fail
  refine (CU.out _).mono ?_
  rintro e y1 ⟨rfl, rfl⟩
  go_wp2_with fail
  refine (FW.out _ (Below.refl _ _)).mono ?_
  rintro e y1 ⟨v1, v2, ms, rfl, F1, hml⟩
  obtain ⟨b1a, b1c, rfl⟩ := F1.s1.slice
  obtain ⟨b2a, b2c, rfl⟩ := F1.s2.slice
  have HF1 := Lib.hid F1
  have B1 := Lib.hid F1.b
  clear F1
  go_wp2_with fail
  refine (FE.out _ B1.out).mono ?_
  rintro e y2 ⟨sv, rfl, s2, b2⟩
  obtain ⟨sa, sc, rfl⟩ := s2.slice
  have S2 := Lib.hid s2; have BB2 := Lib.hid b2
  have B2 := Lib.hid (B1.out.trans (b2.mono B1.out.size))
  clear s2 b2
  go_wp2_with fail
  refine (AW.out _).mono ?_
  rintro e y3 ⟨rfl, b3⟩
  have zz2 := BB2.out.size
  have BB3 := Lib.hid (BB2.out.trans (b3.mono zz2))
  have S3 := Lib.hid (S2.out.on b3)
  have B3 := Lib.hid (B1.out.trans (BB3.out.mono B1.out.size))
  have F3 := Lib.hid (HF1.out.on BB3.out)
  obtain ⟨r, hr⟩ : ∃ r, matchB dd (ms.map (·.1)) = r := ⟨_, rfl⟩
  have MT := Lib.hid (fun W (b : Below y3.heap.size y3 W) => match13_any (.slice sa dd.length sc) (.slice b1a ms.length b1c) dd ms W (Rd.of_sl (S3.out.on b)) (by omega) (F3.out.on b).r1 (by omega))
  have RM := Lib.hid (fun u W (b : Below y3.heap.size y3 W) (h : Rd W 2 u dd.length (prc dd)) => rmatch13_any u (.slice b2a ms.length b2c) dd ms W h (by omega) (F3.out.on b).r2 (fun p hp => ⟨(F3.out.ps p hp).2.2.2.1, (F3.out.ps p hp).2.2.2.2.2.2⟩) (by omega))
  have TD := Lib.hid (fun u W (h : Rd W 2 u dd.length (prc dd)) => told_any u dd W h (by omega))
  rw [hr] at MT RM
  have FE3 := Lib.hid (fun W (b : Below y3.heap.size y3 W) => FE.out W (B3.out.trans (b.mono B3.out.size)))
  clear hr b3 CU FW FE AW S2 BB2 B2 S3
  go_wp2_with fail
  refine (MT.out _ (Below.refl _ _)).mono ?_
  rintro e y4 ⟨rfl, b4⟩
  have B4 := Lib.hid b4
  have C4 := Lib.hid (FE3.out _ b4)
  clear b4 MT FE3
  go_wp2_with fail
  refine C4.out.mono ?_
  rintro e y5 ⟨u, rfl, s5, b5⟩
  obtain ⟨ua, uc, rfl⟩ := s5.slice
  have T5 := Lib.hid (TD.out _ y5 (Rd.of_sl s5))
  have B5 := Lib.hid (B4.out.trans (b5.mono B4.out.size))
  clear s5 b5 C4 TD B4
  go_wp2_with fail
  refine T5.out.mono ?_
  rintro e y6 ⟨tv, rfl, s6, b6⟩
  obtain ⟨qa, qc, rfl⟩ := s6.slice
  have B6 := Lib.hid (B5.out.trans (b6.mono B5.out.size))
  have M6 := Lib.hid (RM.out _ y6 B6.out (Rd.of_sl s6))
  clear s6 b6 T5 RM B5
  go_wp2_with fail
  refine M6.out.mono ?_
  rintro e y7 ⟨rfl, b7⟩
  have B7 := Lib.hid (B3.out.trans ((B6.out.trans (b7.mono B6.out.size)).mono B3.out.size))
  have F7 := Lib.hid (F3.out.on (B6.out.trans (b7.mono B6.out.size)))
  obtain ⟨n, hn⟩ : ∃ n, n = ms.length := ⟨_, rfl⟩
  rw [← hn] at hml F7 ⊢
  have HN := Lib.hid hn
  clear b7 M6 B6 B3 F3 HF1 B1 BB3 hn
  focus
    go_wp2_with fail
    go_loopw [36] (fun i' wr => ∃ i : Nat, i' = .int .i64 i ∧ i ≤ n ∧ Below y7.heap.size y7 wr) (fun i' _ => n - (intOf i').toNat)
    case atStart => exact ⟨0, rfl, by omega, Below.refl _ _⟩
    case round =>
      obtain ⟨W0, rfl⟩ : ∃ W0, W0 = wr := ⟨_, rfl⟩
      obtain ⟨i, rfl, hi, hb⟩ := hrel
      by_cases hlt : i < n
      · have hil : (i : Int) < n := by omega
        have hll : i < ms.length := by have := HN.out; omega
        have hx0 : ms[i]? = some ms[i] := List.getElem?_eq_getElem hll
        have hpm : ms[i] ∈ ms := List.getElem_mem hll
        obtain ⟨p, hp⟩ : ∃ p, ms[i] = p := ⟨_, rfl⟩
        rw [hp] at hx0 hpm
        obtain ⟨m0, m1, m2⟩ := mcs_at ms i p hx0
        have FW0 := F7.out.on hb
        obtain ⟨_, e1a, e1c, g, off, ev1, hg1, hc1⟩ := FW0.r1.r
        cases ev1
        obtain ⟨rfl, hgl1⟩ := hg1 (by omega)
        obtain ⟨_, e2a, e2c, g2, off2, ev2, hg2, hc2⟩ := FW0.r2.r
        cases ev2
        obtain ⟨rfl, hgl2⟩ := hg2 (by omega)
        have q0 := (hc1 (i * 3) (by omega)).trans m0
        have q1 := (hc1 (i * 3 + 1) (by omega)).trans m1
        have q2 := (hc1 (i * 3 + 2) (by omega)).trans m2
        have t0 := (hc2 (i * 3) (by omega)).trans m0
        have t1 := (hc2 (i * 3 + 1) (by omega)).trans m1
        have t2 := (hc2 (i * 3 + 2) (by omega)).trans m2
        rw [← Nat.add_assoc] at q1 q2 t1 t2
        obtain ⟨rp, hp1, hp2⟩ := FW0.r1.vs p hpm
        obtain ⟨gd1, gd2, gd3, gd4⟩ := (FW0.ps p hpm).2.2.2
        have RP := Lib.hid rp
        obtain ⟨_, a3, cap3, g3, off3, hv3, -, -⟩ := rp
        obtain ⟨f, hf⟩ : ∃ f, fitB p.1 x = f := ⟨_, rfl⟩
        obtain ⟨f2, hf2⟩ : ∃ f2, fitB p.1 [] = f2 := ⟨_, rfl⟩
        obtain ⟨W1, hW1⟩ : ∃ W1, W1 = W0.alloc (.cells #[.int .i64 p.1.k, .string (bs p.1.n), .slice a3 p.1.vs.length cap3] 37) := ⟨_, rfl⟩
        have hh := heap_alloc_new W0 (.cells #[.int .i64 p.1.k, .string (bs p.1.n), .slice a3 p.1.vs.length cap3] 37)
        rw [← hW1] at hh
        have d0 := Lib.cell_of_heap hh 0; have d1 := Lib.cell_of_heap hh 1; have d2 := Lib.cell_of_heap hh 2
        simp at d0 d1 d2
        have z1 : W1.heap.size = W0.heap.size + 1 := by rw [hW1]; simp
        have b01 : Below W0.heap.size W0 W1 := by rw [hW1]; exact (Below.refl _ _).alloc (Nat.le_refl _) _
        have BW1 := Lib.hid (hb.trans (b01.mono hb.size))
        rw [hv3] at q2 t2
        have u0 := (b01.cell (p := ⟨g2, off2 + i * 3, none⟩) hgl2).trans t0
        have u1 := (b01.cell (p := ⟨g2, off2 + i * 3 + 1, none⟩) hgl2).trans t1
        have u2 := (b01.cell (p := ⟨g2, off2 + i * 3 + 2, none⟩) hgl2).trans t2
        have R1 := RP.out.on b01
        have mkF : ∀ y, ∀ W, Below W1.heap.size W1 W → Calls Tryd.prog 12 #[mrV p.1 p.2, .string (bs y)] W fun e w' => e = .returned (.bool (fitB p.1 y)) ∧ Below W1.heap.size W1 w' := fun y W b => by
          refine (fits13_any p.1 p.2 y W (R1.on b) hp1 hp2).mono ?_
          rintro e w' ⟨he, hb'⟩
          exact ⟨he, b.trans (hb'.mono b.size)⟩
        have mkG : ∀ y, ∀ W, Below W1.heap.size W1 W → Calls Tryd.prog 13 #[mrV p.1 p.2, .string (bs y)] W fun e w' => e = .returned (.bool (fitB p.1 y)) ∧ Below W1.heap.size W1 w' := fun y W b => by
          refine (rfits13_any p.1 p.2 y W (R1.on b) hp1 gd1 hp2 gd4).mono ?_
          rintro e w' ⟨he, hb'⟩
          exact ⟨he, b.trans (hb'.mono b.size)⟩
        have X1 := mkF x; have X2 := mkG x; have Y1 := mkF []; have Y2 := mkG []
        rw [hf] at X1 X2
        rw [hf2] at Y1 Y2
        unfold mrV at X1 X2 Y1 Y2
        rw [hv3] at X1 X2 Y1 Y2
        obtain ⟨kk, hkk⟩ : ∃ kk : Int, kk = (p.1.k : Int) := ⟨_, rfl⟩
        obtain ⟨nn, hnn⟩ : ∃ nn, nn = p.1.n := ⟨_, rfl⟩
        obtain ⟨nv, hnv⟩ : ∃ nv : Nat, nv = p.1.vs.length := ⟨_, rfl⟩
        rw [← hkk] at X1 X2 Y1 Y2 q0 d0 u0 hW1
        rw [← hnn] at X1 X2 Y1 Y2 q1 d1 u1 hW1
        rw [← hnv] at X1 X2 Y1 Y2 q2 d2 u2 hW1
        have CT := Lib.hid (fun W (b : Below W1.heap.size W1 W) => show W.cell? ⟨W0.heap.size, 0, none⟩ = some (.int .i64 kk) ∧ W.cell? ⟨W0.heap.size, 1, none⟩ = some (.string (bs nn)) ∧ W.cell? ⟨W0.heap.size, 2, none⟩ = some (.slice a3 nv cap3) ∧ W.cell? ⟨g2, off2 + i * 3, none⟩ = some (.int .i64 kk) ∧ W.cell? ⟨g2, off2 + i * 3 + 1, none⟩ = some (.string (bs nn)) ∧ W.cell? ⟨g2, off2 + i * 3 + 2, none⟩ = some (.slice a3 nv cap3) from
          ⟨(b.cell (p := ⟨W0.heap.size, 0, none⟩) (by show W0.heap.size < _; omega)).trans d0, (b.cell (p := ⟨W0.heap.size, 1, none⟩) (by show W0.heap.size < _; omega)).trans d1, (b.cell (p := ⟨W0.heap.size, 2, none⟩) (by show W0.heap.size < _; omega)).trans d2,
            (b.cell (p := ⟨g2, off2 + i * 3, none⟩) (by show g2 < _; omega)).trans u0, (b.cell (p := ⟨g2, off2 + i * 3 + 1, none⟩) (by show g2 < _; omega)).trans u1, (b.cell (p := ⟨g2, off2 + i * 3 + 2, none⟩) (by show g2 < _; omega)).trans u2⟩)
        have HX1 := Lib.hid X1; have HX2 := Lib.hid X2; have HY1 := Lib.hid Y1; have HY2 := Lib.hid Y2
        have BD := (Below.refl W1.heap.size W1).drew
        have KD := CT.out W1 (Below.refl _ _)
        have HW1 := Lib.hid hW1
        clear hx0 hpm m0 m1 m2 FW0 hg1 hc1 hg2 hc2 t0 t1 t2 hp1 hp2 gd1 gd2 gd3 gd4 RP hv3 hf hf2 hW1 hh d0 d1 d2 b01 u0 u1 u2 R1 mkF mkG X1 X2 Y1 Y2 hkk hnn hnv hp z1
        go_upto_region 9 with fail
        rw [← HW1.out]
        clear q0 q1 q2
        refine wp_region_quietC (C := fun W => Below W1.heap.size W1 W) (by kernel_rfl) (by kernel_rfl) BD ?_
        repeat (first
          | go_big_quiet_skip
          | (go_big_quiet_want; go_big_quiet_op; go_big_quiet_on)
          | (go_big_quiet_want; go_big_quiet_op; refine ⟨_, fun _ _ => rfl, ?_⟩; go_big_quiet_on)
          | (go_big_quiet_want; go_big_quiet_op; apply Exists.intro; refine And.intro (fun W hW => ?_) ?_; (obtain ⟨k0, k1, k2, k3, k4, k5⟩ := CT.out W hW; (try go_simp); (first | done | with_reducible rfl | (go_at_call 12; with_reducible exact HX1.out _ hW) | (go_at_call 12; exact HY1.out _ hW) | (go_at_call 13; with_reducible exact HX2.out _ hW) | (go_at_call 13; exact HY2.out _ hW) | fail)); go_big_quiet_on)
          | (go_big_quiet_want; apply Exists.intro; refine And.intro (fun W hW => ?_) ?_; (obtain ⟨k0, k1, k2, k3, k4, k5⟩ := CT.out W hW; go_simp; (first | done | with_reducible rfl | (go_at_call 12; with_reducible exact HX1.out _ hW) | (go_at_call 12; exact HY1.out _ hW) | (go_at_call 13; with_reducible exact HX2.out _ hW) | (go_at_call 13; exact HY2.out _ hW) | fail)); go_big_quiet_on; try simp only [Act.put, List.setIfInBounds_toArray, List.set_cons_zero, List.set_cons_succ]))
        with_reducible refine wpQuiet_nil ?_
        intro w9 hw9
        have HB9 := Lib.hid (BW1.out.trans (hw9.mono (by have := BW1.out.size; omega)))
        go_wp2_with fail
        exact ⟨⟨i + 1, by go_num, by omega, HB9.out⟩, by simp [intOf]; omega⟩
      · have hil : ¬ (i : Int) < n := by omega
        have HB := Lib.hid (B7.out.trans (hb.mono B7.out.size))
        clear hb
        go_wp2_with fail
        go_ret
        exact ⟨rfl, HB.out⟩
end Go.Proofs.YtboiboojkomplaaDoor
