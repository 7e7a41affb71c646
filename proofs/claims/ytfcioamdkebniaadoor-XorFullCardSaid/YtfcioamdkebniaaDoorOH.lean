/- Layer 7's statements: the first 120 go in. -/
import Derived.Test.YtfcioamdkebniaaDoorOF
namespace Go.Proofs.YtfcioamdkebniaaDoor
open Go.RowKit Go.Lib

/-- n samples of one step, of values that go round. -/
def fl (step : Int) (n : Nat) : List Xo.Sm := (List.range n).map fun j : Nat => ((j : Int) * step, j * 1152921504606846976 % 18446744073709551616)
theorem fl_len (step : Int) (n : Nat) : (fl step n).length = n := by simp [fl]
theorem fl_succ (step : Int) (n : Nat) : fl step (n + 1) = fl step n ++ [((n : Int) * step, n * 1152921504606846976 % 18446744073709551616)] := by simp [fl, List.range_succ]
theorem fmul_bd (n : Nat) (step : Int) (m : Nat) (b : Int) (hn : n ≤ m) (h0 : 0 ≤ step) (h1 : step ≤ b) : 0 ≤ (n : Int) * step ∧ (n : Int) * step ≤ (m : Int) * b := by
  refine ⟨Int.mul_nonneg (by omega) h0, Int.mul_le_mul (by omega) h1 h0 (by omega)⟩
theorem fl_good (step : Int) (h2 : 1 ≤ step) (h3 : step ≤ 1048576) : ∀ n, n ≤ 120 → Xo.Good (fl step n)
  | 0, _ => ⟨by simp [fl], by simp [fl], by simp [fl]⟩
  | n + 1, hn => by
    obtain ⟨i1, i2, i3⟩ := fl_good step h2 h3 n (by omega)
    have hb := fmul_bd n step 120 1048576 (by omega) (by omega) h3
    rw [fl_succ]
    refine ⟨by simp [fl_len]; omega, fun s hs => ?_, ?_⟩
    · rcases List.mem_append.1 hs with hs | hs
      · exact i2 s hs
      · rw [List.mem_singleton.1 hs]; simp only; omega
    · rw [List.pairwise_append]
      refine ⟨i3, List.pairwise_singleton _ _, fun a ha b hb => ?_⟩
      rw [List.mem_singleton.1 hb]
      obtain ⟨j, hj, rfl⟩ := List.mem_map.1 ha
      have hj := List.mem_range.1 hj
      exact Int.mul_lt_mul_of_pos_right (show (j : Int) < n by omega) (show 0 < step by omega)
theorem fl_full (step : Int) (h2 : 1 ≤ step) (h3 : step ≤ 1048576) (i v : Nat) (h4 : 120 ≤ i) (h5 : i ≤ 140) : Xo.err (fl step 120) ((i : Int) * step, v) = 7 := by
  have hb := fmul_bd i step 140 1048576 h5 (by omega) h3
  have hl := fl_succ step 119
  have hm := Int.mul_lt_mul_of_pos_right (show ((119 : Nat) : Int) < i by omega) (show 0 < step by omega)
  unfold Xo.err
  rw [if_neg (by simp only; omega), hl, List.getLast?_append]
  simp only [List.getLast?_singleton, Option.some_or]
  rw [if_neg (by omega), if_pos (by simp [fl_len])]
theorem shl60 (i : Nat) : IntKind.u64.wrap ((i : Int) * 1152921504606846976) = ((i * 1152921504606846976 % 18446744073709551616 : Nat) : Int) := by
  rw [IntKind.wrap_u64]; omega

set_option maxHeartbeats 1000000 in
set_option maxRecDepth 100000 in
theorem full_good (step : Int) (M : Nat) (w : World) (s0 : 1 ≤ step) (s1 : step ≤ 1048576) (m1 : M ≤ 20) (hL : Tabs w.heap.size w) :
    Calls Tryd.prog 3 #[.int .i64 step, .int .i64 M] w fun e w' => e = .returned (.bool true) ∧ Below w.heap.size w w' := by
  have AW := Lib.hid (fun W (b : Below w.heap.size w W) => xawake_any w.heap.size W (hL.below b (Nat.le_refl _)))
  have HB0 := Lib.hid (Below.refl w.heap.size w)
  have HL := Lib.hid hL
  obtain ⟨hz, hsz⟩ := zero_of_info chZ_info
  obtain ⟨Z, hZ⟩ : ∃ Z, Z = chZ := ⟨_, rfl⟩
  have hch := chZ_ch
  rw [← hZ] at hz hch
  clear hZ
  have HCH := Lib.hid hch
  have HG := Lib.hid (fl_good step s0 s1)
  have HF := Lib.hid (fl_full step s0 s1)
  have d1 : (decide (step < 1)) = false := by simp; omega
  have d2 : (decide (1048576 < step)) = false := by simp; omega
  have d3 : (decide ((M : Int) < 0)) = false := by simp
  have d4 : (decide (20 < (M : Int))) = false := by simp; omega
  have HR := Lib.hid (show (1 ≤ step ∧ step ≤ 1048576) ∧ M ≤ 20 from ⟨⟨s0, s1⟩, m1⟩)
  have hM : (M : Int) ≤ 20 := by omega
  clear hch hsz hL s0 s1 m1
  go_enter Tryd.func3, Tryd.ntmps3
  go_wp2_with fail
  refine (AW.out _ HB0.out).mono ?_
  rintro e w1 ⟨rfl, b1⟩
  have b01 := Lib.hid b1
  have c00 := Lib.hid (show ChAt w1.heap.size Z [] (w1.alloc (.cells Z 28)) from ⟨HCH.out, heap_alloc_new _ _⟩)
  have b00 := Lib.hid (show Below w1.heap.size w1 (w1.alloc (.cells Z 28)) from (Below.refl _ _).alloc (Nat.le_refl _) _)
  clear b1
  go_wp2_with fail
  clear d1 d2 d3 d4
  go_loopw [31] (fun i' wr => ∃ (i : Nat) (A : Array Value), i' = .int .i64 i ∧ i ≤ 120 + M ∧ ChAt w1.heap.size A (fl step (min i 120)) wr ∧ Below w1.heap.size w1 wr) (fun i' _ => 120 + M - (RowKit.intOf i').toNat)
  case atStart => exact ⟨0, Z, rfl, by omega, c00.out, b00.out⟩
  case round =>
    obtain ⟨i, A, rfl, hi, hC, hb⟩ := hrel
    obtain ⟨⟨s0, s1⟩, m1⟩ := HR.out
    by_cases hlt : i < 120 + M
    · have hp := fmul_bd i step 140 1048576 (by omega) (by omega) s1
      obtain ⟨p, hpp⟩ : ∃ p, p = (i : Int) * step := ⟨_, rfl⟩
      obtain ⟨v, hv⟩ : ∃ v, v = i * 1152921504606846976 % 18446744073709551616 := ⟨_, rfl⟩
      have hv64 : v < 18446744073709551616 := by rw [hv]; exact Nat.mod_lt _ (by decide)
      have hsh := shl60 i
      rw [← hv] at hsh
      rw [← hpp] at hp
      have AC := Lib.hid (append_chunk w1.heap.size A (fl step (min i 120)) p v wr hC (by omega) (by omega) hv64)
      unfold App at AC
      have hm1 : wrap64 ((i : Int) * step) = p := by rw [← hpp]; unfold wrap64; omega
      have hm2 : IntKind.i64.wrap ((i : Int) * step) = p := by rw [← hpp, IntKind.wrap_i64]; omega
      by_cases hc : i < 120
      · have hg1 := HG.out (i + 1) (by omega)
        have hsc := fl_succ step i
        rw [← hpp, ← hv] at hsc
        rw [hsc] at hg1
        rw [show min i 120 = i by omega, Xo.good_err hg1] at AC
        simp only [if_true] at AC
        rw [← hsc] at AC
        have hid : (decide ((i : Int) < 120)) = true := by simp; omega
        have hic : (i : Int) < 120 := by omega
        have hil : (i : Int) < 120 + M := by omega
        clear hsc hg1 hpp hv hp hv64 s0 s1 m1 hi hC
        go_wp2_with fail
        refine AC.out.mono ?_
        rintro e w2 ⟨rfl, u2, A2, hC2⟩
        go_wp2_with fail
        refine ⟨⟨i + 1, A2, by go_num, hlt, by rw [show min (i + 1) 120 = i + 1 by omega]; exact hC2, hb.trans (u2.below hb.size (fun k hk => by omega))⟩, by simp [RowKit.intOf]; omega⟩
      · have hf := HF.out i v (by omega) (by omega)
        rw [← hpp] at hf
        rw [show min i 120 = 120 by omega, hf] at AC
        have hid : (decide ((i : Int) < 120)) = false := by simp; omega
        have hic : ¬ (i : Int) < 120 := by omega
        have hic2 : (120 : Int) ≤ i := by omega
        have hil : (i : Int) < 120 + M := by omega
        have HC := Lib.hid hc
        clear hf hpp hv hp hv64 s0 s1 m1 hi hC hc
        go_wp2_with fail
        refine AC.out.mono ?_
        rintro e w2 ⟨rfl, u2, A2, hC2⟩
        rw [if_neg (by decide)] at hC2
        go_wp2_with fail
        refine ⟨⟨i + 1, A2, by go_num, hlt, by rw [show min (i + 1) 120 = 120 by have := HC.out; omega]; exact hC2, hb.trans (u2.below hb.size (fun k hk => by omega))⟩, by simp [RowKit.intOf]; omega⟩
    · have hmin : min i 120 = 120 := by omega
      rw [hmin] at hC
      have hcl := hC.lt
      have hg := HG.out 120 (by omega)
      have hlen : (fl step 120).length = 120 := fl_len step 120
      have hT := HL.out.below (b01.out.trans (hb.mono b01.out.size)) (Nat.le_refl _)
      have TX := Lib.hid (text_chunk w.heap.size w1.heap.size A _ wr hC hT)
      have SM := Lib.hid (fun W (b : Below wr.heap.size wr W) => samples_good w.heap.size (fl step 120) W hg (hT.below b hT.hB))
      have LN := Lib.hid (fun W (b : Below wr.heap.size wr W) => len_chunk w1.heap.size A _ W (hC.keep (b.block _ hcl)))
      have B0 := Lib.hid (b01.out.trans (hb.mono b01.out.size))
      have hil : ¬ (i : Int) < 120 + M := by omega
      obtain ⟨S, hS⟩ : ∃ S, S = bs (Xo.text (fl step 120)) := ⟨_, rfl⟩
      obtain ⟨L, hLL⟩ : ∃ L, L = fl step 120 := ⟨_, rfl⟩
      rw [← hS] at TX SM
      rw [← hLL] at SM LN hlen
      rw [hlen] at SM LN
      clear hS hLL hmin hg hT hC hb hi s0 s1 m1 hlt hlen
      go_wp2_with fail
      refine TX.out.mono ?_
      rintro e w2 ⟨rfl, b2⟩
      have SM' := Lib.hid (SM.out w2 b2)
      go_wp2_with fail
      refine SM'.out.mono ?_
      rintro e w3 ⟨a3, c3, rfl, _, b3⟩
      have b23 := b2.trans (b3.mono b2.size)
      have LN' := Lib.hid (LN.out w3 b23)
      have b03 := Lib.hid (B0.out.trans (b23.mono B0.out.size))
      clear SM SM' LN TX b2 b3 b23
      go_wp2_with (go_at_call 11; refine LN'.out.mono ?_; rintro e w4 ⟨rfl, rfl⟩)
      go_ret
      exact ⟨rfl, b03.out⟩

set_option maxHeartbeats 1000000 in
set_option maxRecDepth 100000 in
theorem full_any (step more : Int) (w : World) (hL : Tabs w.heap.size w) :
    Calls Tryd.prog 3 #[.int .i64 step, .int .i64 more] w fun e w' => e = .returned (.bool true) ∧ Below w.heap.size w w' := by
  have AW := Lib.hid (fun W (b : Below w.heap.size w W) => xawake_any w.heap.size W (hL.below b (Nat.le_refl _)))
  have HB0 := Lib.hid (Below.refl w.heap.size w)
  cases d1 : decide (step < 1)
  case true =>
    go_enter Tryd.func3, Tryd.ntmps3
    go_wp2_with fail
    refine (AW.out _ HB0.out).mono ?_
    rintro e w1 ⟨rfl, b1⟩
    go_wp2_with (go_at_call 7; refine (AW.out _ b1).mono ?_; rintro e w2 ⟨rfl, b2⟩; have b02 := b1.trans (b2.mono b1.size))
    go_ret
    exact ⟨rfl, b02⟩
  case false =>
    cases d2 : decide (1048576 < step)
    case true =>
      go_enter Tryd.func3, Tryd.ntmps3
      go_wp2_with fail
      refine (AW.out _ HB0.out).mono ?_
      rintro e w1 ⟨rfl, b1⟩
      go_wp2_with (go_at_call 7; refine (AW.out _ b1).mono ?_; rintro e w2 ⟨rfl, b2⟩; have b02 := b1.trans (b2.mono b1.size))
      go_ret
      exact ⟨rfl, b02⟩
    case false =>
      cases d3 : decide (more < 0)
      case true =>
        go_enter Tryd.func3, Tryd.ntmps3
        go_wp2_with fail
        refine (AW.out _ HB0.out).mono ?_
        rintro e w1 ⟨rfl, b1⟩
        go_wp2_with (go_at_call 7; refine (AW.out _ b1).mono ?_; rintro e w2 ⟨rfl, b2⟩; have b02 := b1.trans (b2.mono b1.size))
        go_ret
        exact ⟨rfl, b02⟩
      case false =>
        cases d4 : decide (20 < more)
        case true =>
          go_enter Tryd.func3, Tryd.ntmps3
          go_wp2_with fail
          refine (AW.out _ HB0.out).mono ?_
          rintro e w1 ⟨rfl, b1⟩
          go_wp2_with (go_at_call 7; refine (AW.out _ b1).mono ?_; rintro e w2 ⟨rfl, b2⟩; have b02 := b1.trans (b2.mono b1.size))
          go_ret
          exact ⟨rfl, b02⟩
        case false =>
          simp only [decide_eq_false_iff_not] at d1 d2 d3 d4
          obtain ⟨M, rfl⟩ := Int.eq_ofNat_of_zero_le (show 0 ≤ more by omega)
          exact full_good step M w (by omega) (by omega) (by omega) hL
end Go.Proofs.YtfcioamdkebniaaDoor
