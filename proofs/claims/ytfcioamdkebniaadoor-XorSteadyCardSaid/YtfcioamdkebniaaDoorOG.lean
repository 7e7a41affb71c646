/- Layer 7's statements: steady samples. -/
import Derived.Test.YtfcioamdkebniaaDoorOF
namespace Go.Proofs.YtfcioamdkebniaaDoor
open Go.RowKit Go.Lib

/-- n samples of one step and one value. -/
def stl (T step : Int) (V : Nat) (n : Nat) : List Xo.Sm := (List.range n).map fun j : Nat => (T + (j : Int) * step, V)
theorem stl_len (T step : Int) (V n : Nat) : (stl T step V n).length = n := by simp [stl]
theorem stl_succ (T step : Int) (V n : Nat) : stl T step V (n + 1) = stl T step V n ++ [(T + (n : Int) * step, V)] := by simp [stl, List.range_succ]
theorem mul_bd (n : Nat) (step : Int) (m : Nat) (b : Int) (hn : n ≤ m) (h0 : 0 ≤ step) (h1 : step ≤ b) : 0 ≤ (n : Int) * step ∧ (n : Int) * step ≤ (m : Int) * b := by
  refine ⟨Int.mul_nonneg (by omega) h0, Int.mul_le_mul (by omega) h1 h0 (by omega)⟩
theorem stl_good (T step : Int) (V : Nat) (h0 : 0 ≤ T) (h1 : T ≤ 1073741824) (h2 : 1 ≤ step) (h3 : step ≤ 1073741824) (hV : V < 18446744073709551616) : ∀ n, n ≤ 120 → Xo.Good (stl T step V n)
  | 0, _ => ⟨by simp [stl], by simp [stl], by simp [stl]⟩
  | n + 1, hn => by
    obtain ⟨i1, i2, i3⟩ := stl_good T step V h0 h1 h2 h3 hV n (by omega)
    have hb := mul_bd n step 120 1073741824 (by omega) (by omega) h3
    rw [stl_succ]
    refine ⟨by simp [stl_len]; omega, fun s hs => ?_, ?_⟩
    · rcases List.mem_append.1 hs with hs | hs
      · exact i2 s hs
      · rw [List.mem_singleton.1 hs]; simp only; omega
    · rw [List.pairwise_append]
      refine ⟨i3, List.pairwise_singleton _ _, fun a ha b hb => ?_⟩
      rw [List.mem_singleton.1 hb]
      obtain ⟨j, hj, rfl⟩ := List.mem_map.1 ha
      have hj := List.mem_range.1 hj
      have := Int.mul_lt_mul_of_pos_right (show (j : Int) < n by omega) (show 0 < step by omega)
      simp only
      omega
theorem stl_ne (T step : Int) (V n : Nat) : stl T step V (n + 1) ≠ [] := by rw [stl_succ]; simp
theorem stl_tr (T step : Int) (V n : Nat) : (Xo.trL (stl T step V (n + 1))).T = T + (n : Int) * step ∧ (Xo.trL (stl T step V (n + 1))).V = V := by
  rw [stl_succ]
  exact Xo.trL_last _ _
theorem stl_st (T step : Int) (V n : Nat) : (Xo.trL (stl T step V (n + 2))).st = step := by
  rw [stl_succ, Xo.trL_snoc _ _ (stl_ne T step V n)]
  show T + ((n + 1 : Nat) : Int) * step - (Xo.trL (stl T step V (n + 1))).T = step
  rw [(stl_tr T step V n).1]
  have : ((n + 1 : Nat) : Int) * step = (n : Int) * step + step := by rw [Int.natCast_add, Int.add_mul]; simp
  omega
theorem ch_zero : (Xo.chBits 0).length = 1 := by decide +kernel
theorem stl_bits (T step : Int) (V n : Nat) : (Xo.bitsL (stl T step V (n + 3))).length = (Xo.bitsL (stl T step V (n + 2))).length + 2 := by
  rw [stl_succ, Xo.bitsL_snoc _ _ (stl_ne T step V (n + 1)), List.length_append]
  congr 1
  unfold Xo.nextBits
  have ht := stl_tr T step V (n + 1)
  have hs := stl_st T step V n
  simp only
  rw [ht.1, ht.2, hs]
  have e : T + ((n + 2 : Nat) : Int) * step - (T + ((n + 1 : Nat) : Int) * step) - step = 0 := by
    have : ((n + 2 : Nat) : Int) * step = ((n + 1 : Nat) : Int) * step + step := by
      rw [show n + 2 = (n + 1) + 1 by omega, Int.natCast_add, Int.add_mul]; simp
    omega
  rw [e, Nat.xor_self, List.length_append, ch_zero]
  rfl
theorem stl_bits_n (T step : Int) (V : Nat) : ∀ n, (Xo.bitsL (stl T step V (n + 2))).length = (Xo.bitsL (stl T step V 2)).length + 2 * n
  | 0 => rfl
  | n + 1 => by rw [stl_bits, stl_bits_n T step V n]; omega
theorem stl_one (T step : Int) (V : Nat) : (Xo.bitsL (stl T step V 1)).length = 105 := by
  rw [stl_succ, show stl T step V 0 = [] from rfl, List.nil_append, Xo.bitsL_one]
  simp [Xo.firstBits, Bt.bitsN_length]
theorem unary_len2 (k : Nat) (hk : k ≤ 4) (h1 : 1 ≤ k) : 2 ≤ (Bt.unary k 4).length := by
  unfold Bt.unary
  rw [List.length_append, List.length_replicate]
  split
  · simp; omega
  · omega
theorem stl_two (T step : Int) (V : Nat) (h2 : 1 ≤ step) (h3 : step ≤ 1073741824) : 115 ≤ (Xo.bitsL (stl T step V 2)).length ∧ (Xo.bitsL (stl T step V 2)).length ≤ 180 := by
  rw [stl_succ, Xo.bitsL_snoc _ _ (stl_ne T step V 0), List.length_append, stl_one]
  unfold Xo.nextBits
  have ht := stl_tr T step V 0
  have hs0 : (Xo.trL (stl T step V 1)).st = 0 := by rw [stl_succ, show stl T step V 0 = [] from rfl, List.nil_append, Xo.trL_one]; rfl
  simp only
  rw [ht.1, ht.2, hs0, Nat.xor_self]
  have e : T + ((1 : Nat) : Int) * step - (T + ((0 : Nat) : Int) * step) - 0 = step := by simp; omega
  rw [e, List.length_append]
  have hw : (Xo.winBits ((Xo.trL (stl T step V 1)).a, (Xo.trL (stl T step V 1)).z) 0).length = 1 := rfl
  rw [hw]
  have hf : Leb.foldN step = (2 * step).toNat := by unfold Leb.foldN; rw [if_neg (by omega)]
  have hf1 : 2 ≤ Leb.foldN step := by omega
  have hf2 : Leb.foldN step < 18446744073709551616 := by omega
  have hbl := Xo.bitLen_pos _ hf2 (by omega)
  unfold Xo.chBits
  rw [List.length_append, Bt.bitsN_length]
  have hk := Xo.onesOf_le (Leb.foldN step)
  have hfit := Xo.ones_fit _ hf2
  have hwd := Xo.wd_le (Xo.onesOf (Leb.foldN step))
  have hun := Xo.unary_len _ hk
  have hk1 : 1 ≤ Xo.onesOf (Leb.foldN step) := by
    rcases Nat.eq_zero_or_pos (Xo.onesOf (Leb.foldN step)) with h | h
    · rw [h] at hfit; simp [Xo.wd] at hfit; omega
    · exact h
  have hun2 := unary_len2 _ hk hk1
  have hwd7 : 7 ≤ Xo.wd (Xo.onesOf (Leb.foldN step)) := by
    have h5 : Xo.onesOf (Leb.foldN step) = 1 ∨ Xo.onesOf (Leb.foldN step) = 2 ∨ Xo.onesOf (Leb.foldN step) = 3 ∨ Xo.onesOf (Leb.foldN step) = 4 := by omega
    rcases h5 with h | h | h | h <;> rw [h] <;> simp [Xo.wd]
  omega
theorem enc_small (v : Nat) (h : v < 128) : (Leb.encU v).length = 1 := by unfold Leb.encU; rw [Leb.enc_stop _ _ h]; rfl
theorem enc_two (v : Nat) (h : v < 16384) : (Leb.encU v).length ≤ 2 := by
  by_cases h1 : v < 128
  · rw [enc_small v h1]; omega
  · unfold Leb.encU
    rw [show (9 : Nat) = 8 + 1 from rfl, Leb.enc_step _ _ h1, Leb.enc_stop _ _ (by omega)]
    simp
theorem stl_text12 (T step : Int) (V : Nat) (h2 : 1 ≤ step) (h3 : step ≤ 1073741824) : (Xo.text (stl T step V 1)).length < (Xo.text (stl T step V 2)).length := by
  have h := stl_two T step V h2 h3
  have e1 := enc_small 105 (by omega)
  have e2 := Leb.encU_len (Xo.bitsL (stl T step V 2)).length
  have e3 := enc_small 1 (by omega)
  have e4 := enc_small 2 (by omega)
  unfold Xo.text
  simp only [List.length_append, Bt.pack_length, stl_len, stl_one]
  omega
theorem stl_textn (T step : Int) (V n : Nat) (h2 : 1 ≤ step) (h3 : step ≤ 1073741824) (hn : 3 ≤ n) (hn2 : n ≤ 120) : (Xo.text (stl T step V n)).length ≤ (Xo.text (stl T step V 2)).length + (2 * (n - 2) + 7) / 8 + 1 := by
  have h := stl_two T step V h2 h3
  obtain ⟨k, rfl⟩ : ∃ k, n = k + 2 := ⟨n - 2, by omega⟩
  have hb := stl_bits_n T step V k
  have e1 := enc_small (k + 2) (by omega)
  have e2 := Leb.encU_len (Xo.bitsL (stl T step V 2)).length
  have e3 := enc_two (Xo.bitsL (stl T step V (k + 2))).length (by omega)
  have e4 := enc_small 2 (by omega)
  unfold Xo.text
  simp only [List.length_append, Bt.pack_length, stl_len]
  omega

/-- The cells of a sample in its box. -/
theorem sbox (w : World) (T : Int) (V : Nat) (t : TypeId) (W : World) (b : Below (w.heap.size + 1) (w.alloc (.cells #[.int .i64 T, .int .u64 V] t)) W) : W.cell? ⟨w.heap.size, 0, none⟩ = some (.int .i64 T) ∧ W.cell? ⟨w.heap.size, 1, none⟩ = some (.int .u64 V) := by
  have h := (b.block w.heap.size (by omega)).trans (heap_alloc_new w (.cells #[.int .i64 T, .int .u64 V] t))
  exact ⟨cell_of_row _ _ 0 _ _ _ h, cell_of_row _ _ 1 _ _ _ h⟩

set_option maxHeartbeats 1000000 in
set_option maxRecDepth 100000 in
theorem steady_good (T : Int) (V N : Nat) (step : Int) (w : World) (t0 : 0 ≤ T) (t1 : T ≤ 1073741824) (hV : V < 18446744073709551616) (s0 : 1 ≤ step) (s1 : step ≤ 1073741824) (n0 : 3 ≤ N) (n1 : N ≤ 120) (hL : Tabs w.heap.size w) :
    Calls Tryd.prog 4 #[.agg #[.int .i64 T, .int .u64 V], .int .i64 step, .int .i64 N] w fun e w' => e = .returned (.bool true) ∧ Below w.heap.size w w' := by
  have AW := Lib.hid (fun W (b : Below w.heap.size w W) => xawake_any w.heap.size W (hL.below b (Nat.le_refl _)))
  have HB := Lib.hid (fun o => show Below w.heap.size w (w.alloc o) from (Below.refl _ _).alloc (Nat.le_refl _) o)
  have HZ := Lib.hid (fun o => show w.heap.size + 1 ≤ (w.alloc o).heap.size by simp)
  have HL := Lib.hid hL
  have n0' : (3 : Int) ≤ N := by omega
  have n1' : (N : Int) ≤ 120 := by omega
  have d1 : (decide (T < 0)) = false := by simp; omega
  have d2 : (decide (1073741824 < T)) = false := by simp; omega
  have d3 : (decide (step < 1)) = false := by simp; omega
  have d4 : (decide (1073741824 < step)) = false := by simp; omega
  have d5 : (decide ((N : Int) < 3)) = false := by simp; omega
  have d6 : (decide (120 < (N : Int))) = false := by simp; omega
  obtain ⟨hz, hsz⟩ := zero_of_info chZ_info
  obtain ⟨Z, hZ⟩ : ∃ Z, Z = chZ := ⟨_, rfl⟩
  have hch := chZ_ch
  rw [← hZ] at hz hch
  clear hZ
  have HCH := Lib.hid hch
  clear hch hsz
  have HG := Lib.hid (stl_good T step V (by omega) (by omega) (by omega) (by omega) hV)
  have H12 := Lib.hid (fun _ : Unit => stl_text12 T step V (by omega) (by omega))
  have HTN := Lib.hid (fun _ : Unit => stl_textn T step V N (by omega) (by omega) (by omega) (by omega))
  have HS1 := Lib.hid (fun _ : Unit => show stl T step V 1 = [(T, V)] by simp [stl])
  have HS2 := Lib.hid (fun _ : Unit => show stl T step V 2 = [(T, V), (T + step, V)] by simp [stl, List.range_succ])
  have hV' := Lib.hid hV
  have HR := Lib.hid (show (0 ≤ T ∧ T ≤ 1073741824) ∧ (1 ≤ step ∧ step ≤ 1073741824) ∧ (3 : Int) ≤ N ∧ (N : Int) ≤ 120 from ⟨⟨t0, t1⟩, ⟨s0, s1⟩, n0', n1'⟩)
  clear hL hV n0 n1 t0 t1 s0 s1 n0' n1'
  go_enter Tryd.func4, Tryd.ntmps4
  go_wp2_with fail
  refine (AW.out _ (HB.out _)).mono ?_
  rintro e w1 ⟨rfl, b1⟩
  have b01 := Lib.hid ((HB.out _).trans (b1.mono (HB.out _).size))
  have hbl0 : w.heap.size < w1.heap.size := Nat.lt_of_lt_of_le (HZ.out _) b1.size
  have HBL := Lib.hid hbl0
  have b1' := b1.mono (HZ.out _)
  obtain ⟨x0, x1⟩ := sbox w T V _ w1 b1'
  have c00 := Lib.hid (show ChAt w1.heap.size Z [] (w1.alloc (.cells Z 28)) from ⟨HCH.out, heap_alloc_new _ _⟩)
  have b00 := Lib.hid (show Below w1.heap.size w1 (w1.alloc (.cells Z 28)) from (Below.refl _ _).alloc (Nat.le_refl _) _)
  have X := Lib.hid (And.intro x0 x1)
  clear b1 b1' hbl0
  go_wp2_with fail
  clear d1 d2 d3 d4 d5 d6
  obtain ⟨⟨t0, t1⟩, ⟨s0, s1⟩, n0', n1'⟩ := HR.out
  go_loopw [8] (fun i' wr => ∃ (i : Nat) (A : Array Value), i' = .int .i64 i ∧ i ≤ N ∧ ChAt w1.heap.size A (stl T step V i) wr ∧ Below w1.heap.size w1 wr) (fun i' _ => N - (RowKit.intOf i').toNat)
  case atStart => exact ⟨0, Z, rfl, by omega, c00.out, b00.out⟩
  case round =>
    obtain ⟨i, A, rfl, hi, hC, hb⟩ := hrel
    have hrb := hb.size
    have hbl := HBL.out
    have y0 := (hb.cell (p := ⟨w.heap.size, 0, none⟩) hbl).trans X.out.1
    have y1 := (hb.cell (p := ⟨w.heap.size, 1, none⟩) hbl).trans X.out.2
    have b0r := b01.out.trans (hb.mono b01.out.size)
    have hcl := hC.lt
    by_cases hlt : i < N
    · have hp := mul_bd i step 120 1073741824 (by omega) (by omega) (by omega)
      have hg1 := HG.out (i + 1) (by omega)
      have hsc := stl_succ T step V i
      obtain ⟨p, hpp⟩ : ∃ p, p = (i : Int) * step := ⟨_, rfl⟩
      rw [← hpp] at hp hsc
      obtain ⟨hp0, hp1⟩ := hp
      have AC := Lib.hid (append_chunk w1.heap.size A (stl T step V i) (T + p) V wr hC (by omega) (by omega) hV'.out)
      unfold App at AC
      rw [hsc] at hg1
      rw [Xo.good_err hg1] at AC
      simp only [if_true] at AC
      rw [← hsc] at AC
      have hm1 : wrap64 ((i : Int) * step) = p := by rw [← hpp]; unfold wrap64; omega
      have hm2 : IntKind.i64.wrap ((i : Int) * step) = p := by rw [← hpp, IntKind.wrap_i64]; omega
      have hp2 : p ≤ 128849018880 := by omega
      have hd : (decide ((i : Int) < N)) = true := by simp; omega
      have hrl := Lib.hid hlt
      have HRB := Lib.hid hrb
      clear hsc hg1 hpp hp1 hi n0' s0 s1 hrb hbl hcl
      by_cases h1 : i = 1
      · have H1 := Lib.hid h1
        have I1 := Lib.hid (show ((i : Int) == 1) = true by simp; omega)
        clear h1
        go_wp2_with fail
        refine AC.out.mono ?_
        rintro e w2 ⟨rfl, u2, A2, hC2⟩
        have hbn : w.heap.size ≠ w1.heap.size := by have := HBL.out; omega
        have hbr : w.heap.size < wr.heap.size := by have := HBL.out; have := HRB.out; omega
        have z0 := (u2.cell (p := ⟨w.heap.size, 0, none⟩) hbr hbn).trans y0
        have z1 := (u2.cell (p := ⟨w.heap.size, 1, none⟩) hbr hbn).trans y1
        have hlt2 : w.heap.size < w2.heap.size := Nat.lt_of_lt_of_le hbr u2.size
        have U2 := Lib.hid u2
        have HC := Lib.hid hC2
        have AD := Lib.hid (fun c W (h : ChAt c Z [] W) => append_chunk c Z [] T V W h (by omega) (by omega) hV'.out)
        have hg1 := HG.out 1 (by omega)
        rw [HS1.out ()] at hg1
        have he1 : Xo.err [] (T, V) = 0 := Xo.good_err (l := []) hg1
        unfold App at AD
        rw [he1] at AD
        simp only [if_true, List.nil_append] at AD
        have BR := Lib.hid hb
        clear hg1 he1
        clear u2 hC2 AC y0 y1 hbn hbr t0 t1 hp0 hp2 hd hm1 hm2 hb hC
        have i1 := I1.out
        go_wp2_with fail
        refine (AD.out w2.heap.size _ ⟨HCH.out, heap_alloc_new _ _⟩).mono ?_
        rintro e w3 ⟨rfl, u3, A3, hC3⟩
        have hwz : w1.heap.size < w2.heap.size := HC.out.lt
        have hC2 : ChAt w1.heap.size A2 (stl T step V (i + 1)) w3 := HC.out.keep ((u3.block _ (by simp; omega) (by omega)).trans (Below.heap_alloc _ _ _ hwz))
        have b23 : Below w2.heap.size w2 w3 := ((Below.refl _ _).alloc (Nat.le_refl _) _).trans (u3.below (by simp) (fun k hk => by omega))
        have b03 := (BR.out.trans (U2.out.below (by have := HRB.out; omega) (fun k hk => by omega))).trans (b23.mono (by omega))
        have hT3 := HL.out.below (b01.out.trans (b03.mono b01.out.size)) (Nat.le_refl _)
        have T2 := Lib.hid (text_chunk w.heap.size w1.heap.size A2 _ w3 hC2 hT3)
        have T1 := Lib.hid (fun W (b : Below w3.heap.size w3 W) => text_chunk w.heap.size w2.heap.size A3 _ W (hC3.keep (b.block _ hC3.lt)) (hT3.below b hT3.hB))
        rw [show stl T step V (i + 1) = stl T step V 2 by rw [H1.out]] at T2
        rw [← HS1.out ()] at T1
        obtain ⟨S2, hS2⟩ : ∃ S, S = bs (Xo.text (stl T step V 2)) := ⟨_, rfl⟩
        obtain ⟨S1, hS1⟩ : ∃ S, S = bs (Xo.text (stl T step V 1)) := ⟨_, rfl⟩
        have hss : S1.size < S2.size := by rw [hS1, hS2, bs_size, bs_size]; exact H12.out ()
        rw [← hS2] at T2
        rw [← hS1] at T1
        have hsd : ¬ S2.size ≤ S1.size := by omega
        have B03 := Lib.hid b03
        have HC2 := Lib.hid hC2
        clear hS1 hS2 hss u3 hC3 hC2 b23 b03 hT3 AD BR
        go_wp2_with fail
        refine T2.out.mono ?_
        rintro e w4 ⟨rfl, b4⟩
        have T1' := Lib.hid (T1.out w4 b4)
        go_wp2_with fail
        refine T1'.out.mono ?_
        rintro e w5 ⟨rfl, b5⟩
        clear T1 T1' T2 z0 z1
        go_wp2_with fail
        have b35 : Below w3.heap.size w3 w5 := b4.trans (b5.mono b4.size)
        refine ⟨⟨i + 1, A2, by go_num, hrl.out, HC2.out.keep (b35.block _ HC2.out.lt), B03.out.trans (b35.mono B03.out.size)⟩, by have := hrl.out; simp [RowKit.intOf]; omega⟩
      · have i1 : ((i : Int) == 1) = false := by simp; omega
        clear h1
        go_wp2_with (go_at_call 8; refine AC.out.mono ?_; rintro e w2 ⟨rfl, u2, A2, hC2⟩)
        exact ⟨⟨i + 1, A2, by go_num, hrl.out, hC2, hb.trans (u2.below hb.size (fun k hk => by omega))⟩, by have := hrl.out; simp [RowKit.intOf]; omega⟩
    · have hiN : i = N := by omega
      rw [hiN] at hC
      have hg2 := HG.out 2 (by omega)
      have hT0 := HL.out.below b0r (Nat.le_refl _)
      have sl0 := Sl.lit wr wr.heap.size 2 2 #[.int .i64 T, .int .u64 V, .int .i64 (T + step), .int .u64 V] 25 (Nat.le_refl _) (by decide) rfl
      have br : Below wr.heap.size wr (wr.alloc (.cells #[.int .i64 T, .int .u64 V, .int .i64 (T + step), .int .u64 V] 25)) := (Below.refl _ _).alloc (Nat.le_refl _) _
      have OF := Lib.hid (of_good w.heap.size (.slice (some ⟨wr.heap.size, 0, none⟩) 2 2) (stl T step V 2) (wr.alloc (.cells #[.int .i64 T, .int .u64 V, .int .i64 (T + step), .int .u64 V] 25)) (by rw [HS2.out ()]; exact Rd.of_sl sl0) hg2 (hT0.below br hT0.hB))
      have TX := Lib.hid (fun W (b : Below wr.heap.size wr W) => text_chunk w.heap.size w1.heap.size A _ W (hC.keep (b.block _ hcl)) (hT0.below b hT0.hB))
      have hle := HTN.out ()
      obtain ⟨S2, hS2⟩ : ∃ S, S = bs (Xo.text (stl T step V 2)) := ⟨_, rfl⟩
      obtain ⟨S1, hS1⟩ : ∃ S, S = bs (Xo.text (stl T step V N)) := ⟨_, rfl⟩
      have hss : S1.size ≤ S2.size + (2 * (N - 2) + 7) / 8 + 1 := by rw [hS1, hS2, bs_size, bs_size]; exact hle
      have hs2 : S2.size ≤ 3000 := by rw [hS2, bs_size]; exact Xo.text_len _ hg2
      rw [← hS2] at OF
      rw [← hS1] at TX
      have hsi : (S1.size : Int) ≤ (S2.size : Int) + (2 * ((N : Int) - 2) + 7) / 8 + 1 := by omega
      have HBr := Lib.hid br
      have B0 := Lib.hid b0r
      clear hS1 hS2 hss hle hg2 sl0 hC hb hT0 br hiN hi b0r
      go_wp2_with fail
      refine OF.out.mono ?_
      rintro e w3 ⟨rfl, b3⟩
      have b03 := HBr.out.trans (b3.mono HBr.out.size)
      have TX' := Lib.hid (TX.out w3 b03)
      go_wp2_with fail
      refine TX'.out.mono ?_
      rintro e w4 ⟨rfl, b4⟩
      have b04 := Lib.hid (B0.out.trans ((b03.trans (b4.mono b03.size)).mono B0.out.size))
      clear b4 b03 b3 TX TX' OF
      go_wp2_with fail
      go_ret
      exact ⟨rfl, b04.out⟩

set_option maxHeartbeats 1000000 in
set_option maxRecDepth 100000 in
theorem steady_any (T : Int) (V0 : Int) (step n : Int) (w : World) (hT0 : (Lit.int .i64 T).wf = true) (hV0 : (Lit.int .u64 V0).wf = true) (hs0 : (Lit.int .i64 step).wf = true) (hn0 : (Lit.int .i64 n).wf = true) (hL : Tabs w.heap.size w) :
    Calls Tryd.prog 4 #[.agg #[.int .i64 T, .int .u64 V0], .int .i64 step, .int .i64 n] w fun e w' => e = .returned (.bool true) ∧ Below w.heap.size w w' := by
  have tb := bd_i64 hT0
  have vb := bd_u64 hV0
  have sb := bd_i64 hs0
  have nb := bd_i64 hn0
  obtain ⟨V, rfl⟩ := Int.eq_ofNat_of_zero_le vb.1
  have hV : V < 18446744073709551616 := by omega
  have HV := Lib.hid hV
  have AW := Lib.hid (fun W (b : Below w.heap.size w W) => xawake_any w.heap.size W (hL.below b (Nat.le_refl _)))
  have HB := Lib.hid (fun o => show Below w.heap.size w (w.alloc o) from (Below.refl _ _).alloc (Nat.le_refl _) o)
  have HZ := Lib.hid (fun o => show w.heap.size + 1 ≤ (w.alloc o).heap.size by simp)
  have HBD := Lib.hid (And.intro tb (And.intro sb nb))
  clear hT0 hV0 hs0 hn0 vb tb sb nb hV
  cases d1 : decide (T < 0)
  case true =>
    go_enter Tryd.func4, Tryd.ntmps4
    go_wp2_with fail
    refine (AW.out _ (HB.out _)).mono ?_
    rintro e w1 ⟨rfl, b1⟩
    have b01 := (HB.out _).trans (b1.mono (HB.out _).size)
    obtain ⟨x0, x1⟩ := sbox w T V _ w1 (b1.mono (HZ.out _))
    go_wp2_with (go_at_call 7; refine (AW.out _ b01).mono ?_; rintro e w2 ⟨rfl, b2⟩; have b02 := b01.trans (b2.mono b01.size))
    go_ret
    exact ⟨rfl, b02⟩
  case false =>
    cases d2 : decide (1073741824 < T)
    case true =>
      go_enter Tryd.func4, Tryd.ntmps4
      go_wp2_with fail
      refine (AW.out _ (HB.out _)).mono ?_
      rintro e w1 ⟨rfl, b1⟩
      have b01 := (HB.out _).trans (b1.mono (HB.out _).size)
      obtain ⟨x0, x1⟩ := sbox w T V _ w1 (b1.mono (HZ.out _))
      go_wp2_with (go_at_call 7; refine (AW.out _ b01).mono ?_; rintro e w2 ⟨rfl, b2⟩; have b02 := b01.trans (b2.mono b01.size))
      go_ret
      exact ⟨rfl, b02⟩
    case false =>
      cases d3 : decide (step < 1)
      case true =>
        go_enter Tryd.func4, Tryd.ntmps4
        go_wp2_with fail
        refine (AW.out _ (HB.out _)).mono ?_
        rintro e w1 ⟨rfl, b1⟩
        have b01 := (HB.out _).trans (b1.mono (HB.out _).size)
        obtain ⟨x0, x1⟩ := sbox w T V _ w1 (b1.mono (HZ.out _))
        go_wp2_with (go_at_call 7; refine (AW.out _ b01).mono ?_; rintro e w2 ⟨rfl, b2⟩; have b02 := b01.trans (b2.mono b01.size))
        go_ret
        exact ⟨rfl, b02⟩
      case false =>
        cases d4 : decide (1073741824 < step)
        case true =>
          go_enter Tryd.func4, Tryd.ntmps4
          go_wp2_with fail
          refine (AW.out _ (HB.out _)).mono ?_
          rintro e w1 ⟨rfl, b1⟩
          have b01 := (HB.out _).trans (b1.mono (HB.out _).size)
          obtain ⟨x0, x1⟩ := sbox w T V _ w1 (b1.mono (HZ.out _))
          go_wp2_with (go_at_call 7; refine (AW.out _ b01).mono ?_; rintro e w2 ⟨rfl, b2⟩; have b02 := b01.trans (b2.mono b01.size))
          go_ret
          exact ⟨rfl, b02⟩
        case false =>
          cases d5 : decide (n < 3)
          case true =>
            go_enter Tryd.func4, Tryd.ntmps4
            go_wp2_with fail
            refine (AW.out _ (HB.out _)).mono ?_
            rintro e w1 ⟨rfl, b1⟩
            have b01 := (HB.out _).trans (b1.mono (HB.out _).size)
            obtain ⟨x0, x1⟩ := sbox w T V _ w1 (b1.mono (HZ.out _))
            go_wp2_with (go_at_call 7; refine (AW.out _ b01).mono ?_; rintro e w2 ⟨rfl, b2⟩; have b02 := b01.trans (b2.mono b01.size))
            go_ret
            exact ⟨rfl, b02⟩
          case false =>
            cases d6 : decide (120 < n)
            case true =>
              go_enter Tryd.func4, Tryd.ntmps4
              go_wp2_with fail
              refine (AW.out _ (HB.out _)).mono ?_
              rintro e w1 ⟨rfl, b1⟩
              have b01 := (HB.out _).trans (b1.mono (HB.out _).size)
              obtain ⟨x0, x1⟩ := sbox w T V _ w1 (b1.mono (HZ.out _))
              go_wp2_with (go_at_call 7; refine (AW.out _ b01).mono ?_; rintro e w2 ⟨rfl, b2⟩; have b02 := b01.trans (b2.mono b01.size))
              go_ret
              exact ⟨rfl, b02⟩
            case false =>
              simp only [decide_eq_false_iff_not] at d1 d2 d3 d4 d5 d6
              obtain ⟨N, rfl⟩ := Int.eq_ofNat_of_zero_le (show 0 ≤ n by omega)
              exact steady_good T V N step w (by omega) (by omega) HV.out (by omega) (by omega) (by omega) (by omega) hL
end Go.Proofs.YtfcioamdkebniaaDoor
