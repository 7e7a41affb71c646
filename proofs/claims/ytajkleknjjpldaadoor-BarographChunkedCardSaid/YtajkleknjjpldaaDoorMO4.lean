/- Layer 7's samples, written. -/
import Derived.Test.YtajkleknjjpldaaDoorMO3
import Derived.Test.YtajkleknjjpldaaDoorMY0
namespace Go.Proofs.YtajkleknjjpldaaDoor
open Go.RowKit Go.Lib

theorem xfold_any (v : Int) (w : World) (h0 : -9223372036854775808 ≤ v) (h1 : v ≤ 9223372036854775807) :
    Calls Tryd.prog 57 #[.int .i64 v] w fun e w' => e = .returned (.int .u64 (Leb.foldN v : Nat)) ∧ w = w' := by
  have HF := Lib.hid (foldN_bits v h0 h1)
  go_enter Tryd.func57, Tryd.ntmps57
  go_wp2
  go_ret
  exact ⟨by rw [← HF.out]; rfl, rfl⟩

set_option maxRecDepth 100000 in
theorem putchange_any (C B r t : Nat) (v : Value) (l : List Bool) (T : Xo.Tr) (d : Int) (w : World) (h : Pt C B r t v l T w) (hl : l.length ≤ 800000) (h0 : -9223372036854775808 ≤ d) (h1 : d ≤ 9223372036854775807) :
    Calls Tryd.prog 41 #[.pointer (some ⟨r, 0, none⟩), .int .i64 d] w fun e w' => e = .returned (.tuple #[]) ∧ Pw C B r t v (l ++ Xo.chBits d) T w w' := by
  have hu := Leb.fold_lt d h0 h1
  have XF := Lib.hid (fun W => xfold_any d W h0 h1)
  have e1 : l ++ Xo.chBits d = l ++ Bt.unary (Xo.onesOf (Leb.foldN d)) 4 ++ Bt.bitsN (Leb.foldN d) (Xo.wd (Xo.onesOf (Leb.foldN d))) := by unfold Xo.chBits; simp
  rw [e1]
  clear e1
  obtain ⟨u, hud⟩ : ∃ u, u = Leb.foldN d := ⟨_, rfl⟩
  rw [← hud] at XF hu ⊢
  clear hud
  unfold Leb.two64 at hu
  have W1 := Lib.hid (fun W => width_any u W hu)
  have hfit := Xo.ones_fit u hu
  have hless := Xo.ones_lt u
  have hle := Xo.onesOf_le u
  have hb64 := Xo.bitLen_64 u hu
  obtain ⟨k, hk⟩ : ∃ k, k = Xo.onesOf u := ⟨_, rfl⟩
  obtain ⟨n, hn⟩ : ∃ n, n = Lib.bitLen u := ⟨_, rfl⟩
  rw [← hk] at hfit hless hle ⊢
  rw [← hn] at hfit hless hb64 W1
  clear hk hn
  have HL := Lib.hid hless
  have T0 := Lib.hid h.tab.wd
  have L1 : (l ++ Bt.unary k 4).length ≤ 900000 := by have := Xo.unary_len k hle; simp; omega
  have PU := Lib.hid (fun v' W (h : Pt C B r t v' l T W) => punary h (by omega) k hle)
  have PB := Lib.hid (fun v' W (h : Pt C B r t v' (l ++ Bt.unary k 4) T W) => pbits h L1 u (Xo.wd k) u (Xo.wd k) rfl rfl hu (Xo.wd_le k))
  clear L1 hless
  go_enter Tryd.func41, Tryd.ntmps41
  go_wp2_with (go_at_call 57; refine (XF.out _).mono ?_; rintro e w1 ⟨rfl, rfl⟩)
  go_loopw [5] (fun i' wr => ∃ (i : Nat), i' = .int .i64 i ∧ i ≤ k ∧ Below w.heap.size w wr) (fun i' _ => k - (RowKit.intOf i').toNat)
  case atStart => exact ⟨0, rfl, by omega, Below.refl _ _⟩
  case round =>
    obtain ⟨i, rfl, hi, hb⟩ := hrel
    have P0 := h.grow hb
    have ci := P0.tab.wd i (by omega)
    by_cases hlt : i < k
    · have hgt := HL.out i hlt
      obtain ⟨x, hx⟩ : ∃ x, x = Xo.wd i := ⟨_, rfl⟩
      rw [← hx] at hgt ci
      clear hx
      have hdec : (decide ((x : Int) < n)) = true := by simp; omega
      go_wp2_with fail
      go_quiet ((go_at_call 58; exact Calls.quiet_of_same ((W1.out _).mono fun _ _ h => ⟨h.1, h.2.symm⟩)))
      go_wp2_with fail
      exact ⟨⟨i + 1, by go_num, by omega, below_draw hb _⟩, by simp [RowKit.intOf]; omega⟩
    · have hik : i = k := by omega
      subst hik
      obtain ⟨x, hx⟩ : ∃ x, x = Xo.wd i := ⟨_, rfl⟩
      rw [← hx] at hfit ci PB
      have HX := Lib.hid hx
      clear hx
      have hdec : (decide ((x : Int) < n)) = false := by simp; omega
      have H5 := Lib.hid (show i < 5 by omega)
      go_wp2_with fail
      go_quiet ((go_at_call 58; exact Calls.quiet_of_same ((W1.out _).mono fun _ _ h => ⟨h.1, h.2.symm⟩)))
      have P1 := P0.grow (below_draw (Below.refl _ wr) nq)
      have PU1 := Lib.hid (PU.out _ _ P1)
      go_wp2_with (first
        | (go_at_call 59; refine PU1.out.mono ?_; rintro e w2 ⟨rfl, v2, P2, u2⟩; have c2 := P2.tab.wd i H5.out; rw [← HX.out] at c2)
        | (go_at_call 40; refine (PB.out _ _ P2).mono ?_; rintro e w3 ⟨rfl, v3, P3, u3⟩))
      go_end0
      rw [← HX.out]
      exact ⟨rfl, v3, P3, ((Cg.of_below (below_draw hb nq)).trans u2).trans u3⟩

/-- A sample as a value. -/
def smV (s : Xo.Sm) : Value := .agg #[.int .i64 s.1, .int .u64 s.2]

set_option maxRecDepth 100000 in
theorem putfirst_any (C B r t : Nat) (v : Value) (l : List Bool) (T : Xo.Tr) (s1 : Int) (s2 : Nat) (w : World) (h : Pt C B r t v l T w) (hl : l.length ≤ 800000) (h0 : 0 ≤ s1) (h1 : s1 ≤ 1099511627776) (h2 : s2 < 18446744073709551616) :
    Calls Tryd.prog 25 #[.pointer (some ⟨t, 0, none⟩), .pointer (some ⟨r, 0, none⟩), .agg #[.int .i64 s1, .int .u64 s2]] w fun e w' => e = .returned (.tuple #[]) ∧ Pw C B r t v (l ++ Xo.firstBits (s1, s2)) ⟨s1, s2, T.st, T.a, T.z⟩ w w' := by
  obtain ⟨tT, tV, ts, ta, tz⟩ := T
  have e1 : l ++ Xo.firstBits (s1, s2) = l ++ Bt.bitsN s1.toNat 41 ++ Bt.bitsN s2 64 := by unfold Xo.firstBits; simp
  rw [e1]
  clear e1
  have P0 := h.grow ((Below.refl _ _).alloc (Nat.le_refl _) (.cells #[.int .i64 s1, .int .u64 s2] 27))
  have L1 : (l ++ Bt.bitsN s1.toNat 41).length ≤ 900000 := by simp [Bt.bitsN_length]; omega
  have PA := Lib.hid (pbits P0 (by omega) s1.toNat 41 s1 41 (by omega) rfl (by omega) (by omega))
  have PB := Lib.hid (fun v' W (h : Pt C B r t v' (l ++ Bt.bitsN s1.toNat 41) ⟨tT, tV, ts, ta, tz⟩ W) => pbits h L1 s2 64 s2 64 rfl rfl h2 (by omega))
  have hz : w.heap.size < (w.alloc (.cells #[.int .i64 s1, .int .u64 s2] 27)).heap.size := by simp
  have hnt : w.heap.size ≠ t := by have := h.lt; omega
  have hnr : w.heap.size ≠ r := by have := h.row.lt; have := h.row.hB; omega
  have hno : v.ownBlock ≠ some w.heap.size := fun e => by have := (h.row.bytes.lt _ e).2; omega
  have n0 : (w.alloc (.cells #[.int .i64 s1, .int .u64 s2] 27)).cell? ⟨w.heap.size, 0, none⟩ = some (.int .i64 s1) := by simp [go_sem]
  have n1 : (w.alloc (.cells #[.int .i64 s1, .int .u64 s2] 27)).cell? ⟨w.heap.size, 1, none⟩ = some (.int .u64 s2) := by simp [go_sem]
  have HZ := Lib.hid hz; have N0 := Lib.hid n0; have N1 := Lib.hid n1
  clear hz L1 n0 n1
  have H0 := Lib.hid (show 0 < 5 by decide)
  have H1 := Lib.hid (show 1 < 5 by decide)
  go_enter Tryd.func25, Tryd.ntmps25
  go_wp2_with (go_at_call 40; first
    | ((with_reducible refine PA.out.mono ?_); rintro e w1 ⟨rfl, v1, P1, u1⟩; have m0 := (u1.cell (p := ⟨w.heap.size, 0, none⟩) HZ.out hnr hnt hno).trans N0.out; have m1 := (u1.cell (p := ⟨w.heap.size, 1, none⟩) HZ.out hnr hnt hno).trans N1.out)
    | ((with_reducible refine (PB.out _ _ P1).mono ?_); rintro e w2 ⟨rfl, v2, P2, u2⟩; have U := Lib.hid (u1.trans u2); have k0 := (U.out.cell (p := ⟨w.heap.size, 0, none⟩) HZ.out hnr hnt hno).trans N0.out; have k1 := (U.out.cell (p := ⟨w.heap.size, 1, none⟩) HZ.out hnr hnt hno).trans N1.out; have f0 := P2.f 0 H0.out; have f1 := P2.f 1 H1.out; have q0 := P2.c0; have q1 := P2.c1))
  go_end0
  have P3 := (P2.store 0 (.int .i64 s1) ⟨s1, tV, ts, ta, tz⟩ (by omega) rfl).store 1 (.int .u64 s2) ⟨s1, s2, ts, ta, tz⟩ (by omega) rfl
  exact ⟨rfl, v2, P3, ((Cg.of_below ((Below.refl _ _).alloc (Nat.le_refl _) _)).trans U.out).trans ((Cg.store _).trans (Cg.store _))⟩

set_option maxRecDepth 100000 in
theorem putnext_any (C B r t : Nat) (v : Value) (l : List Bool) (T : Xo.Tr) (s1 : Int) (s2 : Nat) (w : World) (h : Pt C B r t v l T w) (hT : Xo.TrOk T) (hl : l.length ≤ 700000) (h0 : 0 ≤ s1) (h1 : s1 ≤ 1099511627776) (h2 : s2 < 18446744073709551616) :
    Calls Tryd.prog 26 #[.pointer (some ⟨t, 0, none⟩), .pointer (some ⟨r, 0, none⟩), .agg #[.int .i64 s1, .int .u64 s2]] w fun e w' => e = .returned (.tuple #[]) ∧ Pw C B r t v (l ++ Xo.nextBits T (s1, s2)) (Xo.nextTr T (s1, s2)) w w' := by
  obtain ⟨tT, tV, ts, ta, tz⟩ := T
  obtain ⟨t0, t1, t2, t3, t4, t5⟩ := hT
  simp only at t0 t1 t2 t3 t4 t5
  have e1 : l ++ Xo.nextBits ⟨tT, tV, ts, ta, tz⟩ (s1, s2) = l ++ Xo.chBits (s1 - tT - ts) ++ Xo.winBits (ta, tz) (s2 ^^^ tV) := by unfold Xo.nextBits; simp
  have e2 : Xo.nextTr ⟨tT, tV, ts, ta, tz⟩ (s1, s2) = ⟨s1, s2, s1 - tT, (Xo.winAfter (ta, tz) (s2 ^^^ tV)).1, (Xo.winAfter (ta, tz) (s2 ^^^ tV)).2⟩ := rfl
  rw [e1, e2]
  clear e1 e2
  have hx := Xo.xor_lt h2 t2
  have P0 := h.grow ((Below.refl _ _).alloc (Nat.le_refl _) (.cells #[.int .i64 s1, .int .u64 s2] 27)).drew
  have L1 : (l ++ Xo.chBits (s1 - tT - ts)).length ≤ 800000 := by
    have h3 := Xo.unary_len _ (Xo.onesOf_le (Leb.foldN (s1 - tT - ts)))
    have h4 := Xo.wd_le (Xo.onesOf (Leb.foldN (s1 - tT - ts)))
    unfold Xo.chBits
    simp only [List.length_append, Bt.bitsN_length]
    omega
  have PC := Lib.hid (putchange_any C B r t v l _ (s1 - tT - ts) _ P0 (by omega) (by omega) (by omega))
  have PW := Lib.hid (fun v' W (h : Pt C B r t v' (l ++ Xo.chBits (s1 - tT - ts)) ⟨tT, tV, ts, ta, tz⟩ W) => show Calls Tryd.prog 42 #[.pointer (some ⟨t, 3, none⟩), .pointer (some ⟨r, 0, none⟩), .int .u64 (bits .xor .u64 (s2 : Int) (tV : Int))] W (fun e w' => e = .returned (.tuple #[]) ∧ Pw C B r t v' (l ++ Xo.chBits (s1 - tT - ts) ++ Xo.winBits (ta, tz) (s2 ^^^ tV)) ⟨tT, tV, ts, (Xo.winAfter (ta, tz) (s2 ^^^ tV)).1, (Xo.winAfter (ta, tz) (s2 ^^^ tV)).2⟩ W w') by
    rw [bits_xor_u64_nat s2 tV h2 t2]
    exact wput_any C B r t v' _ tT tV ts ta tz _ W h hx t5 L1)
  have hz : w.heap.size < (w.alloc (.cells #[.int .i64 s1, .int .u64 s2] 27)).drew.heap.size := by simp
  have hnt : w.heap.size ≠ t := by have := h.lt; omega
  have hnr : w.heap.size ≠ r := by have := h.row.lt; have := h.row.hB; omega
  have hno : v.ownBlock ≠ some w.heap.size := fun e => by have := (h.row.bytes.lt _ e).2; omega
  have n0 : (w.alloc (.cells #[.int .i64 s1, .int .u64 s2] 27)).drew.cell? ⟨w.heap.size, 0, none⟩ = some (.int .i64 s1) := by simp [go_sem]
  have n1 : (w.alloc (.cells #[.int .i64 s1, .int .u64 s2] 27)).drew.cell? ⟨w.heap.size, 1, none⟩ = some (.int .u64 s2) := by simp [go_sem]
  have HZ := Lib.hid hz; have N0 := Lib.hid n0; have N1 := Lib.hid n1
  have q0 := h.c0; have q2 := h.c2
  simp only at q0 q2
  have ht := h.lt
  obtain ⟨wa, hwa⟩ : ∃ wa, wa = Xo.winAfter (ta, tz) (s2 ^^^ tV) := ⟨_, rfl⟩
  obtain ⟨xb, hxb⟩ : ∃ xb, xb = Xo.winBits (ta, tz) (s2 ^^^ tV) := ⟨_, rfl⟩
  obtain ⟨cb, hcb⟩ : ∃ cb, cb = Xo.chBits (s1 - tT - ts) := ⟨_, rfl⟩
  rw [← hwa, ← hxb, ← hcb] at PW ⊢
  rw [← hcb] at PC
  clear hz L1 n0 n1 P0 hwa hxb hcb hx
  have H0 := Lib.hid (show 0 < 5 by decide)
  have H1 := Lib.hid (show 1 < 5 by decide)
  have H2 := Lib.hid (show 2 < 5 by decide)
  go_enter Tryd.func26, Tryd.ntmps26
  go_wp2_with fail
  go_region
  go_wp2_with (go_at_call 41; refine PC.out.mono ?_; rintro e w1 ⟨rfl, v1, P1, u1⟩; have m1 := (u1.cell (p := ⟨w.heap.size, 1, none⟩) HZ.out hnr hnt hno).trans N1.out; have p1 := P1.c1; have ht := P1.lt)

  have U1 := Lib.hid u1
  have m0 := (u1.cell (p := ⟨w.heap.size, 0, none⟩) HZ.out hnr hnt hno).trans N0.out
  have K : ∀ W, Below w1.heap.size w1 W → W.cell? ⟨w.heap.size, 1, none⟩ = some (.int .u64 s2) ∧ W.cell? ⟨t, 1, none⟩ = some (.int .u64 tV) := fun W b => ⟨(b.cell (p := ⟨w.heap.size, 1, none⟩) (Nat.lt_of_lt_of_le HZ.out u1.turn.size)).trans m1, (b.cell (p := ⟨t, 1, none⟩) ht).trans p1⟩
  have HM := Lib.hid (And.intro m0 m1)
  clear u1 m0
  go_region_held3 (fun W => W.cell? ⟨w.heap.size, 1, none⟩ = some (.int .u64 s2) ∧ W.cell? ⟨t, 1, none⟩ = some (.int .u64 tV))
    (first | exact K _ (Below.refl _ _) | exact K _ (Below.refl _ _).drew | exact ⟨k1, P2.c1⟩ | assumption)
    ((go_at_call 42; refine (PW.out v1 _ (P1.grow (Below.refl _ _).drew)).mono ?_; rintro e w2 ⟨rfl, v2, P2, u2⟩; have U := Lib.hid ((U1.out.trans (Cg.of_below (Below.refl w1.heap.size w1).drew)).trans u2); have k0 := (U.out.cell (p := ⟨w.heap.size, 0, none⟩) HZ.out hnr hnt hno).trans N0.out; have k1 := (U.out.cell (p := ⟨w.heap.size, 1, none⟩) HZ.out hnr hnt hno).trans N1.out; have f0 := P2.f 0 H0.out; have f1 := P2.f 1 H1.out; have f2 := P2.f 2 H2.out; have q0 := P2.c0; have q1 := P2.c1; have q2 := P2.c2))
  clear u2 K HM
  go_wp2_with fail
  go_end0
  have P3 := ((P2.store 0 (.int .i64 s1) ⟨s1, tV, ts, wa.1, wa.2⟩ (by omega) rfl).store 1 (.int .u64 s2) ⟨s1, s2, ts, wa.1, wa.2⟩ (by omega) rfl).store 2 (.int .i64 (s1 - tT)) ⟨s1, s2, s1 - tT, wa.1, wa.2⟩ (by omega) rfl
  have b0 : ∀ o, Below w.heap.size w ((w.alloc o).drew) := fun o => ((Below.refl _ _).alloc (Nat.le_refl _) o).drew
  exact ⟨rfl, v2, P3, ((Cg.of_below (b0 _)).trans U.out).trans (((Cg.store _).trans (Cg.store _)).trans (Cg.store _))⟩
end Go.Proofs.YtajkleknjjpldaaDoor
