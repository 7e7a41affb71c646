/- The document's bits of samples, walked. -/
import Derived.Test.YtieaiecoiononaaDoorQ1
namespace Go.Proofs.YtieaiecoiononaaDoor
open Go.RowKit Go.Lib

theorem rfold07_any (v : Int) (w : World) (h0 : -9223372036854775808 ≤ v) (h1 : v ≤ 9223372036854775807) :
    Calls Tryd.prog 37 #[.int .i64 v] w fun e w' => e = .returned (.int .u64 (Leb.foldN v : Nat)) ∧ w = w' := by
  have C := Lib.hid (fun W => rfold_any v W h0 h1)
  go_enter Tryd.func37, Tryd.ntmps37
  go_wp2_with fail
  refine (C.out _).mono ?_
  rintro e _ ⟨rfl, rfl⟩
  go_wp2_with fail
  go_ret
  exact ⟨rfl, rfl⟩
theorem fits_no (u k : Nat) (hk : k < Xo.onesOf u) : decide (u / 2 ^ Xo.wd k = 0) = false := by
  have h := Xo.ones_lt u k hk
  apply decide_eq_false
  intro e
  rcases Nat.div_eq_zero_iff.1 e with e | e
  · have := Nat.two_pow_pos (Xo.wd k); omega
  · have := Lib.bitLen_le u (Xo.wd k) (Xo.wd_le k) e; omega
theorem fits_yes (u : Nat) (h : u < 18446744073709551616) : decide (u / 2 ^ Xo.wd (Xo.onesOf u) = 0) = true := by
  rw [Nat.div_eq_of_lt (Xo.ones_pow u h)]; rfl

theorem bitsN_part (x a z : Nat) (h : a + z ≤ 64) : ((Bt.bitsN x 64).drop a).take z = Bt.bitsN (x / 2 ^ (64 - a - z)) z := by
  have e1 : (64 : Nat) = (64 - a) + a := by omega
  have h1 : (Bt.bitsN x 64).drop a = Bt.bitsN x (64 - a) := by
    conv => lhs; rw [e1, Bt.bitsN_split]
    rw [List.drop_left' (Bt.bitsN_length _ _)]
  have e2 : 64 - a = (64 - a - z) + z := by omega
  rw [h1]
  conv => lhs; rw [e2, Bt.bitsN_split]
  rw [List.take_left' (Bt.bitsN_length _ _)]
theorem bc_part (l : List Bool) (a z : Nat) : ((bc l).drop a).take z = bc ((l.drop a).take z) := by simp [bc]
/-- What is known of the window of a number. -/
theorem own_in (x : Nat) (hx : x < 18446744073709551616) (h0 : x ≠ 0) : ∃ a k, a = 64 - Lib.bitLen x ∧ lastTo x 64 = ((a + k : Nat) : Int) ∧ Xo.own x = (a, k + 1) ∧ a + k ≤ 63 := by
  have h1 := Xo.bitLen_64 x hx
  have h2 := Xo.ctz_lt x hx h0
  refine ⟨64 - Lib.bitLen x, Lib.bitLen x - Lib.ctz 64 x - 1, rfl, ?_, ?_, by omega⟩
  · rw [last_is x hx h0]; omega
  · unfold Xo.own; congr 1; omega

set_option maxHeartbeats 2000000 in
set_option maxRecDepth 100000 in
theorem rbits07_any (ao : Option Addr) (cap : Nat) (l : List Xo.Sm) (n : Nat) (w : World) (hn : n = l.length) (hv : Rd w 2 (.slice ao n cap) n (smc l)) (hg : Xo.Good l) :
    Calls Tryd.prog 21 #[.slice ao n cap] w (MadeB w (Xo.bitsL l)) := by
  obtain ⟨i0, hi, hz0, hz1, hz2⟩ := info_parts bi_bool
  have Hz := Lib.hid hz0; have Hs := Lib.hid hz1; have Hb := Lib.hid hz2; have Hi := Lib.hid hi
  clear hz0 hz1 hz2 hi
  obtain ⟨hxs, a, cap', g, off, hv, hga, hcell⟩ := hv
  cases hv
  have HN := Lib.hid hn
  have HG := Lib.hid hg
  have HXS := Lib.hid hxs
  have HC := Lib.hid hcell
  have hl2 : n ≤ 120 := by have := hg.1; omega
  clear hn hg hxs hcell
  go_enter Tryd.func21, Tryd.ntmps21
  go_wp2_with fail
  go_loopw [3, 4, 5, 6, 18] (fun o' st' fr' to' i' wr => ∃ (i m : Nat) (st fr to : Int), i' = .int .i64 i ∧ i ≤ n ∧ Hid (m = (Xo.bitsL (l.take i)).length) ∧ m ≤ 150 * i ∧ Sl wr w.heap.size 1 o' m (bc (Xo.bitsL (l.take i))) ∧ Below w.heap.size w wr ∧ st' = .int .i64 st ∧ fr' = .int .i64 fr ∧ to' = .int .i64 to ∧ Hid (st = (Xo.trL (l.take i)).st ∧ fr = (Xo.trL (l.take i)).a ∧ to = ((Xo.trL (l.take i)).a : Int) + (Xo.trL (l.take i)).z - 1)) (fun _ _ _ _ i' _ => n - (RowKit.intOf i').toNat)
  case atStart => exact ⟨0, 0, 0, 0, -1, rfl, by omega, rfl, by omega, Sl.lit w w.heap.size 1 0 #[] _ (Nat.le_refl _) (by decide) rfl, (Below.refl _ _).alloc (Nat.le_refl _) _, rfl, rfl, rfl, ⟨rfl, rfl, rfl⟩⟩
  case round =>
    obtain ⟨i, m, st, fr, to, rfl, hi, hm, hm2, hs, hb, rfl, rfl, rfl, hst⟩ := hrel
    by_cases hlt : i < n
    · have hll := HN.out
      obtain ⟨s, hs'⟩ : ∃ s, l[i]? = some s := ⟨l[i]'(by omega), List.getElem?_eq_getElem (by omega)⟩
      have hsb := HG.out.2.1 s (List.mem_of_getElem? hs')
      obtain ⟨rfl, hgl⟩ := hga (by omega)
      have hcs := smc_at l i s hs'
      have c0 := (hb.cell (p := ⟨g, off + i * 2, none⟩) hgl).trans ((HC.out (i * 2) (by omega)).trans hcs.1)
      have c1 := (hb.cell (p := ⟨g, off + i * 2 + 1, none⟩) hgl).trans ((HC.out (i * 2 + 1) (by omega)).trans hcs.2)
      have htk : l.take (i + 1) = l.take i ++ [s] := by rw [List.take_add_one, hs']; rfl
      have hgi : Xo.Good (l.take i) := Xo.good_prefix (m := l.drop i) (by rw [List.take_append_drop]; exact HG.out)
      have hok := Xo.trL_ok _ hgi
      have HTK := Lib.hid htk
      have hbz := hb.size
      obtain ⟨s1, s2⟩ := s
      simp only at c0 c1 hsb
      obtain ⟨t, rfl⟩ := Int.eq_ofNat_of_zero_le hsb.1
      obtain ⟨_, ht1, ht2⟩ := hsb
      have hgw : g < wr.heap.size := Nat.lt_of_lt_of_le hgl hb.size
      have HSO := Lib.hid hs.lt
      obtain ⟨oa, oc, rfl⟩ := hs.slice
      rcases Nat.eq_zero_or_pos i with h0 | h0
      · subst h0
        simp only [Nat.zero_mul, Nat.add_zero] at c0 c1
        have hm0 : m = 0 := hm.out
        subst hm0
        have B41 := Lib.hid (fun W => show Calls Tryd.prog 36 #[.int .u64 t, .int .i64 41] W (MadeB W (Bt.bitsN t 41)) from rb_b t 41 W (by omega) (by decide))
        have B64 := Lib.hid (fun W => show Calls Tryd.prog 36 #[.int .u64 s2, .int .i64 64] W (MadeB W (Bt.bitsN s2 64)) from rb_b s2 64 W ht2 (by decide))
        have htu : IntKind.u64.wrap (t : Int) = (t : Int) := by rw [IntKind.wrap_u64]; omega
        have e0 : l.take 0 = [] := rfl
        rw [e0] at hs HTK
        have HS := Lib.hid hs
        clear hs hm hll hcs htk hgi hok hs'
        go_wp2_with fail
        refine (B41.out _).mono ?_
        rintro e w1 ⟨v1, rfl, y1, b1⟩
        rw [Bt.bitsN_length] at y1
        have Y1 := Lib.hid y1
        have O1 := Lib.hid ((HS.out.alloc _).on b1)
        have bb1 : Below w.heap.size w w1 := (hb.alloc hb.size _).trans (b1.mono (by simp; omega))
        have HB1 := Lib.hid b1
        have HB := Lib.hid hb
        have z1 : w.heap.size ≤ w1.heap.size := bb1.size
        have d1 := (b1.cell (p := ⟨wr.heap.size, 1, none⟩) (by simp)).trans (show (wr.alloc (.cells #[.int .i64 t, .int .u64 s2] 25)).cell? ⟨wr.heap.size, 1, none⟩ = some (.int .u64 s2) by simp)
        have q1 : wr.heap.size < w1.heap.size := Nat.lt_of_lt_of_le (by simp) b1.size
        clear y1 b1 hb c0 c1
        go_wp2_with (at_builtin; go_loud (refine wpList_append_sl2 _ rfl _ _ 57 rfl w.heap.size 4 i0 (.bool false) 1 1 Tryd.underlying57 Hi.out Hz.out Hs.out Hb.out rfl (by decide) _ 0 _ rfl O1.out _ _ 41 _ rfl Y1.out (bc_one _) (by unfold maxLen; omega) (by omega) (by omega) ?_; intro v2 w2 x2; have d2 := (World.cell?_of_block (a := ⟨wr.heap.size, 1, none⟩) (x2.grown.block wr.heap.size q1 (fun e => by have := (HSO.out _ e.symm).2; omega))).trans d1; have bb2 := bb1.trans (x2.below (Nat.le_refl _) z1); have X2 := Lib.hid x2; clear x2))
        refine (B64.out _).mono ?_
        rintro e w3 ⟨v3, rfl, y3, b3⟩
        rw [Bt.bitsN_length] at y3
        have Y3 := Lib.hid y3
        have O3 := Lib.hid (X2.out.now.on b3)
        have bb3 : Below w.heap.size w w3 := bb2.trans (b3.mono bb2.size)
        have z3 : w.heap.size ≤ w3.heap.size := bb3.size
        clear y3 b3
        go_wp2_with (at_builtin; go_loud (refine wpList_append_sl2 _ rfl _ _ 57 rfl w.heap.size 4 i0 (.bool false) 1 1 Tryd.underlying57 Hi.out Hz.out Hs.out Hb.out rfl (by decide) _ 41 _ rfl O3.out _ _ 64 _ rfl Y3.out (bc_one _) (by unfold maxLen; omega) (by omega) (by omega) ?_; intro v4 w4 x4; have bb4 := bb3.trans (x4.below (Nat.le_refl _) z3); have X4 := Lib.hid x4; clear x4))
        exact ⟨⟨1, 105, st, fr, to, rfl, hlt, by rw [HTK.out]; rfl, by omega, by rw [HTK.out]; exact X4.out.now, bb4, rfl, rfl, rfl, by rw [HTK.out, List.nil_append, Xo.trL_one]; exact hst.out⟩, by simp [RowKit.intOf]; omega⟩
      · obtain ⟨j, rfl⟩ : ∃ j, i = j + 1 := ⟨i - 1, by omega⟩
        obtain ⟨p, hp⟩ : ∃ p, l[j]? = some p := ⟨l[j]'(by omega), List.getElem?_eq_getElem (by omega)⟩
        have hpb := HG.out.2.1 p (List.mem_of_getElem? hp)
        have hcp := smc_at l j p hp
        have p0 := (hb.cell (p := ⟨g, off + j * 2, none⟩) hgl).trans ((HC.out (j * 2) (by omega)).trans hcp.1)
        have p1 := (hb.cell (p := ⟨g, off + j * 2 + 1, none⟩) hgl).trans ((HC.out (j * 2 + 1) (by omega)).trans hcp.2)
        have PW0 := Lib.hid ((HC.out (j * 2 + 1) (by omega)).trans hcp.2)
        have htp : l.take (j + 1) = l.take j ++ [p] := by rw [List.take_add_one, hp]; rfl
        have hne : l.take (j + 1) ≠ [] := by rw [htp]; simp
        have hTV := Xo.trL_last (l.take j) p
        rw [← htp] at hTV
        have hsn : Xo.bitsL (l.take (j + 1 + 1)) = Xo.bitsL (l.take (j + 1)) ++ Xo.nextBits (Xo.trL (l.take (j + 1))) ((t : Int), s2) := by rw [HTK.out, Xo.bitsL_snoc _ _ hne]
        have hst2 : Xo.trL (l.take (j + 1 + 1)) = Xo.nextTr (Xo.trL (l.take (j + 1))) ((t : Int), s2) := by rw [HTK.out, Xo.trL_snoc _ _ hne]
        obtain ⟨r, hr⟩ : ∃ r, r = Xo.trL (l.take (j + 1)) := ⟨_, rfl⟩
        obtain ⟨L, hL⟩ : ∃ L, L = Xo.bitsL (l.take (j + 1)) := ⟨_, rfl⟩
        rw [← hr] at hTV hsn hst2 hst hok
        rw [← hL] at hsn hs hm
        obtain ⟨pt, pv⟩ := p
        simp only at hpb p0 p1 hTV
        obtain ⟨hT, hV⟩ := hTV
        have hs0 := hok.s0
        have hs1 := hok.s1
        have hw := hok.w
        rw [← hst.out.1] at hs0 hs1
        obtain ⟨pb0, pb1, pb2⟩ := hpb
        obtain ⟨u, hu⟩ : ∃ u, u = Leb.foldN ((t : Int) - pt - st) := ⟨_, rfl⟩
        have hu64 : u < 18446744073709551616 := by rw [hu]; exact Leb.fold_lt _ (by omega) (by omega)
        have FO := Lib.hid (fun W => show Calls Tryd.prog 37 #[.int .i64 ((t : Int) - pt - st)] W (fun e w' => e = .returned (.int .u64 u) ∧ W = w') by rw [hu]; exact rfold07_any _ W (by omega) (by omega))
        obtain ⟨k, hk⟩ : ∃ k, k = Xo.onesOf u := ⟨_, rfl⟩
        have hk4 := Xo.onesOf_le u
        rw [← hk] at hk4
        have HK := Lib.hid hk
        have HU := Lib.hid hu
        have HST2 := Lib.hid hst2
        have HSN := Lib.hid hsn
        have HT := Lib.hid hT
        have HV := Lib.hid hV
        have HM := Lib.hid hm
        have HS := Lib.hid hs
        have HOK := Lib.hid hok
        have HB := Lib.hid hb
        have SZ := Lib.hid (fun (q : Nat) W (hq : q ≤ 4) => rsize_any q W hq)
        have FT := Lib.hid (fun (q : Nat) W => rfits_any u (Xo.wd q) W hu64 (Xo.wd_le q))
        have FN := Lib.hid (fun (q : Nat) (hq : q < k) => fits_no u q (by rw [← HK.out]; exact hq))
        have FY := Lib.hid (show decide (u / 2 ^ Xo.wd k = 0) = true by rw [HK.out]; exact fits_yes u hu64)
        have hjw : IntKind.i64.wrap (j : Int) = (j : Int) := by rw [IntKind.wrap_i64]; omega
        have hkz : (decide ((0 : Int) < (j : Int) + 1)) = true := by simp <;> omega
        have hjn : (j : Int) < n := by omega
        have hjn2 : (j : Int) + 1 < n := by omega
        clear hm hs hb hcs hcp htk htp hgi hok hs' hp hne hsn hst2 hr hL hT hV hu hk hll h0
        go_wp2_with fail
        go_quiet (fail)
        go_wp2_with fail
        refine (FO.out _).mono ?_
        rintro e _ ⟨rfl, rfl⟩
        go_wp2_with fail
        have g0 : ((wr.alloc (.cells #[.int .i64 t, .int .u64 s2] 25)).drewN nq).cell? ⟨wr.heap.size, 1, none⟩ = some (.int .u64 s2) := by simp
        have g1 : Below (wr.alloc (.cells #[.int .i64 t, .int .u64 s2] 25)).heap.size (wr.alloc (.cells #[.int .i64 t, .int .u64 s2] 25)) ((wr.alloc (.cells #[.int .i64 t, .int .u64 s2] 25)).drewN nq) := below_draw (Below.refl _ _) _
        have g2 : ((wr.alloc (.cells #[.int .i64 t, .int .u64 s2] 25)).drewN nq).heap.size = wr.heap.size + 1 := by simp
        generalize (wr.alloc (.cells #[.int .i64 t, .int .u64 s2] 25)).drewN nq = W at *
        have bW : Below w.heap.size w W := (HB.out.alloc HB.out.size _).trans (g1.mono (by simp; omega))
        have OW := Lib.hid ((HS.out.alloc _).on g1)
        have zW : w.heap.size ≤ W.heap.size := bW.size
        have q1 : wr.heap.size < W.heap.size := by omega
        have G2 := Lib.hid g2
        clear g1 g2
        generalize wr.heap.size = A at *
        go_loopw [11] (fun k' w2 => ∃ (q : Nat), k' = .int .i64 q ∧ q ≤ k ∧ w2 = W) (fun k' _ => k - (RowKit.intOf k').toNat)
        case atStart => exact ⟨0, rfl, by omega, rfl⟩
        case round =>
          obtain ⟨q, rfl, hq, rfl⟩ := hrel
          by_cases hqk : q < k
          · have e1 := FN.out q hqk
            have q4 : (decide ((q : Int) < 4)) = true := by simp; omega
            go_wp2_with (first | (go_at_call 31; refine (SZ.out q _ (by omega)).mono ?_; rintro e _ ⟨rfl, rfl⟩) | (go_at_call 38; refine (FT.out q _).mono ?_; rintro e _ ⟨rfl, rfl⟩; rw [e1]))
            exact ⟨⟨q + 1, by go_num, by omega, by trivial⟩, by simp [RowKit.intOf]; omega⟩
          · have hqe : q = k := by omega
            subst hqe
            obtain ⟨y, hy⟩ : ∃ y, y = (Bt.unary q 4).length := ⟨_, rfl⟩
            have hy5 : y ≤ 5 := by have := Xo.unary_len q hk4; omega
            obtain ⟨z, hz⟩ : ∃ z, z = Xo.wd q := ⟨_, rfl⟩
            have hz64 : z ≤ 64 := by rw [hz]; exact Xo.wd_le q
            have UN := Lib.hid (fun W => show Calls Tryd.prog 39 #[.int .i64 q, .int .i64 4] W (MadeB W (Bt.unary q 4)) from runary03_any q 4 W (by decide) (by omega) (by omega) (by decide))
            have SQ := Lib.hid (fun W => show Calls Tryd.prog 31 #[.int .i64 q] W (fun e w' => e = .returned (.int .i64 z) ∧ W = w') by rw [hz]; exact rsize_any q W hk4)
            have BU := Lib.hid (fun W => show Calls Tryd.prog 36 #[.int .u64 u, .int .i64 z] W (MadeB W (Bt.bitsN u z)) from rb_b u z W hu64 hz64)
            have HY := Lib.hid hy
            have HZ := Lib.hid hz
            clear hy hz
            have fin : q = 4 ∨ ((decide ((q : Int) < 4)) = true ∧ q < 4) := by simp; omega
            rcases fin with h4 | ⟨q4, h4⟩
            case' inl =>
              have q4 : (decide ((q : Int) < 4)) = false := by simp; omega
              clear h4
              go_wp2_with fail
            case' inr =>
              have e1 := FY.out
              go_wp2_with (first | (go_at_call 31; refine (SQ.out _).mono ?_; rintro e _ ⟨rfl, rfl⟩) | (go_at_call 38; refine (rfits_any u z _ hu64 hz64).mono ?_; rintro e _ ⟨rfl, rfl⟩; rw [HZ.out, e1]))
            all_goals
              refine (UN.out _).mono ?_
              rintro e w3 ⟨v3, rfl, y3, b3⟩
              rw [← HY.out] at y3
              have Y3 := Lib.hid y3
              have O3 := Lib.hid (OW.out.on b3)
              have d3 := (b3.cell (p := ⟨A, 1, none⟩) q1).trans g0
              have bb3 : Below w.heap.size w w3 := bW.trans (b3.mono zW)
              have z3 : w.heap.size ≤ w3.heap.size := bb3.size
              have q3 : A < w3.heap.size := Nat.lt_of_lt_of_le q1 b3.size
              clear y3 b3
              go_wp2_with (at_builtin; go_loud (refine wpList_append_sl2 _ rfl _ _ 57 rfl w.heap.size 4 i0 (.bool false) 1 1 Tryd.underlying57 Hi.out Hz.out Hs.out Hb.out rfl (by decide) _ m _ rfl O3.out _ _ y _ rfl Y3.out (bc_one _) (by unfold maxLen; omega) (by omega) (by omega) ?_; intro v4 w4 x4; have d4 := (World.cell?_of_block (a := ⟨A, 1, none⟩) (x4.grown.block A q3 (fun e => by have := (HSO.out _ e.symm).2; omega))).trans d3; have bb4 := bb3.trans (x4.below (Nat.le_refl _) z3); have z4 : w.heap.size ≤ w4.heap.size := bb4.size; have q5 : A < w4.heap.size := Nat.lt_of_lt_of_le q3 x4.grown.size; have X4 := Lib.hid x4; clear x4))
              go_wp2_with fail
              refine (SQ.out _).mono ?_
              rintro e _ ⟨rfl, rfl⟩
              go_wp2_with fail
              refine (BU.out _).mono ?_
              rintro e w5 ⟨v5, rfl, y5, b5⟩
              rw [Bt.bitsN_length] at y5
              have Y5 := Lib.hid y5
              have O5 := Lib.hid (X4.out.now.on b5)
              have d5 := (b5.cell (p := ⟨A, 1, none⟩) q5).trans d4
              have bb5 : Below w.heap.size w w5 := bb4.trans (b5.mono z4)
              have z5 : w.heap.size ≤ w5.heap.size := bb5.size
              have q6 : A < w5.heap.size := Nat.lt_of_lt_of_le q5 b5.size
              have own4 : ¬ v4.ownBlock = some A := fun e => by
                rcases X4.out.alias with ⟨oa', oc', h1, h2, _⟩ | h
                · cases h1
                  rw [h2] at e
                  have := (HSO.out A (by cases oa <;> exact e)).2
                  omega
                · have := h A e; omega
              clear y5 b5
              go_wp2_with (at_builtin; go_loud (refine wpList_append_sl2 _ rfl _ _ 57 rfl w.heap.size 4 i0 (.bool false) 1 1 Tryd.underlying57 Hi.out Hz.out Hs.out Hb.out rfl (by decide) _ (m + y) _ rfl O5.out _ _ z _ rfl Y5.out (bc_one _) (by unfold maxLen; omega) (by omega) (by omega) ?_; intro v6 w6 x6; have d6 := (World.cell?_of_block (a := ⟨A, 1, none⟩) (x6.grown.block A q6 (fun e => own4 e.symm))).trans d5; have bb6 := bb5.trans (x6.below (Nat.le_refl _) z5); have z6 : w.heap.size ≤ w6.heap.size := bb6.size; have X6 := Lib.hid x6; clear x6))
              have p6 := (bb6.cell (p := ⟨g, off + j * 2 + 1, none⟩) hgl).trans PW0.out
              go_wp2_with fail
              go_quiet (fail)
              have S6 := X6.out.now.on (below_draw (Below.refl w6.heap.size w6) nq)
              have B6 := below_draw bb6 nq
              have Z6 : w.heap.size ≤ (w6.drewN nq).heap.size := B6.size
              obtain ⟨x, hx⟩ : ∃ x, x = s2 ^^^ pv := ⟨_, rfl⟩
              have hx64 : x < 18446744073709551616 := by rw [hx]; exact Xo.xor_lt ht2 pb2
              rw [show bits .xor .u64 (s2 : Int) (pv : Int) = (x : Int) by rw [hx]; exact bits_xor_u64_nat s2 pv ht2 pb2]
              obtain ⟨ha', hb', hc'⟩ := hst.out
              obtain ⟨F, hF⟩ : ∃ F, F = r.a := ⟨_, rfl⟩
              obtain ⟨Z, hZ⟩ : ∃ Z, Z = r.z := ⟨_, rfl⟩
              obtain ⟨D, hD⟩ : ∃ D, D = L ++ Bt.unary q 4 ++ Bt.bitsN u z := ⟨_, rfl⟩
              obtain ⟨M, hM⟩ : ∃ M, M = m + y + z := ⟨_, rfl⟩
              have hMb : M ≤ 150 * (j + 1) + 69 := by omega
              have HML := Lib.hid (show M = D.length by rw [hM, hD, List.length_append, List.length_append, Bt.bitsN_length, HM.out.out, HY.out])
              have HSN2 := Lib.hid (show Xo.bitsL (l.take (j + 1 + 1)) = D ++ Xo.winBits (F, Z) x by
                rw [HSN.out, hD, hx, hF, hZ]
                unfold Xo.nextBits Xo.chBits
                rw [HT.out, HV.out, ← ha', ← HU.out, ← HK.out, ← HZ.out]
                simp only [List.append_assoc])
              have HTR := Lib.hid (show Xo.trL (l.take (j + 1 + 1)) = ⟨t, s2, t - pt, (Xo.winAfter (F, Z) x).1, (Xo.winAfter (F, Z) x).2⟩ by
                rw [HST2.out, hx, hF, hZ]
                unfold Xo.nextTr
                rw [HT.out, HV.out])
              rw [← bc_append, ← bc_append, ← hD, ← hM] at S6
              rw [← hF] at hb' hc' hw
              rw [← hZ] at hc' hw
              subst hb'
              have HS6 := Lib.hid S6
              clear S6 hx hF hZ hD hM ha' SZ FT FN FY UN SQ BU X4 X6 Y3 Y5 O3 O5 d3 d4 d5 d6 g0 c0 c1 p0 p1 p6 FO HM HY HU HK HZ HSN HST2 HT HV HS HOK HB PW0 hst HTK bb3 bb4 bb5 bb6 z3 z4 z5 z6 OW own4
              generalize w6.drewN nq = W6 at *
              by_cases hx0 : x = 0
              · have hxb : ((x : Int) != 0) = false := by subst hx0; rfl
                have hxe : ((x : Int) == 0) = true := by subst hx0; rfl
                have HE1 := Lib.hid (show Xo.winBits (F, Z) x = [false] by unfold Xo.winBits; rw [if_pos hx0])
                have HE2 := Lib.hid (show Xo.winAfter (F, Z) x = (F, Z) by unfold Xo.winAfter; rw [if_pos hx0])
                have HTO := Lib.hid hc'
                clear hc' hx0
                go_wp2_with (at_builtin; go_loud (refine wpList_append_sl2 _ rfl _ _ 57 rfl w.heap.size 4 i0 (.bool false) 1 1 Tryd.underlying57 Hi.out Hz.out Hs.out Hb.out rfl (by decide) _ M _ rfl (HS6.out.alloc _) _ _ 1 _ rfl (Sl.lit W6 w.heap.size 1 1 #[_] _ Z6 (by decide) rfl) (bc_one [false]) (by unfold maxLen; omega) (by omega) (by simp; omega) ?_; intro v7 w7 x7; have bb7 := (B6.alloc Z6 _).trans (x7.below (Nat.le_refl _) (by simp; omega)); have X7 := Lib.hid x7; clear x7))
                exact ⟨⟨j + 1 + 1, M + 1, t - pt, F, to, by go_num, hlt, by rw [HSN2.out, HE1.out, List.length_append, HML.out]; rfl, by omega, by rw [HSN2.out, HE1.out, bc_append]; exact X7.out.now, bb7, rfl, rfl, rfl, by rw [HTR.out, HE2.out]; exact ⟨rfl, rfl, HTO.out⟩⟩, by simp [RowKit.intOf]; omega⟩
              · have hxb : ((x : Int) != 0) = true := by simp; omega
                have hxe : ((x : Int) == 0) = false := by simp; omega
                obtain ⟨a, k, ha, hb, hown, hak⟩ := own_in x hx64 hx0
                obtain ⟨b, hbk⟩ : ∃ b, b = a + k := ⟨_, rfl⟩
                rw [← hbk] at hb
                have ZN := Lib.hid (fun W => show Calls Tryd.prog 40 #[.int .u64 x] W (fun e w' => e = .returned (.int .i64 a) ∧ Below W.heap.size W w') by rw [ha]; exact rzeros_any x W hx64)
                have LN := Lib.hid (fun W => show Calls Tryd.prog 41 #[.int .u64 x] W (fun e w' => e = .returned (.int .i64 b) ∧ Below W.heap.size W w') by rw [← hb]; exact rlast_any x W hx64)
                have BA := Lib.hid (fun W => show Calls Tryd.prog 36 #[.int .u64 a, .int .i64 6] W (MadeB W (Bt.bitsN a 6)) from rb_b a 6 W (by omega) (by decide))
                have BK := Lib.hid (fun W => show Calls Tryd.prog 36 #[.int .u64 k, .int .i64 6] W (MadeB W (Bt.bitsN k 6)) from rb_b k 6 W (by omega) (by decide))
                have BX := Lib.hid (fun W => show Calls Tryd.prog 36 #[.int .u64 x, .int .i64 64] W (MadeB W (Bt.bitsN x 64)) from rb_b x 64 W hx64 (by decide))
                have hau : IntKind.u64.wrap (a : Int) = (a : Int) := by rw [IntKind.wrap_u64]; omega
                have hku : IntKind.u64.wrap ((b : Int) - (a : Int)) = (k : Int) := by rw [IntKind.wrap_u64]; omega
                have hb63 : b ≤ 63 := by omega
                have hab : a ≤ b := by omega
                have HBK := Lib.hid hbk
                have HOWN := Lib.hid hown
                have HX0 := Lib.hid hx0
                have HTO := Lib.hid hc'
                have hcv : (Xo.covers (F, Z) (Xo.own x) = true ∧ 0 ≤ to ∧ F ≤ a ∧ b ≤ to) ∨ (Xo.covers (F, Z) (Xo.own x) = false ∧ (to < 0 ∨ (0 ≤ to ∧ a < F) ∨ (0 ≤ to ∧ F ≤ a ∧ (b : Int) > to))) := by
                  rw [hown]
                  unfold Xo.covers
                  simp only
                  by_cases h1 : F ≤ a
                  · by_cases h2 : 64 - F - Z ≤ 64 - a - (k + 1)
                    · left; simp [h1, h2]; omega
                    · right; simp [h1, h2]; omega
                  · right; simp [h1]; omega
                have HCV := Lib.hid hcv
                clear ha hb hbk hown hcv hx0 hc'
                go_wp2_with (at_builtin; go_loud (refine wpList_append_sl2 _ rfl _ _ 57 rfl w.heap.size 4 i0 (.bool false) 1 1 Tryd.underlying57 Hi.out Hz.out Hs.out Hb.out rfl (by decide) _ (M) _ rfl (HS6.out.alloc _) _ _ 1 _ rfl (Sl.lit W6 w.heap.size 1 1 #[_] _ Z6 (by decide) rfl) (bc_one [true]) (by unfold maxLen; omega) (by omega) (by simp; omega) ?_; intro v7 w7 x7; have bb7 := (B6.alloc Z6 _).trans (x7.below (Nat.le_refl _) (by simp; omega)); have z7 : w.heap.size ≤ w7.heap.size := bb7.size; have X7 := Lib.hid x7; clear x7))
                refine (ZN.out _).mono ?_
                rintro e w8 ⟨rfl, b8⟩
                have HS8 := Lib.hid (X7.out.now.on b8)
                have bb8 : Below w.heap.size w w8 := bb7.trans (b8.mono z7)
                have z8 : w.heap.size ≤ w8.heap.size := bb8.size
                clear b8
                go_wp2_with fail
                refine (LN.out _).mono ?_
                rintro e w9 ⟨rfl, b9⟩
                have HS9 := Lib.hid (HS8.out.on b9)
                have bb9 : Below w.heap.size w w9 := bb8.trans (b9.mono z8)
                have z9 : w.heap.size ≤ w9.heap.size := bb9.size
                clear b9
                rcases HCV.out with ⟨hcov, h1, h2, h3⟩ | ⟨hcov, h⟩
                · have d1 : decide (to < 0) = false := by simp; omega
                  have d2 : decide (a < F) = false := by simp; omega
                  have d3 : decide (to < (b : Int)) = false := by simp; omega
                  have HE1 := Lib.hid (show Xo.winBits (F, Z) x = [true, false] ++ Bt.bitsN (x / 2 ^ (64 - F - Z)) Z by unfold Xo.winBits; rw [if_neg HX0.out, if_pos hcov])
                  have HE2 := Lib.hid (show Xo.winAfter (F, Z) x = (F, Z) by unfold Xo.winAfter; rw [if_neg HX0.out, if_pos hcov])
                  clear hcov
                  go_wp2_with (at_builtin; go_loud (refine wpList_append_sl2 _ rfl _ _ 57 rfl w.heap.size 4 i0 (.bool false) 1 1 Tryd.underlying57 Hi.out Hz.out Hs.out Hb.out rfl (by decide) _ (M + 1) _ rfl (HS9.out.alloc _) _ _ 1 _ rfl (Sl.lit w9 w.heap.size 1 1 #[_] _ z9 (by decide) rfl) (bc_one [false]) (by unfold maxLen; omega) (by omega) (by simp; omega) ?_; intro v10 w10 x10; have bb10 := (bb9.alloc z9 _).trans (x10.below (Nat.le_refl _) (by simp; omega)); have z10 : w.heap.size ≤ w10.heap.size := bb10.size; have X10 := Lib.hid x10; clear x10))
                  go_wp2_with fail
                  refine (BX.out _).mono ?_
                  rintro e w11 ⟨v11, rfl, y11, b11⟩
                  rw [Bt.bitsN_length] at y11
                  have HS11 := Lib.hid (X10.out.now.on b11)
                  have bb11 : Below w.heap.size w w11 := bb10.trans (b11.mono z10)
                  have z11 : w.heap.size ≤ w11.heap.size := bb11.size
                  obtain ⟨E, hE⟩ : ∃ E : Nat, to + 1 = (E : Int) := ⟨F + Z, by have := HTO.out; omega⟩
                  have hE1 : F + Z = E := by have := HTO.out; omega
                  have hE2 : F ≤ E := by omega
                  have hE3 : E ≤ 64 := by omega
                  obtain ⟨g2, off2, cap2, rfl, hg2, hcap2, hcm2⟩ := y11.somewhere (by decide)
                  have HP := Lib.hid (show Sl w11 w10.heap.size 1 (.slice (some ⟨g2, off2 + F, none⟩) (E - F) (cap2 - F)) (E - F) (bc (Bt.bitsN (x / 2 ^ (64 - F - (Z))) (Z))) by
                    have := y11.part F (E - F) (cap2 - F) (by omega) (by omega)
                    rw [bc_part, show E - F = Z by omega, bitsN_part _ _ _ (by omega)] at this
                    rw [show E - F = Z by omega]
                    exact this)
                  have HE := Lib.hid hE1
                  clear hE1 y11 b11
                  go_wp2_with (at_builtin; go_loud (refine wpList_append_sl2 _ rfl _ _ 57 rfl w.heap.size 4 i0 (.bool false) 1 1 Tryd.underlying57 Hi.out Hz.out Hs.out Hb.out rfl (by decide) _ (M + 1 + 1) _ rfl HS11.out _ _ (E - F) _ rfl HP.out (bc_one _) (by unfold maxLen; omega) (by omega) z11 ?_; intro v12 w12 x12; have bb12 := bb11.trans (x12.below (Nat.le_refl _) z11); have z12 : w.heap.size ≤ w12.heap.size := bb12.size; have X12 := Lib.hid x12; clear x12))
                  exact ⟨⟨j + 1 + 1, M + 1 + 1 + (E - F), t - pt, F, to, by go_num, hlt, by show _ = _; rw [HSN2.out, HE1.out, ← HE.out, List.length_append, HML.out, List.length_append, Bt.bitsN_length]; simp; omega, by omega, by rw [HSN2.out, HE1.out, bc_append, bc_append]; have := X12.out.now; rw [List.append_assoc (bc D)] at this; rw [← List.append_assoc]; exact this, bb12, rfl, rfl, rfl, by rw [HTR.out, HE2.out]; exact ⟨rfl, rfl, HTO.out⟩⟩, by simp [RowKit.intOf]; omega⟩
                · have hd : decide (to < 0) = true ∨ (decide (to < 0) = false ∧ decide (a < F) = true) ∨ (decide (to < 0) = false ∧ decide (a < F) = false ∧ decide (to < (b : Int)) = true) := by simp; omega
                  have HE1 := Lib.hid (show Xo.winBits (F, Z) x = [true, true] ++ Bt.bitsN a 6 ++ Bt.bitsN k 6 ++ Bt.bitsN (x / 2 ^ (64 - a - (k + 1))) (k + 1) by unfold Xo.winBits; rw [if_neg HX0.out, hcov, HOWN.out]; rfl)
                  have HE2 := Lib.hid (show Xo.winAfter (F, Z) x = (a, k + 1) by unfold Xo.winAfter; rw [if_neg HX0.out, hcov, HOWN.out]; rfl)
                  clear hcov h
                  rcases hd with d1 | ⟨d1, d2⟩ | ⟨d1, d2, d3⟩ <;>
                  · go_wp2_with (at_builtin; go_loud (refine wpList_append_sl2 _ rfl _ _ 57 rfl w.heap.size 4 i0 (.bool false) 1 1 Tryd.underlying57 Hi.out Hz.out Hs.out Hb.out rfl (by decide) _ (M + 1) _ rfl (HS9.out.alloc _) _ _ 1 _ rfl (Sl.lit w9 w.heap.size 1 1 #[_] _ z9 (by decide) rfl) (bc_one [true]) (by unfold maxLen; omega) (by omega) (by simp; omega) ?_; intro v10 w10 x10; have bb10 := (bb9.alloc z9 _).trans (x10.below (Nat.le_refl _) (by simp; omega)); have z10 : w.heap.size ≤ w10.heap.size := bb10.size; have X10 := Lib.hid x10; clear x10))
                    go_wp2_with fail
                    refine (BA.out _).mono ?_
                    rintro e w11 ⟨v11, rfl, y11, b11⟩
                    rw [Bt.bitsN_length] at y11
                    have HS11 := Lib.hid (X10.out.now.on b11)
                    have bb11 : Below w.heap.size w w11 := bb10.trans (b11.mono z10)
                    have z11 : w.heap.size ≤ w11.heap.size := bb11.size
                    have Y11 := Lib.hid y11
                    clear y11 b11
                    go_wp2_with (at_builtin; go_loud (refine wpList_append_sl2 _ rfl _ _ 57 rfl w.heap.size 4 i0 (.bool false) 1 1 Tryd.underlying57 Hi.out Hz.out Hs.out Hb.out rfl (by decide) _ (M + 1 + 1) _ rfl HS11.out _ _ (6) _ rfl Y11.out (bc_one _) (by unfold maxLen; omega) (by omega) z11 ?_; intro v12 w12 x12; have bb12 := bb11.trans (x12.below (Nat.le_refl _) z11); have z12 : w.heap.size ≤ w12.heap.size := bb12.size; have X12 := Lib.hid x12; clear x12))
                    go_wp2_with fail
                    refine (BK.out _).mono ?_
                    rintro e w13 ⟨v13, rfl, y13, b13⟩
                    rw [Bt.bitsN_length] at y13
                    have HS13 := Lib.hid (X12.out.now.on b13)
                    have bb13 : Below w.heap.size w w13 := bb12.trans (b13.mono z12)
                    have z13 : w.heap.size ≤ w13.heap.size := bb13.size
                    have Y13 := Lib.hid y13
                    clear y13 b13
                    go_wp2_with (at_builtin; go_loud (refine wpList_append_sl2 _ rfl _ _ 57 rfl w.heap.size 4 i0 (.bool false) 1 1 Tryd.underlying57 Hi.out Hz.out Hs.out Hb.out rfl (by decide) _ (M + 1 + 1 + 6) _ rfl HS13.out _ _ (6) _ rfl Y13.out (bc_one _) (by unfold maxLen; omega) (by omega) z13 ?_; intro v14 w14 x14; have bb14 := bb13.trans (x14.below (Nat.le_refl _) z13); have z14 : w.heap.size ≤ w14.heap.size := bb14.size; have X14 := Lib.hid x14; clear x14))
                    go_wp2_with fail
                    refine (BX.out _).mono ?_
                    rintro e w15 ⟨v15, rfl, y15, b15⟩
                    rw [Bt.bitsN_length] at y15
                    have HS15 := Lib.hid (X14.out.now.on b15)
                    have bb15 : Below w.heap.size w w15 := bb14.trans (b15.mono z14)
                    have z15 : w.heap.size ≤ w15.heap.size := bb15.size
                    obtain ⟨E, hE⟩ : ∃ E : Nat, (b : Int) + 1 = (E : Int) := ⟨b + 1, by omega⟩
                    have hE1 : a + (k + 1) = E := by have := HBK.out; omega
                    have hE2 : a ≤ E := by omega
                    have hE3 : E ≤ 64 := by omega
                    obtain ⟨g2, off2, cap2, rfl, hg2, hcap2, hcm2⟩ := y15.somewhere (by decide)
                    have HP := Lib.hid (show Sl w15 w14.heap.size 1 (.slice (some ⟨g2, off2 + a, none⟩) (E - a) (cap2 - a)) (E - a) (bc (Bt.bitsN (x / 2 ^ (64 - a - (k + 1))) (k + 1))) by
                      have := y15.part a (E - a) (cap2 - a) (by omega) (by omega)
                      rw [bc_part, show E - a = k + 1 by omega, bitsN_part _ _ _ (by omega)] at this
                      rw [show E - a = k + 1 by omega]
                      exact this)
                    have HE := Lib.hid hE1
                    clear hE1 y15 b15
                    go_wp2_with (at_builtin; go_loud (refine wpList_append_sl2 _ rfl _ _ 57 rfl w.heap.size 4 i0 (.bool false) 1 1 Tryd.underlying57 Hi.out Hz.out Hs.out Hb.out rfl (by decide) _ (M + 1 + 1 + 6 + 6) _ rfl HS15.out _ _ (E - a) _ rfl HP.out (bc_one _) (by unfold maxLen; omega) (by omega) z15 ?_; intro v16 w16 x16; have bb16 := bb15.trans (x16.below (Nat.le_refl _) z15); have z16 : w.heap.size ≤ w16.heap.size := bb16.size; have X16 := Lib.hid x16; clear x16))
                    exact ⟨⟨j + 1 + 1, M + 1 + 1 + 6 + 6 + (E - a), t - pt, a, b, by go_num, hlt, by show _ = _; rw [HSN2.out, HE1.out, ← HE.out, List.length_append, HML.out]; simp only [List.length_append, Bt.bitsN_length]; simp; omega, by omega, by rw [HSN2.out, HE1.out]; have := X16.out.now; simp only [bc_append]; simpa [bc] using this, bb16, rfl, rfl, rfl, by rw [HTR.out, HE2.out]; exact ⟨rfl, rfl, by have := HBK.out; simp; omega⟩⟩, by simp [RowKit.intOf]; omega⟩
    · obtain rfl : i = n := by omega
      have hll : l.take i = l := by rw [HN.out, List.take_length]
      rw [hll] at hs hm
      have hm3 := hm.out
      subst hm3
      have HS := Lib.hid hs
      clear hs hm hll hst
      go_wp2
      go_ret
      exact ⟨_, rfl, HS.out, hb⟩
end Go.Proofs.YtieaiecoiononaaDoor
