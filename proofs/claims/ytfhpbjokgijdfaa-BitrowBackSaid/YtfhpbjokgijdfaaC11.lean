/- The statement BitrowBack, walked. -/
import Derived.Test.YtfhpbjokgijdfaaC10
import Derived.Deep.RegionHeld3
namespace Go.Proofs.Ytfhpbjokgijdfaa
open Go.RowKit Go.Lib

/-- A part of a row, read where it lies. -/
theorem seg_bit (X b Z : List Bool) (j : Nat) (h : j < b.length) : Bt.bitAt (Bt.pack (X ++ b ++ Z)) (X.length + j) = b[j] := by
  rw [Bt.bitAt_pack, List.getD_eq_getElem?_getD, List.append_assoc, List.getElem?_append_right (by omega), Nat.add_sub_cancel_left, List.getElem?_append_left h, List.getElem?_eq_getElem h]
  rfl
theorem seg_ahead (X b Z : List Bool) : ahead (Bt.pack (X ++ b ++ Z)) X.length b.length = b := by
  apply List.ext_getElem (by rw [ahead_length])
  intro j h1 h2
  simp only [ahead, List.getElem_map, List.getElem_range]
  exact seg_bit X b Z j h2
theorem wrap_u64' (x : Int) : IntKind.u64.wrap x = x % 18446744073709551616 := by simp [IntKind.wrap, IntKind.bits, IntKind.signed]
theorem mask_test (v k : Nat) (hv : v < 18446744073709551616) (hk : k ≤ 64) :
    ((v : Int) % 2 ^ k != bits BinOp.and IntKind.u64 (v : Int) (IntKind.u64.wrap (IntKind.u64.wrap (2 ^ k) - 1))) = false := by
  have hp : (2 : Int) ^ k = ((2 ^ k : Nat) : Int) := by simp
  have hm : IntKind.u64.wrap (IntKind.u64.wrap (2 ^ k) - 1) = ((2 ^ k - 1 : Nat) : Int) := by
    rw [wrap_u64', wrap_u64', hp]
    have h1 := Nat.two_pow_pos k
    rcases Nat.lt_or_ge k 64 with h | h
    · have h2 : 2 ^ k ≤ 2 ^ 63 := Nat.pow_le_pow_right (by decide) (by omega)
      generalize 2 ^ k = q at *
      omega
    · obtain rfl : k = 64 := by omega
      decide
  rw [hm, bits_and_u64_nat v _ hv (by
    have h2 : 2 ^ k ≤ 2 ^ 64 := Nat.pow_le_pow_right (by decide) hk
    have h1 := Nat.two_pow_pos k
    generalize 2 ^ k = q at *
    omega), Nat.and_two_pow_sub_one_eq_mod, hp]
  simp
theorem allBits_split (ts : List Th) (i : Nat) (t : Th) (h : ts[i]? = some t) : ∃ Z, allBits ts = allBits (ts.take i) ++ t.sm.bits ++ Z := by
  refine ⟨allBits (ts.drop (i + 1)), ?_⟩
  rw [← allBits_snoc ts i t h]
  unfold allBits
  rw [← List.flatMap_append, List.take_append_drop]

set_option maxHeartbeats 4000000 in
set_option maxRecDepth 100000 in
theorem bback_any (ao : Option Addr) (len cap : Nat) (ts : List Th) (w : World) (hlen : len ≤ maxLen) (h : ThsAt w ao len ts) :
    Calls Try.prog 5 #[.slice ao len cap] w fun e w' => e = .returned (.bool true) ∧ Below w.heap.size w w' := by
  have hT := bs_toList
  have H := Lib.hid h
  obtain ⟨n, hn⟩ : ∃ n, n = ts.length := ⟨_, rfl⟩
  have hl0 := h.1
  unfold maxLen at hlen
  have hl1 : n ≤ len := by omega
  have hl2 : n ≤ 20 := by omega
  have hl3 : len ≤ n ∨ 20 ≤ n := by omega
  have HN := Lib.hid hn
  clear hl0 hn h
  have r0 := row_new w 25
  have hbl : Below w.heap.size w (w.alloc (.cells #[.slice none 0 0, .int .i64 0] 25)) := (Below.refl _ _).alloc (Nat.le_refl _) _
  go_enter Try.func5, Try.ntmps5
  go_wp2_with fail
  refine (bawake_any _).mono ?_
  rintro e w1 ⟨rfl, b1⟩
  have r1 := r0.below b1
  have hb1 := below_step hbl b1
  clear r0 hbl b1
  go_wp2_with fail
  go_loopw [4] (fun i' wr => ∃ (i : Nat) (vr : Value), i' = .int .i64 i ∧ i ≤ n ∧ RowV (w.heap.size + 1) w.heap.size vr (allBits (ts.take i)) wr ∧ Below w.heap.size w wr) (fun i' _ => n - (RowKit.intOf i').toNat)
  case atStart => exact ⟨0, _, rfl, by omega, r1, hb1⟩
  case round =>
    obtain ⟨i, vr, rfl, hi, hr, hbel⟩ := hrel
    obtain ⟨A, hA⟩ : ∃ A, A = allBits (ts.take i) := ⟨_, rfl⟩
    have hAl : A.length ≤ 2000 := by
      rw [hA]
      have := allBits_len (ts.take i)
      have h2 : (ts.take i).length ≤ 20 := by rw [List.length_take]; have := HN.out; omega
      omega
    rw [← hA] at hr
    have HA := Lib.hid hA
    clear hA
    by_cases hlt : i < n
    · have g1 : i < len := by omega
      have g2 : i < 20 := by omega
      obtain ⟨b, off, t, hao, hti, hf, c0, c1, c2, c3, c4⟩ := ths_cells H.out hbel i (by have := HN.out; omega)
      subst hao
      have hstep := allBits_snoc ts i t hti
      rw [← HA.out] at hstep
      have hfs := hf.sm
      have hm30 : t.sm.m ≤ 30 := by show min t.m 30 ≤ 30; omega
      have hsm := fun W => small_any t hf W
      have HSM := Lib.hid hsm
      have HST := Lib.hid hstep
      obtain ⟨tk, tn, tm, tv, tb⟩ := t
      simp only at c0 c1 c2 c3 c4
      obtain ⟨y, hy⟩ : ∃ y, y = (Th.mk tk tn tm tv tb).sm := ⟨_, rfl⟩
      rw [← hy] at HSM HST hfs hm30
      have HY := Lib.hid hy
      clear hy hsm hstep hti hf
      go_wp2_with fail
      refine (HSM.out _).mono ?_
      rintro e w2 ⟨rfl, b2⟩
      have hr2 := hr.below b2
      have hbel2 := below_step hbel b2
      clear c0 c1 c2 c3 c4
      go_wp2_with fail
      refine (put_any _ _ vr A y hfs hm30 _ hr2 (by omega)).mono ?_
      rintro e w3 ⟨x, rfl, _, vr3, hr3, hc3⟩
      have hbel3 := below_keep hbel2 (hc3.keep.mono (by omega)) (Nat.le_refl _)
      rw [← HST.out] at hr3
      go_wp2
      exact ⟨⟨i + 1, vr3, by go_num, by omega, hr3, hbel3⟩, by simp [RowKit.intOf]; omega⟩
    · obtain rfl : i = n := by omega
      rw [List.take_of_length_le (by rw [HN.out]; exact Nat.le_refl _)] at HA
      have hd : (i < len ∧ decide ((i : Int) < 20) = false ∧ 20 ≤ i) ∨ (decide ((i : Int) < (len : Int)) = false ∧ len ≤ i) := by
        by_cases g : i < len
        · left; exact ⟨g, by simp; omega, by omega⟩
        · right; exact ⟨by simp; omega, by omega⟩
      obtain ⟨L, hL⟩ : ∃ L, L = A.length := ⟨_, rfl⟩
      have HL := Lib.hid hL
      rw [← hL] at hAl
      clear hL hl3
      rcases hd with ⟨g1, g2, g3⟩ | ⟨g1, g2⟩
      all_goals
        go_wp2_with fail
        refine (rtext_any _ _ _ _ _ hr).mono ?_
        rintro e w2 ⟨rfl, rfl⟩
        go_wp2_with fail
        refine (rlen_any _ _ _ _ _ hr).mono ?_
        rw [← HL.out]
        rintro e w2 ⟨rfl, rfl⟩
        obtain ⟨P, hP⟩ : ∃ P, P = Bt.pack A := ⟨_, rfl⟩
        have hPl := Bt.pack_length A
        rw [← hP] at hPl ⊢
        rw [← HL.out] at hPl
        have HP := Lib.hid hP
        clear hP
        go_wp2_with fail
        refine (over_any P _ _ (by omega) (by omega) (by omega)).mono ?_
        rintro e w2 ⟨rfl, e2, b2⟩
        obtain ⟨E, hE⟩ : ∃ E, E = wr.heap.size := ⟨_, rfl⟩
        rw [show min (max (L : Int) 0).toNat (8 * P.length) = L by omega, ← hE] at e2
        rw [← hE]
        have hbE : w.heap.size ≤ E := by have := hbel.size; omega
        have hb2 := below_step hbel b2
        clear hE b2 hbel hr hPl
        go_wp2_with fail
        have hbw2 := hb2.size
        go_loopw [6] (fun j' wx => ∃ (j : Nat), j' = .int .i64 j ∧ j ≤ i ∧ EyeAt E P (allBits (ts.take j)).length L 0 wx ∧ Below w.heap.size w wx) (fun j' _ => i - (RowKit.intOf j').toNat)
        case atStart => exact ⟨0, rfl, by omega, e2, hb2⟩
        case round =>
          obtain ⟨j, rfl, hj, e3, hb3⟩ := hrel
          by_cases hjl : j < i
          · have q1 : j < len := by omega
            have q2 : j < 20 := by omega
            obtain ⟨b, off, t, hao, hti, hf, c0, c1, c2, c3, c4⟩ := ths_cells H.out hb3 j (by have := HN.out; omega)
            subst hao
            have hstep := allBits_snoc ts j t hti
            obtain ⟨Z, hZ⟩ := allBits_split ts j t hti
            rw [← HA.out] at hZ
            have hfs := hf.sm
            have hm30 : t.sm.m ≤ 30 := by show min t.m 30 ≤ 30; omega
            have hsm := fun W => small_any t hf W
            have HSM := Lib.hid hsm
            obtain ⟨tk, tn, tm, tv, tb⟩ := t
            simp only at c0 c1 c2 c3 c4
            obtain ⟨y, hy⟩ : ∃ y, y = (Th.mk tk tn tm tv tb).sm := ⟨_, rfl⟩
            rw [← hy] at HSM hfs hm30 hstep hZ
            have HY := Lib.hid hy
            obtain ⟨X, hX⟩ : ∃ X, X = allBits (ts.take j) := ⟨_, rfl⟩
            rw [← hX] at hstep hZ e3
            have HST := Lib.hid hstep
            have hlen3 : X.length + y.bits.length ≤ L := by rw [HL.out, hZ]; simp only [List.length_append]; omega
            have hseg := seg_bit X y.bits Z
            have hsega := seg_ahead X y.bits Z
            rw [← hZ, ← HP.out] at hseg hsega
            have HSG := Lib.hid hseg
            have HSA := Lib.hid hsega
            obtain ⟨D, hD⟩ : ∃ D, D = X.length := ⟨_, rfl⟩
            rw [← hD] at e3 hlen3 HSG HSA
            have HD := Lib.hid hD
            clear hy hsm hstep hti hf hX hseg hsega hZ hD
            go_wp2_with fail
            refine (HSM.out _).mono ?_
            rintro e w3 ⟨rfl, b3⟩
            have e4 := e3.below b3 e3.lt
            have hb4 := below_step hb3 b3
            clear c0 c1 c2 c3 c4 HSM b3 e3 hb3
            obtain ⟨yk, yn, ym, yv, yb⟩ := y
            obtain ⟨n0, n1⟩ := And.intro hfs.n0 hfs.n1
            obtain ⟨m0, m1⟩ := And.intro hfs.m0 hfs.m1
            have v1 := hfs.v1
            simp only at n0 n1 m0 m1 v1 hm30
            have hbe := e4.lt
            have hbE4 := hb4.size
            obtain ⟨W5, hW5⟩ : ∃ W5, W5 = w3.alloc (.cells #[.int .i64 yk, .int .i64 yn, .int .i64 ym, .int .u64 yv, .bool yb] 32) := ⟨_, rfl⟩
            have b5 : Below w3.heap.size w3 W5 := by rw [hW5]; exact (Below.refl _ _).alloc (Nat.le_refl _) _
            have e5 := e4.below b5 e4.lt
            have hb5 := below_step hb4 b5
            have hblk : W5.heap[w3.heap.size]? = some (.cells #[.int .i64 yk, .int .i64 yn, .int .i64 ym, .int .u64 yv, .bool yb] 32) := by rw [hW5]; exact heap_alloc_new w3 _
            have d1 : W5.cell? ⟨w3.heap.size, 1, none⟩ = some (.int .i64 yn) := by rw [cell_of_row _ _ 1 _ _ _ hblk]; rfl
            have d2 : W5.cell? ⟨w3.heap.size, 2, none⟩ = some (.int .i64 ym) := by rw [cell_of_row _ _ 2 _ _ _ hblk]; rfl
            have d3 : W5.cell? ⟨w3.heap.size, 3, none⟩ = some (.int .u64 yv) := by rw [cell_of_row _ _ 3 _ _ _ hblk]; rfl
            have d4 : W5.cell? ⟨w3.heap.size, 4, none⟩ = some (.bool yb) := by rw [cell_of_row _ _ 4 _ _ _ hblk]; rfl
            have z5 : w3.heap.size < W5.heap.size := by rw [hW5]; simp
            have HW := Lib.hid hW5
            clear hW5 hblk e4 hb4 b5
            by_cases k1 : yk = 1
            · subst k1
              have hbits : (Th.mk 1 yn ym yv yb).bits = [yb] := by unfold Th.bits; rw [if_pos rfl]
              rw [hbits] at hlen3 HSG HSA HST
              have hbit : Bt.bitAt P D = yb := HSG.out 0 (by simp)
              simp only [List.length_singleton] at hlen3
              have HB := Lib.hid hbit
              clear hbit hbits HSG HSA d1 d2 d3
              simp only [Th.val]
              go_wp2_with fail
              rw [← HW.out]
              go_region_held3 (fun W => W.cell? ⟨w3.heap.size, 4, none⟩ = some (.bool yb)) (first | exact d4 | assumption)
                (first | (go_at_call 27; refine (ebit_ok E D L P _ e5.drew (by omega)).mono ?_; rw [HB.out]; rintro e w6 ⟨rfl, e6, k6⟩; have d6 := (k6.cell (p := ⟨w3.heap.size, 4, none⟩) z5 (by simp only; omega)).trans d4))
              go_wp2
              have hb6 := below_keep hb5.drew (k6.mono hb5.size) hbE
              refine ⟨⟨j + 1, by go_num, by omega, ?_, hb6⟩, by simp [RowKit.intOf]; omega⟩
              rw [HST.out, List.length_append, ← HD.out]
              exact e6
            · by_cases k2 : yk = 2
              · subst k2
                obtain ⟨k, hk⟩ : ∃ k, k = (min (max yn 0) 64).toNat := ⟨_, rfl⟩
                have hk64 : k ≤ 64 := by omega
                have hki : min (max yn 0) 64 = (k : Int) := by omega
                have hbits : (Th.mk 2 yn ym yv yb).bits = Bt.bitsN yv k := by rw [hk]; unfold Th.bits; rw [if_neg (show ¬ (2 : Int) = 1 by decide), if_pos rfl]
                rw [hbits] at hlen3 HSA HST
                rw [Bt.bitsN_length] at hlen3 HSA
                have C := fun W (h : EyeAt E P D L 0 W) => ebits_ok E D L yn P W h n0 n1 (by rw [← hk]; exact hlen3)
                rw [← hk, HSA.out, Bt.number_bitsN] at C
                have HC := Lib.hid C
                have HKI := Lib.hid hki
                clear hbits HSG C hk hki d2 d4
                simp only [Th.val]
                go_wp2_with fail
                rw [← HW.out, HKI.out]
                go_region_held3 (fun W => W.cell? ⟨w3.heap.size, 1, none⟩ = some (.int .i64 yn) ∧ W.cell? ⟨w3.heap.size, 3, none⟩ = some (.int .u64 yv)) (first | exact ⟨d1, d3⟩ | assumption)
                  (first | (go_at_call 28; refine (HC.out _ e5.drew).mono ?_; rintro e w6 ⟨rfl, e6, k6⟩; have d6 : w6.cell? ⟨w3.heap.size, 1, none⟩ = some (.int .i64 yn) ∧ w6.cell? ⟨w3.heap.size, 3, none⟩ = some (.int .u64 yv) := ⟨(k6.cell (p := ⟨w3.heap.size, 1, none⟩) z5 (by simp only; omega)).trans d1, (k6.cell (p := ⟨w3.heap.size, 3, none⟩) z5 (by simp only; omega)).trans d3⟩))
                have hmask := mask_test yv k v1 hk64
                go_wp2
                have hb6 := below_keep hb5.drew (k6.mono hb5.size) hbE
                refine ⟨⟨j + 1, by go_num, by omega, ?_, hb6⟩, by simp [RowKit.intOf]; omega⟩
                rw [HST.out, List.length_append, ← HD.out, Bt.bitsN_length]
                exact e6
              · by_cases k3 : yk = 3
                · subst k3
                  obtain ⟨k, hk⟩ : ∃ k, k = (max (min yn ym) 0).toNat := ⟨_, rfl⟩
                  have hki : max (min yn ym) 0 = (k : Int) := by omega
                  have hbits : (Th.mk 3 yn ym yv yb).bits = List.replicate k true ++ (if (k : Int) < ym then [false] else []) := by
                    unfold Th.bits; rw [if_neg (show ¬ (3 : Int) = 1 by decide), if_neg (show ¬ (3 : Int) = 2 by decide), if_pos rfl]
                    exact unary_is yn ym k (by omega)
                  have hcmp : ((k : Int) != min (max yn 0) (max ym 0)) = false := by simp; omega
                  have hones : ∀ q, q < k → Bt.bitAt P (D + q) = true := fun q hq => by
                    rw [HSG.out q (by rw [hbits, List.length_append, List.length_replicate]; omega)]
                    simp only [hbits]
                    rw [List.getElem_append_left (by simpa using hq), List.getElem_replicate]
                  obtain ⟨Q, hQ⟩ : ∃ Q, Q = D + (Th.mk 3 yn ym yv yb).bits.length := ⟨_, rfl⟩
                  have hend : (ym ≤ (k : Int) ∧ Q = D + k ∧ ((k : Int) ≤ ym ∨ k = 0)) ∨ ((k : Int) < ym ∧ D + k < L ∧ Bt.bitAt P (D + k) = false ∧ Q = D + k + 1) := by
                    by_cases hm : (k : Int) < ym
                    · right
                      have hbits2 : (Th.mk 3 yn ym yv yb).bits = List.replicate k true ++ [false] := by rw [hbits, if_pos hm]
                      have hl : (Th.mk 3 yn ym yv yb).bits.length = k + 1 := by rw [hbits2]; simp
                      refine ⟨hm, by omega, ?_, by omega⟩
                      rw [HSG.out k (by omega)]
                      simp only [hbits2]
                      rw [List.getElem_append_right (by simp)]
                      simp
                    · left
                      have hl : (Th.mk 3 yn ym yv yb).bits.length = k := by rw [hbits, if_neg hm]; simp
                      exact ⟨by omega, by omega, by omega⟩
                  have hkL : D + k ≤ L := by rcases hend with ⟨_, h, _⟩ | ⟨_, h, _⟩ <;> omega
                  have hQ2 : (allBits (ts.take (j + 1))).length = Q := by rw [HST.out, List.length_append, ← HD.out, hQ]
                  have C := fun W (h : EyeAt E P D L 0 W) => eunary_ok E D L k Q ym P W h m1 m0 hones hkL hend
                  have HC := Lib.hid C
                  have HQ := Lib.hid hQ2
                  have HKI := Lib.hid hki
                  clear hbits HSG C hki d3 d4 hones hend hQ hQ2 hk hlen3
                  simp only [Th.val]
                  go_wp2_with fail
                  rw [← HW.out]
                  go_region_held3 (fun W => W.cell? ⟨w3.heap.size, 1, none⟩ = some (.int .i64 yn) ∧ W.cell? ⟨w3.heap.size, 2, none⟩ = some (.int .i64 ym)) (first | exact ⟨d1, d2⟩ | assumption)
                    (first | (go_at_call 29; refine (HC.out _ e5.drew).mono ?_; rintro e w6 ⟨rfl, e6, k6⟩; have d6 : w6.cell? ⟨w3.heap.size, 1, none⟩ = some (.int .i64 yn) ∧ w6.cell? ⟨w3.heap.size, 2, none⟩ = some (.int .i64 ym) := ⟨(k6.cell (p := ⟨w3.heap.size, 1, none⟩) z5 (by simp only; omega)).trans d1, (k6.cell (p := ⟨w3.heap.size, 2, none⟩) z5 (by simp only; omega)).trans d2⟩))
                  all_goals
                    go_wp2
                    have hb6 := below_keep hb5.drew (k6.mono hb5.size) hbE
                    refine ⟨⟨j + 1, by go_num, by omega, ?_, hb6⟩, by simp [RowKit.intOf]; omega⟩
                    rw [HQ.out]
                    exact e6
                · have x1 : (yk == 1) = false := by simp; omega
                  have x2 : (yk == 2) = false := by simp; omega
                  have x3 : (yk == 3) = false := by simp; omega
                  have hbits : (Th.mk yk yn ym yv yb).bits = [] := by
                    unfold Th.bits; rw [if_neg k1, if_neg k2, if_neg k3]
                  rw [hbits, List.append_nil] at HST
                  clear hbits HSG HSA d1 d2 d3 d4
                  simp only [Th.val]
                  go_wp2_with fail
                  refine ⟨⟨j + 1, by go_num, by omega, ?_, by rw [← HW.out]; exact hb5⟩, by simp [RowKit.intOf]; omega⟩
                  rw [HST.out, ← HD.out, ← HW.out]
                  exact e5
          · obtain rfl : j = i := by omega
            have hp : (allBits (ts.take j)).length = L := by rw [List.take_of_length_le (by rw [HN.out]; exact Nat.le_refl _), ← HA.out, ← HL.out]
            rw [hp] at e3
            clear hp
            go_wp2_with fail
            refine (err_any E L L 0 P _ e3).mono ?_
            rintro e w4 ⟨rfl, rfl⟩
            go_wp2_with fail
            refine (left_any E L L 0 P _ e3).mono ?_
            rintro e w4 ⟨rfl, m, rfl⟩
            go_wp2
            go_ret
            exact ⟨rfl, below_draw hb3 m⟩
end Go.Proofs.Ytfhpbjokgijdfaa
