/- The statement BitrowZeros, walked. -/
import Derived.Test.YtfhpbjokgijdfaaC9
namespace Go.Proofs.Ytfhpbjokgijdfaa
open Go.RowKit Go.Lib

theorem ahead_zeros (l : List Bool) (k : Nat) : Bt.number (ahead (Bt.pack l) l.length k) = 0 := by
  have h : ∀ k, Bt.number (ahead (Bt.pack l) l.length k) = 0 := by
    intro k
    induction k with
    | zero => rfl
    | succ k ih =>
      rw [ahead_succ, Bt.number_snoc, ih, Bt.bitAt_pack, List.getD_eq_getElem?_getD, List.getElem?_eq_none (by omega)]
      rfl
  exact h k

set_option maxHeartbeats 4000000 in
set_option maxRecDepth 100000 in
theorem bzeros_any (ao : Option Addr) (len cap : Nat) (ts : List Th) (w : World) (hlen : len ≤ maxLen) (h : ThsAt w ao len ts) :
    Calls Try.prog 7 #[.slice ao len cap] w fun e w' => e = .returned (.bool true) ∧ Below w.heap.size w w' := by
  have hT := bs_toList
  have H := Lib.hid h
  obtain ⟨n, hn⟩ : ∃ n, n = ts.length := ⟨_, rfl⟩
  have hl0 := h.1
  unfold maxLen at hlen
  have hl1 : n ≤ len := by omega
  have hl2 : n ≤ 20 := by omega
  have hl3 : len ≤ n ∨ 20 ≤ n := by omega
  have HN := Lib.hid hn
  clear hl0 hn h
  have r0 := row_new w 25
  have hbl : Below w.heap.size w (w.alloc (.cells #[.slice none 0 0, .int .i64 0] 25)) := (Below.refl _ _).alloc (Nat.le_refl _) _
  go_enter Try.func7, Try.ntmps7
  go_wp2_with fail
  have r1 := r0
  have hb1 := hbl
  clear r0 hbl
  go_loopw [4] (fun i' wr => ∃ (i : Nat) (vr : Value), i' = .int .i64 i ∧ i ≤ n ∧ RowV (w.heap.size + 1) w.heap.size vr (allBits (ts.take i)) wr ∧ Below w.heap.size w wr) (fun i' _ => n - (RowKit.intOf i').toNat)
  case atStart => exact ⟨0, _, rfl, by omega, r1, hb1⟩
  case round =>
    obtain ⟨i, vr, rfl, hi, hr, hbel⟩ := hrel
    obtain ⟨A, hA⟩ : ∃ A, A = allBits (ts.take i) := ⟨_, rfl⟩
    have hAl : A.length ≤ 2000 := by
      rw [hA]
      have := allBits_len (ts.take i)
      have h2 : (ts.take i).length ≤ 20 := by rw [List.length_take]; have := HN.out; omega
      omega
    rw [← hA] at hr
    have HA := Lib.hid hA
    clear hA
    by_cases hlt : i < n
    · have g1 : i < len := by omega
      have g2 : i < 20 := by omega
      obtain ⟨b, off, t, hao, hti, hf, c0, c1, c2, c3, c4⟩ := ths_cells H.out hbel i (by have := HN.out; omega)
      subst hao
      have hstep := allBits_snoc ts i t hti
      rw [← HA.out] at hstep
      have hfs := hf.sm
      have hm30 : t.sm.m ≤ 30 := by show min t.m 30 ≤ 30; omega
      have hsm := fun W => small_any t hf W
      have HSM := Lib.hid hsm
      have HST := Lib.hid hstep
      obtain ⟨tk, tn, tm, tv, tb⟩ := t
      simp only at c0 c1 c2 c3 c4
      obtain ⟨y, hy⟩ : ∃ y, y = (Th.mk tk tn tm tv tb).sm := ⟨_, rfl⟩
      rw [← hy] at HSM HST hfs hm30
      have HY := Lib.hid hy
      clear hy hsm hstep hti hf
      go_wp2_with fail
      refine (HSM.out _).mono ?_
      rintro e w2 ⟨rfl, b2⟩
      have hr2 := hr.below b2
      have hbel2 := below_step hbel b2
      clear c0 c1 c2 c3 c4
      go_wp2_with fail
      refine (put_any _ _ vr A y hfs hm30 _ hr2 (by omega)).mono ?_
      rintro e w3 ⟨x, rfl, _, vr3, hr3, hc3⟩
      have hbel3 := below_keep hbel2 (hc3.keep.mono (by omega)) (Nat.le_refl _)
      rw [← HST.out] at hr3
      go_wp2
      exact ⟨⟨i + 1, vr3, by go_num, by omega, hr3, hbel3⟩, by simp [RowKit.intOf]; omega⟩
    · obtain rfl : i = n := by omega
      rw [List.take_of_length_le (by rw [HN.out]; exact Nat.le_refl _)] at HA
      have hd : (i < len ∧ decide ((i : Int) < 20) = false ∧ 20 ≤ i) ∨ (decide ((i : Int) < (len : Int)) = false ∧ len ≤ i) := by
        by_cases g : i < len
        · left; exact ⟨g, by simp; omega, by omega⟩
        · right; exact ⟨by simp; omega, by omega⟩
      obtain ⟨L, hL⟩ : ∃ L, L = A.length := ⟨_, rfl⟩
      have HL := Lib.hid hL
      rw [← hL] at hAl
      clear hL hl3
      rcases hd with ⟨g1, g2, g3⟩ | ⟨g1, g2⟩
      · go_wp2_with fail
        refine (rtext_any _ _ _ _ _ hr).mono ?_
        rintro e w2 ⟨rfl, rfl⟩
        obtain ⟨P, hP⟩ : ∃ P, P = Bt.pack A := ⟨_, rfl⟩
        have hPl := Bt.pack_length A
        rw [← hP] at hPl ⊢
        rw [← HL.out] at hPl
        have HP := Lib.hid hP
        have hsz := bs_size P
        rw [hPl] at hsz
        clear hP
        go_wp2_with fail
        refine (over_any P _ _ (by omega) (by omega) (by omega)).mono ?_
        rintro e w2 ⟨rfl, e2, b2⟩
        obtain ⟨E, hE⟩ : ∃ E, E = wr.heap.size := ⟨_, rfl⟩
        obtain ⟨N, hN⟩ : ∃ N, N = 8 * ((L + 7) / 8) := ⟨_, rfl⟩
        have hN0 : min (max (8 * (((L : Int) + 7) / 8)) 0).toNat (8 * P.length) = N := by omega
        rw [hN0, ← hE] at e2
        rw [← hE]
        have r2 := hr.below b2
        have hbE : w.heap.size ≤ E := by have := hbel.size; omega
        have hES : E ≠ w.heap.size := by have := hr.lt; have := hr.hB; omega
        have hv : ∀ b, vr.ownBlock = some b → b ≠ E := fun b hb => by have := (hr.bytes.lt b hb).2; omega
        have hb2 := below_step hbel b2
        have hLN : L ≤ N ∧ N < L + 8 := by omega
        have HEq := Lib.hid hE
        have HNq := Lib.hid hN
        clear hE hN0 hN b2 hbel hr HEq
        obtain ⟨hLN1, hLN2⟩ := hLN
        go_wp2_with fail
        refine (bawake_any _).mono ?_
        rintro e w3 ⟨rfl, b3⟩
        have e3 := e2.below b3 e2.lt
        have r3 := r2.below b3
        have hb3 := below_step hb2 b3
        clear b3 e2 r2 hb2
        go_wp2_with fail
        refine (rlen_any _ _ _ _ _ r3).mono ?_
        rw [← HL.out]
        rintro e w4 ⟨rfl, rfl⟩
        go_wp2_with fail
        go_loopw [7] (fun j' wx => ∃ (j : Nat), j' = .int .i64 j ∧ j ≤ L ∧ EyeAt E P j N 0 wx ∧ RowV (w.heap.size + 1) w.heap.size vr A wx ∧ Below w.heap.size w wx) (fun j' _ => L - (RowKit.intOf j').toNat)
        case atStart => exact ⟨0, rfl, by omega, e3, r3, hb3⟩
        case round =>
          obtain ⟨j, rfl, hj, e4, r4, hb4⟩ := hrel
          by_cases hjl : j < L
          · go_wp2_with fail
            refine (rlen_any _ _ _ _ _ r4).mono ?_
            rw [← HL.out]
            rintro e w5 ⟨rfl, rfl⟩
            go_wp2_with fail
            refine (ebit_ok E j N P _ e4 (by omega)).mono ?_
            rintro e w5 ⟨rfl, e5, k5⟩
            have r5 := r4.other k5 (Nat.le_refl _) hES hv
            have hb5 := below_keep hb4 (k5.mono hb4.size) hbE
            go_wp2
            exact ⟨⟨j + 1, by go_num, by omega, e5, r5, hb5⟩, by simp [RowKit.intOf]; omega⟩
          · obtain rfl : j = L := by omega
            go_wp2_with fail
            refine (rlen_any _ _ _ _ _ r4).mono ?_
            rw [← HL.out]
            rintro e w5 ⟨rfl, rfl⟩
            go_wp2_with fail
            refine (left_any E j N 0 P _ e4).mono ?_
            rintro e w5 ⟨rfl, m, rfl⟩
            have hz : Bt.number (ahead P j (N - j)) = 0 := by rw [HP.out, HL.out]; exact ahead_zeros A _
            have hm1 : (min (max ((N : Int) - j) 0) 64).toNat = N - j := by omega
            have C := ebits_ok E j N ((N : Int) - j) P _ (e4.drewN m) (by omega) (by omega) (by omega)
            rw [hm1, hz] at C
            have HC := Lib.hid C
            clear C hz hm1
            go_wp2_with fail
            refine HC.out.mono ?_
            rintro e w5 ⟨rfl, e5, k5⟩
            have hb5 := below_keep (below_draw hb4 m) (k5.mono (show w.heap.size ≤ _ from hb4.size)) hbE
            go_wp2_with fail
            refine (err_any E _ N 0 P _ e5).mono ?_
            rintro e w6 ⟨rfl, rfl⟩
            go_wp2
            go_ret
            exact ⟨rfl, hb5⟩
      · go_wp2_with fail
        refine (rtext_any _ _ _ _ _ hr).mono ?_
        rintro e w2 ⟨rfl, rfl⟩
        obtain ⟨P, hP⟩ : ∃ P, P = Bt.pack A := ⟨_, rfl⟩
        have hPl := Bt.pack_length A
        rw [← hP] at hPl ⊢
        rw [← HL.out] at hPl
        have HP := Lib.hid hP
        have hsz := bs_size P
        rw [hPl] at hsz
        clear hP
        go_wp2_with fail
        refine (over_any P _ _ (by omega) (by omega) (by omega)).mono ?_
        rintro e w2 ⟨rfl, e2, b2⟩
        obtain ⟨E, hE⟩ : ∃ E, E = wr.heap.size := ⟨_, rfl⟩
        obtain ⟨N, hN⟩ : ∃ N, N = 8 * ((L + 7) / 8) := ⟨_, rfl⟩
        have hN0 : min (max (8 * (((L : Int) + 7) / 8)) 0).toNat (8 * P.length) = N := by omega
        rw [hN0, ← hE] at e2
        rw [← hE]
        have r2 := hr.below b2
        have hbE : w.heap.size ≤ E := by have := hbel.size; omega
        have hES : E ≠ w.heap.size := by have := hr.lt; have := hr.hB; omega
        have hv : ∀ b, vr.ownBlock = some b → b ≠ E := fun b hb => by have := (hr.bytes.lt b hb).2; omega
        have hb2 := below_step hbel b2
        have hLN : L ≤ N ∧ N < L + 8 := by omega
        have HEq := Lib.hid hE
        have HNq := Lib.hid hN
        clear hE hN0 hN b2 hbel hr HEq
        obtain ⟨hLN1, hLN2⟩ := hLN
        go_wp2_with fail
        refine (bawake_any _).mono ?_
        rintro e w3 ⟨rfl, b3⟩
        have e3 := e2.below b3 e2.lt
        have r3 := r2.below b3
        have hb3 := below_step hb2 b3
        clear b3 e2 r2 hb2
        go_wp2_with fail
        refine (rlen_any _ _ _ _ _ r3).mono ?_
        rw [← HL.out]
        rintro e w4 ⟨rfl, rfl⟩
        go_wp2_with fail
        go_loopw [7] (fun j' wx => ∃ (j : Nat), j' = .int .i64 j ∧ j ≤ L ∧ EyeAt E P j N 0 wx ∧ RowV (w.heap.size + 1) w.heap.size vr A wx ∧ Below w.heap.size w wx) (fun j' _ => L - (RowKit.intOf j').toNat)
        case atStart => exact ⟨0, rfl, by omega, e3, r3, hb3⟩
        case round =>
          obtain ⟨j, rfl, hj, e4, r4, hb4⟩ := hrel
          by_cases hjl : j < L
          · go_wp2_with fail
            refine (rlen_any _ _ _ _ _ r4).mono ?_
            rw [← HL.out]
            rintro e w5 ⟨rfl, rfl⟩
            go_wp2_with fail
            refine (ebit_ok E j N P _ e4 (by omega)).mono ?_
            rintro e w5 ⟨rfl, e5, k5⟩
            have r5 := r4.other k5 (Nat.le_refl _) hES hv
            have hb5 := below_keep hb4 (k5.mono hb4.size) hbE
            go_wp2
            exact ⟨⟨j + 1, by go_num, by omega, e5, r5, hb5⟩, by simp [RowKit.intOf]; omega⟩
          · obtain rfl : j = L := by omega
            go_wp2_with fail
            refine (rlen_any _ _ _ _ _ r4).mono ?_
            rw [← HL.out]
            rintro e w5 ⟨rfl, rfl⟩
            go_wp2_with fail
            refine (left_any E j N 0 P _ e4).mono ?_
            rintro e w5 ⟨rfl, m, rfl⟩
            have hz : Bt.number (ahead P j (N - j)) = 0 := by rw [HP.out, HL.out]; exact ahead_zeros A _
            have hm1 : (min (max ((N : Int) - j) 0) 64).toNat = N - j := by omega
            have C := ebits_ok E j N ((N : Int) - j) P _ (e4.drewN m) (by omega) (by omega) (by omega)
            rw [hm1, hz] at C
            have HC := Lib.hid C
            clear C hz hm1
            go_wp2_with fail
            refine HC.out.mono ?_
            rintro e w5 ⟨rfl, e5, k5⟩
            have hb5 := below_keep (below_draw hb4 m) (k5.mono (show w.heap.size ≤ _ from hb4.size)) hbE
            go_wp2_with fail
            refine (err_any E _ N 0 P _ e5).mono ?_
            rintro e w6 ⟨rfl, rfl⟩
            go_wp2
            go_ret
            exact ⟨rfl, hb5⟩
end Go.Proofs.Ytfhpbjokgijdfaa
