/- The statement LabelOrder, walked. -/
import Derived.Test.YtfdbhmdaiihmhaaDoorLE
namespace Go.Proofs.YtfdbhmdaiihmhaaDoor
open Go.RowKit Go.Lib

theorem PrsAt.len {w : World} {ao : Option Addr} {len : Nat} {ds : List Pr} (h : PrsAt w ao len ds) : (f42 ds).length ≤ 10 := by rw [f42_len, h.1]; omega
theorem Sl.bl {w w' : World} {base size n : Nat} {v : Value} {xs : List Value} (h : Sl w base size v n xs) (b : Below w.heap.size w w') : Sl w' base size v n xs := h.below b (fun k hk => (h.lt k hk).2)

set_option maxHeartbeats 4000000 in
set_option maxRecDepth 100000 in
theorem order_any (a0 : Option Addr) (len0 cap0 : Nat) (z0 : List Pr) (a1 : Option Addr) (len1 cap1 : Nat) (z1 : List Pr) (a2 : Option Addr) (len2 cap2 : Nat) (z2 : List Pr) (w : World)
    (m0 : len0 ≤ maxLen) (w0 : PrsAt w a0 len0 z0) (m1 : len1 ≤ maxLen) (w1 : PrsAt w a1 len1 z1) (m2 : len2 ≤ maxLen) (w2 : PrsAt w a2 len2 z2) :
    Calls Tryd.prog 7 #[.slice a0 len0 cap0, .slice a1 len1 cap1, .slice a2 len2 cap2] w fun e w' => e = .returned (.bool true) ∧ Below w.heap.size w w' := by
  have hT := bs_toList
  obtain ⟨A, hA⟩ : ∃ A, A = f42 z0 := ⟨_, rfl⟩
  obtain ⟨B, hB⟩ : ∃ B, B = f42 z1 := ⟨_, rfl⟩
  obtain ⟨C, hC⟩ : ∃ C, C = f42 z2 := ⟨_, rfl⟩
  have lA : A.length ≤ 10 := by rw [hA]; exact w0.len
  have lB : B.length ≤ 10 := by rw [hB]; exact w1.len
  have lC : C.length ≤ 10 := by rw [hC]; exact w2.len
  have sA : Short A := by rw [hA]; exact f42_short _
  have sB : Short B := by rw [hB]; exact f42_short _
  have F0 := Lib.hid (fun W (b : Below w.heap.size w W) => show Calls Tryd.prog 16 #[.slice a0 len0 cap0] W (NewP W A) by rw [hA]; exact few_any a0 len0 cap0 z0 W m0 (w0.below b))
  have F1 := Lib.hid (fun W (b : Below w.heap.size w W) => show Calls Tryd.prog 16 #[.slice a1 len1 cap1] W (NewP W B) by rw [hB]; exact few_any a1 len1 cap1 z1 W m1 (w1.below b))
  have F2 := Lib.hid (fun W (b : Below w.heap.size w W) => show Calls Tryd.prog 16 #[.slice a2 len2 cap2] W (NewP W C) by rw [hC]; exact few_any a2 len2 cap2 z2 W m2 (w2.below b))
  have KA := Lib.hid (fun v W (h : Rd W 2 v A.length (prc A)) => key_lb v A W h (by have := key_small A sA; omega) (by omega))
  have KB := Lib.hid (fun v W (h : Rd W 2 v B.length (prc B)) => key_lb v B W h (by have := key_small B sB; omega) (by omega))
  have CAB := Lib.hid (fun u v W (h : Rd W 2 u A.length (prc A)) (k : Rd W 2 v B.length (prc B)) => cmp_lb u v A B W h k (by omega) (by omega))
  have CBC := Lib.hid (fun u v W (h : Rd W 2 u B.length (prc B)) (k : Rd W 2 v C.length (prc C)) => cmp_lb u v B C W h k (by omega) (by omega))
  have CAC := Lib.hid (fun u v W (h : Rd W 2 u A.length (prc A)) (k : Rd W 2 v C.length (prc C)) => cmp_lb u v A C W h k (by omega) (by omega))
  have CBA := Lib.hid (fun u v W (h : Rd W 2 u B.length (prc B)) (k : Rd W 2 v A.length (prc A)) => show Calls Tryd.prog 36 #[u, v] W (fun e w' => e = .returned (.int .i64 (-cmpS A B)) ∧ Below W.heap.size W w') by rw [← cmpS_neg A B]; exact cmp_lb u v B A W h k (by omega) (by omega))
  have CAA := Lib.hid (fun u W (h : Rd W 2 u A.length (prc A)) => show Calls Tryd.prog 36 #[u, u] W (fun e w' => e = .returned (.int .i64 0) ∧ Below W.heap.size W w') by rw [← cmpS_self A]; exact cmp_lb u u A A W h h (by omega) (by omega))
  have HAw := Lib.hid (fun W => lawake_any W)
  have hk : (keyL A == keyL B) = (cmpS A B == 0) := by
    rw [Bool.eq_iff_iff, beq_iff_eq, beq_iff_eq]
    constructor
    · intro h; rw [keyL_inj A B sA sB (by omega) (by omega) h]; exact cmpS_self B
    · intro h; rw [cmpS_zero A B h]
  have hx := cmpS_val A B; have hz := cmpS_val A C
  have ht := cmpS_trans A B C
  have hy := cmpS_val B C
  obtain ⟨x, hxe⟩ : ∃ x, x = cmpS A B := ⟨_, rfl⟩
  obtain ⟨y, hye⟩ : ∃ y, y = cmpS B C := ⟨_, rfl⟩
  obtain ⟨z, hze⟩ : ∃ z, z = cmpS A C := ⟨_, rfl⟩
  rw [← hxe] at hk hx ht CAB CBA
  rw [← hye] at hy ht CBC
  rw [← hze] at hz ht CAC
  clear hA hB hC hxe hye hze w0 w1 w2
  have hcase : (x = 1) ∨ ((x = 0 ∨ x = -1) ∧ ((y = 1) ∨ ((y = 0 ∨ y = -1) ∧ (z = 0 ∨ z = -1)))) := by
    have ht' : x ≤ 0 → y ≤ 0 → z ≤ 0 := ht
    omega
  clear hx hy hz ht
  rcases hcase with rfl | ⟨rfl | rfl, rfl | ⟨rfl | rfl, rfl | rfl⟩⟩
  all_goals
    go_enter Tryd.func7, Tryd.ntmps7
    go_wp2_with fail
    refine (F0.out _ (Below.refl _ _)).mono ?_
    rintro e w1 ⟨u0, rfl, s0, b0⟩
    go_wp2_with fail
    refine (F1.out _ b0).mono ?_
    rintro e w2 ⟨u1, rfl, s1, b1⟩
    have bb1 := below_step b0 b1
    go_wp2_with fail
    refine (F2.out _ bb1).mono ?_
    rintro e w3 ⟨u2, rfl, s2, b2⟩
    have bb2 := below_step bb1 b2
    have r0 := ((Rd.of_sl s0).on b1).on b2
    have r1 := (Rd.of_sl s1).on b2
    have r2 := Rd.of_sl s2
    clear s0 s1 s2 b0 b1 b2 bb1
    go_wp2_with fail
    refine (CAB.out _ _ _ r0 r1).mono ?_
    rintro e w4 ⟨rfl, b4⟩
    have r04 := r0.on b4; have r14 := r1.on b4; have r24 := r2.on b4
    go_wp2_with fail
    refine (CBC.out _ _ _ r14 r24).mono ?_
    rintro e w5 ⟨rfl, b5⟩
    have r05 := r04.on b5; have r15 := r14.on b5; have r25 := r24.on b5
    go_wp2_with fail
    refine (CAC.out _ _ _ r05 r25).mono ?_
    rintro e w6 ⟨rfl, b6⟩
    have r06 := r05.on b6; have r16 := r15.on b6
    go_wp2_with fail
    refine (HAw.out _).mono ?_
    rintro e w7 ⟨rfl, b7⟩
    have r07 := r06.on b7; have r17 := r16.on b7
    go_wp2_with fail
    refine (CBA.out _ _ _ r17 r07).mono ?_
    rintro e w8 ⟨rfl, b8⟩
    have r08 := r07.on b8; have r18 := r17.on b8
    go_wp2_with fail
    refine (CAA.out _ _ r08).mono ?_
    rintro e w9 ⟨rfl, b9⟩
    have r09 := r08.on b9; have r19 := r18.on b9
    go_wp2_with fail
    refine (KA.out _ _ r09).mono ?_
    rintro e w10 ⟨rfl, b10⟩
    have r110 := r19.on b10
    go_wp2_with fail
    refine (KB.out _ _ r110).mono ?_
    rintro e w11 ⟨rfl, b11⟩
    have hk' := hk
    simp only [reduceBEq, Int.reduceBEq, beq_self_eq_true] at hk'
    go_wp2
    go_ret
    exact ⟨rfl, below_step (below_step (below_step (below_step (below_step (below_step (below_step (below_step bb2 b4) b5) b6) b7) b8) b9) b10) b11⟩
end Go.Proofs.YtfdbhmdaiihmhaaDoor
