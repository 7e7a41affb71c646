/- The statement BitrowTakes, walked. -/
import Derived.Test.YtfhpbjokgijdfaaC12
namespace Go.Proofs.Ytfhpbjokgijdfaa
open Go.RowKit Go.Lib

theorem of_ahead (P : List UInt8) (m : Nat) : (Bt.bitsOf P).take m = ahead P 0 (min m (8 * P.length)) := by
  apply List.ext_getElem?
  intro j
  by_cases h : j < min m (8 * P.length)
  · rw [ahead_get P _ j h, List.getElem?_take, if_pos (by omega), Bt.bitsOf_get _ _ (by omega)]
  · rw [List.getElem?_eq_none (by rw [List.length_take, Bt.bitsOf_length]; omega), List.getElem?_eq_none (by rw [ahead_length]; omega)]

theorem Taking.on {E : Nat} {P : List UInt8} {p n : Nat} {L : List Bool} {g off cap base : Nat} {w w' : World} (h : Taking E P p n L g off cap base w) (k : Below w.heap.size w w') : Taking E P p n L g off cap base w' :=
  ⟨h.eye.below k h.eye.lt, h.all.on k, h.bits, h.apart⟩

set_option maxHeartbeats 600000 in
set_option maxRecDepth 100000 in
theorem btakes_any (s : ByteArray) (n : Int) (ao : Option Addr) (len cap : Nat) (ts : List Th) (w : World) (hlen : len ≤ maxLen) (h : ThsAt w ao len ts) (n0 : -9223372036854775808 ≤ n) (n1 : n ≤ 9223372036854775807) :
    Calls Try.prog 4 #[.string s, .int .i64 n, .slice ao len cap] w fun e w' => e = .returned (.bool true) ∧ Below w.heap.size w w' := by
  have H := Lib.hid h
  obtain ⟨m, hm⟩ : ∃ m, m = ts.length := ⟨_, rfl⟩
  have hl0 := h.1
  unfold maxLen at hlen
  have hl1 : m ≤ len := by omega
  have hl2 : m ≤ 20 := by omega
  have hl3 : len ≤ m ∨ 20 ≤ m := by omega
  have HM := Lib.hid hm
  clear hl0 hm h
  obtain ⟨P, hP, hP60⟩ := cut_list s 60
  have HPc := Lib.hid hP
  clear hP
  obtain ⟨N, hN⟩ : ∃ N, N = min (max n 0).toNat (8 * P.length) := ⟨_, rfl⟩
  obtain ⟨L, hL⟩ : ∃ L, L = ahead P 0 N := ⟨_, rfl⟩
  have hLl : L.length = N := by rw [hL, ahead_length]
  have hof := of_ahead P (max n 0).toNat
  rw [← hN, ← hL] at hof
  have hN480 : N ≤ 480 := by omega
  have HN := Lib.hid hN; have HLb := Lib.hid hL; have HOf := Lib.hid hof; have HLl := Lib.hid hLl
  clear hN hL hof hLl
  go_enter Try.func4, Try.ntmps4
  go_wp2_with fail
  refine (cut_is s P 60 60 rfl HPc.out _).mono ?_
  rintro e w1 ⟨rfl, rfl⟩
  go_wp2_with fail
  refine (over_any P n _ (by omega) n0 n1).mono ?_
  rw [← HN.out]
  rintro e w1 ⟨rfl, e1, b1⟩
  obtain ⟨E, hE⟩ : ∃ E, E = w.heap.size := ⟨_, rfl⟩
  rw [← hE] at e1 ⊢
  have HE := Lib.hid hE
  have z1 := b1.size
  have hEl := e1.lt
  clear hE
  go_wp2_with fail
  refine (rof_any P n _ (by omega) n0 n1).mono ?_
  rw [HOf.out, HLl.out]
  rintro e w2 ⟨g, off, c, rfl, s2, b2⟩
  have hg := (s2.lt g rfl).1
  have t2 : Taking E P 0 N L g off c w1.heap.size w2 := ⟨e1.below b2 hEl, s2, HLb.out, by omega⟩
  have hb2 := below_step b1 b2
  clear s2 e1 b1 b2
  go_wp2_with fail
  refine (bawake_any _).mono ?_
  rintro e w3 ⟨rfl, b3⟩
  have t3 := t2.on b3
  have hb3 := below_step hb2 b3
  clear t2 hb2 b3
  go_wp2_with fail
  refine (left_any E 0 N 0 P _ t3.eye).mono ?_
  rintro e w4 ⟨rfl, q, rfl⟩
  have t4 := t3.on (below_draw (Below.refl _ _) q)
  have hb4 := below_draw hb3 q
  clear t3 hb3
  obtain ⟨W4, hW4⟩ : ∃ W4, W4 = w3.drewN q := ⟨_, rfl⟩
  rw [← hW4] at t4 hb4 ⊢
  clear hW4
  go_wp2_with fail
  go_loopw [9, 10] (fun p' i' wr => ∃ (i p : Nat), p' = .int .i64 p ∧ i' = .int .i64 i ∧ i ≤ m ∧ Taking E P p N L g off c w1.heap.size wr ∧ Below w.heap.size w wr) (fun _ i' _ => m - (RowKit.intOf i').toNat)
  case atStart => exact ⟨0, 0, rfl, rfl, by omega, t4, hb4⟩
  case round =>
    obtain ⟨i, p, rfl, rfl, hi, ht, hbel⟩ := hrel
    by_cases hlt : i < m
    · have g1 : i < len := by omega
      have g2 : i < 20 := by omega
      obtain ⟨b, o, t, hao, hti, hf, c0, c1, c2, c3, c4⟩ := ths_cells H.out hbel i (by have := HM.out; omega)
      subst hao
      have hfs := hf.sm
      have HSM := Lib.hid (fun W => small_any t hf W)
      obtain ⟨tk, tn, tm, tv, tb⟩ := t
      simp only at c0 c1 c2 c3 c4
      obtain ⟨y, hy⟩ : ∃ y, y = (Th.mk tk tn tm tv tb).sm := ⟨_, rfl⟩
      rw [← hy] at HSM hfs
      have HY := Lib.hid hy
      have hp := ht.eye.hp
      clear hy hti hf
      go_wp2_with fail
      refine (HSM.out _).mono ?_
      rintro e w5 ⟨rfl, b5⟩
      have t5 := ht.on b5
      have hb5 := below_step hbel b5
      clear c0 c1 c2 c3 c4
      have z5 := b5.size
      have z6 := hbel.size
      go_wp2_with fail
      refine (take_any E P p N L g off c w1.heap.size y hfs _ t5).mono ?_
      rintro e w6 ⟨k6, ⟨q, hq1, hq2, rfl, e6⟩ | ⟨q, rfl, e6⟩⟩
      · have hb6 := below_keep hb5 (k6.mono (show w.heap.size ≤ w5.heap.size by omega)) (by have := HE.out; omega)
        have t6 : Taking E P q N L g off c w1.heap.size w6 := ⟨e6, t5.all.keep k6 (fun b hb => ⟨(t5.all.lt b hb).2, by cases hb; exact t5.apart⟩), t5.bits, t5.apart⟩
        clear t5 ht
        go_wp2_with fail
        refine (err_any E q N 0 P _ e6).mono ?_
        rintro e w7 ⟨rfl, rfl⟩
        go_wp2_with fail
        refine (left_any E q N 0 P _ e6).mono ?_
        rintro e w7 ⟨rfl, x, rfl⟩
        go_wp2_with fail
        refine (err_any E q N 0 P _ (e6.drewN x)).mono ?_
        rintro e w7 ⟨rfl, rfl⟩
        go_wp2
        exact ⟨⟨i + 1, q, rfl, by go_num, by omega, t6.on (below_draw (Below.refl _ _) x), below_draw hb6 x⟩, by simp [RowKit.intOf]; omega⟩
      · have hb6 := below_keep hb5 (k6.mono (show w.heap.size ≤ w5.heap.size by omega)) (by have := HE.out; omega)
        clear t5 ht
        go_wp2_with fail
        refine (err_any E q N 2 P _ e6).mono ?_
        rintro e w7 ⟨rfl, rfl⟩
        go_wp2_with fail
        refine (ebit_bad E q N 2 P _ e6 (.inr rfl)).mono ?_
        rintro e w7 ⟨rfl, e7, k7⟩
        go_wp2_with fail
        refine (ebits_bad E q N 2 5 P _ e7 (by decide) (by decide) (.inr rfl)).mono ?_
        rintro e w8 ⟨rfl, e8, k8⟩
        go_wp2_with fail
        refine (eunary_bad E q N 3 P _ e8).mono ?_
        rintro e w9 ⟨rfl, e9, k9⟩
        go_wp2_with fail
        refine (err_any E q N 2 P _ e9).mono ?_
        rintro e w10 ⟨rfl, rfl⟩
        go_wp2
        go_ret
        have y6 := hb6.size
        have y7 := k7.size
        have y8 := k8.size
        have hEw : w.heap.size ≤ E := by have := HE.out; omega
        exact ⟨rfl, below_keep (below_keep (below_keep hb6 (k7.mono y6) hEw) (k8.mono (by omega)) hEw) (k9.mono (by omega)) hEw⟩
    · obtain rfl : i = m := by omega
      by_cases g1 : i < len
      · have g2 : decide ((i : Int) < 20) = false := by simp; omega
        clear hl3
        go_wp2
        go_ret
        exact ⟨rfl, hbel⟩
      · have g2 : decide ((i : Int) < (len : Int)) = false := by simp; omega
        clear hl3
        go_wp2
        go_ret
        exact ⟨rfl, hbel⟩
end Go.Proofs.Ytfhpbjokgijdfaa
