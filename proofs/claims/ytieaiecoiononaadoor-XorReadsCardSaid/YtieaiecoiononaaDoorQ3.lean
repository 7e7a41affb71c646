/- The document's bytes of samples, walked; its taker of bits. -/
import Derived.Test.YtieaiecoiononaaDoorQ2
namespace Go.Proofs.YtieaiecoiononaaDoor
open Go.RowKit Go.Lib

set_option maxRecDepth 100000 in
theorem rtext07_any (ao : Option Addr) (cap : Nat) (l : List Xo.Sm) (n : Nat) (w : World) (hn : n = l.length) (hv : Rd w 2 (.slice ao n cap) n (smc l)) (hg : Xo.Good l) :
    Calls Tryd.prog 11 #[.slice ao n cap] w fun e w' => e = .returned (.string (bs (Xo.text l))) ∧ Below w.heap.size w w' := by
  have hl := hg.1
  have hbl := Xo.bitsL_len l hg
  obtain ⟨m, hm⟩ : ∃ m, m = (Xo.bitsL l).length := ⟨_, rfl⟩
  have hm2 : m ≤ 18000 := by omega
  have hn2 : n ≤ 120 := by omega
  have BI := Lib.hid (rbits07_any ao cap l n w hn hv hg)
  have U1 := Lib.hid (fun W => show Calls Tryd.prog 22 #[.int .u64 n] W (fun e w' => e = .returned (.string (bs (Leb.encU l.length))) ∧ Below W.heap.size W w') by rw [hn]; exact ruint_any l.length W (by unfold Leb.two64; omega))
  have U2 := Lib.hid (fun W => show Calls Tryd.prog 22 #[.int .u64 m] W (fun e w' => e = .returned (.string (bs (Leb.encU m))) ∧ Below W.heap.size W w') from ruint_any m W (by unfold Leb.two64; omega))
  have e1 := bs_size_le (Leb.encU l.length) 10 (by have := Leb.encU_len l.length; omega)
  have e2 := bs_size_le (Leb.encU m) 10 (by have := Leb.encU_len m; omega)
  have e3 := bs_size_le (Bt.pack (Xo.bitsL l)) 3000 (by rw [Bt.pack_length, ← hm]; omega)
  have hw1 : IntKind.u64.wrap (n : Int) = (n : Int) := by rw [IntKind.wrap_u64]; omega
  have hw2 : IntKind.u64.wrap (m : Int) = (m : Int) := by rw [IntKind.wrap_u64]; omega
  have HT := Lib.hid (show bs (Leb.encU l.length) ++ bs (Leb.encU m) ++ bs (Bt.pack (Xo.bitsL l)) = bs (Xo.text l) by
    rw [bs_append, bs_append, hm]; rfl)
  have HM := Lib.hid hm
  obtain ⟨P, hP⟩ : ∃ P, P = bs (Bt.pack (Xo.bitsL l)) := ⟨_, rfl⟩
  obtain ⟨A, hA⟩ : ∃ A, A = bs (Leb.encU l.length) := ⟨_, rfl⟩
  obtain ⟨B, hB⟩ : ∃ B, B = bs (Leb.encU m) := ⟨_, rfl⟩
  have U3 := Lib.hid (fun W v (h : Sl W w.heap.size 1 v m (bc (Xo.bitsL l))) => show Calls Tryd.prog 23 #[v] W (fun e w' => e = .returned (.string P) ∧ Below W.heap.size W w') by
    rw [hP]; exact rtext03_any _ _ _ W (by rw [← HM.out]; exact h) (by rw [← HM.out]; omega))
  rw [← hA, ← hB, ← hP] at HT
  rw [← hA] at U1 e1
  rw [← hB] at U2 e2
  rw [← hP] at e3
  have hj1 : ¬ maxLen < A.size + B.size := by unfold maxLen; omega
  have hj2 : ¬ maxLen < (A ++ B).size + P.size := by rw [ByteArray.size_append]; unfold maxLen; omega
  clear hn hbl hm hP hA hB hv hg hl
  go_enter Tryd.func11, Tryd.ntmps11
  go_wp2_with fail
  refine BI.out.mono ?_
  rintro e w1 ⟨v, rfl, hs, hb⟩
  rw [← HM.out] at hs
  have HS := Lib.hid hs
  have z1 := hb.size
  obtain ⟨a1, c1, rfl⟩ := hs.slice
  clear hs
  go_wp2_with fail
  refine (U1.out _).mono ?_
  rintro e w2 ⟨rfl, b2⟩
  have HS2 := Lib.hid (HS.out.on b2)
  have bb2 := hb.trans (b2.mono z1)
  have z2 := bb2.size
  clear b2
  go_wp2_with fail
  refine (U2.out _).mono ?_
  rintro e w3 ⟨rfl, b3⟩
  have HS3 := Lib.hid (HS2.out.on b3)
  have bb3 := bb2.trans (b3.mono z2)
  have z3 := bb3.size
  clear b3
  go_wp2_with fail
  refine (U3.out _ _ HS3.out).mono ?_
  rintro e w4 ⟨rfl, b4⟩
  have bb4 := bb3.trans (b4.mono z3)
  clear b4
  go_wp2_with fail
  go_ret
  exact ⟨by rw [HT.out]; rfl, bb4⟩

/-- So many bits from a place on, as a number; the place behind them. -/
def tkB (l : List Bool) (p n : Nat) : Nat × Nat := if p + n > l.length then (0, l.length + 1) else (Bt.number ((l.drop p).take n), p + n)

set_option maxRecDepth 100000 in
theorem rtake_any (base g off cap : Nat) (l : List Bool) (L p n : Nat) (w : World) (hL : L = l.length) (hs : Sl w base 1 (.slice (some ⟨g, off, none⟩) L cap) L (bc l)) (hp : p ≤ 100000) (hn : n ≤ 64) (hl : L ≤ 100000) :
    Calls Tryd.prog 30 #[.slice (some ⟨g, off, none⟩) L cap, .int .i64 p, .int .i64 n] w fun e w' => e = .returned (.tuple #[.int .u64 (tkB l p n).1, .int .i64 (tkB l p n).2]) ∧ w = w' := by
  by_cases h : p + n > L
  · have he : tkB l p n = (0, L + 1) := by unfold tkB; rw [if_pos (by omega), hL]
    have HE := Lib.hid he
    rw [he]
    clear hs he hL
    have d1 : decide ((L : Int) < (p : Int) + (n : Int)) = true := by simp; omega
    go_enter Tryd.func30, Tryd.ntmps30
    go_wp2_with fail
    go_ret2
    exact ⟨by simp, rfl⟩
  · have hcap : L ≤ cap := by
      rcases hs.2 with ⟨h0, _⟩ | ⟨_, _, _, he, _, _, h1, _⟩
      · cases h0
      · cases he; exact h1
    have he : tkB l p n = (Bt.number ((l.drop p).take n), p + n) := by unfold tkB; rw [if_neg (by omega)]
    have hlen : ((l.drop p).take n).length = n := by rw [List.length_take, List.length_drop]; omega
    obtain ⟨q, hq⟩ : ∃ q, q = p + n := ⟨_, rfl⟩
    obtain ⟨z, hz⟩ : ∃ z, z = Bt.number ((l.drop p).take n) := ⟨_, rfl⟩
    rw [he, ← hq, ← hz]
    have hq2 : q ≤ L := by omega
    have hpq : p ≤ q := by omega
    have hqp : (p : Int) + (n : Int) = (q : Int) := by omega
    have d1 : decide (L < q) = false := by simp; omega
    have NU := Lib.hid (show Calls Tryd.prog 47 #[.slice (some ⟨g, off + p, none⟩) (q - p) (cap - p)] w (fun e w' => e = .returned (.int .u64 z) ∧ w = w') by
      have hf := hs.part p n (cap - p) (by omega) (by omega)
      rw [bc_part] at hf
      rw [show q - p = n by omega, hz]
      have hf2 : Sl w base 1 (.slice (some ⟨g, off + p, none⟩) n (cap - p)) ((l.drop p).take n).length (bc ((l.drop p).take n)) := by rw [hlen]; exact hf
      exact rnumber_any base _ _ w hf2 (by omega))
    by_cases hc : cap = p
    · have h0 : n = 0 := by omega
      have hL0 : L = cap := by omega
      have hz0 : z = 0 := by rw [hz, h0]; simp [Bt.number]
      have NU2 := Lib.hid (show Calls Tryd.prog 47 #[.slice (some ⟨g, off, none⟩) 0 0] w (fun e w' => e = .returned (.int .u64 0) ∧ w = w') by
        have hf : Sl w base 1 (.slice (some ⟨g, off, none⟩) 0 0) ([] : List Bool).length (bc []) := by
          refine ⟨rfl, .inr ⟨g, off, 0, rfl, ?_⟩⟩
          rcases hs.2 with ⟨h0, _⟩ | ⟨g', off', cap', he', hb, hg, _⟩
          · cases h0
          · cases he'
            exact ⟨hb, hg, Nat.le_refl _, by unfold maxLen; omega, fun j hj => by omega, fun j hj => by simp at hj⟩
        exact rnumber_any base _ [] w hf (by simp))
      obtain rfl : q = p := by omega
      subst hc
      rw [hz0]
      clear he hlen hz hq hs hL h hqp hq2 hpq NU
      go_enter Tryd.func30, Tryd.ntmps30
      go_wp2_with fail
      refine NU2.out.mono ?_
      rintro e _ ⟨rfl, rfl⟩
      go_wp2_with fail
      go_ret2
      exact ⟨rfl, rfl⟩
    · have HC := Lib.hid hc
      clear he hlen hz hq hs hL h
      go_enter Tryd.func30, Tryd.ntmps30
      go_wp2_with fail
      refine NU.out.mono ?_
      rintro e _ ⟨rfl, rfl⟩
      go_wp2_with fail
      go_ret2
      exact ⟨rfl, rfl⟩
end Go.Proofs.YtieaiecoiononaaDoor
