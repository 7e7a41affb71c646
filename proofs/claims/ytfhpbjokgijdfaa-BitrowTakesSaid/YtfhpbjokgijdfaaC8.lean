/- The statements BitrowWidth and BitrowSplit, walked. -/
import Derived.Test.YtfhpbjokgijdfaaC7
namespace Go.Proofs.Ytfhpbjokgijdfaa
open Go.RowKit Go.Lib

theorem len_top : ∀ (n v : Nat), Lib.bitLen v = n → v ≠ 0 → v < 2 ^ 64 → 1 ≤ n ∧ v / 2 ^ (n - 1) = 1
  | 0, v, h, h0, hv => by
    have := Lib.bitLen_half v h0 hv
    omega
  | 1, v, h, h0, hv => by
    have h1 := Lib.bitLen_half v h0 hv
    refine ⟨Nat.le_refl _, ?_⟩
    by_cases h2 : v / 2 = 0
    · simp; omega
    · have := Lib.bitLen_half (v / 2) h2 (by omega)
      omega
  | n + 2, v, h, h0, hv => by
    have h1 := Lib.bitLen_half v h0 hv
    have h2 : v / 2 ≠ 0 := by
      intro e
      rw [e, show Lib.bitLen 0 = 0 by decide] at h1
      omega
    have ih := len_top (n + 1) (v / 2) (by omega) h2 (by omega)
    refine ⟨by omega, ?_⟩
    have e : n + 2 - 1 = (n + 1 - 1) + 1 := by omega
    rw [e, Nat.pow_succ, Nat.mul_comm, ← Nat.div_div_eq_div_mul]
    exact ih.2

theorem wid_any (v : Nat) (w : World) (hv : v < 18446744073709551616) :
    Calls Try.prog 6 #[.int .u64 v] w fun e w' => e = .returned (.bool true) ∧ Below w.heap.size w w' := by
  by_cases h0 : v = 0
  · subst h0
    have h := Lib.hid (show Lib.bitLen 0 = 0 by decide)
    go_enter Try.func6, Try.ntmps6
    go_wp2_with fail
    refine (width_any 0 _ hv).mono ?_
    rw [h.out]
    rintro e w1 ⟨rfl, rfl⟩
    go_wp2_with fail
    refine (bawake_any _).mono ?_
    rintro e w1 ⟨rfl, b1⟩
    go_wp2
    go_ret
    exact ⟨rfl, b1⟩
  · obtain ⟨n, hn⟩ : ∃ n, n = Lib.bitLen v := ⟨_, rfl⟩
    obtain ⟨h1, h2⟩ := len_top n v hn.symm h0 hv
    have h64 : n ≤ 64 := by rw [hn]; exact Lib.bitLen_le v 64 (Nat.le_refl _) hv
    have HN := Lib.hid hn
    clear hn
    obtain ⟨m, rfl⟩ : ∃ m, n = m + 1 := ⟨n - 1, by omega⟩
    rw [Nat.add_sub_cancel] at h2
    have h3 : (v : Int) / 2 ^ m = 1 := by
      have : (v : Int) / 2 ^ m = ((v / 2 ^ m : Nat) : Int) := by simp
      rw [this, h2]; rfl
    have hz : ((v : Int) == 0) = false := by simp; omega
    clear h2 h0
    go_enter Try.func6, Try.ntmps6
    go_wp2_with fail
    refine (width_any v _ hv).mono ?_
    rw [← HN.out]
    rintro e w1 ⟨rfl, rfl⟩
    have e1 : ((m + 1 : Nat) : Int) - 1 = (m : Int) := by omega
    go_wp2_with fail
    refine (bawake_any _).mono ?_
    rintro e w1 ⟨rfl, b1⟩
    go_wp2
    go_ret
    exact ⟨rfl, b1⟩

theorem rbits_at (B r : Nat) (v0 : Value) (l : List Bool) (q : Nat) (x n : Int) (w : World) (hx : x = (q : Int)) (h : RowV B r v0 l w) (hl : l.length ≤ 900000) (hv : q < 18446744073709551616) (h0 : -9223372036854775808 ≤ n) (h1 : n ≤ 9223372036854775807) :
    Calls Try.prog 31 #[.pointer (some ⟨r, 0, none⟩), .int .u64 x, .int .i64 n] w fun e w' => e = .returned (.tuple #[]) ∧ Wr B r v0 (l ++ Bt.bitsN q (min (max n 0) 64).toNat) w w' := by
  subst hx
  exact rbits_any B r v0 l q n w h hl hv h0 h1

theorem split_bits (v : Nat) (N K : Int) (h : 0 ≤ K) (h1 : K ≤ N) (h2 : N ≤ 64) :
    Bt.bitsN v (min (max N 0) 64).toNat = Bt.bitsN (v / 2 ^ (N - K).toNat) (min (max K 0) 64).toNat ++ Bt.bitsN v (min (max (N - K) 0) 64).toNat := by
  have := Bt.bitsN_split v (min (max K 0) 64).toNat (min (max (N - K) 0) 64).toNat
  rw [show (min (max (N - K) 0) 64).toNat = (N - K).toNat by omega] at this ⊢
  rw [← this]
  congr 1
  omega

theorem RowV.nil {B r : Nat} {w : World} (hlt : r < B) (hB : B ≤ w.heap.size) (c0 : w.cell? ⟨r, 0, none⟩ = some (.slice none 0 0)) (c1 : w.cell? ⟨r, 1, none⟩ = some (.int .i64 0)) (f0 : w.frozen? ⟨r, 0, none⟩ = false) (f1 : w.frozen? ⟨r, 1, none⟩ = false) :
    RowV B r (.slice none 0 0) [] w := ⟨hlt, hB, Sl.nil _ _ _, c0, c1, f0, f1⟩

set_option maxHeartbeats 2000000 in
set_option maxRecDepth 100000 in
theorem split_any (v : Nat) (n k : Int) (w : World) (hv : v < 18446744073709551616) (n0 : -9223372036854775808 ≤ n) (n1 : n ≤ 9223372036854775807) (k0 : -9223372036854775808 ≤ k) (k1 : k ≤ 9223372036854775807) :
    Calls Try.prog 8 #[.int .u64 v, .int .i64 n, .int .i64 k] w fun e w' => e = .returned (.bool true) ∧ Below w.heap.size w w' := by
  have hT := bs_toList
  obtain ⟨S, hS⟩ : ∃ S, S = w.heap.size := ⟨_, rfl⟩
  obtain ⟨W0, hW0⟩ : ∃ W0, W0 = (w.alloc (.cells #[.slice none 0 0, .int .i64 0] 25)).alloc (.cells #[.slice none 0 0, .int .i64 0] 25) := ⟨_, rfl⟩
  have z0 : W0.heap.size = S + 2 := by rw [hW0, hS]; simp
  have b0 : Below w.heap.size w W0 := by rw [hW0]; exact ((Below.refl _ _).alloc (Nat.le_refl _) _).alloc (by simp) _
  have ra := (row_new w 25).below ((Below.refl _ _).alloc (Nat.le_refl _) (.cells #[.slice none 0 0, .int .i64 0] 25))
  have rb := row_new (w.alloc (.cells #[.slice none 0 0, .int .i64 0] 25)) 25
  rw [← hW0] at ra rb
  rw [World.size_alloc] at rb
  rw [← hS] at ra rb b0
  have RA : RowV (S + 2) S (.slice none 0 0) [] W0 := RowV.nil (by omega) (by omega) ra.c0 ra.len ra.f0 ra.f1
  have RB := rb
  clear ra rb
  have HW := Lib.hid hW0
  have HS := Lib.hid hS
  go_enter Try.func8, Try.ntmps8
  go_wp2_with fail
  obtain ⟨N, hN⟩ : ∃ N, N = min (max n 0) 64 := ⟨_, rfl⟩
  obtain ⟨K, hK⟩ : ∃ K, K = min (max k 0) N := ⟨_, rfl⟩
  rw [← HW.out, ← HS.out, ← hN, ← hK]
  have bN : 0 ≤ N ∧ N ≤ 64 := by omega
  have bK : 0 ≤ K ∧ K ≤ N := by omega
  have HSp := Lib.hid (split_bits v N K bK.1 bK.2 bN.2)
  have hq : v / 2 ^ (N - K).toNat < 18446744073709551616 := Nat.lt_of_le_of_lt (Nat.div_le_self _ _) hv
  obtain ⟨bN1, bN2⟩ := bN
  obtain ⟨bK1, bK2⟩ := bK
  have HN := Lib.hid hN; have HK := Lib.hid hK
  clear hN hK hW0 hS
  refine (rbits_any (S + 2) S _ [] v N _ RA (by simp) hv (by omega) (by omega)).mono ?_
  rintro e w1 ⟨rfl, va, ra, ca⟩
  have z1 := ca.keep.size
  have kb0 := ca.keep.cell (p := ⟨S + 1, 0, none⟩) (by simp) (by simp)
  have kb1 := ca.keep.cell (p := ⟨S + 1, 1, none⟩) (by simp) (by simp)
  have kf0 := ca.keep.frozen (p := ⟨S + 1, 0, none⟩) (by simp) (by simp)
  have kf1 := ca.keep.frozen (p := ⟨S + 1, 1, none⟩) (by simp) (by simp)
  have rb1 : RowV w1.heap.size (S + 1) (.slice none 0 0) [] w1 := RowV.nil (by omega) (Nat.le_refl _) (kb0.trans RB.c0) (kb1.trans RB.len) (kf0.trans RB.f0) (kf1.trans RB.f1)
  clear kb0 kb1 kf0 kf1
  rw [List.nil_append] at ra
  go_wp2_with fail
  have hx : (v : Int) / 2 ^ (N - K).toNat = ((v / 2 ^ (N - K).toNat : Nat) : Int) := by simp
  obtain ⟨q, hqv⟩ : ∃ q, q = v / 2 ^ (N - K).toNat := ⟨_, rfl⟩
  rw [← hqv] at hx hq HSp
  rw [hx]
  clear hx hqv
  refine (rbits_any w1.heap.size (S + 1) _ [] q K _ rb1 (by simp) hq (by omega) (by omega)).mono ?_
  rintro e w2 ⟨rfl, vb, rb2, cb2⟩
  go_wp2_with fail
  refine (rbits_any w1.heap.size (S + 1) _ _ v _ _ rb2 (by rw [List.nil_append, Bt.bitsN_length]; omega) hv (by omega) (by omega)).mono ?_
  rintro e w3 ⟨rfl, vc, rb3, cb3⟩
  rw [List.nil_append, ← HSp.out] at rb3
  have C := (cb2.trans cb3).keep
  have ra3 : RowV (S + 2) S va (Bt.bitsN v (min (max N 0) 64).toNat) w3 :=
    ra.other C (Nat.le_refl _) (by omega) (fun b hb => by have := (ra.bytes.lt b hb).1; omega)
  have hb3 : Below S w w3 := below_keep (below_keep b0 (ca.keep.mono (by omega)) (Nat.le_refl _)) (C.mono (by omega)) (by omega)
  clear ra rb1 rb2 cb2 cb3 C ca
  go_wp2_with fail
  refine (bawake_any _).mono ?_
  rintro e w4 ⟨rfl, b4⟩
  have ra4 := ra3.below b4
  have rb4 := rb3.below b4
  have z3 := hb3.size
  go_wp2_with fail
  refine (rtext_any _ _ _ _ _ ra4).mono ?_
  rintro e w5 ⟨rfl, rfl⟩
  go_wp2_with fail
  refine (rtext_any _ _ _ _ _ rb4).mono ?_
  rintro e w5 ⟨rfl, rfl⟩
  go_wp2_with fail
  refine (rlen_any _ _ _ _ _ ra4).mono ?_
  rintro e w5 ⟨rfl, rfl⟩
  go_wp2_with fail
  refine (rlen_any _ _ _ _ _ rb4).mono ?_
  rintro e w5 ⟨rfl, rfl⟩
  go_wp2
  go_ret
  refine ⟨rfl, ?_⟩
  rw [HS.out] at hb3
  exact below_step hb3 b4
end Go.Proofs.Ytfhpbjokgijdfaa
