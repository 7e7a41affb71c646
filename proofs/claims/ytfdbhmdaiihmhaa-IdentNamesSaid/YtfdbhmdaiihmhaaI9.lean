/- Layer 8: the statements IdentOne and IdentBack, walked. -/
import Derived.Test.YtfdbhmdaiihmhaaI8
import Derived.Laws.BitsLemmas
namespace Go.Proofs.Ytfdbhmdaiihmhaa
open Go.RowKit Go.Lib

theorem pars_some {l : List UInt8} {a b : Nat} (h : pars l = some (a, b)) : a < 1099511627776 ∧ b < 1099511627776 ∧ l = Idn.nam a b := by
  unfold pars at h
  split at h
  · rename_i hl
    cases h1 : Idn.num (l.take 8) 0 with
    | none => rw [h1] at h; simp [par2] at h
    | some x =>
      cases h2 : Idn.num (l.drop 8) 0 with
      | none => rw [h1, h2] at h; simp [par2] at h
      | some y =>
        rw [h1, h2] at h
        simp only [par2, Option.some.injEq, Prod.mk.injEq] at h
        obtain ⟨rfl, rfl⟩ := h
        obtain ⟨k1, k2⟩ := Idn.num_some h1
        obtain ⟨k3, k4⟩ := Idn.num_some h2
        have e1 : (l.take 8).length = 8 := by simp; omega
        have e2 : (l.drop 8).length = 8 := by simp; omega
        rw [e1] at k1 k2
        rw [e2] at k3 k4
        refine ⟨Nat.lt_of_lt_of_le k1 (by decide), Nat.lt_of_lt_of_le k3 (by decide), ?_⟩
        rw [Idn.nam, k2, k4, List.take_append_drop]
  · cases h

set_option maxHeartbeats 2000000 in
set_option maxRecDepth 100000 in
theorem one_id (s : ByteArray) (w : World) :
    Calls Try.prog 8 #[.string s] w fun e w' => e = .returned (.bool true) ∧ Below w.heap.size w w' := by
  have hT := bs_toList
  obtain ⟨l, hl, hl30⟩ := cut_list s 30
  have HL := Lib.hid hl
  have P := Lib.hid (fun W => show Calls Try.prog 24 #[.string (bs l)] W (fun e w' => e = .returned (parsV (pars l)) ∧ W = w') from parse_any (bs l) W)
  obtain ⟨p, hp⟩ : ∃ p, p = pars l := ⟨_, rfl⟩
  rw [← hp] at P
  clear hl
  cases p with
  | none =>
    unfold parsV at P
    clear hp
    go_enter Try.func8, Try.ntmps8
    go_wp2_with (go_at_call 21; refine (cut_is s l 30 30 rfl HL.out _).mono ?_; rintro e w1 ⟨rfl, rfl⟩)
    with_reducible refine (P.out _).mono ?_
    rintro e w1 ⟨rfl, rfl⟩
    go_wp2_with fail
    refine (iawake_any _).mono ?_
    rintro e w3 ⟨rfl, b3⟩
    go_wp2_with fail
    refine (iawake_any _).mono ?_
    rintro e w4 ⟨rfl, b4⟩
    go_wp2
    go_ret
    exact ⟨rfl, below_step b3 b4⟩
  | some ab =>
    obtain ⟨a, b⟩ := ab
    obtain ⟨ha, hb, hn⟩ := pars_some hp.symm
    have M := Lib.hid (fun W => show Calls Try.prog 22 #[.int .i64 a, .int .i64 b] W (fun e w' => e = .returned (.tuple #[.string (bs l), .int .i64 0]) ∧ Below W.heap.size W w') by rw [hn]; exact make_ok a b W ha hb)
    unfold parsV at P
    clear hp hn
    go_enter Try.func8, Try.ntmps8
    go_wp2_with (go_at_call 21; refine (cut_is s l 30 30 rfl HL.out _).mono ?_; rintro e w1 ⟨rfl, rfl⟩)
    with_reducible refine (P.out _).mono ?_
    rintro e w1 ⟨rfl, rfl⟩
    go_wp2_with fail
    refine (iawake_any _).mono ?_
    rintro e w3 ⟨rfl, b3⟩
    go_wp2_with fail
    with_reducible refine (M.out _).mono ?_
    rintro e w4 ⟨rfl, b4⟩
    go_wp2
    go_ret
    exact ⟨rfl, below_step b3 b4⟩

theorem pars_nam (a b : Nat) (ha : a < 1099511627776) (hb : b < 1099511627776) : pars (Idn.nam a b) = some (a, b) := by
  unfold pars
  rw [if_pos (Idn.nam_len a b)]
  unfold Idn.nam
  rw [List.take_left' (Idn.dg_len 8 a), List.drop_left' (Idn.dg_len 8 a), Idn.num_dg 8 a (Nat.lt_of_lt_of_le ha (by decide)), Idn.num_dg 8 b (Nat.lt_of_lt_of_le hb (by decide))]
  rfl

theorem i64_and3 (n : Int) : bits .and .i64 n 3 = n % 4 := by
  have h3 : (BitVec.ofInt 64 3).toNat = 2 ^ 2 - 1 := by decide
  have key : (BitVec.ofInt 64 n &&& BitVec.ofInt 64 3).toNat = (n % ((2 ^ 64 : Nat) : Int)).toNat % 2 ^ 2 := by
    rw [BitVec.toNat_and, BitVec.toNat_ofInt, h3, Nat.and_two_pow_sub_one_eq_mod]
  show IntKind.i64.wrap ((BitVec.ofInt 64 n &&& BitVec.ofInt 64 3).toNat : Nat) = n % 4
  rw [key, IntKind.wrap_i64]
  omega

theorem sg_ne (d : Nat) (h : d < 32) : Idn.sg d ≠ 47 := by
  have : ∀ d : Fin 32, Idn.sg d.val ≠ 47 := by decide
  exact this ⟨d, h⟩
theorem dg_ne : ∀ k v, (47 : UInt8) ∉ Idn.dg k v
  | 0, _ => by simp [Idn.dg]
  | k + 1, v => by
    rw [Idn.dg, List.mem_append, List.mem_singleton]
    rintro (h | h)
    · exact dg_ne k _ h
    · exact sg_ne _ (Nat.mod_lt _ (by decide)) h.symm
theorem nam_ne (a b : Nat) : (47 : UInt8) ∉ Idn.nam a b := by
  rw [Idn.nam, List.mem_append]
  rintro (h | h)
  · exact dg_ne _ _ h
  · exact dg_ne _ _ h
theorem index_app (l r : List UInt8) (c : UInt8) (h : c ∉ l) : Lib.indexByte (l ++ c :: r) c = l.length := by
  induction l with
  | nil => simp [Lib.indexByte]
  | cons x l ih =>
    have hx : x ≠ c := fun e => h (by simp [e])
    have hl : c ∉ l := fun e => h (by simp [e])
    rw [List.cons_append, Lib.indexByte, ih hl]
    have h1 : (x == c) = false := by simpa using hx
    have h2 : ((l.length : Int) == -1) = false := by
      rw [beq_eq_false_iff_ne]; omega
    simp [h1, h2]
theorem cut_app (l r : List UInt8) (c : UInt8) (h : c ∉ l) : cutL (l ++ c :: r) c = some (l, r) := by
  unfold cutL
  rw [if_pos (by simp), index_app l r c h, Int.toNat_natCast, List.take_left' rfl]
  rw [show l ++ c :: r = (l ++ [c]) ++ r by simp, List.drop_left' (by simp)]
theorem spl_app (a b : Nat) (p : List UInt8) (ha : a < 1099511627776) (hb : b < 1099511627776) (hp : isp p = true) : spl (Idn.nam a b ++ 47 :: p) = some (Idn.nam a b, p) := by
  unfold spl
  rw [cut_app _ _ _ (nam_ne a b)]
  simp [pars_nam a b ha hb, hp]

set_option maxHeartbeats 4000000 in
set_option maxRecDepth 100000 in
theorem back_id (t s k : Int) (w : World) :
    Calls Try.prog 6 #[.int .i64 t, .int .i64 s, .int .i64 k] w fun e w' => e = .returned (.bool true) ∧ Below w.heap.size w w' := by
  have hT := bs_toList
  have M1 := Lib.hid (fun W => mk2_any t s W)
  obtain ⟨p, hp⟩ : ∃ p, p = mk2 t s := ⟨_, rfl⟩
  rw [← hp] at M1
  cases p with
  | none =>
    unfold mk2V at M1
    clear hp
    go_enter Try.func6, Try.ntmps6
    go_wp2_with fail
    with_reducible refine (M1.out _).mono ?_
    rintro e w1 ⟨rfl, b1⟩
    go_wp2_with fail
    refine (iawake_any _).mono ?_
    rintro e w3 ⟨rfl, b3⟩
    go_wp2_with fail
    refine (iawake_any _).mono ?_
    rintro e w4 ⟨rfl, b4⟩
    go_wp2
    go_ret
    exact ⟨rfl, below_step (below_step b1 b3) b4⟩
  | some l =>
    unfold mk2V at M1
    obtain ⟨hb, hn⟩ := mk2_some hp.symm
    obtain ⟨t, rfl⟩ := Int.eq_ofNat_of_zero_le hb.1
    obtain ⟨s, rfl⟩ := Int.eq_ofNat_of_zero_le hb.2.2.1
    rw [Int.toNat_natCast, Int.toNat_natCast] at hn
    have P := Lib.hid (fun W => show Calls Try.prog 24 #[.string (bs l)] W (fun e w' => e = .returned (.tuple #[.int .i64 t, .int .i64 s, .int .i64 0]) ∧ W = w') by
      have := parse_any (bs l) W
      rw [bs_list, hn, pars_nam t s (by omega) (by omega)] at this
      rw [hn]
      exact this)
    have HN := Lib.hid hn
    have hl16 : l.length = 16 := by rw [hn, Idn.nam_len]
    have SP := Lib.hid (fun p (hp : isp p = true) W => show Calls Try.prog 26 #[.string (bs (l ++ 47 :: p))] W (fun e w' => e = .returned (.tuple #[.string (bs l), .string (bs p), .bool true]) ∧ ∃ n, w' = W.drewN n) by
      have hx : p.length ≤ 6 := by
        unfold isp at hp
        simp only [Bool.or_eq_true, beq_iff_eq] at hp
        rcases hp with ((rfl | rfl) | rfl) | rfl <;> decide
      have := split_id (bs (l ++ 47 :: p)) W (by rw [bs_size]; simp; omega)
      rw [bs_list] at this
      rw [show spl (l ++ 47 :: p) = some (l, p) by rw [hn]; exact spl_app t s p (by omega) (by omega) hp] at this
      exact this)
    have OB := Lib.hid (fun p (hp : isp p = true) W => object_any l p W (by
      have hx : p.length ≤ 6 := by
        unfold isp at hp
        simp only [Bool.or_eq_true, beq_iff_eq] at hp
        rcases hp with ((rfl | rfl) | rfl) | rfl <;> decide
      omega))
    have hk := i64_and3 k
    have hz := Lib.hid (show (bs l).size = 16 by rw [bs_size, hl16])
    have k1 : ByteArray.mk #[99, 104, 117, 110, 107, 115] = bs [99, 104, 117, 110, 107, 115] := rfl
    have k2 : ByteArray.mk #[105, 110, 100, 101, 120] = bs [105, 110, 100, 101, 120] := rfl
    have k3 : ByteArray.mk #[109, 101, 116, 97] = bs [109, 101, 116, 97] := rfl
    have k4 : ByteArray.mk #[109, 97, 114, 107] = bs [109, 97, 114, 107] := rfl
    clear hp hn hl16
    have h4 : k % 4 = 0 ∨ k % 4 = 1 ∨ k % 4 = 2 ∨ k % 4 = 3 := by omega
    have I1 := Lib.hid (show isp [99, 104, 117, 110, 107, 115] = true from rfl)
    have I2 := Lib.hid (show isp [105, 110, 100, 101, 120] = true from rfl)
    have I3 := Lib.hid (show isp [109, 101, 116, 97] = true from rfl)
    have I4 := Lib.hid (show isp [109, 97, 114, 107] = true from rfl)
    rcases h4 with h4 | h4 | h4 | h4 <;> rw [h4] at hk
    · have IX := I1
      clear h4 I1 I2 I3 I4
      go_enter Try.func6, Try.ntmps6
      go_wp2_with fail
      with_reducible refine (M1.out _).mono ?_
      rintro e w1 ⟨rfl, b1⟩
      go_wp2_with fail
      refine (iawake_any _).mono ?_
      rintro e w3 ⟨rfl, b3⟩
      go_wp2_with fail
      with_reducible refine (P.out _).mono ?_
      rintro e w4 ⟨rfl, rfl⟩
      go_wp2_with fail
      refine (OB.out _ IX.out _).mono ?_
      rintro e w5 ⟨rfl, rfl⟩
      go_wp2_with fail
      refine (SP.out _ IX.out _).mono ?_
      rintro e w5 ⟨rfl, n, rfl⟩
      have hz' := hz.out
      go_wp2
      go_ret
      exact ⟨rfl, below_draw ((below_step b1 b3).alloc (Nat.le_trans b1.size b3.size) _) n⟩
    · have IX := I2
      clear h4 I1 I2 I3 I4
      go_enter Try.func6, Try.ntmps6
      go_wp2_with fail
      with_reducible refine (M1.out _).mono ?_
      rintro e w1 ⟨rfl, b1⟩
      go_wp2_with fail
      refine (iawake_any _).mono ?_
      rintro e w3 ⟨rfl, b3⟩
      go_wp2_with fail
      with_reducible refine (P.out _).mono ?_
      rintro e w4 ⟨rfl, rfl⟩
      go_wp2_with fail
      refine (OB.out _ IX.out _).mono ?_
      rintro e w5 ⟨rfl, rfl⟩
      go_wp2_with fail
      refine (SP.out _ IX.out _).mono ?_
      rintro e w5 ⟨rfl, n, rfl⟩
      have hz' := hz.out
      go_wp2
      go_ret
      exact ⟨rfl, below_draw ((below_step b1 b3).alloc (Nat.le_trans b1.size b3.size) _) n⟩
    · have IX := I3
      clear h4 I1 I2 I3 I4
      go_enter Try.func6, Try.ntmps6
      go_wp2_with fail
      with_reducible refine (M1.out _).mono ?_
      rintro e w1 ⟨rfl, b1⟩
      go_wp2_with fail
      refine (iawake_any _).mono ?_
      rintro e w3 ⟨rfl, b3⟩
      go_wp2_with fail
      with_reducible refine (P.out _).mono ?_
      rintro e w4 ⟨rfl, rfl⟩
      go_wp2_with fail
      refine (OB.out _ IX.out _).mono ?_
      rintro e w5 ⟨rfl, rfl⟩
      go_wp2_with fail
      refine (SP.out _ IX.out _).mono ?_
      rintro e w5 ⟨rfl, n, rfl⟩
      have hz' := hz.out
      go_wp2
      go_ret
      exact ⟨rfl, below_draw ((below_step b1 b3).alloc (Nat.le_trans b1.size b3.size) _) n⟩
    · have IX := I4
      clear h4 I1 I2 I3 I4
      go_enter Try.func6, Try.ntmps6
      go_wp2_with fail
      with_reducible refine (M1.out _).mono ?_
      rintro e w1 ⟨rfl, b1⟩
      go_wp2_with fail
      refine (iawake_any _).mono ?_
      rintro e w3 ⟨rfl, b3⟩
      go_wp2_with fail
      with_reducible refine (P.out _).mono ?_
      rintro e w4 ⟨rfl, rfl⟩
      go_wp2_with fail
      refine (OB.out _ IX.out _).mono ?_
      rintro e w5 ⟨rfl, rfl⟩
      go_wp2_with fail
      refine (SP.out _ IX.out _).mono ?_
      rintro e w5 ⟨rfl, n, rfl⟩
      have hz' := hz.out
      go_wp2
      go_ret
      exact ⟨rfl, below_draw ((below_step b1 b3).alloc (Nat.le_trans b1.size b3.size) _) n⟩
end Go.Proofs.Ytfdbhmdaiihmhaa
