/- Layer 3's eyes, walked. -/
import Derived.Test.YtajkleknjjpldaaDoorMC2
namespace Go.Proofs.YtajkleknjjpldaaDoor
open Go.RowKit Go.Lib

/-- An eye lies in block e: over the first n bits of s; so many are taken; its error. -/
structure EyeAt (e : Nat) (s : List UInt8) (p n er : Nat) (w : World) : Prop where
  lt : e < w.heap.size
  c0 : w.cell? ⟨e, 0, none⟩ = some (.string (bs s))
  c1 : w.cell? ⟨e, 1, none⟩ = some (.int .i64 p)
  c2 : w.cell? ⟨e, 2, none⟩ = some (.int .i64 n)
  c3 : w.cell? ⟨e, 3, none⟩ = some (.int .i64 er)
  f1 : w.frozen? ⟨e, 1, none⟩ = false
  f3 : w.frozen? ⟨e, 3, none⟩ = false
  hp : p ≤ n
  hn : n ≤ 8 * s.length
  hs : s.length ≤ 1000000

theorem EyeAt.drewN {e p n er : Nat} {s : List UInt8} {w : World} (h : EyeAt e s p n er w) (m : Nat) : EyeAt e s p n er (w.drewN m) := ⟨h.lt, h.c0, h.c1, h.c2, h.c3, h.f1, h.f3, h.hp, h.hn, h.hs⟩
theorem EyeAt.drew {e p n er : Nat} {s : List UInt8} {w : World} (h : EyeAt e s p n er w) : EyeAt e s p n er w.drew := ⟨h.lt, h.c0, h.c1, h.c2, h.c3, h.f1, h.f3, h.hp, h.hn, h.hs⟩
theorem EyeAt.keep {e p n er B r : Nat} {s : List UInt8} {w w' : World} (h : EyeAt e s p n er w) (k : Keep B r w w') (he : e < B) (hr : e ≠ r) : EyeAt e s p n er w' :=
  ⟨Nat.lt_of_lt_of_le h.lt k.size, (k.cell he hr).trans h.c0, (k.cell he hr).trans h.c1, (k.cell he hr).trans h.c2, (k.cell he hr).trans h.c3, (k.frozen he hr).trans h.f1, (k.frozen he hr).trans h.f3, h.hp, h.hn, h.hs⟩
theorem EyeAt.below {e p n er B : Nat} {s : List UInt8} {w w' : World} (h : EyeAt e s p n er w) (k : Below B w w') (he : e < B) : EyeAt e s p n er w' :=
  ⟨Nat.lt_of_lt_of_le h.lt k.size, (k.cell he).trans h.c0, (k.cell he).trans h.c1, (k.cell he).trans h.c2, (k.cell he).trans h.c3, (k.frozen he).trans h.f1, (k.frozen he).trans h.f3, h.hp, h.hn, h.hs⟩
theorem EyeAt.err {e p n er : Nat} {s : List UInt8} {w : World} (h : EyeAt e s p n er w) (x : Nat) : EyeAt e s p n x (w.setCell ⟨e, 3, none⟩ (.int .i64 x)) := by
  refine ⟨by simpa [World.setCell] using h.lt, ?_, ?_, ?_, cell_setCell_same _ _ _ _ (by rw [h.c3]; rfl), ?_, ?_, h.hp, h.hn, h.hs⟩
  · rw [cell_setCell_other _ _ _ _ _ (.inr (by simp))]; exact h.c0
  · rw [cell_setCell_other _ _ _ _ _ (.inr (by simp))]; exact h.c1
  · rw [cell_setCell_other _ _ _ _ _ (.inr (by simp))]; exact h.c2
  · rw [frozen_setCell]; exact h.f1
  · rw [frozen_setCell]; exact h.f3
theorem EyeAt.step {e p n er : Nat} {s : List UInt8} {w : World} (h : EyeAt e s p n er w) (q : Nat) (x : Int) (hx : x = (q : Int)) (hq : q ≤ n) : EyeAt e s q n er (w.setCell ⟨e, 1, none⟩ (.int .i64 x)) := by
  subst hx
  refine ⟨by simpa [World.setCell] using h.lt, ?_, cell_setCell_same _ _ _ _ (by rw [h.c1]; rfl), ?_, ?_, ?_, ?_, hq, h.hn, h.hs⟩
  · rw [cell_setCell_other _ _ _ _ _ (.inr (by simp))]; exact h.c0
  · rw [cell_setCell_other _ _ _ _ _ (.inr (by simp))]; exact h.c2
  · rw [cell_setCell_other _ _ _ _ _ (.inr (by simp))]; exact h.c3
  · rw [frozen_setCell]; exact h.f1
  · rw [frozen_setCell]; exact h.f3

theorem eye_new (s : List UInt8) (S : ByteArray) (m : Nat) (x : Int) (t : TypeId) (w : World) (hS : S = bs s) (hx : x = (m : Int)) (hm : m ≤ 8 * s.length) (hs : s.length ≤ 1000000) :
    EyeAt w.heap.size s 0 m 0 (w.alloc (.cells #[.string S, .int .i64 0, .int .i64 x, .int .i64 0] t)) := by
  subst hS; subst hx
  have hblk := heap_alloc_new w (.cells #[.string (bs s), .int .i64 0, .int .i64 m, .int .i64 0] t)
  refine ⟨by simp, ?_, ?_, ?_, ?_, ?_, ?_, Nat.zero_le _, hm, hs⟩
  · rw [cell_of_row _ _ 0 _ _ _ hblk]; rfl
  · rw [cell_of_row _ _ 1 _ _ _ hblk]; rfl
  · rw [cell_of_row _ _ 2 _ _ _ hblk]; rfl
  · rw [cell_of_row _ _ 3 _ _ _ hblk]; rfl
  · simp only [World.frozen?, hblk]; rfl
  · simp only [World.frozen?, hblk]; rfl

theorem over_any (s : List UInt8) (n : Int) (w : World) (hs : s.length ≤ 1000000) (h0 : -9223372036854775808 ≤ n) (h1 : n ≤ 9223372036854775807) :
    Calls Tryd.prog 47 #[.string (bs s), .int .i64 n] w fun e w' => e = .returned (.pointer (some ⟨w.heap.size, 0, none⟩)) ∧ EyeAt w.heap.size s 0 (min (max n 0).toNat (8 * s.length)) 0 w' ∧ Below w.heap.size w w' := by
  obtain ⟨m, hm⟩ : ∃ m, m = min (max n 0).toNat (8 * s.length) := ⟨_, rfl⟩
  rw [← hm]
  have HM := Lib.hid hm; clear hm
  have hz := bs_size s
  obtain ⟨S, hS⟩ : ∃ S, S = bs s := ⟨_, rfl⟩
  rw [← hS] at hz ⊢
  have HS := Lib.hid hS; clear hS
  have hz' : S.size ≤ 1000000 := by omega
  go_enter Tryd.func47, Tryd.ntmps47
  go_wp2
  all_goals
    go_ret
    have := HM.out
    exact ⟨rfl, eye_new s _ _ _ _ _ HS.out (by omega) (by omega) hs, (Below.refl _ _).alloc (Nat.le_refl _) _⟩

theorem left_any (e p n er : Nat) (s : List UInt8) (w : World) (h : EyeAt e s p n er w) :
    Calls Tryd.prog 87 #[.pointer (some ⟨e, 0, none⟩)] w fun x w' => x = .returned (.int .i64 ((n : Int) - p)) ∧ ∃ m, w' = w.drewN m := by
  obtain ⟨c1, c2⟩ := And.intro h.c1 h.c2
  obtain ⟨hp, hn⟩ := And.intro h.hp h.hn
  have hs := h.hs
  go_enter Tryd.func87, Tryd.ntmps87
  go_wp2
  go_quiet (fail)
  go_wp2
  go_ret
  exact ⟨rfl, _, rfl⟩

theorem err_any (e p n er : Nat) (s : List UInt8) (w : World) (h : EyeAt e s p n er w) :
    Calls Tryd.prog 66 #[.pointer (some ⟨e, 0, none⟩)] w fun x w' => x = .returned (.int .i64 er) ∧ w = w' := by
  have c3 := h.c3
  go_enter Tryd.func66, Tryd.ntmps66
  go_wp2
  go_ret
  exact ⟨rfl, rfl⟩

theorem has_ok (e p n : Nat) (k : Int) (s : List UInt8) (w : World) (h : EyeAt e s p n 0 w) (hk : k ≤ (n : Int) - p) :
    Calls Tryd.prog 82 #[.pointer (some ⟨e, 0, none⟩), .int .i64 k] w fun x w' => x = .returned (.bool true) ∧ ∃ m, w' = w.drewN m := by
  have c3 := h.c3
  obtain ⟨hp, hn⟩ := And.intro h.hp h.hn
  have hs := h.hs
  go_enter Tryd.func82, Tryd.ntmps82
  go_wp2_with (go_at_call 87; refine (left_any e p n 0 s _ h).mono ?_; rintro x w1 ⟨rfl, m, rfl⟩)
  go_ret
  exact ⟨rfl, _, rfl⟩

theorem has_bad (e p n er : Nat) (k : Int) (s : List UInt8) (w : World) (h : EyeAt e s p n er w) (hk : (n : Int) - p < k ∨ er = 2) :
    Calls Tryd.prog 82 #[.pointer (some ⟨e, 0, none⟩), .int .i64 k] w fun x w' => x = .returned (.bool false) ∧ EyeAt e s p n 2 w' ∧ Keep w.heap.size e w w' := by
  have c3 := h.c3
  have f3 := h.f3
  obtain ⟨hp, hn⟩ := And.intro h.hp h.hn
  have hs := h.hs
  by_cases hlt : (n : Int) - p < k
  · clear hk
    go_enter Tryd.func82, Tryd.ntmps82
    go_wp2_with (go_at_call 87; refine (left_any e p n er s _ h).mono ?_; rintro x w1 ⟨rfl, m, rfl⟩)
    go_ret
    exact ⟨rfl, (h.drewN _).err 2, ((Keep.refl w.heap.size e w).drewN _).setCell (p := ⟨e, 3, none⟩) (.inr rfl) _⟩
  · obtain rfl : er = 2 := by omega
    clear hk
    go_enter Tryd.func82, Tryd.ntmps82
    go_wp2_with (go_at_call 87; refine (left_any e p n 2 s _ h).mono ?_; rintro x w1 ⟨rfl, m, rfl⟩)
    go_ret
    exact ⟨rfl, h.drewN _, (Keep.refl w.heap.size e w).drewN _⟩

theorem eye_test (s : List UInt8) (p : Nat) (h : p / 8 < (bs s).size) :
    (bits BinOp.and IntKind.u8 (((bs s)[p / 8]'h).toNat : Int) (128 / 2 ^ (p % 8)) != 0) = Bt.bitAt s p := by
  have hx : (bs s)[p / 8]'h = s.getD (p / 8) 0 := by
    have h' : p / 8 < s.length := by rw [bs_size] at h; exact h
    rw [List.getD_eq_getElem?_getD, List.getElem?_eq_getElem h']
    rfl
  rw [hx]
  unfold Bt.bitAt
  generalize s.getD (p / 8) 0 = c
  have h1 := c.toNat_lt
  have h2 : 128 / 2 ^ (p % 8) < 256 := Nat.lt_of_le_of_lt (Nat.div_le_self _ _) (by decide)
  have e := u8_and_nat c.toNat (128 / 2 ^ (p % 8)) h1 h2
  have e2 : bits BinOp.and IntKind.u8 (c.toNat : Int) (128 / 2 ^ (p % 8)) = ((c.toNat &&& (128 / 2 ^ (p % 8)) : Nat) : Int) := by
    rw [← e]; congr 1
  rw [e2]
  have hb := Bt.and_bit c.toNat (p % 8) h1 (by omega)
  cases hz : (c.toNat / 2 ^ (7 - p % 8) % 2 == 1)
  · rw [hb.2 hz]; rfl
  · have : c.toNat &&& (128 / 2 ^ (p % 8)) ≠ 0 := fun h0 => by rw [hb.1 h0] at hz; cases hz
    simp only [bne_iff_ne, ne_eq]
    omega

set_option maxRecDepth 100000 in
theorem ebit_ok (e p n : Nat) (s : List UInt8) (w : World) (h : EyeAt e s p n 0 w) (hlt : p < n) :
    Calls Tryd.prog 83 #[.pointer (some ⟨e, 0, none⟩)] w fun x w' => x = .returned (.bool (Bt.bitAt s p)) ∧ EyeAt e s (p + 1) n 0 w' ∧ Keep w.heap.size e w w' := by
  obtain ⟨c0, c1⟩ := And.intro h.c0 h.c1
  have f1 := h.f1
  obtain ⟨hp, hn⟩ := And.intro h.hp h.hn
  have hs := h.hs
  have hin : p / 8 < (bs s).size := by rw [bs_size]; omega
  have HT0 := Lib.hid (eye_test s p hin)
  obtain ⟨b, hb⟩ : ∃ b, b = Bt.bitAt s p := ⟨_, rfl⟩
  rw [← hb]
  have HB := Lib.hid hb
  clear hb
  obtain ⟨S, hS⟩ : ∃ S, S = bs s := ⟨_, rfl⟩
  have hz : S.size = s.length := by rw [hS, bs_size]
  have hz' : S.size ≤ 1000000 := by omega
  rw [← hS] at c0
  have hin' : p / 8 < S.size := by omega
  have HT : Hid ((bits BinOp.and IntKind.u8 ((S[p / 8]'hin').toNat : Int) (128 / 2 ^ (p % 8)) != 0) = b) := by
    subst hS; exact HT0.out.trans HB.out.symm
  clear HT0 hS hz hin
  have i0 : (0 : Int) ≤ (p : Int) / 8 := by omega
  have i1 : ((p : Int) / 8) < (S.size : Int) := by omega
  go_enter Tryd.func83, Tryd.ntmps83
  go_wp2_with (go_at_call 82; refine (has_ok e p n 1 s _ h (by omega)).mono ?_; rintro x w1 ⟨rfl, m, rfl⟩)
  go_region
  go_wp2
  go_ret
  exact ⟨by rw [← HT.out]; rfl, (h.drewN _).step (p + 1) _ (by omega) hlt, ((Keep.refl w.heap.size e w).drewN _).setCell (p := ⟨e, 1, none⟩) (.inr rfl) _⟩

theorem ebit_bad (e p n er : Nat) (s : List UInt8) (w : World) (h : EyeAt e s p n er w) (hbad : p = n ∨ er = 2) :
    Calls Tryd.prog 83 #[.pointer (some ⟨e, 0, none⟩)] w fun x w' => x = .returned (.bool false) ∧ EyeAt e s p n 2 w' ∧ Keep w.heap.size e w w' := by
  have HB := Lib.hid hbad
  clear hbad
  go_enter Tryd.func83, Tryd.ntmps83
  go_wp2_with (go_at_call 82; refine (has_bad e p n er 1 s _ h (by have := HB.out; omega)).mono ?_; rintro x w1 ⟨rfl, h1, k1⟩)
  go_ret
  exact ⟨rfl, h1, k1⟩

/-- The bits that lie ahead: k of them from place p on. -/
def ahead (s : List UInt8) (p k : Nat) : List Bool := (List.range k).map fun j => Bt.bitAt s (p + j)
theorem ahead_length (s : List UInt8) (p k : Nat) : (ahead s p k).length = k := by simp [ahead]
theorem ahead_succ (s : List UInt8) (p k : Nat) : ahead s p (k + 1) = ahead s p k ++ [Bt.bitAt s (p + k)] := by simp [ahead, List.range_succ]

theorem EyeAt.keepAll {e p n er B r : Nat} {s : List UInt8} {w w' : World} (h : EyeAt e s p n er w') (hw : e < w.heap.size) (_k : Keep B r w w') : e < w.heap.size ∧ EyeAt e s p n er w' := ⟨hw, h⟩

theorem shl_or (v : Nat) (b : Bool) (_hv : v < 9223372036854775808) : ((2 * v + Bt.b2n b : Nat) : Int) = if b then bits BinOp.or IntKind.u64 ((v : Int) * 2) 1 else (v : Int) * 2 := by
  cases b
  · simp [Bt.b2n]; omega
  · have e : (v : Int) * 2 = ((2 * v : Nat) : Int) := by omega
    rw [if_pos rfl, e, show (1 : Int) = ((1 : Nat) : Int) from rfl, bits_or_u64_nat _ 1 (by omega) (by decide)]
    congr 1
    have := Nat.two_pow_add_eq_or_of_lt (i := 1) (b := 1) (by decide) v
    simp [Bt.b2n] at this ⊢
    omega

set_option maxRecDepth 100000 in
theorem ebits_ok (e p n : Nat) (k : Int) (s : List UInt8) (w : World) (h : EyeAt e s p n 0 w) (h0 : -9223372036854775808 ≤ k) (h1 : k ≤ 9223372036854775807) (hk : p + (min (max k 0) 64).toNat ≤ n) :
    Calls Tryd.prog 75 #[.pointer (some ⟨e, 0, none⟩), .int .i64 k] w fun x w' => x = .returned (.int .u64 (Bt.number (ahead s p (min (max k 0) 64).toNat) : Nat)) ∧ EyeAt e s (p + (min (max k 0) 64).toNat) n 0 w' ∧ Keep w.heap.size e w w' := by
  obtain ⟨m, hm⟩ : ∃ m, m = (min (max k 0) 64).toNat := ⟨_, rfl⟩
  have hm64 : m ≤ 64 := by omega
  have HK := Lib.hid (show min (max k 0) 64 = (m : Int) by omega)
  rw [← hm] at hk ⊢
  clear hm
  go_enter Tryd.func75, Tryd.ntmps75
  go_wp2_with (first
    | (go_at_call 55; refine (count_any k _ h0 h1).mono ?_; rw [HK.out]; rintro x w1 ⟨rfl, rfl⟩)
    | (go_at_call 82; refine (has_ok e p n m s _ h (by omega)).mono ?_; rintro x w1 ⟨rfl, q, rfl⟩))
  go_loopw [5, 13] (fun v' i' wr => ∃ (i v : Nat), v' = .int .u64 v ∧ i' = .int .i64 i ∧ i ≤ m ∧ Hid (v = Bt.number (ahead s p i)) ∧ EyeAt e s (p + i) n 0 wr ∧ Keep w.heap.size e w wr) (fun _ i' _ => m - (intOf i').toNat)
  case atStart => exact ⟨0, 0, rfl, rfl, by omega, rfl, h.drewN _, (Keep.refl _ _ _).drewN _⟩
  case round =>
    obtain ⟨i, v, rfl, rfl, hi, hv, hE, hkeep⟩ := hrel
    by_cases hlt : i < m
    · have hv63 : v < 9223372036854775808 := by
        have := Bt.number_lt (ahead s p i)
        rw [ahead_length, ← hv.out] at this
        exact Nat.lt_of_lt_of_le this (Nat.pow_le_pow_right (n := 2) (by decide) (show i ≤ 63 by omega))
      have hnum : Bt.number (ahead s p (i + 1)) = 2 * v + Bt.b2n (Bt.bitAt s (p + i)) := by rw [ahead_succ, Bt.number_snoc, ← hv.out]
      have HS := Lib.hid (shl_or v (Bt.bitAt s (p + i)) hv63)
      have HN := Lib.hid hnum
      clear hnum
      have hp := hE.lt
      cases hb : Bt.bitAt s (p + i) <;>
      · rw [hb] at HS HN
        go_wp2_with (go_at_call 83; refine (ebit_ok e (p + i) n s _ hE (by omega)).mono ?_; rw [hb]; rintro x w1 ⟨rfl, h1', k1⟩)
        refine ⟨⟨i + 1, _, ?_, by go_num, by omega, HN.out.symm, h1', hkeep.trans (k1.mono hkeep.size)⟩, by simp [intOf]; omega⟩
        exact congrArg (Value.int IntKind.u64) HS.out.symm
    · have him : i = m := by omega
      subst him
      have HV := Lib.hid hv.out
      go_wp2
      go_ret
      exact ⟨by rw [← HV.out]; rfl, hE, hkeep⟩

theorem ebits_bad (e p n er : Nat) (k : Int) (s : List UInt8) (w : World) (h : EyeAt e s p n er w) (h0 : -9223372036854775808 ≤ k) (h1 : k ≤ 9223372036854775807) (hbad : n < p + (min (max k 0) 64).toNat ∨ er = 2) :
    Calls Tryd.prog 75 #[.pointer (some ⟨e, 0, none⟩), .int .i64 k] w fun x w' => x = .returned (.int .u64 0) ∧ EyeAt e s p n 2 w' ∧ Keep w.heap.size e w w' := by
  have HB := Lib.hid (show (n : Int) - p < min (max k 0) 64 ∨ er = 2 by rcases hbad with hb | hb <;> omega)
  clear hbad
  obtain ⟨m, hm⟩ : ∃ m, m = (min (max k 0) 64).toNat := ⟨_, rfl⟩
  have hm64 : m ≤ 64 := by omega
  have HK := Lib.hid (show min (max k 0) 64 = (m : Int) by omega)
  rw [HK.out] at HB
  clear hm
  go_enter Tryd.func75, Tryd.ntmps75
  go_wp2_with (first
    | (go_at_call 55; refine (count_any k _ h0 h1).mono ?_; rw [HK.out]; rintro x w1 ⟨rfl, rfl⟩)
    | (go_at_call 82; refine (has_bad e p n er m s _ h HB.out).mono ?_; rintro x w1 ⟨rfl, h1', k1⟩))
  go_ret
  exact ⟨rfl, h1', k1⟩

/-- Ones up to a zero, or to most. -/
theorem eunary_ok (e p n k q : Nat) (most : Int) (s : List UInt8) (w : World) (h : EyeAt e s p n 0 w) (h1 : most ≤ 9223372036854775807) (_h0 : -9223372036854775808 ≤ most) (hones : ∀ j, j < k → Bt.bitAt s (p + j) = true) (hkn : p + k ≤ n)
    (hend : (most ≤ (k : Int) ∧ q = p + k ∧ ((k : Int) ≤ most ∨ k = 0)) ∨ ((k : Int) < most ∧ p + k < n ∧ Bt.bitAt s (p + k) = false ∧ q = p + k + 1)) :
    Calls Tryd.prog 84 #[.pointer (some ⟨e, 0, none⟩), .int .i64 most] w fun x w' => x = .returned (.int .i64 k) ∧ EyeAt e s q n 0 w' ∧ Keep w.heap.size e w w' := by
  have hn := h.hn
  have hs := h.hs
  have HO := Lib.hid hones
  have HE := Lib.hid hend
  clear hones hend
  go_enter Tryd.func84, Tryd.ntmps84
  go_wp2_with fail
  go_loopw [5] (fun i' wr => ∃ (i : Nat), i' = .int .i64 i ∧ i ≤ k ∧ EyeAt e s (p + i) n 0 wr ∧ Keep w.heap.size e w wr) (fun i' _ => k - (intOf i').toNat)
  case atStart => exact ⟨0, rfl, by omega, h, Keep.refl _ _ _⟩
  case round =>
    obtain ⟨i, rfl, hi, hE, hkeep⟩ := hrel
    by_cases hlt : i < k
    · have hm : (i : Int) < most := by have := HE.out; omega
      have hb := HO.out i hlt
      have HB := Lib.hid hb
      clear hb
      have hpn : p + i < n := by omega
      go_wp2_with (go_at_call 83; refine (ebit_ok e (p + i) n s _ hE hpn).mono ?_; rw [HB.out]; rintro x w1 ⟨rfl, h1', k1⟩)
      exact ⟨⟨i + 1, by go_num, by omega, h1', hkeep.trans (k1.mono hkeep.size)⟩, by simp [intOf]; omega⟩
    · have hik : i = k := by omega
      subst hik
      have hlt2 := hE.lt
      rcases HE.out with ⟨hm, hq, _⟩ | ⟨hm, hpn, hb, hq⟩
      · have c3 := hE.c3
        subst hq
        go_wp2_with fail
        go_ret
        exact ⟨rfl, hE, hkeep⟩
      · subst hq
        have HB := Lib.hid hb
        clear hb
        go_wp2_with (go_at_call 83; refine (ebit_ok e (p + i) n s _ hE hpn).mono ?_; rw [HB.out]; rintro x w1 ⟨rfl, h1', k1⟩; have c3 := h1'.c3)
        go_ret
        exact ⟨rfl, h1', hkeep.trans (k1.mono hkeep.size)⟩

theorem eunary_end (e p n k : Nat) (most : Int) (s : List UInt8) (w : World) (h : EyeAt e s p n 0 w) (h1 : most ≤ 9223372036854775807) (_h0 : -9223372036854775808 ≤ most) (hones : ∀ j, j < k → Bt.bitAt s (p + j) = true) (hkn : p + k = n) (hm : (k : Int) < most) :
    Calls Tryd.prog 84 #[.pointer (some ⟨e, 0, none⟩), .int .i64 most] w fun x w' => x = .returned (.int .i64 0) ∧ EyeAt e s n n 2 w' ∧ Keep w.heap.size e w w' := by
  have hn := h.hn
  have hs := h.hs
  have HO := Lib.hid hones
  clear hones
  go_enter Tryd.func84, Tryd.ntmps84
  go_wp2_with fail
  go_loopw [5] (fun i' wr => ∃ (i : Nat), i' = .int .i64 i ∧ i ≤ k ∧ EyeAt e s (p + i) n 0 wr ∧ Keep w.heap.size e w wr) (fun i' _ => k - (intOf i').toNat)
  case atStart => exact ⟨0, rfl, by omega, h, Keep.refl _ _ _⟩
  case round =>
    obtain ⟨i, rfl, hi, hE, hkeep⟩ := hrel
    have hm2 : (i : Int) < most := by omega
    by_cases hlt : i < k
    · have hb := HO.out i hlt
      have HB := Lib.hid hb
      clear hb
      have hpn : p + i < n := by omega
      go_wp2_with (go_at_call 83; refine (ebit_ok e (p + i) n s _ hE hpn).mono ?_; rw [HB.out]; rintro x w1 ⟨rfl, h1', k1⟩)
      exact ⟨⟨i + 1, by go_num, by omega, h1', hkeep.trans (k1.mono hkeep.size)⟩, by simp [intOf]; omega⟩
    · have hik : i = k := by omega
      subst hik
      have hlt2 := hE.lt
      go_wp2_with (go_at_call 83; refine (ebit_bad e (p + i) n 0 s _ hE (.inl hkn)).mono ?_; rintro x w1 ⟨rfl, h1', k1⟩; have c3 := h1'.c3)
      go_ret
      exact ⟨rfl, hkn ▸ h1', hkeep.trans (k1.mono hkeep.size)⟩

theorem eunary_bad (e p n : Nat) (most : Int) (s : List UInt8) (w : World) (h : EyeAt e s p n 2 w) :
    Calls Tryd.prog 84 #[.pointer (some ⟨e, 0, none⟩), .int .i64 most] w fun x w' => x = .returned (.int .i64 0) ∧ EyeAt e s p n 2 w' ∧ Keep w.heap.size e w w' := by
  have hn := h.hn
  have hs := h.hs
  have hlt2 := h.lt
  have c3 := h.c3
  by_cases hm : (0 : Int) < most
  · go_enter Tryd.func84, Tryd.ntmps84
    go_wp2_with fail
    refine wp_loop_rounds 1 ?_
    rw [rounds_succ]
    go_wp2_with (go_at_call 83; refine (ebit_bad e p n 2 s _ h (.inr rfl)).mono ?_; rintro x w1 ⟨rfl, h1', k1⟩; have c3 := h1'.c3)
    go_ret
    exact ⟨rfl, h1', k1⟩
  · go_enter Tryd.func84, Tryd.ntmps84
    go_wp2_with fail
    refine wp_loop_rounds 1 ?_
    rw [rounds_succ]
    go_wp2_with fail
    go_ret
    exact ⟨rfl, h, Keep.refl _ _ _⟩
end Go.Proofs.YtajkleknjjpldaaDoor
