/- Layer 2's records, walked: four bytes of a sum. Layer 2's Append, walked. -/
import Derived.Test.YtiegokjdnlhlcaaMZ1
import Derived.Test.YtiegokjdnlhlcaaMFrM
import Derived.Test.YtiegokjdnlhlcaaMSl
namespace Go.Proofs.Ytiegokjdnlhlcaa
open Go.RowKit Go.Lib
set_option maxRecDepth 100000

theorem pow8 (k : Nat) : (2 : Int) ^ (8 * k) = ((256 ^ k : Nat) : Int) := by
  rw [Int.pow_mul]; norm_cast
theorem nth_bits (s k : Nat) : (s : Int) / 2 ^ (8 * k) % 256 = (((Fr.nth s k).toNat : Nat) : Int) := by
  rw [Fr.nth_toNat, pow8]
  rw [Int.natCast_emod, Int.natCast_ediv]
  rfl
theorem get_bits (acc k : Nat) (c : UInt8) (hk : k < 4) (hacc : acc < 256 ^ k) :
    bits BinOp.or IntKind.u32 (acc : Int) ((c.toNat : Int) % 4294967296 * 2 ^ (8 * k) % 4294967296) = ((acc + c.toNat * 256 ^ k : Nat) : Int) := by
  have hc := c.toNat_lt
  have h1 : (256 : Nat) ^ k ≤ 256 ^ 3 := Nat.pow_le_pow_right (by decide) (by omega)
  have h3 : (256 : Nat) ^ 3 = 16777216 := by decide
  have hlt : c.toNat * 256 ^ k < 4294967296 := by
    have := Nat.mul_le_mul (show c.toNat ≤ 255 by omega) h1
    omega
  have e1 : (c.toNat : Int) % 4294967296 * 2 ^ (8 * k) % 4294967296 = ((c.toNat * 256 ^ k : Nat) : Int) := by
    rw [pow8, show (c.toNat : Int) % 4294967296 = (c.toNat : Int) by omega, ← Int.natCast_mul]
    generalize c.toNat * 256 ^ k = q at *
    omega
  rw [e1, u32_or_nat _ _ (by omega) hlt]
  congr 1
  have e4 : (256 : Nat) ^ k = 2 ^ (8 * k) := by rw [Nat.pow_mul]
  rw [e4] at hacc ⊢
  rw [Nat.or_comm, Nat.mul_comm, ← Nat.two_pow_add_eq_or_of_lt hacc, Nat.add_comm]

theorem putSum_any (base : Nat) (b : Value) (n : Nat) (l : List Value) (s : Nat) (w : World) (_hs : s < 4294967296) (hown : Sl w base 1 b n l) (hn : n ≤ 140737488355000) (hb : base ≤ w.heap.size) :
    Calls Try.prog 42 #[b, .int .u32 s] w (Wrote base w b n l (Fr.le s 4)) := by
  obtain ⟨i0, hi, hz0, hz1, hz2⟩ := info_parts bi_u8
  have Hz := Lib.hid hz0; have Hs := Lib.hid hz1; have Hb := Lib.hid hz2; have Hi := Lib.hid hi
  clear hz0 hz1 hz2 hi
  go_enter Try.func42, Try.ntmps42
  go_wp2
  go_loopw [0, 6] (fun b' i' wr => ∃ (k : Nat), i' = .int .i64 k ∧ k ≤ 4 ∧ Ext base 1 w b n l wr b' (n + k) (l ++ cb (Fr.le s k))) (fun _ i' _ => 4 - (intOf i').toNat)
  case atStart => exact ⟨0, rfl, by omega, by simpa [cb, Fr.le] using Ext.refl hown⟩
  case round =>
    obtain ⟨k, rfl, hk, hext⟩ := hrel
    have hmax : n + k + 1 ≤ maxLen := by unfold maxLen; omega
    have hsz := hext.grown.size
    by_cases h : k < 4
    · go_wp2_with (at_builtin; refine wpList_append_sl _ rfl _ _ 51 rfl base 5 i0 (.int .u8 0) 1 1 Try.underlying51 Hi.out Hz.out Hs.out Hb.out rfl (by decide) _ _ _ rfl (hext.now.alloc _) ⟨wr.heap.size, 0, none⟩ 1 1 [_] rfl rfl (cell_one_new _ _ _) (by simp [Value.oneCell']) hmax (by omega) (by simp; omega) ?_; intro v' w1 hx)
      rw [nth_bits] at hx
      have hx' := (hext.alloc _).trans hx
      refine ⟨⟨k + 1, by go_num, by omega, ?_⟩, by simp [intOf]; omega⟩
      rw [Fr.le, cb_append, ← List.append_assoc]
      exact hx'
    · have h4 : k = 4 := by omega
      subst h4
      go_wp2
      go_ret
      exact ⟨_, rfl, by rw [Fr.le_len]; exact hext⟩

set_option maxRecDepth 100000 in
theorem getSum_any (s : ByteArray) (w : World) (hs : 4 ≤ s.size) (hs' : s.size ≤ maxLen) :
    Calls Try.prog 36 #[.string s] w fun e w' => e = .returned (.int .u32 (Fr.gk s.data.toList 4 : Nat)) ∧ w = w' := by
  unfold maxLen at hs'
  go_enter Try.func36, Try.ntmps36
  go_wp2
  go_loop [3, 5] (fun v' i' => ∃ (k acc : Nat), v' = .int .u32 acc ∧ i' = .int .i64 k ∧ k ≤ 4 ∧ Hid (acc = Fr.gk s.data.toList k)) (fun _ i' => 4 - (intOf i').toNat)
  case atStart => exact ⟨0, 0, rfl, rfl, by omega, rfl⟩
  case round =>
    obtain ⟨k, acc, rfl, rfl, hk, hacc⟩ := hrel
    by_cases h : k < 4
    · have hlt : k < s.size := by omega
      have hb := Fr.gk_lt s.data.toList k
      rw [← hacc.out] at hb
      have HB := Lib.hid hb; clear hb
      go_wp2
      refine ⟨⟨k + 1, acc + s[k].toNat * 256 ^ k, by rw [get_bits acc k s[k] h HB.out], by go_num, by omega, ?_⟩, by simp [intOf]; omega⟩
      show _ = _
      have hg : s.data.toList.getD k 0 = s[k] := by
        have := list_at s k hlt
        have h2 : s.data.toList[k]? = some s[k] := by
          rw [← List.head?_drop, this]; rfl
        simp [List.getD, h2]
      rw [Fr.gk, hg, ← hacc.out]
    · have h4 : k = 4 := by omega
      subst h4
      go_wp2
      go_ret
      exact ⟨by rw [← hacc.out]; rfl, rfl⟩
end Go.Proofs.Ytiegokjdnlhlcaa

namespace Go.Proofs.Ytiegokjdnlhlcaa
open Go.RowKit Go.Lib
set_option maxRecDepth 100000

theorem bi_u8s : (Try.prog.info? 5).map (·.size) = some 1 := by kernel_rfl

/-- A new slice of the bytes of l and of a record behind them. -/
def Appended (w : World) (xs : List UInt8) (e : Ending) (w' : World) : Prop :=
  ∃ a cap, e = .returned (.slice a xs.length cap) ∧ Sl w' w.heap.size 1 (.slice a xs.length cap) xs.length (cb xs) ∧ Below w.heap.size w w'

set_option maxHeartbeats 1000000 in
set_option maxRecDepth 100000 in
theorem append_any (base : Nat) (a : Option Addr) (n cap : Nat) (l : List UInt8) (k : UInt8) (d : List UInt8) (w : World) (hown : Sl w base 1 (.slice a n cap) n (cb l)) (hn : n + d.length ≤ 140737488350000) :
    Calls Try.prog 28 #[.slice a n cap, .agg #[.int .u8 k.toNat, .string (bs d)]] w (Appended w (l ++ Fr.rec k d)) := by
  obtain ⟨i0, hi, hz0, hz1, hz2⟩ := info_parts bi_u8
  have Hz := Lib.hid hz0; have Hs := Lib.hid hz1; have Hb := Lib.hid hz2; have Hi := Lib.hid hi
  clear hz0 hz1 hz2 hi
  have hdl : (bs d).size + n ≤ 140737488350000 := by rw [bs_size]; omega
  have hlen := (Leb.encU_len (bs d).size).2
  have hW0 : Below (w.heap.size + 1) (w.alloc (.cells #[.int .u8 k.toNat, .string (bs d)] 61)) (w.alloc (.cells #[.int .u8 k.toNat, .string (bs d)] 61)) := Below.refl _ _
  go_enter Try.func28, Try.ntmps28
  go_wp2_with (first
    | (at_make; refine wpList_make_sl _ rfl _ _ 51 rfl 5 i0 (.int .u8 0) Try.underlying51 Hi.out Hz.out Hs.out Hb.out .i64 .i64 _ _ rfl rfl (w.heap.size + 1) n (n + 15 + (bs d).size) (by simp) rfl (by simp) (by omega) (by omega) ?_; intro w1 xs1 s1 g1 z1; have hW1 := below_rowed hW0 g1 (by simp) (by simp); obtain ⟨p1, q1⟩ := box_at hW1)
    | ((with_reducible refine wpList_copy_sl (o := ⟨some 18, _, _, _, _, _⟩) _ rfl (.tmp 16) (.tmp 17) 51 51 rfl 5 Try.underlying51 bi_u8s (w.heap.size + 1) base (w.heap.size + 1) 0 n (n + 15 + (bs d).size) (.slice a n cap) xs1 (cb l) rfl rfl s1 ?_ (cb_one l) ?_); exact (hown.alloc _).below hW1 (fun k hk => Nat.lt_succ_of_lt (hown.lt k hk).2); intro w2 s2 g2; have hW2 := below_rowed hW1 g2 (by simp) (by simp); obtain ⟨p2, q2⟩ := box_at hW2)
    | (at_builtin; refine wpList_append_sl _ rfl (.tmp 19) (.tmp 22) 51 rfl (w.heap.size + 1) 5 i0 (.int .u8 0) 1 1 Try.underlying51 Hi.out Hz.out Hs.out Hb.out rfl (by decide) _ n (cb l) rfl (s2.alloc _) ⟨w2.heap.size, 0, none⟩ 1 1 [_] rfl rfl (cell_one_new _ _ _) (by simp [Value.oneCell']) (by unfold maxLen; omega) (by omega) (by have := hW2.size; simp at this ⊢; omega) ?_; intro v3 w3 x3; have X3 : Ext (w.heap.size + 1) 1 w2 (.slice (some ⟨w.heap.size + 1, 0, none⟩) n (n + 15 + (bs d).size)) n (cb l) w3 v3 (n + 1) (cb (l ++ [k])) := (by rw [cb_append]; exact ((Ext.refl s2).alloc _).trans x3); clear x3; have hW3 := hW2.trans (X3.below (Nat.le_refl _) (by have := hW2.size; simp at this; omega)); obtain ⟨p3, q3⟩ := box_at hW3)
    | (go_at_call 29; refine (uint_any (w.heap.size + 1) v3 (n + 1) _ (bs d).size _ (by unfold Leb.two64; omega) X3.now (by omega) (by have := hW3.size; simp at this; omega)).mono ?_; rintro e w4 ⟨v4, rfl, X4⟩; have hW4 := hW3.trans (X4.below (Nat.le_refl _) (by have := hW3.size; simp at this; omega)); obtain ⟨p4, q4⟩ := box_at hW4)
    | (go_at_call 35; refine (sumOf_any k d _ (by unfold maxLen; omega)).mono ?_; rintro e w5 ⟨rfl, B5⟩; have hW5 := hW4.trans (B5.mono (by have := hW4.size; simp at this; omega)); have s5 := X4.now.on B5; obtain ⟨p5, q5⟩ := box_at hW5)
    | (go_at_call 42; refine (putSum_any (w.heap.size + 1) v4 (n + 1 + (Leb.encU (bs d).size).length) _ (recSum k d) _ (Fr.rsum_lt k d) s5 (by omega) (by have := hW5.size; simp at this; omega)).mono ?_; rintro e w6 ⟨v6, rfl, X6⟩; have hW6 := hW5.trans (X6.below (Nat.le_refl _) (by have := hW5.size; simp at this; omega)); obtain ⟨p6, q6⟩ := box_at hW6)
    | (at_builtin; refine wpList_append_sl_string _ rfl (.tmp 34) (.tmp 36) 51 9 rfl (w.heap.size + 1) 5 i0 Try.underlying51 Try.underlying9 Hi.out Hz.out Hs.out Hb.out _ _ _ rfl X6.now (bs d) rfl (by unfold maxLen; rw [Fr.le_len]; omega) (by rw [Fr.le_len]; omega) (by have := hW6.size; simp at this; omega) ?_; intro v7 w7 X7))
  have hW7 := hW6.trans (X7.below (Nat.le_refl _) (by have := hW6.size; simp at this; omega))
  have s7 := X7.now
  have hll : l.length = n := by have := hown.1; rw [cb_length] at this; omega
  have hN : n + 1 + (Leb.encU (bs d).size).length + (Fr.le (recSum k d) 4).length + (bs d).size = (l ++ Fr.rec k d).length := by
    rw [Fr.le_len, bs_size]; simp only [Fr.rec, List.length_append, List.length_cons, Fr.le_len]; omega
  have hC : cb (l ++ [k]) ++ cb (Leb.encU (bs d).size) ++ cb (Fr.le (recSum k d) 4) ++ strCells (bs d) = cb (l ++ Fr.rec k d) := by
    rw [strCells_eq, bs_list, bs_size, ← cb_append, ← cb_append, ← cb_append]
    congr 1
    simp only [Fr.rec, List.append_assoc, List.cons_append, List.nil_append]
    rfl
  rw [hN, hC] at s7
  obtain ⟨a7, c7, hv⟩ := s7.slice
  rw [hv] at s7
  go_ret
  refine ⟨a7, c7, ?_, s7.mono (by omega), (((Below.refl w.heap.size w).alloc (Nat.le_refl _) _).trans (hW7.mono (by omega)))⟩
  rw [← hv]
  rfl
end Go.Proofs.Ytiegokjdnlhlcaa
