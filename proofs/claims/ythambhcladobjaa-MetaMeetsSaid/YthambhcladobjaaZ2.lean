/- Layer 2's records, walked: four bytes of a sum. -/
import Derived.Test.YthambhcladobjaaZ1
import Derived.Test.YthambhcladobjaaFrM
namespace Go.Proofs.Ythambhcladobjaa
open Go.RowKit Go.Lib
set_option maxRecDepth 100000

theorem pow8 (k : Nat) : (2 : Int) ^ (8 * k) = ((256 ^ k : Nat) : Int) := by
  rw [Int.pow_mul]; norm_cast
theorem nth_bits (s k : Nat) : (s : Int) / 2 ^ (8 * k) % 256 = (((Fr.nth s k).toNat : Nat) : Int) := by
  rw [Fr.nth_toNat, pow8]
  rw [Int.natCast_emod, Int.natCast_ediv]
  rfl
theorem get_bits (acc k : Nat) (c : UInt8) (hk : k < 4) (hacc : acc < 256 ^ k) :
    bits BinOp.or IntKind.u32 (acc : Int) ((c.toNat : Int) % 4294967296 * 2 ^ (8 * k) % 4294967296) = ((acc + c.toNat * 256 ^ k : Nat) : Int) := by
  have hc := c.toNat_lt
  have h1 : (256 : Nat) ^ k ≤ 256 ^ 3 := Nat.pow_le_pow_right (by decide) (by omega)
  have h3 : (256 : Nat) ^ 3 = 16777216 := by decide
  have hlt : c.toNat * 256 ^ k < 4294967296 := by
    have := Nat.mul_le_mul (show c.toNat ≤ 255 by omega) h1
    omega
  have e1 : (c.toNat : Int) % 4294967296 * 2 ^ (8 * k) % 4294967296 = ((c.toNat * 256 ^ k : Nat) : Int) := by
    rw [pow8, show (c.toNat : Int) % 4294967296 = (c.toNat : Int) by omega, ← Int.natCast_mul]
    generalize c.toNat * 256 ^ k = q at *
    omega
  rw [e1, u32_or_nat _ _ (by omega) hlt]
  congr 1
  have e4 : (256 : Nat) ^ k = 2 ^ (8 * k) := by rw [Nat.pow_mul]
  rw [e4] at hacc ⊢
  rw [Nat.or_comm, Nat.mul_comm, ← Nat.two_pow_add_eq_or_of_lt hacc, Nat.add_comm]

theorem putSum_any (base : Nat) (b : Value) (n : Nat) (l : List Value) (s : Nat) (w : World) (_hs : s < 4294967296) (hown : Sl w base 1 b n l) (hn : n ≤ 140737488355000) (hb : base ≤ w.heap.size) :
    Calls Try.prog 72 #[b, .int .u32 s] w (Wrote base w b n l (Fr.le s 4)) := by
  obtain ⟨i0, hi, hz0, hz1, hz2⟩ := info_parts bi_u8
  have Hz := Lib.hid hz0; have Hs := Lib.hid hz1; have Hb := Lib.hid hz2; have Hi := Lib.hid hi
  clear hz0 hz1 hz2 hi
  go_enter Try.func72, Try.ntmps72
  go_wp2
  go_loopw [0, 6] (fun b' i' wr => ∃ (k : Nat), i' = .int .i64 k ∧ k ≤ 4 ∧ Ext base 1 w b n l wr b' (n + k) (l ++ cb (Fr.le s k))) (fun _ i' _ => 4 - (intOf i').toNat)
  case atStart => exact ⟨0, rfl, by omega, by simpa [cb, Fr.le] using Ext.refl hown⟩
  case round =>
    obtain ⟨k, rfl, hk, hext⟩ := hrel
    have hmax : n + k + 1 ≤ maxLen := by unfold maxLen; omega
    have hsz := hext.grown.size
    by_cases h : k < 4
    · go_wp2_with (at_builtin; refine wpList_append_sl _ rfl _ _ 109 rfl base 5 i0 (.int .u8 0) 1 1 Try.underlying109 Hi.out Hz.out Hs.out Hb.out rfl (by decide) _ _ _ rfl (hext.now.alloc _) ⟨wr.heap.size, 0, none⟩ 1 1 [_] rfl rfl (cell_one_new _ _ _) (by simp [Value.oneCell']) hmax (by omega) (by simp; omega) ?_; intro v' w1 hx)
      rw [nth_bits] at hx
      have hx' := (hext.alloc _).trans hx
      refine ⟨⟨k + 1, by go_num, by omega, ?_⟩, by simp [intOf]; omega⟩
      rw [Fr.le, cb_append, ← List.append_assoc]
      exact hx'
    · have h4 : k = 4 := by omega
      subst h4
      go_wp2
      go_ret
      exact ⟨_, rfl, by rw [Fr.le_len]; exact hext⟩

set_option maxRecDepth 100000 in
theorem getSum_any (s : ByteArray) (w : World) (hs : 4 ≤ s.size) (hs' : s.size ≤ maxLen) :
    Calls Try.prog 85 #[.string s] w fun e w' => e = .returned (.int .u32 (Fr.gk s.data.toList 4 : Nat)) ∧ w = w' := by
  unfold maxLen at hs'
  go_enter Try.func85, Try.ntmps85
  go_wp2
  go_loop [3, 5] (fun v' i' => ∃ (k acc : Nat), v' = .int .u32 acc ∧ i' = .int .i64 k ∧ k ≤ 4 ∧ Hid (acc = Fr.gk s.data.toList k)) (fun _ i' => 4 - (intOf i').toNat)
  case atStart => exact ⟨0, 0, rfl, rfl, by omega, rfl⟩
  case round =>
    obtain ⟨k, acc, rfl, rfl, hk, hacc⟩ := hrel
    by_cases h : k < 4
    · have hlt : k < s.size := by omega
      have hb := Fr.gk_lt s.data.toList k
      rw [← hacc.out] at hb
      have HB := Lib.hid hb; clear hb
      go_wp2
      refine ⟨⟨k + 1, acc + s[k].toNat * 256 ^ k, by rw [get_bits acc k s[k] h HB.out], by go_num, by omega, ?_⟩, by simp [intOf]; omega⟩
      show _ = _
      have hg : s.data.toList.getD k 0 = s[k] := by
        have := list_at s k hlt
        have h2 : s.data.toList[k]? = some s[k] := by
          rw [← List.head?_drop, this]; rfl
        simp [List.getD, h2]
      rw [Fr.gk, hg, ← hacc.out]
    · have h4 : k = 4 := by omega
      subst h4
      go_wp2
      go_ret
      exact ⟨by rw [← hacc.out]; rfl, rfl⟩
end Go.Proofs.Ythambhcladobjaa
