/- The statements FrameBit and FrameParts, walked. -/
import Derived.Test.YtbebgdjlabincaaV5
namespace Go.Proofs.Ytbebgdjlabincaa
open Go.RowKit Go.Lib

/-- The test answers at once. -/
theorem bit_out (s : ByteArray) (l : List UInt8) (HL : Hid (cutB s 200 = bs l)) (c : Int) (y : Nat) (w : World) (h : c < 0 ∨ (0 ≤ c ∧ (l.length : Int) ≤ c) ∨ (0 ≤ c ∧ c < (l.length : Int) ∧ y = 0)) :
    Calls Try.prog 13 #[.string s, .int .i64 c, .int .u8 y] w fun e w' => e = .returned (.bool true) ∧ Below w.heap.size w w' := by
  have hz : ((bs l).size : Int) = l.length := by rw [bs_size]
  rcases h with h | ⟨h1, h2⟩ | ⟨h1, h2, h3⟩
  · clear hz
    go_enter Try.func13, Try.ntmps13
    go_wp2_with (go_at_call 14; refine (cut_is s l 200 200 rfl HL.out _).mono ?_; rintro e w1 ⟨rfl, rfl⟩)
    refine (fawake_any _).mono ?_
    rintro e w2 ⟨rfl, b2⟩
    go_wp2_with fail
    refine (fawake_any _).mono ?_
    rintro e w3 ⟨rfl, b3⟩
    go_wp2
    go_ret
    exact ⟨rfl, below_step b2 b3⟩
  · have h2' : ((bs l).size : Int) ≤ c := by omega
    clear hz
    go_enter Try.func13, Try.ntmps13
    go_wp2_with (go_at_call 14; refine (cut_is s l 200 200 rfl HL.out _).mono ?_; rintro e w1 ⟨rfl, rfl⟩)
    refine (fawake_any _).mono ?_
    rintro e w2 ⟨rfl, b2⟩
    go_wp2_with fail
    refine (fawake_any _).mono ?_
    rintro e w3 ⟨rfl, b3⟩
    go_wp2
    go_ret
    exact ⟨rfl, below_step b2 b3⟩
  · have h2' : c < ((bs l).size : Int) := by omega
    subst h3
    clear hz
    go_enter Try.func13, Try.ntmps13
    go_wp2_with (go_at_call 14; refine (cut_is s l 200 200 rfl HL.out _).mono ?_; rintro e w1 ⟨rfl, rfl⟩)
    refine (fawake_any _).mono ?_
    rintro e w2 ⟨rfl, b2⟩
    go_wp2_with fail
    refine (fawake_any _).mono ?_
    rintro e w3 ⟨rfl, b3⟩
    go_wp2
    go_ret
    exact ⟨rfl, below_step b2 b3⟩

theorem xor_u8_bits (a y : UInt8) : bits BinOp.xor IntKind.u8 (a.toNat : Int) (y.toNat : Int) = (((a ^^^ y).toNat : Nat) : Int) := by
  rw [u8_xor_nat _ _ a.toNat_lt y.toNat_lt, UInt8.toNat_xor]
theorem split_at (l : List UInt8) (c : Nat) (h : c < l.length) : l = l.take c ++ l[c] :: l.drop (c + 1) := by
  rw [← List.drop_eq_getElem_cons h, List.take_append_drop]
theorem set_at (l : List UInt8) (c : Nat) (v : UInt8) (h : c < l.length) : l.set c v = l.take c ++ v :: l.drop (c + 1) := by
  rw [List.set_eq_take_append_cons_drop, if_pos h]

set_option maxRecDepth 100000 in
theorem bit_in (s : ByteArray) (l : List UInt8) (HL : Hid (cutB s 200 = bs l)) (hl : l.length ≤ 200) (c : Nat) (y : UInt8) (w : World) (hc : c < l.length) (hy : y ≠ 0) :
    Calls Try.prog 13 #[.string s, .int .i64 c, .int .u8 y.toNat] w fun e w' => e = .returned (.bool true) ∧ Below w.heap.size w w' := by
  have hc' : c < (bs l).size := by rw [bs_size]; exact hc
  have hy1 : 0 < y.toNat := by
    rcases Nat.eq_zero_or_pos y.toNat with h | h
    · exact absurd (UInt8.toNat_inj.1 h) hy
    · exact h
  have hyb : ((y.toNat : Int) == 0) = false := by simp; omega
  have hm : l.length ≤ maxLen := by unfold maxLen; omega
  obtain ⟨x, hx⟩ : ∃ x, x = l[c] := ⟨_, rfl⟩
  obtain ⟨l', hl'⟩ : ∃ l', l' = l.set c (x ^^^ y) := ⟨_, rfl⟩
  have hlen' : l'.length = l.length := by rw [hl', List.length_set]
  obtain ⟨a, ha⟩ : ∃ a, a = Crc.sum l := ⟨_, rfl⟩
  obtain ⟨b, hb⟩ : ∃ b, b = Crc.sum l' := ⟨_, rfl⟩
  have hne : ((b : Int) != (a : Int)) = true := by
    have : b ≠ a := by
      rw [ha, hb, hl', set_at l c _ hc]
      conv => rhs; rw [split_at l c hc]
      refine Crc.sum_ne _ _ _ _ fun e => hy ?_
      have := congrArg (fun z => x ^^^ z) (e.trans hx.symm)
      simpa [← UInt8.xor_assoc] using this
    simp; omega
  have S1 := Lib.hid (fun W => show Calls Try.prog 38 #[.string (bs l)] W (fun e w' => e = .returned (.int .u32 (a : Nat)) ∧ W = w') by rw [ha]; exact fsum_bs l W (by rw [bs_size]; omega))
  have S2 := Lib.hid (fun W => show Calls Try.prog 38 #[.string (bs l')] W (fun e w' => e = .returned (.int .u32 (b : Nat)) ∧ W = w') by rw [hb]; exact fsum_bs l' W (by rw [bs_size]; omega))
  have HX := Lib.hid (show l[c]? = some x by rw [hx]; exact List.getElem?_eq_getElem hc)
  have HS := Lib.hid hl'
  have HB := Lib.hid (xor_u8_bits x y)
  clear hx hl' ha hb hlen'
  go_enter Try.func13, Try.ntmps13
  go_wp2_with (go_at_call 14; refine (cut_is s l 200 200 rfl HL.out _).mono ?_; rintro e w1 ⟨rfl, rfl⟩)
  refine (fawake_any _).mono ?_
  rintro e w2 ⟨rfl, b2⟩
  obtain ⟨g, o, cap, W, hcv, hn, hcap, hs, hW⟩ := bytes_at w2 l hm (by omega)
  have p0 := sl_cell hs c x HX.out
  have f0 : W.frozen? ⟨g, o + c, none⟩ = false := by
    rcases hs.2 with ⟨h0, _⟩ | ⟨g', off', cap', he, _, _, _, _, hfree, _⟩
    · cases h0
    · cases he; exact (hfree c (by omega)).2
  have q0 := sl_set hs (x ^^^ y) hc
  rw [← HS.out] at q0
  rw [← HB.out] at q0
  have q1 := text_conv q0
  have hg := (hs.lt g rfl).1
  go_wp2_with fail
  refine (S2.out _).mono ?_
  rintro e w3 ⟨rfl, rfl⟩
  go_wp2_with fail
  refine (S1.out _).mono ?_
  rintro e w3 ⟨rfl, rfl⟩
  go_wp2
  go_ret
  exact ⟨rfl, (below_step b2 hW).setCell (Nat.le_trans b2.size hg) _⟩

theorem bit_any (s : ByteArray) (c : Int) (y : Nat) (w : World) (hy : y < 256) :
    Calls Try.prog 13 #[.string s, .int .i64 c, .int .u8 y] w fun e w' => e = .returned (.bool true) ∧ Below w.heap.size w w' := by
  obtain ⟨l, hl, hl200⟩ := cut_list s 200
  by_cases h0 : c < 0
  · exact bit_out s l hl c y w (.inl h0)
  · by_cases h1 : (l.length : Int) ≤ c
    · exact bit_out s l hl c y w (.inr (.inl ⟨by omega, h1⟩))
    · by_cases h2 : y = 0
      · exact bit_out s l hl c y w (.inr (.inr ⟨by omega, by omega, h2⟩))
      · obtain ⟨c, rfl⟩ := Int.eq_ofNat_of_zero_le (show 0 ≤ c by omega)
        have ht := Leb.toNat_ofNat y hy
        have := bit_in s l hl hl200 c (UInt8.ofNat y) w (by omega) (fun e => h2 (by rw [← ht, e]; rfl))
        rw [ht] at this
        exact this
end Go.Proofs.Ytbebgdjlabincaa
