/- The document's own sum, walked. -/
import Derived.Test.YtoihkeilofpcjaaDoorMZ4
import Derived.Test.YtoihkeilofpcjaaDoorMFrM2
namespace Go.Proofs.YtoihkeilofpcjaaDoor
open Go.RowKit Go.Lib

theorem run_step' (c : Nat) (l : List UInt8) (k : Nat) (x : UInt8) (h : l[k]? = some x) : Crc.run c (l.drop k) = Crc.run (Crc.byte c x.toNat) (l.drop (k + 1)) := by
  obtain ⟨hk, rfl⟩ := List.getElem?_eq_some_iff.1 h
  rw [List.drop_eq_getElem_cons hk]; rfl
theorem run_done' (c : Nat) (l : List UInt8) (k : Nat) (h : ¬ k < l.length) : Crc.run c (l.drop k) = c := by
  rw [List.drop_eq_nil_of_le (by omega)]; rfl

theorem low_bits (c : Nat) (h : c < 4294967296) : bits BinOp.xor IntKind.u32 ((c : Int) / 2) 2197175160 = (((c / 2) ^^^ Crc.poly : Nat) : Int) := by
  rw [show (c : Int) / 2 = ((c / 2 : Nat) : Int) by omega, show (2197175160 : Int) = ((2197175160 : Nat) : Int) from rfl, u32_xor_nat _ _ (by omega) (by decide)]
  rfl

set_option maxRecDepth 100000 in
theorem r2sum_any (l : List UInt8) (w : World) (hl : l.length ≤ maxLen) :
    Calls Tryd.prog 47 #[.string (bs l)] w fun e w' => e = .returned (.int .u32 (Crc.sum l : Nat)) ∧ Below w.heap.size w w' := by
  obtain ⟨b, W, hcv, hsl, hW⟩ := bytes_conv w l hl
  obtain ⟨a, cap, rfl⟩ := hsl.slice
  unfold maxLen at hl
  go_enter Tryd.func47, Tryd.ntmps47
  go_wp2
  clear hcv
  go_loop [3, 11] (fun c' i' => ∃ (k c : Nat), c' = .int .u32 c ∧ i' = .int .i64 k ∧ k ≤ l.length ∧ c < 4294967296 ∧ Hid (Crc.run c (l.drop k) = Crc.run (Crc.turn 0) l)) (fun _ i' => l.length - (intOf i').toNat)
  case atStart => exact ⟨0, 4294967295, rfl, rfl, by omega, by decide, rfl⟩
  case round =>
    obtain ⟨k, c, rfl, rfl, hk, hc, hrun⟩ := hrel
    by_cases hlt : k < l.length
    · obtain ⟨x, hx⟩ : ∃ x, l[k]? = some x := ⟨_, List.getElem?_eq_getElem hlt⟩
      obtain ⟨g, off, rfl⟩ : ∃ g off, a = some ⟨g, off, none⟩ := by
        rcases hsl.2 with ⟨_, h0⟩ | ⟨g, off, cap', he, _⟩
        · omega
        · cases he; exact ⟨g, off, rfl⟩
      have p0 := sl_cell hsl k x hx
      have i1 : (k : Int) < (l.length : Int) := by omega
      have i2 : (0 : Int) ≤ (k : Int) := by omega
      have HX := Lib.hid hx
      have hxl := x.toNat_lt
      clear hx
      go_wp2
      go_loop [3, 5, 6] (fun c' b' i' => ∃ (j d e : Nat), c' = .int .u32 d ∧ b' = .int .u8 e ∧ i' = .int .i64 j ∧ j ≤ 8 ∧ d < 4294967296 ∧ e < 256 ∧ Hid (Crc.two j (c, x.toNat) = (d, e))) (fun _ _ i' => 8 - (intOf i').toNat)
      case atStart => exact ⟨0, c, x.toNat, rfl, rfl, rfl, by omega, hc, hxl, rfl⟩
      case round =>
        obtain ⟨j, d, e, rfl, rfl, rfl, hj, hd, he, hde⟩ := hrel
        by_cases hlt' : j < 8
        · have hs := Crc.two_snoc j c x.toNat
          rw [hde.out] at hs
          have HS := Lib.hid hs; clear hs
          by_cases hlow : (d + e) % 2 = 1
          · have q : ((d : Int) + (e : Int)) % 2 = 1 := by omega
            go_wp2
            rw [if_pos hlow] at HS
            have hlt2 := Crc.two_lt (j + 1) c x.toNat hc hxl
            rw [HS.out] at hlt2
            refine ⟨⟨j + 1, (d / 2) ^^^ Crc.poly, e / 2, by rw [low_bits d hd], by go_num, by go_num, by omega, hlt2.1, by omega, HS.out⟩, by simp [intOf]; omega⟩
          · have q : ((d : Int) + (e : Int)) % 2 = 0 := by omega
            go_wp2
            rw [if_neg hlow, Nat.xor_zero] at HS
            refine ⟨⟨j + 1, d / 2, e / 2, by go_num, by go_num, by go_num, by omega, by omega, by omega, HS.out⟩, by simp [intOf]; omega⟩
        · go_wp2
          have h8 : j = 8 := by omega
          have h2 := Crc.two_byte c x.toNat hxl
          have hd8 := hde.out
          rw [h8] at hd8
          rw [hd8] at h2
          refine ⟨⟨k + 1, d, rfl, by go_num, by omega, hd, ?_⟩, by simp [intOf]; omega⟩
          show _ = _
          rw [← hrun.out, run_step' c l k x HX.out, ← h2]
    · have hd := run_done' c l k hlt
      rw [hrun.out] at hd
      have HR := Lib.hid hd; clear hd
      go_wp2
      go_ret
      refine ⟨?_, hW⟩
      rw [show Crc.sum l = Crc.turn c by rw [← HR.out]; rfl]
      have ht : (4294967295 : Int) - (c : Int) = ((Crc.turn c : Nat) : Int) := by
        unfold Crc.turn Crc.top
        omega
      rw [← ht]
      rfl
end Go.Proofs.YtoihkeilofpcjaaDoor
