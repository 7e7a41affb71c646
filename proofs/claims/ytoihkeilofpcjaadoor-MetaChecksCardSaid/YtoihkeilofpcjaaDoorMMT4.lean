/- The document's own bytes of a record, walked. -/
import Derived.Test.YtoihkeilofpcjaaDoorMMT3
import Derived.Test.YtoihkeilofpcjaaDoorMSl
import Derived.Test.YtoihkeilofpcjaaDoorMFrM2
namespace Go.Proofs.YtoihkeilofpcjaaDoor
open Go.RowKit Go.Lib

theorem nth_byte (s k : Nat) : ((s / 256 ^ k : Nat) : Int) % 256 = (((Fr.nth s k).toNat : Nat) : Int) := by
  rw [Fr.nth_toNat]; omega

set_option maxRecDepth 100000 in
theorem r2bytes_any (k : UInt8) (d : List UInt8) (w : World) (hd : d.length ≤ 140737488350000) :
    Calls Tryd.prog 29 #[.agg #[.int .u8 k.toNat, .string (bs d)]] w fun e w' => e = .returned (.string (bs (Fr.rec k d))) ∧ Below w.heap.size w w' := by
  have hk := k.toNat_lt
  have hcv : (convert 38 9 (.slice (some ⟨w.heap.size + 1, 0, none⟩) 1 1)).run Tryd.prog ((w.alloc (.cells #[.int .u8 k.toNat, .string (bs d)] 57)).alloc (.cells #[.int .u8 k.toNat] 5))
      = .ok (.string (bs [k])) ((w.alloc (.cells #[.int .u8 k.toNat, .string (bs d)] 57)).alloc (.cells #[.int .u8 k.toNat] 5)) := by
    have := run_text_lit (w.alloc (.cells #[.int .u8 k.toNat, .string (bs d)] 57)) (k.toNat : Int) k rfl
    rw [World.size_alloc] at this
    exact this
  have hW0 : Below (w.heap.size + 1) (w.alloc (.cells #[.int .u8 k.toNat, .string (bs d)] 57)) (w.alloc (.cells #[.int .u8 k.toNat, .string (bs d)] 57)) := Below.refl _ _
  have hz := bs_size d
  have hz1 := bs_size [k]
  have hA := bs_append
  obtain ⟨m, hm⟩ : ∃ m, m = Crc.sum (k :: d) := ⟨_, rfl⟩
  have hm' : m < 4294967296 := by rw [hm]; exact Crc.sum_lt _
  have C1 := Lib.hid (fun W => show Calls Tryd.prog 47 #[.string (bs ([k] ++ d))] W (fun e w' => e = .returned (.int .u32 (m : Nat)) ∧ Below W.heap.size W w') by rw [hm]; exact r2sum_any ([k] ++ d) W (by simp [maxLen]; omega))
  have C2 := Lib.hid (fun W => show Calls Tryd.prog 32 #[.int .u64 (bs d).size] W (fun e w' => e = .returned (.string (bs (Leb.encU d.length))) ∧ Below W.heap.size W w') by rw [bs_size]; exact ruint_any d.length W (by unfold Leb.two64; omega))
  have hlen := (Leb.encU_len d.length).2
  have hs1 := bs_size_le (Leb.encU d.length) 10 hlen
  have HM := Lib.hid hm; clear hm
  go_enter Tryd.func29, Tryd.ntmps29
  go_wp2_with (first
    | (go_at_call 47; refine (C1.out _).mono ?_; rintro e w1 ⟨rfl, b1⟩; have hW1 : Below (w.heap.size + 1) (w.alloc (.cells #[.int .u8 k.toNat, .string (bs d)] 57)) w1 := (hW0.alloc (by simp) _).trans (b1.mono (by simp)); obtain ⟨p1, q1⟩ := box_at hW1)
    | (go_at_call 32; refine (C2.out _).mono ?_; rintro e w2 ⟨rfl, b2⟩; have hW2 : Below (w.heap.size + 1) (w.alloc (.cells #[.int .u8 k.toNat, .string (bs d)] 57)) w2 := hW1.trans (b2.mono (by have := hW1.size; simp at this; omega)); obtain ⟨p2, q2⟩ := box_at hW2))
  go_loopw [4, 5, 6] (fun m' s' i' wr => ∃ (i : Nat), m' = .int .u32 (m / 256 ^ i : Nat) ∧ s' = .string (bs ([k] ++ Leb.encU d.length ++ Fr.le m i)) ∧ i' = .int .i64 i ∧ i ≤ 4 ∧ Below (w.heap.size + 1) (w.alloc (.cells #[.int .u8 k.toNat, .string (bs d)] 57)) wr) (fun _ _ i' _ => 4 - (intOf i').toNat)
  case atStart => exact ⟨0, by simp, by simp [Fr.le], rfl, by omega, hW2⟩
  case round =>
    obtain ⟨i, rfl, rfl, rfl, hi, hW3⟩ := hrel
    obtain ⟨p3, q3⟩ := box_at hW3
    have hz3 := hW3.size
    simp only [World.size_alloc] at hz3
    have hs3 : (bs (k :: (Leb.encU d.length ++ Fr.le m i))).size ≤ 15 := by rw [bs_size]; simp only [List.length_append, Fr.le_len, List.length_cons]; omega
    have hs4 := bs_size_le [Fr.nth m i] 1 (by simp)
    obtain ⟨x, hx⟩ : ∃ x, x = m / 256 ^ i := ⟨_, rfl⟩
    rw [← hx]
    have hx' : x < 4294967296 := by rw [hx]; exact Nat.lt_of_le_of_lt (Nat.div_le_self _ _) hm'
    have hb := nth_byte m i
    rw [← hx] at hb
    have hcv' := fun W : World => run_text_lit W ((x : Int) % 256) (Fr.nth m i) hb
    have HX := Lib.hid hx
    clear hx hb
    by_cases hlt : i < 4
    · go_wp2
      refine ⟨⟨i + 1, ?_, ?_, by go_num, by omega, hW3.alloc (by omega) _⟩, ?_⟩
      · rw [Nat.pow_succ, ← Nat.div_div_eq_div_mul, ← HX.out]; go_num
      · simp [Fr.le]
      · simp [intOf]; omega
    · have hi4 : i = 4 := by omega
      subst hi4
      go_wp2
      go_ret
      have hw := (Below.refl w.heap.size w).alloc (Nat.le_refl _) (.cells #[.int .u8 k.toNat, .string (bs d)] 57)
      refine ⟨?_, hw.trans (hW3.mono (by omega))⟩
      have he : Fr.rec k d = k :: (Leb.encU d.length ++ (Fr.le m 4 ++ d)) := by rw [HM.out]; rfl
      rw [he]
      rfl
end Go.Proofs.YtoihkeilofpcjaaDoor
