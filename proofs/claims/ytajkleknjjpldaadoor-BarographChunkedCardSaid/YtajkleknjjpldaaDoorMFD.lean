/- The first known answers of the statements through the layers, walked. -/
import Derived.Test.YtajkleknjjpldaaDoorMFC
import Derived.Test.YtajkleknjjpldaaDoorMZ4
import Derived.Test.YtajkleknjjpldaaDoorMT3
import Derived.Test.YtajkleknjjpldaaDoorMI3
namespace Go.Proofs.YtajkleknjjpldaaDoor
open Go.RowKit Go.Lib

theorem nam_33 : Idn.nam 33 1 = [48, 48, 48, 48, 48, 48, 49, 49, 48, 48, 48, 48, 48, 48, 48, 49] := by decide +kernel
set_option maxRecDepth 100000 in
theorem name16_any (w : World) : Calls Tryd.prog 8 #[] w fun e w' => ∃ S, e = .returned (.tuple #[.string S, .bool true]) ∧ Below w.heap.size w w' := by
  have M := Lib.hid (fun W => make_ok 33 1 W (by decide) (by decide))
  obtain ⟨S, hS⟩ : ∃ S, S = bs (Idn.nam 33 1) := ⟨_, rfl⟩
  rw [← hS] at M
  have hq : (S.toList == ([48, 48, 48, 48, 48, 48, 49, 49, 48, 48, 48, 48, 48, 48, 48, 49] : List UInt8)) = true := by rw [hS, nam_33]; decide +kernel
  clear hS
  go_enter Tryd.func8, Tryd.ntmps8
  go_wp2_with fail
  refine (M.out _).mono ?_
  rintro e w1 ⟨rfl, b1⟩
  go_wp2_with fail
  go_ret2
  exact ⟨S, rfl, b1⟩

theorem two_lists9 (w : World) : Ncs (((w.alloc (.cells #[.int .i64 1, .int .i64 2] 3)).alloc (.cells #[.int .i64 2] 3)).alloc (.cells #[.slice (some ⟨w.heap.size, 0, none⟩) 2 2, .slice (some ⟨w.heap.size + 1, 0, none⟩) 1 1] 44)) (.slice (some ⟨w.heap.size + 1 + 1, 0, none⟩) 2 2) [[1, 2], [2]] := by
  have s1 : (w.alloc (.cells #[.int .i64 1, .int .i64 2] 3)).heap.size = w.heap.size + 1 := by simp
  have s2 : ((w.alloc (.cells #[.int .i64 1, .int .i64 2] 3)).alloc (.cells #[.int .i64 2] 3)).heap.size = w.heap.size + 1 + 1 := by simp
  have l1 := ((Sl.lit w 0 1 2 #[.int .i64 1, .int .i64 2] 3 (Nat.zero_le _) (by decide) rfl).alloc (.cells #[.int .i64 2] 3)).alloc (.cells #[.slice (some ⟨w.heap.size, 0, none⟩) 2 2, .slice (some ⟨w.heap.size + 1, 0, none⟩) 1 1] 44)
  have l2 := (Sl.lit (w.alloc (.cells #[.int .i64 1, .int .i64 2] 3)) 0 1 1 #[.int .i64 2] 3 (Nat.zero_le _) (by decide) rfl).alloc (.cells #[.slice (some ⟨w.heap.size, 0, none⟩) 2 2, .slice (some ⟨w.heap.size + 1, 0, none⟩) 1 1] 44)
  have l3 := Sl.lit ((w.alloc (.cells #[.int .i64 1, .int .i64 2] 3)).alloc (.cells #[.int .i64 2] 3)) 0 1 2 #[.slice (some ⟨w.heap.size, 0, none⟩) 2 2, .slice (some ⟨w.heap.size + 1, 0, none⟩) 1 1] 44 (Nat.zero_le _) (by decide) rfl
  rw [s1] at l2
  rw [s2] at l3
  refine ⟨by decide, _, 2, w.heap.size + 1 + 1, 0, rfl, by decide, fun _ => ⟨rfl, by simp⟩, fun j l hl => ?_⟩
  match j, hl with
  | 0, hl => cases hl; exact ⟨_, l3.cells 0 _ rfl, Nc.of_sl (base := 0) (l := [1, 2]) l1 (by decide)⟩
  | 1, hl => cases hl; exact ⟨_, l3.cells 1 _ rfl, Nc.of_sl (base := 0) (l := [2]) l2 (by decide)⟩

set_option maxHeartbeats 1000000 in
set_option maxRecDepth 100000 in
theorem live_any (w : World) : Calls Tryd.prog 4 #[] w fun e w' => e = .returned (.bool true) ∧ Below w.heap.size w w' := by
  have N16 := Lib.hid (fun W => name16_any W)
  have U := Lib.hid (fun W => show Calls Tryd.prog 9 #[.slice none 0 0, .int .u64 300] W (fun e w' => ∃ v, e = .returned v ∧ Sl w' W.heap.size 1 v 2 (cb [172, 2]) ∧ Below W.heap.size W w') by
    refine (uint_any W.heap.size (.slice none 0 0) 0 [] 300 W (by unfold Leb.two64; omega) (Sl.nil _ _ _) (by omega) (Nat.le_refl _)).mono ?_
    rintro e w' ⟨v, rfl, x⟩
    rw [show Leb.encU 300 = [172, 2] by decide +kernel] at x
    exact ⟨v, rfl, x.now, x.below (Nat.le_refl _) (Nat.le_refl _)⟩)
  have S9 := Lib.hid (fun W => show Calls Tryd.prog 10 #[.string ⟨#[49, 50, 51, 52, 53, 54, 55, 56, 57]⟩] W (fun e w' => e = .returned (.int .u32 3808858755) ∧ W = w') by
    have := fsum_bs [49, 50, 51, 52, 53, 54, 55, 56, 57] W (by decide)
    rw [show Crc.sum [49, 50, 51, 52, 53, 54, 55, 56, 57] = 3808858755 by decide +kernel] at this
    exact this)
  have hbp : bothP [[1, 2], [2]] = [2] := by decide
  have B2 := Lib.hid (fun W => both_any (.slice (some ⟨W.heap.size + 1 + 1, 0, none⟩) 2 2) [[1, 2], [2]] _ (two_lists9 W) (by unfold Up; decide))
  rw [hbp] at B2
  clear hbp
  have WN := Lib.hid (fun W => walname_7 W)
  have hq : ((bs [172, 2]).toList == ([172, 2] : List UInt8)) = true := by decide +kernel
  go_enter Tryd.func4, Tryd.ntmps4
  go_wp2_with fail
  refine (N16.out _).mono ?_
  rintro e w1 ⟨S, rfl, b1⟩
  go_wp2_with fail
  refine (U.out _).mono ?_
  rintro e w2 ⟨v2, rfl, s2, b2⟩
  have c2 := text_conv s2
  have b02 := Lib.hid (b1.trans (b2.mono b1.size))
  clear s2 b1 b2
  obtain ⟨T, hT⟩ : ∃ T, T = bs [172, 2] := ⟨_, rfl⟩
  rw [← hT] at c2 hq
  clear hT
  go_wp2_with fail
  refine (S9.out _).mono ?_
  rintro e w3 ⟨rfl, rfl⟩
  have CB := Lib.hid (B2.out w2)
  have A3 := Lib.hid (((((Below.refl w2.heap.size w2).alloc (Nat.le_refl _) (.cells #[.int .i64 1, .int .i64 2] 3)).alloc (by simp) (.cells #[.int .i64 2] 3)).alloc (by simp; omega) (.cells #[.slice (some ⟨w2.heap.size, 0, none⟩) 2 2, .slice (some ⟨w2.heap.size + 1, 0, none⟩) 1 1] 44)))
  go_wp2_with fail
  refine CB.out.mono ?_
  rintro e w4 ⟨v4, rfl, s4, b4⟩
  have b4 := A3.out.trans (b4.mono A3.out.size)
  obtain ⟨a4, k4, e4⟩ := s4.slice
  have e4 : v4 = .slice a4 1 k4 := e4
  subst e4
  have b04 := Lib.hid (b02.out.trans (b4.mono b02.out.size))
  clear s4 b4 A3 CB
  go_wp2_with fail
  refine (WN.out _).mono ?_
  rintro e w5 ⟨rfl, rfl⟩
  go_wp2
  go_ret
  exact ⟨rfl, b04.out⟩
end Go.Proofs.YtajkleknjjpldaaDoor
