/- What layer 4's statements call: the fixed answers. -/
import Derived.Test.YtfjihookoilnnaaD13
namespace Go.Proofs.Ytfjihookoilnnaa
open Go.Conc Go.RowKit

set_option maxHeartbeats 1000000 in
set_option maxRecDepth 100000 in
theorem dawake_any (w : World) : Calls Try.prog 26 #[] w fun e w' => e = .returned (.bool true) ∧ Below w.heap.size w w' := by
  have HN := Lib.hid (new_home 100 w (by decide) (by decide))
  go_enter Try.func26, Try.ntmps26
  go_wp2_with fail
  refine HN.out.mono ?_
  rintro e w1 ⟨base, d, f, c, m, rfl, D1, hH, b1⟩
  have e1 := D1.c0
  have hB1 := D1.hb
  have hHb := hH.b
  clear HN
  have C1 := Lib.hid (one_append0 w.heap.size _ _ _ _ _ _ _ ⟨#[97]⟩ ⟨#[120, 121]⟩ w1 D1 hH (by decide) (by decide) (by decide))
  go_wp2_with fail
  refine C1.out.mono ?_
  rintro e w2 ⟨rfl, O2, b2⟩
  have z2 := b2.size
  have C2 := Lib.hid (one_sync w.heap.size _ _ _ _ _ _ _ _ _ w2 O2 hH)
  go_wp2_with fail
  refine C2.out.mono ?_
  rintro e w3 ⟨rfl, O3, b3⟩
  have z3 := b3.size
  have C3 := Lib.hid (one_append w.heap.size _ _ _ _ _ _ _ ⟨#[122, 49]⟩ _ _ [] w3 O3 hH (by decide) (by decide) (by decide) rfl)
  go_wp2_with fail
  refine C3.out.mono ?_
  rintro e w4 ⟨he, O4, b4⟩
  rw [show (if (tryL []).1.1 = true then (0 : Int) else 8) = 0 from rfl] at he
  subst he
  have z4 := b4.size
  have hblk := heap_alloc_new w4 (.cells #[.int .i64 1] 3)
  have hci : (w4.alloc (.cells #[.int .i64 1] 3)).cell? ⟨w4.heap.size, 0 + 0, none⟩ = some (.int .i64 1) := by rw [cell_of_row _ _ 0 _ _ _ hblk]; rfl
  have C4 := Lib.hid (one_crash w.heap.size _ _ _ _ _ _ _ _ _ _ (.slice (some ⟨w4.heap.size, 0, none⟩) 1 1) [1] (some w4.heap.size) w4 (w4.alloc (.cells #[.int .i64 1] 3)) O4 ((Below.refl _ w4).alloc (Nat.le_refl _) _) hH
    ⟨_, 1, rfl, by decide, fun _ => ⟨w4.heap.size, 0, rfl, fun j hj => by obtain rfl : j = 0 := (by simpa using hj); exact hci⟩⟩ ⟨by decide, by simp⟩ (fun _ k hk => hk) (fun k hk => by cases hk; exact ⟨by simp, .inr (Nat.le_refl _)⟩))
  go_wp2_with fail
  refine C4.out.mono ?_
  rintro e w5 ⟨rfl, O5, b5⟩
  have z5 := b5.size
  simp only [World.size_alloc] at z5
  change One base d f c m (max 100 0) ⟨#[97]⟩ (List.take (left1 4 2 1) [120, 121, 122, 49]) (left1 4 2 1) [] w5 at O5
  rw [show left1 4 2 1 = 3 by decide] at O5
  change One base d f c m (max 100 0) ⟨#[97]⟩ [120, 121, 122] 3 [] w5 at O5
  have C5 := Lib.hid (one_read _ _ _ _ _ _ _ _ _ _ w5 O5)
  go_wp2_with fail
  refine C5.out.mono ?_
  rintro e w6 ⟨rfl, b6⟩
  have O6 := O5.below b6
  have e6 := O6.c0
  have z6 := b6.size
  have C6 := Lib.hid (one_arm w.heap.size _ _ _ _ _ _ _ _ _ 0 true w6 O6 hH (by unfold Ft.Fits; decide))
  clear C1 C2 C3 C4 C5 e1
  go_wp2_with fail
  refine C6.out.mono ?_
  rintro e w7 ⟨rfl, O7, b7⟩
  have z7 := b7.size
  have C7 := Lib.hid (one_append w.heap.size _ _ _ _ _ _ _ ⟨#[113]⟩ _ _ _ w7 O7 hH (by decide) (by decide) (by decide) rfl)
  go_wp2_with fail
  refine C7.out.mono ?_
  rintro e w8 ⟨he, O8, b8⟩
  rw [show (if (tryL [(max 0 0, true)]).1.1 = true then (0 : Int) else 8) = 8 from rfl] at he
  subst he
  have z8 := b8.size
  have C8 := Lib.hid (one_read _ _ _ _ _ _ _ _ _ _ w8 O8)
  go_wp2_with fail
  refine C8.out.mono ?_
  rintro e w9 ⟨rfl, b9⟩
  have O9 := O8.below b9
  have C9 := Lib.hid (one_used _ _ _ _ _ _ _ _ _ _ w9 O9)
  go_wp2_with fail
  refine C9.out.mono ?_
  rintro e w10 ⟨he, rfl⟩
  change e = .returned (.int .i64 4) at he
  subst he
  go_wp2
  go_ret
  have z1 := b1.size
  exact ⟨rfl, (((((((((b1.trans b2).trans b3).trans b4).trans ((Below.refl _ w4).alloc (by omega) _)).trans b5).trans (b6.mono (by omega))).trans b7).trans b8).trans (b9.mono (by omega)))⟩
end Go.Proofs.Ytfjihookoilnnaa
