/- The statement FrameParts, walked. -/
import Derived.Test.YtbebgdjlabincaaV5
import Derived.Deep.DeepCutAuto
import Derived.Deep.RegionHeld3
namespace Go.Proofs.Ytbebgdjlabincaa
open Go.RowKit Go.Lib

set_option maxHeartbeats 1000000 in
theorem parts_any (s : ByteArray) (at' to' : Int) (w : World) (h1 : -9223372036854775808 ≤ at') (h2 : at' ≤ 9223372036854775807) (h3 : -9223372036854775808 ≤ to') (h4 : to' ≤ 9223372036854775807) :
    Calls Try.prog 12 #[.string s, .int .i64 at', .int .i64 to'] w fun e w' => e = .returned (.bool true) ∧ Below w.heap.size w w' := by
  obtain ⟨l, hl, hl200⟩ := cut_list s 200
  have HL := Lib.hid hl; clear hl
  have hz : (bs l).size ≤ 200 := by rw [bs_size]; exact hl200
  go_enter Try.func12, Try.ntmps12
  go_upto_region 2 with (go_at_call 14; refine (cut_is s l 200 200 rfl HL.out _).mono ?_; rintro e w1 ⟨rfl, rfl⟩)
  go_cut [1] (fun a wx => ∃ A : Nat, a = .int .i64 A ∧ A ≤ (bs l).size ∧ w = wx)
  case first =>
    go_wp2
    all_goals
      go_meet
      first
        | exact ⟨(bs l).size, rfl, Nat.le_refl _, rfl⟩
        | exact ⟨0, rfl, Nat.zero_le _, rfl⟩
        | exact ⟨at'.toNat, congrArg (Value.int .i64) (by omega), by omega, rfl⟩
  case rest =>
    obtain ⟨A, rfl, hA, rfl⟩ := hcut
    go_upto_region 3 with fail
    go_cut [2] (fun b wx => ∃ B : Nat, b = .int .i64 B ∧ A ≤ B ∧ B ≤ (bs l).size ∧ w = wx)
    case first =>
      go_wp2
      all_goals
        go_meet
        first
          | exact ⟨(bs l).size, rfl, hA, Nat.le_refl _, rfl⟩
          | exact ⟨A, rfl, Nat.le_refl _, hA, rfl⟩
          | exact ⟨to'.toNat, congrArg (Value.int .i64) (by omega), by omega, by omega, rfl⟩
    case rest =>
      obtain ⟨B, rfl, hB, hB', rfl⟩ := hcut
      obtain ⟨P, hP⟩ : ∃ P, P = l.take A := ⟨_, rfl⟩
      obtain ⟨Q, hQ⟩ : ∃ Q, Q = (l.take B).drop A := ⟨_, rfl⟩
      obtain ⟨R, hR⟩ : ∃ R, R = l.drop B := ⟨_, rfl⟩
      have x1 : (bs l).extract 0 A = bs P := by rw [bs_take, hP]
      have x2 : (bs l).extract A B = bs Q := by
        rw [hQ, List.drop_take]
        conv => lhs; rw [show bs l = ByteArray.mk l.toArray from rfl]
        rw [ByteArray.extract_mk]
        rfl
      have x3 : (bs l).extract B (bs l).size = bs R := by rw [bs_drop, hR]
      have hl : P ++ Q ++ R = l := by
        rw [hP, hQ, hR]
        have e1 : l.take A = (l.take B).take A := by rw [List.take_take, Nat.min_eq_left hB]
        rw [e1, List.take_append_drop, List.take_append_drop]
      have zP : P.length ≤ 200 := by have := congrArg List.length hl; simp only [List.length_append] at this; omega
      have zQ : Q.length ≤ 200 := by have := congrArg List.length hl; simp only [List.length_append] at this; omega
      have zR : R.length ≤ 200 := by have := congrArg List.length hl; simp only [List.length_append] at this; omega
      obtain ⟨a, ha⟩ : ∃ a, a = Crc.sum P := ⟨_, rfl⟩
      obtain ⟨b, hb⟩ : ∃ b, b = Crc.more a Q := ⟨_, rfl⟩
      obtain ⟨z, hzz⟩ : ∃ z, z = Crc.sum l := ⟨_, rfl⟩
      have hbz : Crc.more b R = z := by rw [hb, ha, hzz, Crc.sum_append, Crc.sum_append, hl]
      have hm : ∀ X : List UInt8, X.length ≤ 200 → (bs X).size ≤ maxLen := fun X hX => by rw [bs_size]; unfold maxLen; omega
      have C1 := Lib.hid (fun W => show Calls Try.prog 38 #[.string (bs P)] W (fun e w' => e = .returned (.int .u32 (a : Nat)) ∧ W = w') by rw [ha]; exact fsum_bs P W (hm P zP))
      have C2 := Lib.hid (fun W => show Calls Try.prog 40 #[.int .u32 (a : Nat), .string (bs Q)] W (fun e w' => e = .returned (.int .u32 (b : Nat)) ∧ W = w') by rw [hb]; exact fmore_bs a Q W (by rw [ha]; exact Crc.sum_lt _) (hm Q zQ))
      have C3 := Lib.hid (fun W => show Calls Try.prog 40 #[.int .u32 (b : Nat), .string (bs R)] W (fun e w' => e = .returned (.int .u32 (z : Nat)) ∧ W = w') by rw [← hbz]; exact fmore_bs b R W (by rw [hb]; exact Crc.more_lt _ _) (hm R zR))
      have C4 := Lib.hid (fun W => show Calls Try.prog 38 #[.string (bs l)] W (fun e w' => e = .returned (.int .u32 (z : Nat)) ∧ W = w') by rw [hzz]; exact fsum_bs l W (hm l hl200))
      have C5 := Lib.hid (fun W => show Calls Try.prog 38 #[.string ⟨#[]⟩] W (fun e w' => e = .returned (.int .u32 0) ∧ W = w') from fsum_bs [] W (by decide))
      clear hP hQ hR hl ha hb hzz hbz hm zP zQ zR
      go_wp2_with fail
      have i1 : (A : Int) ≤ ((bs l).size : Int) := by omega
      have i2 : (A : Int) ≤ (B : Int) := by omega
      have i3 : (B : Int) ≤ ((bs l).size : Int) := by omega
      have hbel := (Below.refl w.heap.size w).drew
      go_region_held3 (Below w.heap.size w) (first | assumption) (first
        | (go_at_call 35; refine (fawake_any _).mono ?_; rintro e w1 ⟨rfl, b1⟩; have b2 := below_step hbel b1)
        | (go_at_call_of 38 (Value.string (bs P)); refine (C1.out _).mono ?_; rintro e w1 ⟨rfl, rfl⟩)
        | (go_at_call_of 38 (Value.string (bs l)); refine (C4.out _).mono ?_; rintro e w1 ⟨rfl, rfl⟩)
        | (go_at_call 38; refine (C5.out _).mono ?_; rintro e w1 ⟨rfl, rfl⟩)
        | (go_at_call_of 40 (Value.string (bs Q)); refine (C2.out _).mono ?_; rintro e w1 ⟨rfl, rfl⟩)
        | (go_at_call_of 40 (Value.string (bs R)); refine (C3.out _).mono ?_; rintro e w1 ⟨rfl, rfl⟩))
      all_goals go_wp2
      all_goals go_ret
      all_goals exact ⟨rfl, by assumption⟩
end Go.Proofs.Ytbebgdjlabincaa
