/- Layer 11: the name of the seventh segment, walked. -/
import Derived.Test.YtajkleknjjpldaaDoorMB0
namespace Go.Proofs.YtajkleknjjpldaaDoor
open Go.RowKit Go.Lib

/-- Does s begin with p? -/
def pre (p s : List UInt8) : Bool := decide (p <+: s)
theorem ext_toList (s : ByteArray) (n : Nat) : (s.extract 0 n).toList = s.data.toList.take n := by
  rw [ByteArray.toList_eq, ByteArray.data_extract, Array.toList_extract]
  simp
theorem ext_is (s p : ByteArray) : ((s.extract 0 p.size).toList == p.toList) = pre p.data.toList s.data.toList := by
  rw [ext_toList, ByteArray.toList_eq p]
  unfold pre
  have hl : p.data.toList.length = p.size := Array.length_toList
  rw [Bool.eq_iff_iff]
  simp only [beq_iff_eq, decide_eq_true_eq]
  rw [List.prefix_iff_eq_take, hl]
  exact eq_comm
theorem has0_any (s p : ByteArray) (w : World) :
    Calls Tryd.prog 52 #[.string s, .string p] w fun e w' => e = .returned (.bool (pre p.data.toList s.data.toList)) ∧ w = w' := by
  have he := Lib.hid (ext_is s p)
  by_cases h : p.size ≤ s.size
  · go_enter Tryd.func52, Tryd.ntmps52
    go_wp2
    go_ret
    exact ⟨by rw [← he.out]; rfl, rfl⟩
  · have hd : decide ((p.size : Int) ≤ (s.size : Int)) = false := by simp; omega
    have hf : pre p.data.toList s.data.toList = false := by
      unfold pre
      rw [decide_eq_false_iff_not]
      intro hp
      have := hp.length_le
      have h1 : p.data.toList.length = p.size := Array.length_toList
      have h2 : s.data.toList.length = s.size := Array.length_toList
      omega
    have hf' := Lib.hid hf
    clear hf he
    go_enter Tryd.func52, Tryd.ntmps52
    go_wp2
    go_ret
    exact ⟨by rw [hf'.out]; rfl, rfl⟩
theorem has_any (s p : ByteArray) (w : World) :
    Calls Tryd.prog 35 #[.string s, .string p] w fun e w' => e = .returned (.bool (pre p.data.toList s.data.toList)) ∧ w = w' := by
  have H := Lib.hid (fun W => has0_any s p W)
  go_enter Tryd.func35, Tryd.ntmps35
  go_wp2_with fail
  refine (H.out _).mono ?_
  rintro e w1 ⟨rfl, rfl⟩
  go_wp2
  go_ret
  exact ⟨rfl, rfl⟩

set_option maxRecDepth 100000 in
theorem mul64_17 (w : World) : Calls Tryd.prog 51 #[.int .u64 1, .int .u64 7] w fun e w' => e = .returned (.tuple #[.int .u64 0, .int .u64 7]) ∧ w = w' := by
  go_enter Tryd.func51, Tryd.ntmps51
  go_wp2
  go_ret2
  exact ⟨rfl, rfl⟩
set_option maxRecDepth 100000 in
theorem mul_17 (w : World) : Calls Tryd.prog 34 #[.int .u64 1, .int .u64 7] w fun e w' => e = .returned (.tuple #[.int .u64 0, .int .u64 7]) ∧ w = w' := by
  go_enter Tryd.func34, Tryd.ntmps34
  go_wp2_with fail
  refine (mul64_17 _).mono ?_
  rintro e w1 ⟨rfl, rfl⟩
  go_wp2
  go_ret2
  exact ⟨rfl, rfl⟩
set_option maxRecDepth 100000 in
theorem repeat_07 (w : World) : Calls Tryd.prog 24 #[.string (bs [48]), .int .i64 7] w fun e w' => e = .returned (.string (bs [48, 48, 48, 48, 48, 48, 48])) ∧ w = w' := by
  have M := Lib.hid (fun W => mul_17 W)
  go_enter Tryd.func24, Tryd.ntmps24
  go_wp2_with fail
  refine (M.out _).mono ?_
  rintro e w1 ⟨rfl, rfl⟩
  go_wp2_with fail
  refine (has_any _ _ _).mono ?_
  rintro e w1 ⟨rfl, rfl⟩
  rw [show pre _ _ = false by decide +kernel]
  go_wp2_with fail
  refine (has_any _ _ _).mono ?_
  rintro e w1 ⟨rfl, rfl⟩
  rw [show pre _ _ = false by decide +kernel]
  go_wp2_with fail
  refine (has_any _ _ _).mono ?_
  rintro e w1 ⟨rfl, rfl⟩
  rw [show pre _ _ = true by decide +kernel]
  go_wp2
  go_ret
  exact ⟨rfl, rfl⟩
set_option maxRecDepth 100000 in
theorem small_7 (w : World) : Calls Tryd.prog 67 #[.int .i64 7] w fun e w' => e = .returned (.string (bs [55])) ∧ w = w' := by
  go_enter Tryd.func67, Tryd.ntmps67
  go_wp2
  go_ret
  exact ⟨rfl, rfl⟩
set_option maxRecDepth 100000 in
theorem format_7 (w : World) : Calls Tryd.prog 49 #[.int .i64 7, .int .i64 10] w fun e w' => e = .returned (.string (bs [55])) ∧ w = w' := by
  go_enter Tryd.func49, Tryd.ntmps49
  go_wp2_with fail
  refine (small_7 _).mono ?_
  rintro e w1 ⟨rfl, rfl⟩
  go_wp2
  go_ret
  exact ⟨rfl, rfl⟩
set_option maxRecDepth 100000 in
theorem itoa0_7 (w : World) : Calls Tryd.prog 33 #[.int .i64 7] w fun e w' => e = .returned (.string (bs [55])) ∧ w = w' := by
  go_enter Tryd.func33, Tryd.ntmps33
  go_wp2_with fail
  refine (format_7 _).mono ?_
  rintro e w1 ⟨rfl, rfl⟩
  go_wp2
  go_ret
  exact ⟨rfl, rfl⟩
set_option maxRecDepth 100000 in
theorem itoa_7 (w : World) : Calls Tryd.prog 23 #[.int .i64 7] w fun e w' => e = .returned (.string (bs [55])) ∧ w = w' := by
  go_enter Tryd.func23, Tryd.ntmps23
  go_wp2_with fail
  refine (itoa0_7 _).mono ?_
  rintro e w1 ⟨rfl, rfl⟩
  go_wp2
  go_ret
  exact ⟨rfl, rfl⟩
set_option maxRecDepth 100000 in
theorem walname_7 (w : World) : Calls Tryd.prog 12 #[.int .i64 7] w fun e w' => e = .returned (.string ⟨#[119, 97, 108, 45, 48, 48, 48, 48, 48, 48, 48, 55]⟩) ∧ w = w' := by
  obtain ⟨S1, h1⟩ : ∃ S, S = bs [48, 48, 48, 48, 48, 48, 48] := ⟨_, rfl⟩
  obtain ⟨S2, h2⟩ : ∃ S, S = bs [55] := ⟨_, rfl⟩
  obtain ⟨S0, h0⟩ : ∃ S, S = ByteArray.mk #[119, 97, 108, 45] := ⟨_, rfl⟩
  have z1 : S1.size = 7 := by rw [h1]; rfl
  have z2 : S2.size = 1 := by rw [h2]; rfl
  have z0 : S0.size = 4 := by rw [h0]; rfl
  have R := Lib.hid (fun W => repeat_07 W)
  have I := Lib.hid (fun W => itoa_7 W)
  have HE := Lib.hid (show (S0 ++ S1) ++ S2 = ByteArray.mk #[119, 97, 108, 45, 48, 48, 48, 48, 48, 48, 48, 55] by rw [h0, h1, h2]; decide +kernel)
  have k : ByteArray.mk #[48] = bs [48] := rfl
  have k0 : ByteArray.mk #[119, 97, 108, 45] = S0 := h0.symm
  rw [← h1] at R
  rw [← h2] at I
  clear h0 h1 h2
  go_enter Tryd.func12, Tryd.ntmps12
  go_wp2_with fail
  refine (I.out _).mono ?_
  rintro e w1 ⟨rfl, rfl⟩
  go_wp2_with fail
  refine (R.out _).mono ?_
  rintro e w1 ⟨rfl, rfl⟩
  go_wp2
  go_ret
  exact ⟨by rw [← HE.out]; rfl, rfl⟩
end Go.Proofs.YtajkleknjjpldaaDoor
