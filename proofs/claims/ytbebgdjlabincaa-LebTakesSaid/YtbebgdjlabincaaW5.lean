/- The statement LebTakes, walked. -/
import Derived.Test.YtbebgdjlabincaaW4
namespace Go.Proofs.Ytbebgdjlabincaa
open Go.RowKit Go.Lib

set_option maxRecDepth 100000 in
theorem takes_some (s : ByteArray) (most : Int) (w : World) (hm : -9223372036854775808 ≤ most) (hm' : most ≤ 9223372036854775807) (c : UInt8) (l : List UInt8) (HL : Hid (cutB s 200 = bs (c :: l))) (hl : (c :: l).length ≤ 200) :
    Calls Try.prog 4 #[.string s, .int .i64 most] w fun e w' => e = .returned (.bool true) ∧ Below w.heap.size w w' := by
  have hT := bs_toList
  obtain ⟨z, hz⟩ : ∃ z, z = bs (c :: l) := ⟨_, rfl⟩
  rw [← hz] at HL
  have zl : z.data.toList = c :: l := by rw [hz]; rfl
  have zs : z.size ≤ 200 := by rw [hz, bs_size]; exact hl
  have z1 : 1 ≤ z.size := by rw [hz, bs_size]; simp
  have zm : z.size ≤ maxLen := by unfold maxLen; omega
  have ze : z.toList.isEmpty = false := by rw [ByteArray.toList_eq, zl]; rfl
  have z0 : z[0] = c := by
    have := list_at z 0 (by omega)
    rw [List.drop_zero, zl] at this
    exact ((List.cons.inj this).1).symm
  have zr : z.extract 1 z.size = bs l := by rw [extract_bs, zl]; rfl
  obtain ⟨u1, r1, e1, h1⟩ : ∃ u r er, Leb.takeU z.data.toList = (u, r, er) := ⟨_, _, _, rfl⟩
  obtain ⟨u2, r2, e2, h2⟩ : ∃ u r er, Leb.takeI z.data.toList = (u, r, er) := ⟨_, _, _, rfl⟩
  obtain ⟨u3, r3, e3, h3⟩ : ∃ u r er, Leb.takeM z.data.toList most = (u, r, er) := ⟨_, _, _, rfl⟩
  obtain ⟨u4, r4, e4, h4⟩ : ∃ u r er, Leb.takeT z.data.toList most = (u, r, er) := ⟨_, _, _, rfl⟩
  have H1 := Lib.hid h1
  have H2 := Lib.hid (show tupI (Leb.takeI z.data.toList) = .tuple #[.int .i64 u2, .string (bs r2), .int .i64 e2] by rw [h2]; rfl)
  have H3 := Lib.hid h3
  have H4 := Lib.hid (show tupT (Leb.takeT z.data.toList most) = .tuple #[.string (bs u4), .string (bs r4), .int .i64 e4] by rw [h4]; rfl)
  have ZL := Lib.hid zl
  clear h1 h2 h3 h4 zl hz
  go_enter Try.func4, Try.ntmps4
  go_wp2_with (first
    | (go_at_call 14; refine ((cut_any s 200 _ (by decide)).mono fun _ _ h => (show _ from h)).mono ?_; rintro e w1 ⟨rfl, rfl⟩; rw [show (200 : Int).toNat = 200 from rfl, HL.out])
    | (go_at_call 22; refine (takeU_is H1.out _ zm).mono ?_; rintro e w1 ⟨rfl, n1, rfl⟩)
    | (go_at_call 23; refine (rtakeU_is H1.out _ zm).mono ?_; rintro e w1 ⟨rfl, n2, rfl⟩)
    | (go_at_call 24; refine (takeI_any z _ zm).mono ?_; rintro e w1 ⟨rfl, n3, rfl⟩; rw [H2.out])
    | (go_at_call 25; refine (rtakeI_any z _ zm).mono ?_; rintro e w1 ⟨rfl, n4, rfl⟩; rw [H2.out])
    | (go_at_call 26; refine (takeM_is H3.out _ zm hm hm').mono ?_; rintro e w1 ⟨rfl, n5, rfl⟩)
    | (go_at_call 27; refine (rtakeM_is H3.out _ zm hm hm').mono ?_; rintro e w1 ⟨rfl, n6, rfl⟩)
    | (go_at_call 28; refine (takeT_any z most _ zm hm hm').mono ?_; rintro e w1 ⟨rfl, n7, rfl⟩; rw [H4.out])
    | (go_at_call 29; refine (rtakeT_any z most _ zm hm hm').mono ?_; rintro e w1 ⟨rfl, n8, rfl⟩; rw [H4.out])
    | (go_at_call 30; refine (takeB_some z _ c l ZL.out zm).mono ?_; rintro e w1 ⟨rfl, n9, rfl⟩)
    | (go_at_call 15; refine (awake_any _).mono ?_; rintro e w3 ⟨rfl, b3⟩))
  go_ret
  exact ⟨rfl, below_step (below_draw (Below.refl _ _) _) b3⟩

theorem takeM_nil (most : Int) : Leb.takeM [] most = (0, [], 2) := Leb.takeM_no (u := 0) (r := []) rfl (by decide)
theorem takeT_nil (most : Int) : Leb.takeT [] most = ([], [], 2) := Leb.takeT_no (takeM_nil most) (by decide)

set_option maxRecDepth 100000 in
theorem takes_none (s : ByteArray) (most : Int) (w : World) (hm : -9223372036854775808 ≤ most) (hm' : most ≤ 9223372036854775807) (HL : Hid (cutB s 200 = bs [])) :
    Calls Try.prog 4 #[.string s, .int .i64 most] w fun e w' => e = .returned (.bool true) ∧ Below w.heap.size w w' := by
  have hT := bs_toList
  have zm : (bs []).size ≤ maxLen := by decide
  have H1 := Lib.hid (show Leb.takeU (bs []).data.toList = (0, [], 2) from rfl)
  have H2 := Lib.hid (show tupI (Leb.takeI (bs []).data.toList) = .tuple #[.int .i64 0, .string (bs []), .int .i64 2] from rfl)
  have H3 := Lib.hid (show Leb.takeM (bs []).data.toList most = (0, [], 2) from takeM_nil most)
  have H4 := Lib.hid (show tupT (Leb.takeT (bs []).data.toList most) = .tuple #[.string (bs []), .string (bs []), .int .i64 2] by rw [show (bs []).data.toList = [] from rfl, takeT_nil]; rfl)
  go_enter Try.func4, Try.ntmps4
  go_wp2_with (first
    | (go_at_call 14; refine ((cut_any s 200 _ (by decide)).mono fun _ _ h => (show _ from h)).mono ?_; rintro e w1 ⟨rfl, rfl⟩; rw [show (200 : Int).toNat = 200 from rfl, HL.out])
    | (go_at_call 22; refine (takeU_is H1.out _ zm).mono ?_; rintro e w1 ⟨rfl, n1, rfl⟩)
    | (go_at_call 23; refine (rtakeU_is H1.out _ zm).mono ?_; rintro e w1 ⟨rfl, n2, rfl⟩)
    | (go_at_call 24; refine (takeI_any _ _ zm).mono ?_; rintro e w1 ⟨rfl, n3, rfl⟩; rw [H2.out])
    | (go_at_call 25; refine (rtakeI_any _ _ zm).mono ?_; rintro e w1 ⟨rfl, n4, rfl⟩; rw [H2.out])
    | (go_at_call 26; refine (takeM_is H3.out _ zm hm hm').mono ?_; rintro e w1 ⟨rfl, n5, rfl⟩)
    | (go_at_call 27; refine (rtakeM_is H3.out _ zm hm hm').mono ?_; rintro e w1 ⟨rfl, n6, rfl⟩)
    | (go_at_call 28; refine (takeT_any _ most _ zm hm hm').mono ?_; rintro e w1 ⟨rfl, n7, rfl⟩; rw [H4.out])
    | (go_at_call 29; refine (rtakeT_any _ most _ zm hm hm').mono ?_; rintro e w1 ⟨rfl, n8, rfl⟩; rw [H4.out])
    | (go_at_call 30; refine (takeB_none _).mono ?_; rintro e w1 ⟨rfl, n9, rfl⟩)
    | (go_at_call 15; refine (awake_any _).mono ?_; rintro e w3 ⟨rfl, b3⟩))
  go_ret
  exact ⟨rfl, below_step (below_draw (Below.refl _ _) _) b3⟩

theorem takes_any (s : ByteArray) (most : Int) (w : World) (hm : -9223372036854775808 ≤ most) (hm' : most ≤ 9223372036854775807) :
    Calls Try.prog 4 #[.string s, .int .i64 most] w fun e w' => e = .returned (.bool true) ∧ Below w.heap.size w w' := by
  obtain ⟨l, hl, hl200⟩ := cut_list s 200
  cases l with
  | nil => exact takes_none s most w hm hm' hl
  | cons c l => exact takes_some s most w hm hm' c l hl hl200
end Go.Proofs.Ytbebgdjlabincaa
