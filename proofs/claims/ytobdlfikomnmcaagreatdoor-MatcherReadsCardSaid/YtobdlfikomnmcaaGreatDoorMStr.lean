/- Texts: the first place of a byte, a text cut at it (strings.Index, strings.Cut at a text of one byte). -/
import Derived.Test.YtobdlfikomnmcaaGreatDoorMSl
import Derived.Lib.Bytealg
import Derived.Laws.Externs
namespace Go.Proofs.YtobdlfikomnmcaaGreatDoor
open Go.RowKit Go.Lib

set_option maxHeartbeats 1000000 in
set_option maxRecDepth 100000 in
theorem ibyte_any (s : ByteArray) (c : UInt8) (w : World) : Calls Tryz.prog 75 #[.string s, .int .u8 c.toNat] w fun e w' => e = .returned (.int .i64 (Lib.indexByte s.data.toList c)) ∧ w = w' := by
  go_enter Tryz.func75, Tryz.ntmps75
  go_wp2
  rw [run_callFunc_extern Tryz.func92 (by kernel_rfl) (by kernel_rfl) (by kernel_rfl) (e := Extern.BytealgIndexByte.indexByte) (by kernel_rfl), Lib.run_indexByteString]
  simp only [Result.andThen]
  rw [Oper.upon_value]
  go_wp2
  go_ret
  refine ⟨?_, rfl⟩
  simp

theorem size_list (s : ByteArray) : s.data.toList.length = s.size := by rw [Array.length_toList]; rfl
theorem indexB_bounds : ∀ (l : List UInt8) (c : UInt8), (Lib.indexByte l c = -1 ∧ c ∉ l) ∨ ∃ i : Nat, Lib.indexByte l c = i ∧ i < l.length ∧ l[i]? = some c ∧ c ∉ l.take i
  | [], _ => .inl ⟨rfl, by simp⟩
  | b :: l, c => by
    unfold Lib.indexByte
    by_cases h : b = c
    · subst h
      exact .inr ⟨0, by simp, by simp, by simp, by simp⟩
    · have hb : (b == c) = false := by simpa using h
      rw [hb]
      rcases indexB_bounds l c with ⟨h1, h2⟩ | ⟨i, h1, h2, h3, h4⟩
      · rw [h1]
        exact .inl ⟨rfl, by simp only [List.mem_cons, not_or]; exact ⟨fun e => h e.symm, h2⟩⟩
      · rw [h1]
        refine .inr ⟨i + 1, ?_, by simpa using h2, by simpa using h3, ?_⟩
        · have : ((i : Int) == -1) = false := by simp
          simp [this]
        · simp only [List.take_succ_cons, List.mem_cons, not_or]; exact ⟨fun e => h e.symm, h4⟩

set_option maxHeartbeats 2000000 in
set_option maxRecDepth 100000 in
theorem index1_any (s : ByteArray) (c : UInt8) (w : World) :
    Calls Tryz.prog 61 #[.string s, .string (bs [c])] w fun e w' => e = .returned (.int .i64 (Lib.indexByte s.data.toList c)) ∧ w = w' := by
  have hz : (bs [c]).size = 1 := rfl
  have hT := bs_toList
  have hg : ∀ h, (bs [c])[0]'h = c := fun _ => rfl
  by_cases h : s.toList = [c]
  · have hb : ([c] == s.toList) = true := by simp [h]
    have hx : Lib.indexByte s.data.toList c = 0 := by
      rw [← ByteArray.toList_eq, h]
      simp [Lib.indexByte]
    have HX := Lib.hid hx
    clear hx h
    go_enter Tryz.func61, Tryz.ntmps61
    go_wp2
    go_ret
    exact ⟨by rw [HX.out]; rfl, rfl⟩
  · have hb : ([c] == s.toList) = false := by
      rw [beq_eq_false_iff_ne]
      exact fun e => h e.symm
    clear h
    go_enter Tryz.func61, Tryz.ntmps61
    go_wp2_with fail
    refine (ibyte_any _ _ _).mono ?_
    rintro e w1 ⟨rfl, rfl⟩
    go_wp2
    go_ret
    exact ⟨rfl, rfl⟩
/-- A text cut at its first c. -/
def cutL (l : List UInt8) (c : UInt8) : Option (List UInt8 × List UInt8) :=
  if c ∈ l then some (l.take (Lib.indexByte l c).toNat, l.drop ((Lib.indexByte l c).toNat + 1)) else none
def cutV (s : ByteArray) : Option (List UInt8 × List UInt8) → Value
  | none => .tuple #[.string s, .string (bs []), .bool false]
  | some (a, b) => .tuple #[.string (bs a), .string (bs b), .bool true]

set_option maxHeartbeats 2000000 in
set_option maxRecDepth 100000 in
theorem cut0_any (s : ByteArray) (c : UInt8) (w : World) (hs : s.size ≤ 4611686018427387904) :
    Calls Tryz.prog 50 #[.string s, .string (bs [c])] w fun e w' => e = .returned (cutV s (cutL s.data.toList c)) ∧ ∃ n, w' = w.drewN n := by
  have hz : (bs [c]).size = 1 := rfl
  rcases indexB_bounds s.data.toList c with ⟨h1, h2⟩ | ⟨i, h1, h2, h3, h4⟩
  · have HC := Lib.hid (show cutL s.data.toList c = none by unfold cutL; rw [if_neg h2])
    have H := Lib.hid (fun W => show Calls Tryz.prog 61 #[.string s, .string (bs [c])] W (fun e w' => e = .returned (.int .i64 (-1)) ∧ W = w') by rw [← h1]; exact index1_any s c W)
    clear h1 h2
    go_enter Tryz.func50, Tryz.ntmps50
    go_wp2_with fail
    with_reducible refine (H.out _).mono ?_
    rintro e w1 ⟨rfl, rfl⟩
    go_wp2
    go_ret3
    exact ⟨by rw [HC.out]; rfl, 0, rfl⟩
  · have HC := Lib.hid (show cutL s.data.toList c = some (s.data.toList.take i, s.data.toList.drop (i + 1)) by
      unfold cutL
      rw [if_pos (List.mem_of_getElem? h3), h1]
      rfl)
    have H := Lib.hid (fun W => show Calls Tryz.prog 61 #[.string s, .string (bs [c])] W (fun e w' => e = .returned (.int .i64 i) ∧ W = w') by rw [← h1]; exact index1_any s c W)
    rw [size_list] at h2
    have e1 := Lib.hid (extract_bs0 s i)
    have e2 := Lib.hid (extract_bs s (i + 1))
    have h2' : (i : Int) ≤ s.size := by omega
    have h2'' : (i : Int) + 1 ≤ s.size := by omega
    clear h1 h3 h4
    go_enter Tryz.func50, Tryz.ntmps50
    go_wp2_with fail
    with_reducible refine (H.out _).mono ?_
    rintro e w1 ⟨rfl, rfl⟩
    go_wp2_with fail
    go_region
    go_wp2
    go_ret3
    refine ⟨?_, 1, rfl⟩
    show Ending.returned (.tuple #[.string (s.extract 0 i), .string (s.extract (i + 1) s.size), .bool true]) = _
    rw [HC.out, e1.out, e2.out]
    rfl
set_option maxHeartbeats 1000000 in
set_option maxRecDepth 100000 in
theorem cut1_any (s : ByteArray) (c : UInt8) (w : World) (hs : s.size ≤ 4611686018427387904) :
    Calls Tryz.prog 30 #[.string s, .string (bs [c])] w fun e w' => e = .returned (cutV s (cutL s.data.toList c)) ∧ ∃ n, w' = w.drewN n := by
  have H := Lib.hid (fun W => cut0_any s c W hs)
  obtain ⟨r, hr⟩ : ∃ r, r = cutL s.data.toList c := ⟨_, rfl⟩
  rw [← hr] at H ⊢
  clear hr
  cases r with
  | none =>
    unfold cutV at H ⊢
    go_enter Tryz.func30, Tryz.ntmps30
    go_wp2_with fail
    with_reducible refine (H.out _).mono ?_
    rintro e w1 ⟨rfl, n, rfl⟩
    go_wp2
    go_ret3
    exact ⟨rfl, n, rfl⟩
  | some p =>
    obtain ⟨a, b⟩ := p
    unfold cutV at H ⊢
    go_enter Tryz.func30, Tryz.ntmps30
    go_wp2_with fail
    with_reducible refine (H.out _).mono ?_
    rintro e w1 ⟨rfl, n, rfl⟩
    go_wp2
    go_ret3
    exact ⟨rfl, n, rfl⟩

theorem index_app (l r : List UInt8) (c : UInt8) (h : c ∉ l) : Lib.indexByte (l ++ c :: r) c = l.length := by
  induction l with
  | nil => simp [Lib.indexByte]
  | cons x l ih =>
    have hx : x ≠ c := fun e => h (by simp [e])
    have hl : c ∉ l := fun e => h (by simp [e])
    rw [List.cons_append, Lib.indexByte, ih hl]
    have h1 : (x == c) = false := by simpa using hx
    have h2 : ((l.length : Int) == -1) = false := by
      rw [beq_eq_false_iff_ne]; omega
    simp [h1, h2]
theorem cut_app (l r : List UInt8) (c : UInt8) (h : c ∉ l) : cutL (l ++ c :: r) c = some (l, r) := by
  unfold cutL
  rw [if_pos (by simp), index_app l r c h, Int.toNat_natCast, List.take_left' rfl]
  rw [show l ++ c :: r = (l ++ [c]) ++ r by simp, List.drop_left' (by simp)]
end Go.Proofs.YtobdlfikomnmcaaGreatDoor
