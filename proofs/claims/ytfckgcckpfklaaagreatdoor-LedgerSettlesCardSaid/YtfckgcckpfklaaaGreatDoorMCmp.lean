/- Texts compared: plain maths. Texts: the first place of a byte, a text cut at it (strings.Index, strings.Cut at a text of one byte). The library's contracts, laid over this program. Layer 6: pairs as cells; two pairs compared. How many bits a number has (math/bits.Len64, Len). -/
import Derived.Test.YtfckgcckpfklaaaGreatDoorMSl2
import Derived.Lib.Bytealg
import Derived.Sort.Statements
import Derived.Laws.Externs
import Derived.Shelf.SlSortCmp.WholeK
import Derived.Test.YtfckgcckpfklaaaGreatDoorProg
import Derived.Lib.Tables
import Derived.Lib.BitFns
import Derived.Lib.Walk
import Derived.Deep.Light
namespace Go.Proofs.YtfckgcckpfklaaaGreatDoor
open Go.RowKit

theorem cmp_spec : ∀ a b : List UInt8, (Lib.compareBytes a b < 0 ↔ a < b) ∧ (Lib.compareBytes a b = 0 ↔ a = b) ∧ (0 < Lib.compareBytes a b ↔ b < a)
  | [], [] => by simp [Lib.compareBytes]
  | [], _ :: _ => by simp [Lib.compareBytes]
  | _ :: _, [] => by simp [Lib.compareBytes]
  | x :: a, y :: b => by
    obtain ⟨h1, h2, h3⟩ := cmp_spec a b
    unfold Lib.compareBytes
    rw [List.cons_lt_cons_iff, List.cons_lt_cons_iff]
    by_cases hxy : x < y
    · have hne : x ≠ y := fun e => by rw [e] at hxy; exact absurd hxy (UInt8.lt_irrefl _)
      have hyx : ¬ y < x := fun h => absurd (UInt8.lt_trans hxy h) (UInt8.lt_irrefl _)
      simp [hxy, hne, hyx, Ne.symm hne]
    · by_cases hyx : y < x
      · have hne : x ≠ y := fun e => by rw [e] at hyx; exact absurd hyx (UInt8.lt_irrefl _)
        simp [hxy, hyx, hne, Ne.symm hne]
      · have he : x = y := UInt8.le_antisymm (UInt8.not_lt.1 hyx) (UInt8.not_lt.1 hxy)
        subst he
        simp [h1, h2, h3]
theorem cmp_lt (a b : List UInt8) : Lib.compareBytes a b < 0 ↔ a < b := (cmp_spec a b).1
theorem cmp_eq (a b : List UInt8) : Lib.compareBytes a b = 0 ↔ a = b := (cmp_spec a b).2.1
theorem cmp_gt (a b : List UInt8) : 0 < Lib.compareBytes a b ↔ b < a := (cmp_spec a b).2.2
theorem cmp_val : ∀ a b : List UInt8, Lib.compareBytes a b = -1 ∨ Lib.compareBytes a b = 0 ∨ Lib.compareBytes a b = 1
  | [], [] => by simp [Lib.compareBytes]
  | [], _ :: _ => by simp [Lib.compareBytes]
  | _ :: _, [] => by simp [Lib.compareBytes]
  | x :: a, y :: b => by
    have := cmp_val a b
    unfold Lib.compareBytes
    split
    · simp
    · split
      · simp
      · exact this
theorem bytes_lt_irrefl (a : List UInt8) : ¬ a < a := List.lt_irrefl a
theorem bytes_lt_trans {a b c : List UInt8} (h : a < b) (k : b < c) : a < c := List.lt_trans h k
theorem bytes_tri (a b : List UInt8) : a < b ∨ a = b ∨ b < a := by
  rcases cmp_val a b with h | h | h
  · exact .inl ((cmp_lt a b).1 (by omega))
  · exact .inr (.inl ((cmp_eq a b).1 h))
  · exact .inr (.inr ((cmp_gt a b).1 (by omega)))
theorem bytes_not_lt {a b : List UInt8} (h : ¬ a < b) : a = b ∨ b < a := (bytes_tri a b).resolve_left h
/-- Texts by rising bytes, as a strict weak order on whatever has one. -/
theorem swo_by {α : Type} (key : α → List UInt8) : Sort.SWO fun x y : α => decide (Lib.compareBytes (key x) (key y) < 0) where
  irrefl x := by
    rw [decide_eq_false_iff_not, cmp_lt]
    exact bytes_lt_irrefl _
  trans x y z h k := by
    rw [decide_eq_true_iff, cmp_lt] at *
    exact bytes_lt_trans h k
  ntrans x y z h k := by
    rw [decide_eq_false_iff_not, cmp_lt] at *
    intro hz
    rcases bytes_not_lt h with e | e
    · exact k (e ▸ hz)
    · rcases bytes_not_lt k with e2 | e2
      · exact h (e2 ▸ hz)
      · exact bytes_lt_irrefl _ (bytes_lt_trans hz (bytes_lt_trans e2 e))
end Go.Proofs.YtfckgcckpfklaaaGreatDoor

namespace Go.Proofs.YtfckgcckpfklaaaGreatDoor
open Go.RowKit Go.Lib

set_option maxHeartbeats 1000000 in
set_option maxRecDepth 100000 in
theorem ibyte_any (s : ByteArray) (c : UInt8) (w : World) : Calls Tryz.prog 112 #[.string s, .int .u8 c.toNat] w fun e w' => e = .returned (.int .i64 (Lib.indexByte s.data.toList c)) ∧ w = w' := by
  go_enter Tryz.func112, Tryz.ntmps112
  go_wp2
  rw [run_callFunc_extern Tryz.func129 (by kernel_rfl) (by kernel_rfl) (by kernel_rfl) (e := Extern.BytealgIndexByte.indexByte) (by kernel_rfl), Lib.run_indexByteString]
  simp only [Result.andThen]
  rw [Oper.upon_value]
  go_wp2
  go_ret
  refine ⟨?_, rfl⟩
  simp

theorem size_list (s : ByteArray) : s.data.toList.length = s.size := by rw [Array.length_toList]; rfl
theorem indexB_bounds : ∀ (l : List UInt8) (c : UInt8), (Lib.indexByte l c = -1 ∧ c ∉ l) ∨ ∃ i : Nat, Lib.indexByte l c = i ∧ i < l.length ∧ l[i]? = some c ∧ c ∉ l.take i
  | [], _ => .inl ⟨rfl, by simp⟩
  | b :: l, c => by
    unfold Lib.indexByte
    by_cases h : b = c
    · subst h
      exact .inr ⟨0, by simp, by simp, by simp, by simp⟩
    · have hb : (b == c) = false := by simpa using h
      rw [hb]
      rcases indexB_bounds l c with ⟨h1, h2⟩ | ⟨i, h1, h2, h3, h4⟩
      · rw [h1]
        exact .inl ⟨rfl, by simp only [List.mem_cons, not_or]; exact ⟨fun e => h e.symm, h2⟩⟩
      · rw [h1]
        refine .inr ⟨i + 1, ?_, by simpa using h2, by simpa using h3, ?_⟩
        · have : ((i : Int) == -1) = false := by simp
          simp [this]
        · simp only [List.take_succ_cons, List.mem_cons, not_or]; exact ⟨fun e => h e.symm, h4⟩

set_option maxHeartbeats 2000000 in
set_option maxRecDepth 100000 in
theorem index1_any (s : ByteArray) (c : UInt8) (w : World) :
    Calls Tryz.prog 103 #[.string s, .string (bs [c])] w fun e w' => e = .returned (.int .i64 (Lib.indexByte s.data.toList c)) ∧ w = w' := by
  have hz : (bs [c]).size = 1 := rfl
  have hT := bs_toList
  have hg : ∀ h, (bs [c])[0]'h = c := fun _ => rfl
  by_cases h : s.toList = [c]
  · have hb : ([c] == s.toList) = true := by simp [h]
    have hx : Lib.indexByte s.data.toList c = 0 := by
      rw [← ByteArray.toList_eq, h]
      simp [Lib.indexByte]
    have HX := Lib.hid hx
    clear hx h
    go_enter Tryz.func103, Tryz.ntmps103
    go_wp2
    go_ret
    exact ⟨by rw [HX.out]; rfl, rfl⟩
  · have hb : ([c] == s.toList) = false := by
      rw [beq_eq_false_iff_ne]
      exact fun e => h e.symm
    clear h
    go_enter Tryz.func103, Tryz.ntmps103
    go_wp2_with fail
    refine (ibyte_any _ _ _).mono ?_
    rintro e w1 ⟨rfl, rfl⟩
    go_wp2
    go_ret
    exact ⟨rfl, rfl⟩
/-- A text cut at its first c. -/
def cutL (l : List UInt8) (c : UInt8) : Option (List UInt8 × List UInt8) :=
  if c ∈ l then some (l.take (Lib.indexByte l c).toNat, l.drop ((Lib.indexByte l c).toNat + 1)) else none
def cutV (s : ByteArray) : Option (List UInt8 × List UInt8) → Value
  | none => .tuple #[.string s, .string (bs []), .bool false]
  | some (a, b) => .tuple #[.string (bs a), .string (bs b), .bool true]

set_option maxHeartbeats 2000000 in
set_option maxRecDepth 100000 in
theorem cut0_any (s : ByteArray) (c : UInt8) (w : World) (hs : s.size ≤ 4611686018427387904) :
    Calls Tryz.prog 86 #[.string s, .string (bs [c])] w fun e w' => e = .returned (cutV s (cutL s.data.toList c)) ∧ ∃ n, w' = w.drewN n := by
  have hz : (bs [c]).size = 1 := rfl
  rcases indexB_bounds s.data.toList c with ⟨h1, h2⟩ | ⟨i, h1, h2, h3, h4⟩
  · have HC := Lib.hid (show cutL s.data.toList c = none by unfold cutL; rw [if_neg h2])
    have H := Lib.hid (fun W => show Calls Tryz.prog 103 #[.string s, .string (bs [c])] W (fun e w' => e = .returned (.int .i64 (-1)) ∧ W = w') by rw [← h1]; exact index1_any s c W)
    clear h1 h2
    go_enter Tryz.func86, Tryz.ntmps86
    go_wp2_with fail
    with_reducible refine (H.out _).mono ?_
    rintro e w1 ⟨rfl, rfl⟩
    go_wp2
    go_ret3
    exact ⟨by rw [HC.out]; rfl, 0, rfl⟩
  · have HC := Lib.hid (show cutL s.data.toList c = some (s.data.toList.take i, s.data.toList.drop (i + 1)) by
      unfold cutL
      rw [if_pos (List.mem_of_getElem? h3), h1]
      rfl)
    have H := Lib.hid (fun W => show Calls Tryz.prog 103 #[.string s, .string (bs [c])] W (fun e w' => e = .returned (.int .i64 i) ∧ W = w') by rw [← h1]; exact index1_any s c W)
    rw [size_list] at h2
    have e1 := Lib.hid (extract_bs0 s i)
    have e2 := Lib.hid (extract_bs s (i + 1))
    have h2' : (i : Int) ≤ s.size := by omega
    have h2'' : (i : Int) + 1 ≤ s.size := by omega
    clear h1 h3 h4
    go_enter Tryz.func86, Tryz.ntmps86
    go_wp2_with fail
    with_reducible refine (H.out _).mono ?_
    rintro e w1 ⟨rfl, rfl⟩
    go_wp2_with fail
    go_region
    go_wp2
    go_ret3
    refine ⟨?_, 1, rfl⟩
    show Ending.returned (.tuple #[.string (s.extract 0 i), .string (s.extract (i + 1) s.size), .bool true]) = _
    rw [HC.out, e1.out, e2.out]
    rfl
set_option maxHeartbeats 1000000 in
set_option maxRecDepth 100000 in
theorem cut1_any (s : ByteArray) (c : UInt8) (w : World) (hs : s.size ≤ 4611686018427387904) :
    Calls Tryz.prog 60 #[.string s, .string (bs [c])] w fun e w' => e = .returned (cutV s (cutL s.data.toList c)) ∧ ∃ n, w' = w.drewN n := by
  have H := Lib.hid (fun W => cut0_any s c W hs)
  obtain ⟨r, hr⟩ : ∃ r, r = cutL s.data.toList c := ⟨_, rfl⟩
  rw [← hr] at H ⊢
  clear hr
  cases r with
  | none =>
    unfold cutV at H ⊢
    go_enter Tryz.func60, Tryz.ntmps60
    go_wp2_with fail
    with_reducible refine (H.out _).mono ?_
    rintro e w1 ⟨rfl, n, rfl⟩
    go_wp2
    go_ret3
    exact ⟨rfl, n, rfl⟩
  | some p =>
    obtain ⟨a, b⟩ := p
    unfold cutV at H ⊢
    go_enter Tryz.func60, Tryz.ntmps60
    go_wp2_with fail
    with_reducible refine (H.out _).mono ?_
    rintro e w1 ⟨rfl, n, rfl⟩
    go_wp2
    go_ret3
    exact ⟨rfl, n, rfl⟩

theorem index_app (l r : List UInt8) (c : UInt8) (h : c ∉ l) : Lib.indexByte (l ++ c :: r) c = l.length := by
  induction l with
  | nil => simp [Lib.indexByte]
  | cons x l ih =>
    have hx : x ≠ c := fun e => h (by simp [e])
    have hl : c ∉ l := fun e => h (by simp [e])
    rw [List.cons_append, Lib.indexByte, ih hl]
    have h1 : (x == c) = false := by simpa using hx
    have h2 : ((l.length : Int) == -1) = false := by
      rw [beq_eq_false_iff_ne]; omega
    simp [h1, h2]
theorem cut_app (l r : List UInt8) (c : UInt8) (h : c ∉ l) : cutL (l ++ c :: r) c = some (l, r) := by
  unfold cutL
  rw [if_pos (by simp), index_app l r c h, Int.toNat_natCast, List.take_left' rfl]
  rw [show l ++ c :: r = (l ++ [c]) ++ r by simp, List.drop_left' (by simp)]
end Go.Proofs.YtfckgcckpfklaaaGreatDoor

namespace Go.Proofs.YtfckgcckpfklaaaGreatDoor
open Go.Shelf Go.Proofs
def sortPair_ren : Go.Shelf.Ren := ⟨fun | 14 => 104 | 20 => 116 | 21 => 117 | 22 => 118 | 23 => 119 | 24 => 120 | 25 => 121 | 26 => 122 | 27 => 123 | 46 => 131 | 47 => 132 | 48 => 133 | 49 => 134 | 50 => 135 | 15 => 105 | 57 => 136 | 28 => 124 | 29 => 125 | n => n, fun | 24 => 74 | 22 => 35 | 3 => 3 | 25 => 145 | 4 => 4 | 0 => 0 | 46 => 184 | 45 => 183 | 50 => 98 | 66 => 199 | 39 => 116 | 55 => 32 | 70 => 203 | 76 => 205 | 77 => 206 | 53 => 190 | 5 => 5 | 9 => 9 | n => n, fun | n => n⟩
theorem sortPair : Go.Proofs.SlLaysF0.n14 Tryz.prog sortPair_ren := {
  mixed := by kernel_rfl
  f14 := ⟨Tryz.f104.name, by decide, Tryz.func104.trans (congrArg some (by kernel_rfl))⟩
  f15 := Tryz.func105.trans (congrArg some (by kernel_rfl))
  f20 := ⟨Tryz.f116.name, by decide, Tryz.func116.trans (congrArg some (by kernel_rfl))⟩
  f21 := ⟨Tryz.f117.name, by decide, Tryz.func117.trans (congrArg some (by kernel_rfl))⟩
  f22 := ⟨Tryz.f118.name, by decide, Tryz.func118.trans (congrArg some (by kernel_rfl))⟩
  f23 := ⟨Tryz.f119.name, by decide, Tryz.func119.trans (congrArg some (by kernel_rfl))⟩
  f24 := ⟨Tryz.f120.name, by decide, Tryz.func120.trans (congrArg some (by kernel_rfl))⟩
  f25 := ⟨Tryz.f121.name, by decide, Tryz.func121.trans (congrArg some (by kernel_rfl))⟩
  f26 := ⟨Tryz.f122.name, by decide, Tryz.func122.trans (congrArg some (by kernel_rfl))⟩
  f27 := ⟨Tryz.f123.name, by decide, Tryz.func123.trans (congrArg some (by kernel_rfl))⟩
  f28 := Tryz.func124.trans (congrArg some (by kernel_rfl))
  f29 := Tryz.func125.trans (congrArg some (by kernel_rfl))
  f46 := ⟨Tryz.f131.name, by decide, Tryz.func131.trans (congrArg some (by kernel_rfl))⟩
  f47 := Tryz.func132.trans (congrArg some (by kernel_rfl))
  f48 := Tryz.func133.trans (congrArg some (by kernel_rfl))
  f49 := ⟨Tryz.f134.name, by decide, Tryz.func134.trans (congrArg some (by kernel_rfl))⟩
  f50 := ⟨Tryz.f135.name, by decide, Tryz.func135.trans (congrArg some (by kernel_rfl))⟩
  f57 := ⟨Tryz.f136.name, by decide, Tryz.func136.trans (congrArg some (by kernel_rfl))⟩
  t0 := Tryz.underlying0
  a0 := Tryz.isAgg0
  z0 := Tryz.sizeOf0
  v0 := Tryz.zeroValue0
  t3 := Tryz.underlying3
  a3 := Tryz.isAgg3
  z3 := Tryz.sizeOf3
  v3 := Tryz.zeroValue3
  t4 := Tryz.underlying4
  a4 := Tryz.isAgg4
  z4 := Tryz.sizeOf4
  v4 := Tryz.zeroValue4
  t5 := Tryz.underlying5
  a5 := Tryz.isAgg5
  z5 := Tryz.sizeOf5
  v5 := Tryz.zeroValue5
  t9 := Tryz.underlying9
  a9 := Tryz.isAgg9
  z9 := Tryz.sizeOf9
  v9 := Tryz.zeroValue9
  t22 := Tryz.underlying35
  a22 := Tryz.isAgg35
  z22 := Tryz.sizeOf35
  v22 := Tryz.zeroValue35
  t25 := Tryz.underlying145
  a25 := Tryz.isAgg145
  z25 := Tryz.sizeOf145
  v25 := Tryz.zeroValue145
  t39 := Tryz.underlying116
  a39 := Tryz.isAgg116
  z39 := Tryz.sizeOf116
  v39 := Tryz.zeroValue116
  t45 := Tryz.underlying183
  a45 := Tryz.isAgg183
  z45 := Tryz.sizeOf183
  v45 := Tryz.zeroValue183
  t46 := Tryz.underlying184
  a46 := Tryz.isAgg184
  z46 := Tryz.sizeOf184
  v46 := Tryz.zeroValue184
  t50 := Tryz.underlying98
  a50 := Tryz.isAgg98
  z50 := Tryz.sizeOf98
  v50 := Tryz.zeroValue98
  t53 := Tryz.underlying190
  a53 := Tryz.isAgg190
  z53 := Tryz.sizeOf190
  v53 := Tryz.zeroValue190
  t55 := Tryz.underlying32
  a55 := Tryz.isAgg32
  z55 := Tryz.sizeOf32
  v55 := Tryz.zeroValue32
  t66 := Tryz.underlying199
  a66 := Tryz.isAgg199
  z66 := Tryz.sizeOf199
  v66 := Tryz.zeroValue199
  t70 := Tryz.underlying203
  a70 := Tryz.isAgg203
  z70 := Tryz.sizeOf203
  v70 := Tryz.zeroValue203
  t76 := Tryz.underlying205
  a76 := Tryz.isAgg205
  z76 := Tryz.sizeOf205
  v76 := Tryz.zeroValue205
  t77 := Tryz.underlying206
  a77 := Tryz.isAgg206
  z77 := Tryz.sizeOf206
  v77 := Tryz.zeroValue206 }
end Go.Proofs.YtfckgcckpfklaaaGreatDoor

namespace Go.Proofs.YtfckgcckpfklaaaGreatDoor
open Go.RowKit Go.Lib

/-- A name, and what it says. -/
structure Pr where
  n : List UInt8
  v : List UInt8
deriving DecidableEq
instance : Inhabited Pr := ⟨⟨[], []⟩⟩
def encP (x : Pr) : List Value := [.string (bs x.n), .string (bs x.v)]
def prV (x : Pr) : Value := .agg #[.string (bs x.n), .string (bs x.v)]
def prc (ds : List Pr) : List Value := ds.flatMap encP
theorem prc_length (ds : List Pr) : (prc ds).length = ds.length * 2 := by
  induction ds with
  | nil => rfl
  | cons x ds ih => simp only [prc, List.flatMap_cons, List.length_append, List.length_cons, encP, List.length_nil] at *; omega
theorem prc_append (a b : List Pr) : prc (a ++ b) = prc a ++ prc b := by simp [prc]
theorem prc_cons (a : Pr) (b : List Pr) : prc (a :: b) = encP a ++ prc b := by simp [prc]
theorem prc_get : ∀ (ds : List Pr) (t : Nat), t < ds.length * 2 → (prc ds)[t]? = some ((encP (ds.toArray[t / 2]!))[t % 2]!)
  | [], t, h => by simp at h
  | x :: ds, t, h => by
    rw [prc_cons]
    by_cases ht : t < 2
    · have h0 : t / 2 = 0 := by omega
      have h1 : t % 2 = t := by omega
      rw [h0, h1, List.getElem?_append_left (by simpa [encP] using ht)]
      have : t = 0 ∨ t = 1 := by omega
      rcases this with rfl | rfl <;> rfl
    · obtain ⟨u, rfl⟩ : ∃ u, t = u + 2 := ⟨t - 2, by omega⟩
      have h0 : (u + 2) / 2 = u / 2 + 1 := by omega
      have h1 : (u + 2) % 2 = u % 2 := by omega
      have hl : (encP x).length = 2 := rfl
      rw [h0, h1, List.getElem?_append_right (by omega), hl, Nat.add_sub_cancel, prc_get ds u (by simp at h; omega)]
      simp
theorem prc_at : ∀ (ds : List Pr) (j : Nat) (x : Pr), ds[j]? = some x → (prc ds)[j * 2]? = some (.string (bs x.n)) ∧ (prc ds)[j * 2 + 1]? = some (.string (bs x.v))
  | [], j, x, h => by simp at h
  | y :: ds, 0, x, h => by
    simp at h; subst h
    exact ⟨rfl, rfl⟩
  | y :: ds, j + 1, x, h => by
    have ih := prc_at ds j x (by simpa using h)
    have hl : (encP y).length = 2 := rfl
    rw [prc_cons, List.getElem?_append_right (by omega), List.getElem?_append_right (by omega), hl]
    rw [show (j + 1) * 2 - 2 = j * 2 by omega, show (j + 1) * 2 + 1 - 2 = j * 2 + 1 by omega]
    exact ih

/-- Two pairs compared: by names, then by values. -/
def cfP (x y : Pr) : Int := if Lib.compareBytes x.n y.n = 0 then Lib.compareBytes x.v y.v else Lib.compareBytes x.n y.n

set_option maxHeartbeats 1000000 in
set_option maxRecDepth 100000 in
theorem cmps0_any (a b : ByteArray) (w : World) :
    Calls Tryz.prog 110 #[.string a, .string b] w fun e w' => e = .returned (.int .i64 (Lib.compareBytes a.data.toList b.data.toList)) ∧ w = w' := by
  go_enter Tryz.func110, Tryz.ntmps110
  go_wp2
  rw [run_callFunc_extern Tryz.func128 (by kernel_rfl) (by kernel_rfl) (by kernel_rfl) (e := Extern.BytealgCompare.compare) (by kernel_rfl), Lib.run_compareString]
  simp only [Result.andThen]
  rw [Oper.upon_value]
  go_wp2
  go_ret
  exact ⟨rfl, rfl⟩
theorem cmps_any (a b : ByteArray) (w : World) :
    Calls Tryz.prog 94 #[.string a, .string b] w fun e w' => e = .returned (.int .i64 (Lib.compareBytes a.data.toList b.data.toList)) ∧ w = w' := by
  go_enter Tryz.func94, Tryz.ntmps94
  go_wp2_with fail
  refine (cmps0_any a b _).mono ?_
  rintro e w1 ⟨rfl, rfl⟩
  go_wp2
  go_ret
  exact ⟨rfl, rfl⟩
theorem cmps_bs (a b : List UInt8) (r : Int) (hr : Lib.compareBytes a b = r) (w : World) :
    Calls Tryz.prog 94 #[.string (bs a), .string (bs b)] w fun e w' => e = .returned (.int .i64 r) ∧ w = w' := by
  subst hr
  exact cmps_any (bs a) (bs b) w

set_option maxHeartbeats 1000000 in
set_option maxRecDepth 100000 in
theorem cmpp_any (x y : Pr) (w : World) :
    Calls Tryz.prog 74 #[prV x, prV y] w fun e w' => e = .returned (.int .i64 (cfP x y)) ∧ ∃ q os', w' = Sort.grow (w.drewN q) os' := by
  unfold cfP prV
  have H1 := Lib.hid (fun W => cmps_bs x.n y.n _ rfl W)
  have H2 := Lib.hid (fun W => cmps_bs x.v y.v _ rfl W)
  generalize Lib.compareBytes x.n y.n = r1 at H1 ⊢
  generalize Lib.compareBytes x.v y.v = r2 at H2 ⊢
  by_cases h : r1 = 0
  · rw [if_pos h]
    subst h
    go_enter Tryz.func74, Tryz.ntmps74
    go_wp2_with fail
    refine (H1.out _).mono ?_
    rintro e w1 ⟨rfl, rfl⟩
    go_wp2_with fail
    refine (H2.out _).mono ?_
    rintro e w1 ⟨rfl, rfl⟩
    go_wp2
    go_ret
    exact ⟨rfl, 0, _, by rw [Sort.alloc_eq_grow, Sort.alloc_eq_grow, Sort.grow_grow]; rfl⟩
  · rw [if_neg h]
    go_enter Tryz.func74, Tryz.ntmps74
    go_wp2_with fail
    refine (H1.out _).mono ?_
    rintro e w1 ⟨rfl, rfl⟩
    go_wp2
    go_ret
    exact ⟨rfl, 0, _, by rw [Sort.alloc_eq_grow, Sort.alloc_eq_grow, Sort.grow_grow]; rfl⟩
end Go.Proofs.YtfckgcckpfklaaaGreatDoor

namespace Go.Proofs.YtfckgcckpfklaaaGreatDoor
open Go.RowKit

theorem tab_all : ∀ i : Fin 256, (Lib.len8tab.data.getD i.val 0).toNat = Lib.bitLen i.val := by decide +kernel
theorem tab_size : Lib.len8tab.size = 256 := by decide +kernel
theorem tab_get (y : Nat) (h : y < Lib.len8tab.size) : (Lib.len8tab[y]'h).toNat = Lib.bitLen y := by
  have h' : y < 256 := by have := tab_size; omega
  have := tab_all ⟨y, h'⟩
  rw [← this]
  have h2 : y < Lib.len8tab.data.size := h
  rw [Array.getD_eq_getD_getElem?, Array.getElem?_eq_getElem h2]
  rfl
theorem shift_len (x y k : Nat) (hx : x < 2 ^ 64) (hk : 2 ^ k ≤ x ∨ k = 0) (hy : y = x / 2 ^ k) : Lib.bitLen x = k + Lib.bitLen y := by
  subst hy
  rcases hk with h | rfl
  · exact Lib.bitLen_shift k x h hx
  · simp
theorem len_end (x m : Nat) (e : Int) (k : Nat) (hx2 : x ≤ 18446744073709551615) (hk : 2 ^ k ≤ x ∨ k = 0) (hm : m = x / 2 ^ k) (hk64 : k ≤ 56) (h : m < Lib.len8tab.size) (he : e = (k : Int) + wrap64 ((Lib.len8tab[m]'h).toNat : Int)) :
    wrap64 e = (Lib.bitLen x : Int) := by
  rw [tab_get m h] at he
  have h2 : m < 256 := Nat.lt_of_lt_of_eq h tab_size
  clear h
  have h8 := Lib.bitLen_le m 8 (by decide) h2
  have hs := shift_len x m k (Nat.lt_of_le_of_lt hx2 (by decide)) hk hm
  generalize Lib.bitLen m = q at *
  rw [hs, he]
  unfold wrap64
  omega

set_option maxHeartbeats 4000000 in
set_option maxRecDepth 100000 in
theorem len64_any (x : Int) (w : World) (h0 : 0 ≤ x) (h1 : x ≤ 18446744073709551615) :
    Calls Tryz.prog 125 #[.int .u64 x] w fun e w' => e = .returned (.int .i64 (Lib.bitLen x.toNat)) ∧ w = w' := by
  go_enter Tryz.func125, Tryz.ntmps125
  go_wp2
  all_goals first
    | (go_ret; refine ⟨congrArg Ending.returned (congrArg (Value.int IntKind.i64) ?_), rfl⟩; go_light)
    | (exfalso; go_light; have hs := tab_size; omega)
  all_goals first | exact len_end x.toNat _ _ 56 (by omega) (.inl (by omega)) (by omega) (by decide) _ rfl | exact len_end x.toNat _ _ 48 (by omega) (.inl (by omega)) (by omega) (by decide) _ rfl | exact len_end x.toNat _ _ 40 (by omega) (.inl (by omega)) (by omega) (by decide) _ rfl | exact len_end x.toNat _ _ 32 (by omega) (.inl (by omega)) (by omega) (by decide) _ rfl | exact len_end x.toNat _ _ 24 (by omega) (.inl (by omega)) (by omega) (by decide) _ rfl | exact len_end x.toNat _ _ 16 (by omega) (.inl (by omega)) (by omega) (by decide) _ rfl | exact len_end x.toNat _ _ 8 (by omega) (.inl (by omega)) (by omega) (by decide) _ rfl | exact len_end x.toNat x.toNat _ 0 (by omega) (.inr rfl) (by simp) (by decide) (by omega) (by simp)

theorem len_any (x : Nat) (w : World) (h1 : x < 9223372036854775808) :
    Calls Tryz.prog 105 #[.int .u64 x] w fun e w' => e = .returned (.int .i64 (Lib.bitLen x)) ∧ w = w' := by
  have H := Lib.hid (fun W : World => show Calls Tryz.prog 125 #[.int .u64 x] W fun e w' => e = .returned (.int .i64 (Lib.bitLen x)) ∧ W = w' by
    have := len64_any x W (by omega) (by omega)
    rwa [Int.toNat_natCast] at this)
  go_enter Tryz.func105, Tryz.ntmps105
  go_wp2_with (go_at_call 125; refine (H.out _).mono ?_; rintro e w' ⟨rfl, rfl⟩)
  go_ret
  exact ⟨rfl, rfl⟩
end Go.Proofs.YtfckgcckpfklaaaGreatDoor
