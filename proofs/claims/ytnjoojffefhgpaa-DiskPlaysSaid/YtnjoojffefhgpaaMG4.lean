/- What layer 5's statements call: the fixed answers. Texts compared: plain maths. The library's contracts, laid over this program. Layer 5's buckets: the sort of what Look tells. -/
import Derived.Test.YtnjoojffefhgpaaMG2
import Derived.Test.YtnjoojffefhgpaaME4
import Derived.Test.YtnjoojffefhgpaaMB0
import Derived.Lib.Bytealg
import Derived.Sort.Statements
import Derived.Shelf.SlSortCmp.NoneTotal
import Derived.Shelf.SlSortCmp.WholeK
import Derived.Shelf.Small.Strs
import Derived.Test.YtnjoojffefhgpaaProg
namespace Go.Proofs.Ytnjoojffefhgpaa
open Go.Conc Go.RowKit

/-- All that a bucket has lies from block B on. -/
structure BHome (B k f c m : Nat) : Prop where
  k : B ≤ k
  f : B ≤ f
  c : B ≤ c
  m : B ≤ m
theorem BNow.below {B k f c m : Nat} {os os' : List Ob} {A A' : List Ft} {clock : Nat} {w w' : World} (h : BucketAt k f c m os A clock w) (hB : BHome B k f c m) (n : BNow k f c m os' A' w w') : Below B w w' := by
  have h0 := hB.k; have h1 := hB.f; have h2 := hB.c; have h3 := hB.m
  exact n.2.below (Nat.le_trans hB.k (Nat.le_of_lt h.klt)) fun i hi => by rcases hi with e | e | e <;> omega

/-- A bucket with these objects, whatever its clock. -/
def Bk (k f c m : Nat) (os : List Ob) (A : List Ft) (w : World) : Prop := ∃ ck, BucketAt k f c m os A ck w
theorem Bk.below {k f c m : Nat} {os : List Ob} {A : List Ft} {w w' : World} (h : Bk k f c m os A w) (b : Below w.heap.size w w') : Bk k f c m os A w' := by
  obtain ⟨ck, h⟩ := h
  exact ⟨ck, h.below b⟩
theorem Bk.c0 {k f c m : Nat} {os : List Ob} {A : List Ft} {w : World} (h : Bk k f c m os A w) : w.cell? ⟨k, 0, none⟩ = some (.pointer (some ⟨f, 0, none⟩)) := by
  obtain ⟨ck, h⟩ := h
  exact h.c0
theorem Bk.names {k f c m : Nat} {os : List Ob} {A : List Ft} {w : World} (h : Bk k f c m os A w) : (os.map (·.name)).Nodup := by
  obtain ⟨ck, h⟩ := h
  exact h.names

theorem bnew_home (w : World) : Calls Try.prog 11 #[] w fun e w' =>
    ∃ k f c m, e = .returned (.pointer (some ⟨k, 0, none⟩)) ∧ Bk k f c m [] [] w' ∧ BHome w.heap.size k f c m ∧ Below w.heap.size w w' := by
  refine (bnew_any w).mono ?_
  rintro e w' ⟨rfl, D, b⟩
  exact ⟨_, _, _, _, rfl, ⟨_, D⟩, ⟨by omega, by omega, by omega, by omega⟩, b⟩
theorem bput_go (B k f c m : Nat) (os : List Ob) (A : List Ft) (name data : ByteArray) (tm : Int) (w : World) (h : Bk k f c m os A w) (hB : BHome B k f c m) (hn : 0 < name.size ∧ name.size ≤ 40) :
    Calls Try.prog 35 #[.pointer (some ⟨k, 0, none⟩), .string name, .string data, .int .i64 tm] w fun e w' => e = .returned (.int .i64 (if (tryL A).1.1 then 0 else 8)) ∧
      (∃ clock, Bk k f c m (if (tryL A).1.2 then setO name data tm clock os else os) (tryL A).2 w') ∧ Below B w w' := by
  obtain ⟨ck, h⟩ := h
  refine (put_go k f c m os A ck name data tm w h hn).mono ?_
  rintro e w' ⟨rfl, n⟩
  exact ⟨rfl, ⟨ck, n.1⟩, n.below h hB⟩
theorem bput_bad (B k f c m : Nat) (os : List Ob) (A : List Ft) (name data : ByteArray) (tm : Int) (w : World) (h : Bk k f c m os A w) (hB : BHome B k f c m) (hn : ¬ (0 < name.size ∧ name.size ≤ 40)) :
    Calls Try.prog 35 #[.pointer (some ⟨k, 0, none⟩), .string name, .string data, .int .i64 tm] w fun e w' => e = .returned (.int .i64 1) ∧ Bk k f c m os A w' ∧ Below B w w' := by
  obtain ⟨ck, h⟩ := h
  refine (put_bad k f c m os A ck name data tm w h hn).mono ?_
  rintro e w' ⟨rfl, n⟩
  exact ⟨rfl, n.1, n.below h hB⟩
theorem bdelete (B k f c m : Nat) (os : List Ob) (A : List Ft) (name : ByteArray) (w : World) (h : Bk k f c m os A w) (hB : BHome B k f c m) :
    Calls Try.prog 37 #[.pointer (some ⟨k, 0, none⟩), .string name] w fun e w' => e = .returned (.int .i64 (if (tryL A).1.1 then 0 else 8)) ∧
      Bk k f c m (if (tryL A).1.2 then delO name os else os) (tryL A).2 w' ∧ Below B w w' := by
  obtain ⟨ck, h⟩ := h
  refine (delete_go k f c m os A ck name w h).mono ?_
  rintro e w' ⟨rfl, n⟩
  exact ⟨rfl, n.1, n.below h hB⟩
theorem bpeek (k f c m : Nat) (os : List Ob) (A : List Ft) (name : ByteArray) (w : World) (h : Bk k f c m os A w) :
    Calls Try.prog 16 #[.pointer (some ⟨k, 0, none⟩), .string name] w fun e w' => e = .returned (.tuple #[.string (peekO name os), .bool (lookO name os).isSome]) ∧ Below w.heap.size w w' := by
  obtain ⟨ck, h⟩ := h
  exact peek_any k f c m os A ck name w h
theorem bget (B k f c m : Nat) (os : List Ob) (A : List Ft) (name : ByteArray) (w : World) (h : Bk k f c m os A w) (hB : BHome B k f c m) :
    Calls Try.prog 38 #[.pointer (some ⟨k, 0, none⟩), .string name] w fun e w' => e = .returned (.tuple #[.string (if (tryL A).1.1 then (getR name os).1 else ByteArray.empty), .int .i64 (if (tryL A).1.1 then (getR name os).2 else 8)]) ∧ Bk k f c m os (tryL A).2 w' ∧ Below B w w' := by
  obtain ⟨ck, h⟩ := h
  refine (get_any k f c m os A ck name w h).mono ?_
  rintro e w' ⟨rfl, n⟩
  exact ⟨rfl, n.1, n.below h hB⟩
theorem brange (B k f c m : Nat) (os : List Ob) (A : List Ft) (name : ByteArray) (a n : Int) (w : World) (h : Bk k f c m os A w) (hB : BHome B k f c m) (ha : -9223372036854775808 ≤ a ∧ a ≤ 9223372036854775807) (hn : -9223372036854775808 ≤ n ∧ n ≤ 9223372036854775807) :
    Calls Try.prog 36 #[.pointer (some ⟨k, 0, none⟩), .string name, .int .i64 a, .int .i64 n] w fun e w' => e = .returned (.tuple #[.string (if (tryL A).1.1 then (rangeR name a n os).1 else ByteArray.empty), .int .i64 (if (tryL A).1.1 then (rangeR name a n os).2 else 8)]) ∧ Bk k f c m os (tryL A).2 w' ∧ Below B w w' := by
  obtain ⟨ck, h⟩ := h
  refine (range_any k f c m os A ck name a n w h ha hn).mono ?_
  rintro e w' ⟨rfl, n⟩
  exact ⟨rfl, n.1, n.below h hB⟩
theorem barm (B k f c m : Nat) (os : List Ob) (A : List Ft) (a : Int) (dn : Bool) (w : World) (h : Bk k f c m os A w) (hB : BHome B k f c m) (ha : Ft.Fits (a, dn)) :
    Calls Try.prog 21 #[.pointer (some ⟨f, 0, none⟩), .int .i64 a, .bool dn] w fun e w' => ((e = .returned (.int .i64 0) ∧ Bk k f c m os (A ++ [(max a 0, dn)]) w') ∨ (e = .returned (.int .i64 7) ∧ Bk k f c m os A w')) ∧ Below B w w' := by
  obtain ⟨ck, h⟩ := h
  refine (arm_any f c A a dn w h.fuse ha).mono ?_
  rintro e w' (⟨rfl, hA, t⟩ | ⟨rfl, rfl⟩)
  · have n := BNow.tried h (Below.refl _ w) t hA
    exact ⟨.inl ⟨rfl, n.1⟩, n.below h hB⟩
  · exact ⟨.inr ⟨rfl, ck, h⟩, Below.refl _ _⟩
/-- A fuse without faults has room. -/
theorem barm0 (B k f c m : Nat) (os : List Ob) (a : Int) (dn : Bool) (w : World) (h : Bk k f c m os [] w) (hB : BHome B k f c m) (ha : Ft.Fits (a, dn)) :
    Calls Try.prog 21 #[.pointer (some ⟨f, 0, none⟩), .int .i64 a, .bool dn] w fun e w' => e = .returned (.int .i64 0) ∧ Bk k f c m os [(max a 0, dn)] w' ∧ Below B w w' := by
  obtain ⟨ck, h⟩ := h
  obtain ⟨L, armed, now, hF, hv⟩ := h.fuse
  have hL : L = [] := by
    unfold view at hv
    cases armed <;> simp at hv
    exact hv
  subst hL
  refine (arm_room f c [] armed now a dn w hF (by decide)).mono ?_
  rintro e w' ⟨rfl, hc, t⟩
  have hA : Holds f c [(max a 0, dn)] w' := by
    refine ⟨[] ++ [(a, dn)], armed, now, hF.turn t hc (by simp) (fun x hx => ?_), ?_⟩
    · simp at hx; rw [hx]; exact ha
    · unfold view at hv ⊢
      cases armed <;> simp at hv ⊢
  have n := BNow.tried h (Below.refl _ w) (t.mono fun k hk => .inr hk) hA
  exact ⟨rfl, n.1, n.below h hB⟩
end Go.Proofs.Ytnjoojffefhgpaa

namespace Go.Proofs.Ytnjoojffefhgpaa
open Go.RowKit

theorem cmp_spec : ∀ a b : List UInt8, (Lib.compareBytes a b < 0 ↔ a < b) ∧ (Lib.compareBytes a b = 0 ↔ a = b) ∧ (0 < Lib.compareBytes a b ↔ b < a)
  | [], [] => by simp [Lib.compareBytes]
  | [], _ :: _ => by simp [Lib.compareBytes]
  | _ :: _, [] => by simp [Lib.compareBytes]
  | x :: a, y :: b => by
    obtain ⟨h1, h2, h3⟩ := cmp_spec a b
    unfold Lib.compareBytes
    rw [List.cons_lt_cons_iff, List.cons_lt_cons_iff]
    by_cases hxy : x < y
    · have hne : x ≠ y := fun e => by rw [e] at hxy; exact absurd hxy (UInt8.lt_irrefl _)
      have hyx : ¬ y < x := fun h => absurd (UInt8.lt_trans hxy h) (UInt8.lt_irrefl _)
      simp [hxy, hne, hyx, Ne.symm hne]
    · by_cases hyx : y < x
      · have hne : x ≠ y := fun e => by rw [e] at hyx; exact absurd hyx (UInt8.lt_irrefl _)
        simp [hxy, hyx, hne, Ne.symm hne]
      · have he : x = y := UInt8.le_antisymm (UInt8.not_lt.1 hyx) (UInt8.not_lt.1 hxy)
        subst he
        simp [h1, h2, h3]
theorem cmp_lt (a b : List UInt8) : Lib.compareBytes a b < 0 ↔ a < b := (cmp_spec a b).1
theorem cmp_eq (a b : List UInt8) : Lib.compareBytes a b = 0 ↔ a = b := (cmp_spec a b).2.1
theorem cmp_gt (a b : List UInt8) : 0 < Lib.compareBytes a b ↔ b < a := (cmp_spec a b).2.2
theorem cmp_val : ∀ a b : List UInt8, Lib.compareBytes a b = -1 ∨ Lib.compareBytes a b = 0 ∨ Lib.compareBytes a b = 1
  | [], [] => by simp [Lib.compareBytes]
  | [], _ :: _ => by simp [Lib.compareBytes]
  | _ :: _, [] => by simp [Lib.compareBytes]
  | x :: a, y :: b => by
    have := cmp_val a b
    unfold Lib.compareBytes
    split
    · simp
    · split
      · simp
      · exact this
theorem bytes_lt_irrefl (a : List UInt8) : ¬ a < a := List.lt_irrefl a
theorem bytes_lt_trans {a b c : List UInt8} (h : a < b) (k : b < c) : a < c := List.lt_trans h k
theorem bytes_tri (a b : List UInt8) : a < b ∨ a = b ∨ b < a := by
  rcases cmp_val a b with h | h | h
  · exact .inl ((cmp_lt a b).1 (by omega))
  · exact .inr (.inl ((cmp_eq a b).1 h))
  · exact .inr (.inr ((cmp_gt a b).1 (by omega)))
theorem bytes_not_lt {a b : List UInt8} (h : ¬ a < b) : a = b ∨ b < a := (bytes_tri a b).resolve_left h
/-- Texts by rising bytes, as a strict weak order on whatever has one. -/
theorem swo_by {α : Type} (key : α → List UInt8) : Sort.SWO fun x y : α => decide (Lib.compareBytes (key x) (key y) < 0) where
  irrefl x := by
    rw [decide_eq_false_iff_not, cmp_lt]
    exact bytes_lt_irrefl _
  trans x y z h k := by
    rw [decide_eq_true_iff, cmp_lt] at *
    exact bytes_lt_trans h k
  ntrans x y z h k := by
    rw [decide_eq_false_iff_not, cmp_lt] at *
    intro hz
    rcases bytes_not_lt h with e | e
    · exact k (e ▸ hz)
    · rcases bytes_not_lt k with e2 | e2
      · exact h (e2 ▸ hz)
      · exact bytes_lt_irrefl _ (bytes_lt_trans hz (bytes_lt_trans e2 e))
end Go.Proofs.Ytnjoojffefhgpaa

namespace Go.Proofs.Ytnjoojffefhgpaa
open Go.Shelf Go.Proofs
def sortInfo_ren : Go.Shelf.Ren := ⟨fun | 6 => 45 | 15 => 75 | 14 => 74 | 28 => 87 | 29 => 88 | 20 => 79 | 21 => 80 | 22 => 81 | 23 => 82 | 24 => 83 | 25 => 84 | 26 => 85 | 27 => 86 | 46 => 99 | 47 => 100 | 48 => 101 | 49 => 102 | 50 => 103 | 57 => 108 | n => n, fun | 22 => 61 | 24 => 103 | 25 => 109 | 3 => 3 | 39 => 135 | 0 => 0 | 53 => 148 | 55 => 150 | 4 => 4 | 46 => 141 | 45 => 140 | 50 => 145 | 5 => 5 | 9 => 9 | 66 => 156 | 70 => 160 | 76 => 164 | 77 => 165 | n => n, fun | n => n⟩
theorem sortInfo : Go.Proofs.SlLaysF0.n6 Try.prog sortInfo_ren := {
  mixed := by kernel_rfl
  f6 := ⟨Try.f45.name, by decide, Try.func45.trans (congrArg some (by kernel_rfl))⟩
  f14 := ⟨Try.f74.name, by decide, Try.func74.trans (congrArg some (by kernel_rfl))⟩
  f15 := Try.func75.trans (congrArg some (by kernel_rfl))
  f20 := ⟨Try.f79.name, by decide, Try.func79.trans (congrArg some (by kernel_rfl))⟩
  f21 := ⟨Try.f80.name, by decide, Try.func80.trans (congrArg some (by kernel_rfl))⟩
  f22 := ⟨Try.f81.name, by decide, Try.func81.trans (congrArg some (by kernel_rfl))⟩
  f23 := ⟨Try.f82.name, by decide, Try.func82.trans (congrArg some (by kernel_rfl))⟩
  f24 := ⟨Try.f83.name, by decide, Try.func83.trans (congrArg some (by kernel_rfl))⟩
  f25 := ⟨Try.f84.name, by decide, Try.func84.trans (congrArg some (by kernel_rfl))⟩
  f26 := ⟨Try.f85.name, by decide, Try.func85.trans (congrArg some (by kernel_rfl))⟩
  f27 := ⟨Try.f86.name, by decide, Try.func86.trans (congrArg some (by kernel_rfl))⟩
  f28 := Try.func87.trans (congrArg some (by kernel_rfl))
  f29 := Try.func88.trans (congrArg some (by kernel_rfl))
  f46 := ⟨Try.f99.name, by decide, Try.func99.trans (congrArg some (by kernel_rfl))⟩
  f47 := Try.func100.trans (congrArg some (by kernel_rfl))
  f48 := Try.func101.trans (congrArg some (by kernel_rfl))
  f49 := ⟨Try.f102.name, by decide, Try.func102.trans (congrArg some (by kernel_rfl))⟩
  f50 := ⟨Try.f103.name, by decide, Try.func103.trans (congrArg some (by kernel_rfl))⟩
  f57 := ⟨Try.f108.name, by decide, Try.func108.trans (congrArg some (by kernel_rfl))⟩
  t0 := Try.underlying0
  a0 := Try.isAgg0
  z0 := Try.sizeOf0
  v0 := Try.zeroValue0
  t3 := Try.underlying3
  a3 := Try.isAgg3
  z3 := Try.sizeOf3
  v3 := Try.zeroValue3
  t4 := Try.underlying4
  a4 := Try.isAgg4
  z4 := Try.sizeOf4
  v4 := Try.zeroValue4
  t5 := Try.underlying5
  a5 := Try.isAgg5
  z5 := Try.sizeOf5
  v5 := Try.zeroValue5
  t9 := Try.underlying9
  a9 := Try.isAgg9
  z9 := Try.sizeOf9
  v9 := Try.zeroValue9
  t22 := Try.underlying61
  a22 := Try.isAgg61
  z22 := Try.sizeOf61
  v22 := Try.zeroValue61
  t25 := Try.underlying109
  a25 := Try.isAgg109
  z25 := Try.sizeOf109
  v25 := Try.zeroValue109
  t39 := Try.underlying135
  a39 := Try.isAgg135
  z39 := Try.sizeOf135
  v39 := Try.zeroValue135
  t45 := Try.underlying140
  a45 := Try.isAgg140
  z45 := Try.sizeOf140
  v45 := Try.zeroValue140
  t46 := Try.underlying141
  a46 := Try.isAgg141
  z46 := Try.sizeOf141
  v46 := Try.zeroValue141
  t50 := Try.underlying145
  a50 := Try.isAgg145
  z50 := Try.sizeOf145
  v50 := Try.zeroValue145
  t53 := Try.underlying148
  a53 := Try.isAgg148
  z53 := Try.sizeOf148
  v53 := Try.zeroValue148
  t55 := Try.underlying150
  a55 := Try.isAgg150
  z55 := Try.sizeOf150
  v55 := Try.zeroValue150
  t66 := Try.underlying156
  a66 := Try.isAgg156
  z66 := Try.sizeOf156
  v66 := Try.zeroValue156
  t70 := Try.underlying160
  a70 := Try.isAgg160
  z70 := Try.sizeOf160
  v70 := Try.zeroValue160
  t76 := Try.underlying164
  a76 := Try.isAgg164
  z76 := Try.sizeOf164
  v76 := Try.zeroValue164
  t77 := Try.underlying165
  a77 := Try.isAgg165
  z77 := Try.sizeOf165
  v77 := Try.zeroValue165 }
def cmpStr_ren : Go.Shelf.Ren := ⟨fun | 106 => 47 | 213 => 76 | 265 => 89 | n => n, fun | 9 => 9 | 3 => 3 | n => n, fun | n => n⟩
theorem cmpStr : Go.Proofs.Lays.n106 Try.prog cmpStr_ren := {
  mixed := by kernel_rfl
  f106 := Try.func47.trans (congrArg some (by kernel_rfl))
  f213 := Try.func76.trans (congrArg some (by kernel_rfl))
  f265 := Try.func89.trans (congrArg some (by kernel_rfl))
  t3 := Try.underlying3
  a3 := Try.isAgg3
  z3 := Try.sizeOf3
  v3 := Try.zeroValue3
  t9 := Try.underlying9
  a9 := Try.isAgg9
  z9 := Try.sizeOf9
  v9 := Try.zeroValue9 }
end Go.Proofs.Ytnjoojffefhgpaa

namespace Go.Proofs.Ytnjoojffefhgpaa
open Go.Conc Go.RowKit

/-- What is told of an object. -/
structure Inf where
  name : ByteArray
  size : Nat
  tm : Int
instance : Inhabited Inf := ⟨⟨ByteArray.empty, 0, 0⟩⟩
def encInf (x : Inf) : List Value := [.string x.name, .int .i64 x.size, .int .i64 x.tm]
def infc (ds : List Inf) : List Value := ds.flatMap encInf
theorem infc_length (ds : List Inf) : (infc ds).length = ds.length * 3 := by
  induction ds with
  | nil => rfl
  | cons x ds ih => simp only [infc, List.flatMap_cons, List.length_append, List.length_cons, encInf, List.length_nil] at *; omega
theorem infc_append (a b : List Inf) : infc (a ++ b) = infc a ++ infc b := by simp [infc]
theorem infc_cons (a : Inf) (b : List Inf) : infc (a :: b) = encInf a ++ infc b := by simp [infc]
theorem infc_get : ∀ (ds : List Inf) (t : Nat), t < ds.length * 3 → (infc ds)[t]? = some ((encInf (ds.toArray[t / 3]!))[t % 3]!)
  | [], t, h => by simp at h
  | x :: ds, t, h => by
    rw [infc_cons]
    by_cases ht : t < 3
    · have h0 : t / 3 = 0 := by omega
      have h1 : t % 3 = t := by omega
      rw [h0, h1, List.getElem?_append_left (by simpa [encInf] using ht)]
      have : t = 0 ∨ t = 1 ∨ t = 2 := by omega
      rcases this with rfl | rfl | rfl <;> rfl
    · obtain ⟨u, rfl⟩ : ∃ u, t = u + 3 := ⟨t - 3, by omega⟩
      have h0 : (u + 3) / 3 = u / 3 + 1 := by omega
      have h1 : (u + 3) % 3 = u % 3 := by omega
      have hl : (encInf x).length = 3 := rfl
      rw [h0, h1, List.getElem?_append_right (by omega), hl, Nat.add_sub_cancel, infc_get ds u (by simp at h; omega)]
      simp

/-- Names compared. -/
def cfInf (x y : Inf) : Int := Lib.compareBytes x.name.data.toList y.name.data.toList
set_option maxHeartbeats 1000000 in
theorem look1_any (x y : Inf) (W : World) : Calls Try.prog 46 #[.agg #[.string x.name, .int .i64 x.size, .int .i64 x.tm], .agg #[.string y.name, .int .i64 y.size, .int .i64 y.tm]] W fun e w' => e = .returned (.int .i64 (cfInf x y)) ∧ ∃ q os', w' = Sort.grow (W.drewN q) os' := by
  have hcon := fun W' => Any.strings_Compare cmpStr x.name y.name W'
  change ∀ W', Calls Try.prog 47 _ _ _ at hcon
  unfold cfInf
  generalize Lib.compareBytes x.name.data.toList y.name.data.toList = r at hcon ⊢
  go_enter Try.func46, Try.ntmps46
  go_wp2_with (go_at_call 47; refine (hcon _).mono ?_; rintro e w' ⟨rfl, rfl⟩)
  go_ret
  exact ⟨rfl, 0, _, by rw [Sort.alloc_eq_grow, Sort.alloc_eq_grow, Sort.grow_grow]; rfl⟩
theorem cmpInf (blk off size : Nat) (w : World) : CmpLays Try.prog 46 #[] encInf 3 cfInf blk off size w :=
  fun _ _ _ _ x y => look1_any x y _

theorem perm_of_in {α : Type} [Inhabited α] {d d' : Array α} (h : Sort.PermIn 0 d.size d d') : d'.toList.Perm d.toList := by
  obtain ⟨h1, _, h3⟩ := h
  have e1 : d'.extract 0 d.size = d' := by rw [← h1]; exact Array.extract_size
  have e2 : d.extract 0 d.size = d := Array.extract_size
  rw [e1, e2] at h3
  exact h3

set_option maxHeartbeats 1000000 in
/-- What is told, sorted where it lies. -/
theorem sort_inf (v : Value) (ds : List Inf) (base : Nat) (w : World) (hs : Sl w base 3 v ds.length (infc ds)) (hlen : ds.length ≤ 1000) :
    Calls Try.prog 45 #[v, .func (.func 46) #[] #[]] w fun e w' => e = .returned (.tuple #[]) ∧
      ∃ ds' : List Inf, ds'.Perm ds ∧ ds'.Pairwise (fun x y => ¬ y.name.data.toList < x.name.data.toList) ∧ Sl w' base 3 v ds.length (infc ds') ∧ Turn (fun k => v.ownBlock = some k) w w' := by
  rcases hs.2 with ⟨rfl, h0⟩ | ⟨g, off, cap, rfl, hb, hg, hnc, hcm, hfree, hcell⟩
  · have hnil : ds = [] := List.eq_nil_of_length_eq_zero h0
    subst hnil
    refine (AnyF.slices_SortFunc_none { sortInfo with } none 0 _ w).mono ?_
    rintro e w' ⟨rfl, rfl⟩
    exact ⟨rfl, [], List.Perm.refl _, List.Pairwise.nil, hs, Turn.refl _ _⟩
  · have hH : Sort.HoldsK encInf 3 w g off ds.toArray := by
      intro t ht
      have ht' : t < ds.length * 3 := by simpa using ht
      have hc3 : ds.length * 3 ≤ cap * 3 := Nat.mul_le_mul_right _ hnc
      refine ⟨?_, (hfree t (by omega)).2⟩
      rw [hcell t ht', infc_get ds t ht', Sort.get_flatK _ _ _ _ (by simpa using ht)]
      rfl
    have eg : ∀ args w, (callFunc 46 args).run Try.prog w = .ok (.enter 46 args) w := enters_of Try.func46 (by kernel_rfl) rfl
    refine (AnyQ.slices_SortFunc sortInfo 3 Try.isAgg103 Try.sizeOf103 encInf (fun _ => rfl) (fun x v hv => by simp [encInf] at hv; rcases hv with rfl | rfl | rfl <;> rfl) cfInf (swo_by fun x : Inf => x.name.data.toList) 46 #[] g off cap ds.toArray w eg (cmpInf g off _ w) hH hg (by simp; omega)).mono ?_
    rintro e w' ⟨rfl, d', n, os, hp, hso, rfl⟩
    have hds : d'.size = ds.length := by have := hp.1; simpa using this
    have hg' : g < (Sort.putRow id (Sort.ahead w n) g off (Sort.flatK encInf 3 d')).heap.size := by simpa using hg
    have hcells : ∀ t, t < ds.length * 3 → (sortWorldK encInf 3 w g off n d' os).cell? ⟨g, off + t, none⟩ = some ((encInf (d'[t / 3]!))[t % 3]!) := fun t ht => by
      unfold sortWorldK Sort.putRowK
      rw [Sort.cell?_grow _ _ _ hg']
      have := Sort.cell?_putRow id (Sort.ahead w n) g off (Sort.flatK encInf 3 ds.toArray) (Sort.flatK encInf 3 d') hH (by simp [hds]) t (by simp; omega)
      rw [this, Sort.get_flatK _ _ _ _ (by rw [hds]; exact ht)]
      rfl
    refine ⟨rfl, d'.toList, perm_of_in hp, ?_, ⟨by rw [infc_length]; simp [hds], .inr ⟨g, off, cap, rfl, hb, by unfold sortWorldK Sort.putRowK; simp; omega, hnc, hcm, fun j hj => ⟨?_, ?_⟩, fun j hj => ?_⟩⟩, rfl, rfl, rfl, by unfold sortWorldK Sort.putRowK; simp, fun k hk hne => ?_⟩
    · rw [List.pairwise_iff_getElem]
      intro i j hi hj hij
      have h := hso i j (Nat.zero_le _) hij (by simp [hds] at hj ⊢; exact hj)
      unfold ltOf cfInf at h
      rw [decide_eq_false_iff_not, cmp_lt] at h
      have e1 : d'[i]! = d'.toList[i] := by simp [hds] at hi; simp [hds, hi]
      have e2 : d'[j]! = d'.toList[j] := by simp [hds] at hj; simp [hds, hj]
      rw [e1, e2] at h
      exact h
    · by_cases hjt : j < ds.length * 3
      · rw [hcells j hjt]; rfl
      · unfold sortWorldK Sort.putRowK
        rw [Sort.cell?_grow _ _ _ hg', Sort.cell?_putRow_other _ _ _ _ _ _ (.inr (.inr (by simp; omega)))]
        exact (hfree j hj).1
    · unfold sortWorldK Sort.putRowK
      rw [Sort.frozen?_grow _ _ _ hg', Sort.frozen?_putRow]
      exact (hfree j hj).2
    · rw [hcells j hj, infc_get d'.toList j (by simpa [hds] using hj)]
    · unfold sortWorldK Sort.putRowK
      rw [Sort.heap_grow_old _ _ (by simpa using hk)]
      have hgk : g ≠ k := fun e => hne (by rw [e]; rfl)
      simp [Sort.putRow, Sort.mapBlock, Sort.ahead, Array.getElem?_modify, hgk]
end Go.Proofs.Ytnjoojffefhgpaa
