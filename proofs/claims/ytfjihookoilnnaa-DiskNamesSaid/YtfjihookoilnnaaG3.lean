/- Layer 5's buckets: look, Get, Range. -/
import Derived.Test.YtfjihookoilnnaaG2
namespace Go.Proofs.Ytfjihookoilnnaa
open Go.Conc Go.RowKit

set_option maxHeartbeats 1000000 in
set_option maxRecDepth 100000 in
theorem look_any (k f c m : Nat) (os : List Ob) (A : List Ft) (clock : Nat) (w : World) (h : BucketAt k f c m os A clock w) :
    Calls Try.prog 54 #[.pointer (some ⟨k, 0, none⟩)] w fun e w' => e = .returned (.int .i64 (if (tryL A).1.1 then 0 else 8)) ∧ BNow k f c m os (tryL A).2 w w' := by
  have e0 := h.c0
  have HT := Lib.hid (try_any f c A w h.fuse)
  have HN := Lib.hid (fun w1 (hh : Holds f c (tryL A).2 w1) t => BNow.tried h (Below.refl _ w) t hh)
  rcases hr : (tryL A) with ⟨⟨works, done⟩, A'⟩
  rw [hr] at HT HN
  cases works
  all_goals
    go_enter Try.func54, Try.ntmps54
    go_wp2_with fail
    refine HT.out.mono ?_
    rintro e w1 ⟨rfl, h1, t1⟩
    go_wp2
    go_ret
    exact ⟨rfl, HN.out w1 h1 t1⟩

/-- What Get says: the bytes, the error. -/
def getR (name : ByteArray) (os : List Ob) : ByteArray × Int := match lookO name os with | none => (ByteArray.empty, 5) | some x => (x.data, 0)
theorem getR_none {name : ByteArray} {os : List Ob} (h : lookO name os = none) : getR name os = (ByteArray.empty, 5) := by unfold getR; rw [h]
theorem getR_some {name : ByteArray} {os : List Ob} {x : Ob} (h : lookO name os = some x) : getR name os = (x.data, 0) := by unfold getR; rw [h]

set_option maxHeartbeats 1000000 in
set_option maxRecDepth 100000 in
theorem get_any (k f c m : Nat) (os : List Ob) (A : List Ft) (clock : Nat) (name : ByteArray) (w : World) (h : BucketAt k f c m os A clock w) :
    Calls Try.prog 23 #[.pointer (some ⟨k, 0, none⟩), .string name] w fun e w' => e = .returned (.tuple #[.string (if (tryL A).1.1 then (getR name os).1 else ByteArray.empty), .int .i64 (if (tryL A).1.1 then (getR name os).2 else 8)]) ∧ BNow k f c m os (tryL A).2 w w' := by
  have HL := Lib.hid (look_any k f c m os A clock w h)
  have HP := Lib.hid (fun ck W D => peek_any k f c m os (tryL A).2 ck name W D)
  cases hw : (tryL A).1.1
  · rw [hw] at HL
    go_enter Try.func23, Try.ntmps23
    go_wp2_with fail
    refine HL.out.mono ?_
    rintro e w1 ⟨rfl, n1⟩
    go_wp2
    go_ret2
    exact ⟨rfl, n1⟩
  · rw [hw] at HL
    cases hl : lookO name os with
    | none =>
      have hp : peekO name os = ByteArray.empty := by unfold peekO; rw [hl]; rfl
      rw [getR_none hl]
      rw [hl, hp] at HP
      go_enter Try.func23, Try.ntmps23
      go_wp2_with fail
      refine HL.out.mono ?_
      rintro e w1 ⟨rfl, ⟨ck, D1⟩, t1⟩
      go_wp2_with fail
      refine (HP.out ck w1 D1).mono ?_
      rintro e w2 ⟨rfl, b2⟩
      go_wp2
      go_ret2
      exact ⟨rfl, ⟨ck, D1.below b2⟩, t1.trans (Turn.of_below b2)⟩
    | some x =>
      have hp : peekO name os = x.data := by unfold peekO; rw [hl]; rfl
      rw [getR_some hl]
      rw [hl, hp] at HP
      go_enter Try.func23, Try.ntmps23
      go_wp2_with fail
      refine HL.out.mono ?_
      rintro e w1 ⟨rfl, ⟨ck, D1⟩, t1⟩
      go_wp2_with fail
      refine (HP.out ck w1 D1).mono ?_
      rintro e w2 ⟨rfl, b2⟩
      go_wp2
      go_ret2
      exact ⟨rfl, ⟨ck, D1.below b2⟩, t1.trans (Turn.of_below b2)⟩

/-- What Range says where the object is there: from 'from' on at most n bytes. -/
def partB (s : ByteArray) (a n : Int) : ByteArray := s.extract a.toNat (a.toNat + n.toNat)
theorem part_eq (s : ByteArray) (a n m : Nat) (ha : a ≤ s.size) (hm : m = min n (s.size - a)) : (s.extract a s.size).extract 0 m = partB s a n := by
  unfold partB
  apply ByteArray.ext
  apply Array.ext'
  have hl : s.data.toList.length = s.size := Array.length_toList
  simp only [ByteArray.data_extract, Array.toList_extract, List.extract_eq_take_drop, Int.toNat_natCast, Nat.sub_zero, List.drop_zero]
  rw [List.take_take, show a + n - a = n by omega]
  have h1 : (s.data.toList.drop a).length = s.size - a := by rw [List.length_drop, hl]
  rw [List.take_eq_take_iff, h1]
  omega
def rangeR (name : ByteArray) (a n : Int) (os : List Ob) : ByteArray × Int := match lookO name os with
  | none => (ByteArray.empty, 5)
  | some x => if a < 0 ∨ (x.data.size : Int) < a ∨ n < 0 then (ByteArray.empty, 1) else (partB x.data a n, 0)

set_option maxHeartbeats 1000000 in
set_option maxRecDepth 100000 in
theorem range_any (k f c m : Nat) (os : List Ob) (A : List Ft) (clock : Nat) (name : ByteArray) (a n : Int) (w : World) (h : BucketAt k f c m os A clock w) (ha : -9223372036854775808 ≤ a ∧ a ≤ 9223372036854775807) (hn : -9223372036854775808 ≤ n ∧ n ≤ 9223372036854775807) :
    Calls Try.prog 22 #[.pointer (some ⟨k, 0, none⟩), .string name, .int .i64 a, .int .i64 n] w fun e w' => e = .returned (.tuple #[.string (if (tryL A).1.1 then (rangeR name a n os).1 else ByteArray.empty), .int .i64 (if (tryL A).1.1 then (rangeR name a n os).2 else 8)]) ∧ BNow k f c m os (tryL A).2 w w' := by
  have HG := Lib.hid (get_any k f c m os A clock name w h)
  cases hw : (tryL A).1.1
  · rw [hw] at HG
    go_enter Try.func22, Try.ntmps22
    go_wp2_with fail
    refine HG.out.mono ?_
    rintro e w1 ⟨rfl, n1⟩
    go_wp2
    go_ret2
    exact ⟨rfl, n1⟩
  · rw [hw] at HG
    cases hl : lookO name os with
    | none =>
      rw [getR_none hl] at HG
      unfold rangeR
      rw [hl]
      go_enter Try.func22, Try.ntmps22
      go_wp2_with fail
      refine HG.out.mono ?_
      rintro e w1 ⟨rfl, n1⟩
      go_wp2
      go_ret2
      exact ⟨rfl, n1⟩
    | some x =>
      rw [getR_some hl] at HG
      unfold rangeR
      rw [hl]
      obtain ⟨s, hs⟩ : ∃ s, s = x.data := ⟨_, rfl⟩
      rw [← hs] at HG
      simp only
      rw [← hs]
      clear hs hl
      by_cases hb : a < 0 ∨ (s.size : Int) < a ∨ n < 0
      · rw [if_pos hb]
        by_cases h1 : a < 0
        · go_enter Try.func22, Try.ntmps22
          go_wp2_with fail
          refine HG.out.mono ?_
          rintro e w1 ⟨rfl, n1⟩
          go_wp2
          go_ret2
          exact ⟨rfl, n1⟩
        · by_cases h2 : (s.size : Int) < a
          · go_enter Try.func22, Try.ntmps22
            go_wp2_with fail
            refine HG.out.mono ?_
            rintro e w1 ⟨rfl, n1⟩
            go_wp2
            go_ret2
            exact ⟨rfl, n1⟩
          · have h3 : n < 0 := by omega
            have h1' : 0 ≤ a := by omega
            have h2' : a ≤ s.size := by omega
            clear hb h1 h2
            go_enter Try.func22, Try.ntmps22
            go_wp2_with fail
            refine HG.out.mono ?_
            rintro e w1 ⟨rfl, n1⟩
            go_wp2
            go_ret2
            exact ⟨rfl, n1⟩
      · rw [if_neg hb]
        obtain ⟨a', rfl⟩ : ∃ a' : Nat, a = a' := ⟨a.toNat, by omega⟩
        obtain ⟨n', rfl⟩ : ∃ n' : Nat, n = n' := ⟨n.toNat, by omega⟩
        have h2' : a' ≤ s.size := by omega
        clear hb
        go_enter Try.func22, Try.ntmps22
        go_wp2_with fail
        refine HG.out.mono ?_
        rintro e w1 ⟨rfl, n1⟩
        go_wp2
        all_goals
          first
            | (exfalso; omega)
            | (go_ret2
               exact ⟨by rw [part_eq s a' n' _ h2' (by omega)]; rfl, n1⟩)
end Go.Proofs.Ytfjihookoilnnaa
