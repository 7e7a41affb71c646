/- What layer 5's statements call: the fixed answers. -/
import Derived.Test.YtfjihookoilnnaaG3
import Derived.Test.YtfjihookoilnnaaE6
namespace Go.Proofs.Ytfjihookoilnnaa
open Go.Conc Go.RowKit

/-- All that a bucket has lies from block B on. -/
structure BHome (B k f c m : Nat) : Prop where
  k : B ≤ k
  f : B ≤ f
  c : B ≤ c
  m : B ≤ m
theorem BNow.below {B k f c m : Nat} {os os' : List Ob} {A A' : List Ft} {clock : Nat} {w w' : World} (h : BucketAt k f c m os A clock w) (hB : BHome B k f c m) (n : BNow k f c m os' A' w w') : Below B w w' := by
  have h0 := hB.k; have h1 := hB.f; have h2 := hB.c; have h3 := hB.m
  exact n.2.below (Nat.le_trans hB.k (Nat.le_of_lt h.klt)) fun i hi => by rcases hi with e | e | e <;> omega

/-- A bucket with these objects, whatever its clock. -/
def Bk (k f c m : Nat) (os : List Ob) (A : List Ft) (w : World) : Prop := ∃ ck, BucketAt k f c m os A ck w
theorem Bk.below {k f c m : Nat} {os : List Ob} {A : List Ft} {w w' : World} (h : Bk k f c m os A w) (b : Below w.heap.size w w') : Bk k f c m os A w' := by
  obtain ⟨ck, h⟩ := h
  exact ⟨ck, h.below b⟩
theorem Bk.c0 {k f c m : Nat} {os : List Ob} {A : List Ft} {w : World} (h : Bk k f c m os A w) : w.cell? ⟨k, 0, none⟩ = some (.pointer (some ⟨f, 0, none⟩)) := by
  obtain ⟨ck, h⟩ := h
  exact h.c0
theorem Bk.names {k f c m : Nat} {os : List Ob} {A : List Ft} {w : World} (h : Bk k f c m os A w) : (os.map (·.name)).Nodup := by
  obtain ⟨ck, h⟩ := h
  exact h.names

theorem bnew_home (w : World) : Calls Try.prog 12 #[] w fun e w' =>
    ∃ k f c m, e = .returned (.pointer (some ⟨k, 0, none⟩)) ∧ Bk k f c m [] [] w' ∧ BHome w.heap.size k f c m ∧ Below w.heap.size w w' := by
  refine (bnew_any w).mono ?_
  rintro e w' ⟨rfl, D, b⟩
  exact ⟨_, _, _, _, rfl, ⟨_, D⟩, ⟨by omega, by omega, by omega, by omega⟩, b⟩
theorem bput_go (B k f c m : Nat) (os : List Ob) (A : List Ft) (name data : ByteArray) (tm : Int) (w : World) (h : Bk k f c m os A w) (hB : BHome B k f c m) (hn : 0 < name.size ∧ name.size ≤ 40) :
    Calls Try.prog 19 #[.pointer (some ⟨k, 0, none⟩), .string name, .string data, .int .i64 tm] w fun e w' => e = .returned (.int .i64 (if (tryL A).1.1 then 0 else 8)) ∧
      (∃ clock, Bk k f c m (if (tryL A).1.2 then setO name data tm clock os else os) (tryL A).2 w') ∧ Below B w w' := by
  obtain ⟨ck, h⟩ := h
  refine (put_go k f c m os A ck name data tm w h hn).mono ?_
  rintro e w' ⟨rfl, n⟩
  exact ⟨rfl, ⟨ck, n.1⟩, n.below h hB⟩
theorem bput_bad (B k f c m : Nat) (os : List Ob) (A : List Ft) (name data : ByteArray) (tm : Int) (w : World) (h : Bk k f c m os A w) (hB : BHome B k f c m) (hn : ¬ (0 < name.size ∧ name.size ≤ 40)) :
    Calls Try.prog 19 #[.pointer (some ⟨k, 0, none⟩), .string name, .string data, .int .i64 tm] w fun e w' => e = .returned (.int .i64 1) ∧ Bk k f c m os A w' ∧ Below B w w' := by
  obtain ⟨ck, h⟩ := h
  refine (put_bad k f c m os A ck name data tm w h hn).mono ?_
  rintro e w' ⟨rfl, n⟩
  exact ⟨rfl, n.1, n.below h hB⟩
theorem bdelete (B k f c m : Nat) (os : List Ob) (A : List Ft) (name : ByteArray) (w : World) (h : Bk k f c m os A w) (hB : BHome B k f c m) :
    Calls Try.prog 20 #[.pointer (some ⟨k, 0, none⟩), .string name] w fun e w' => e = .returned (.int .i64 (if (tryL A).1.1 then 0 else 8)) ∧
      Bk k f c m (if (tryL A).1.2 then delO name os else os) (tryL A).2 w' ∧ Below B w w' := by
  obtain ⟨ck, h⟩ := h
  refine (delete_go k f c m os A ck name w h).mono ?_
  rintro e w' ⟨rfl, n⟩
  exact ⟨rfl, n.1, n.below h hB⟩
theorem bpeek (k f c m : Nat) (os : List Ob) (A : List Ft) (name : ByteArray) (w : World) (h : Bk k f c m os A w) :
    Calls Try.prog 17 #[.pointer (some ⟨k, 0, none⟩), .string name] w fun e w' => e = .returned (.tuple #[.string (peekO name os), .bool (lookO name os).isSome]) ∧ Below w.heap.size w w' := by
  obtain ⟨ck, h⟩ := h
  exact peek_any k f c m os A ck name w h
theorem bget (B k f c m : Nat) (os : List Ob) (A : List Ft) (name : ByteArray) (w : World) (h : Bk k f c m os A w) (hB : BHome B k f c m) :
    Calls Try.prog 23 #[.pointer (some ⟨k, 0, none⟩), .string name] w fun e w' => e = .returned (.tuple #[.string (if (tryL A).1.1 then (getR name os).1 else ByteArray.empty), .int .i64 (if (tryL A).1.1 then (getR name os).2 else 8)]) ∧ Bk k f c m os (tryL A).2 w' ∧ Below B w w' := by
  obtain ⟨ck, h⟩ := h
  refine (get_any k f c m os A ck name w h).mono ?_
  rintro e w' ⟨rfl, n⟩
  exact ⟨rfl, n.1, n.below h hB⟩
theorem brange (B k f c m : Nat) (os : List Ob) (A : List Ft) (name : ByteArray) (a n : Int) (w : World) (h : Bk k f c m os A w) (hB : BHome B k f c m) (ha : -9223372036854775808 ≤ a ∧ a ≤ 9223372036854775807) (hn : -9223372036854775808 ≤ n ∧ n ≤ 9223372036854775807) :
    Calls Try.prog 22 #[.pointer (some ⟨k, 0, none⟩), .string name, .int .i64 a, .int .i64 n] w fun e w' => e = .returned (.tuple #[.string (if (tryL A).1.1 then (rangeR name a n os).1 else ByteArray.empty), .int .i64 (if (tryL A).1.1 then (rangeR name a n os).2 else 8)]) ∧ Bk k f c m os (tryL A).2 w' ∧ Below B w w' := by
  obtain ⟨ck, h⟩ := h
  refine (range_any k f c m os A ck name a n w h ha hn).mono ?_
  rintro e w' ⟨rfl, n⟩
  exact ⟨rfl, n.1, n.below h hB⟩
theorem barm (B k f c m : Nat) (os : List Ob) (A : List Ft) (a : Int) (dn : Bool) (w : World) (h : Bk k f c m os A w) (hB : BHome B k f c m) (ha : Ft.Fits (a, dn)) :
    Calls Try.prog 21 #[.pointer (some ⟨f, 0, none⟩), .int .i64 a, .bool dn] w fun e w' => ((e = .returned (.int .i64 0) ∧ Bk k f c m os (A ++ [(max a 0, dn)]) w') ∨ (e = .returned (.int .i64 7) ∧ Bk k f c m os A w')) ∧ Below B w w' := by
  obtain ⟨ck, h⟩ := h
  refine (arm_any f c A a dn w h.fuse ha).mono ?_
  rintro e w' (⟨rfl, hA, t⟩ | ⟨rfl, rfl⟩)
  · have n := BNow.tried h (Below.refl _ w) t hA
    exact ⟨.inl ⟨rfl, n.1⟩, n.below h hB⟩
  · exact ⟨.inr ⟨rfl, ck, h⟩, Below.refl _ _⟩
/-- A fuse without faults has room. -/
theorem barm0 (B k f c m : Nat) (os : List Ob) (a : Int) (dn : Bool) (w : World) (h : Bk k f c m os [] w) (hB : BHome B k f c m) (ha : Ft.Fits (a, dn)) :
    Calls Try.prog 21 #[.pointer (some ⟨f, 0, none⟩), .int .i64 a, .bool dn] w fun e w' => e = .returned (.int .i64 0) ∧ Bk k f c m os [(max a 0, dn)] w' ∧ Below B w w' := by
  obtain ⟨ck, h⟩ := h
  obtain ⟨L, armed, now, hF, hv⟩ := h.fuse
  have hL : L = [] := by
    unfold view at hv
    cases armed <;> simp at hv
    exact hv
  subst hL
  refine (arm_room f c [] armed now a dn w hF (by decide)).mono ?_
  rintro e w' ⟨rfl, hc, t⟩
  have hA : Holds f c [(max a 0, dn)] w' := by
    refine ⟨[] ++ [(a, dn)], armed, now, hF.turn t hc (by simp) (fun x hx => ?_), ?_⟩
    · simp at hx; rw [hx]; exact ha
    · unfold view at hv ⊢
      cases armed <;> simp at hv ⊢
  have n := BNow.tried h (Below.refl _ w) (t.mono fun k hk => .inr hk) hA
  exact ⟨rfl, n.1, n.below h hB⟩
end Go.Proofs.Ytfjihookoilnnaa
