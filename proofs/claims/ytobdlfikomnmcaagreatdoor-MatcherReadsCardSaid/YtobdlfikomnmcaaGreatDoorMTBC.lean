/- Layer 13: Check of whatever kind; Parse of no text; the law that any text is the matchers that it is, or refused. -/
import Derived.Test.YtobdlfikomnmcaaGreatDoorMTBB
import Derived.Test.YtobdlfikomnmcaaGreatDoorMTBD
namespace Go.Proofs.YtobdlfikomnmcaaGreatDoor
open Go.RowKit Go.Lib
set_option linter.unusedVariables false

set_option maxHeartbeats 1000000 in
theorem goodcount_far (k : Int) (n : Nat) (nm : Value) (a : Option Addr) (c : Nat) (w : World) (hk : k < 1 ∨ 4 < k) :
    Calls Tryz.prog 21 #[.agg #[.int .i64 k, nm, .slice a n c]] w fun e w' => e = .returned (.bool false) ∧ Below w.heap.size w w' := by
  have e1 : (k == 1) = false := by rw [beq_eq_false_iff_ne]; omega
  have e2 : (k == 2) = false := by rw [beq_eq_false_iff_ne]; omega
  have e3 : (k == 3) = false := by rw [beq_eq_false_iff_ne]; omega
  have e4 : (k == 4) = false := by rw [beq_eq_false_iff_ne]; omega
  clear hk
  go_enter Tryz.func21, Tryz.ntmps21
  go_wp2
  go_ret
  exact ⟨rfl, (Below.refl _ _).alloc (Nat.le_refl _) _⟩
theorem rOk_far {k : Int} {n : List UInt8} {vs : List (List UInt8)} (hk : k < 1 ∨ 4 < k) : rOk k n vs = false := by
  unfold rOk
  rcases hk with h | h
  · rw [decide_eq_true h]; rfl
  · rw [show decide (k > 4) = true from decide_eq_true h]; simp
set_option maxHeartbeats 2000000 in
theorem check13_int (k : Int) (n : List UInt8) (vs : List (List UInt8)) (v : Value) (w : World) (hr : Rd w 1 v vs.length (txs vs)) (hl : vs.length ≤ 200000) (hn : n.length < 1000000) (hv : ∀ x ∈ vs, x.length < 1000000) :
    Calls Tryz.prog 10 #[.agg #[.int .i64 k, .string (bs n), v]] w fun e w' => e = .returned (.int .i64 (if rOk k n vs then 0 else 1)) ∧ Below w.heap.size w w' := by
  by_cases hk : k < 1 ∨ 4 < k
  · rw [rOk_far hk]
    obtain ⟨_, a, cap, g, off, rfl, _, _⟩ := hr
    have GC := Lib.hid (fun W => goodcount_far k vs.length (.string (bs n)) a cap W hk)
    have HBZ := Lib.hid ((Below.refl w.heap.size w).alloc (Nat.le_refl _) (.cells #[.int .i64 k, .string (bs n), .slice a vs.length cap] 24))
    have hT := bs_toList
    clear hk
    go_enter Tryz.func10, Tryz.ntmps10
    go_wp2_with fail
    refine (GC.out _).mono ?_
    rintro e w1 ⟨rfl, b1⟩
    go_wp2_with fail
    go_ret
    exact ⟨rfl, HBZ.out.trans (b1.mono HBZ.out.size)⟩
  · obtain ⟨j, rfl⟩ : ∃ j : Nat, k = j := ⟨k.toNat, by omega⟩
    have := check13_any ⟨j, n, vs⟩ v w hr (by simp only; omega) hl hn hv
    rw [mOk_is ⟨j, n, vs⟩ (by simp only; omega)] at this
    exact this

theorem rparse13_nil (w : World) : Calls Tryz.prog 6 #[.string (bs [])] w fun e w' => e = .returned (.tuple #[.slice (some ⟨w.heap.size, 0, none⟩) 0 0, .int .i64 0]) ∧ Below w.heap.size w w' ∧ Sl w' w.heap.size 3 (.slice (some ⟨w.heap.size, 0, none⟩) 0 0) 0 [] := by
  have hT := bs_toList
  go_enter Tryz.func6, Tryz.ntmps6
  go_wp2_with fail
  go_ret2
  exact ⟨rfl, (Below.refl _ _).alloc (Nat.le_refl _) _, Sl.lit w w.heap.size 3 0 #[] _ (Nat.le_refl _) (by decide) rfl⟩
/-- What either makes of a text: its matchers, or none and an error. -/
def PrO (s : List UInt8) (w : World) (v : Value) (er : Int) (w' : World) : Prop :=
  Below w.heap.size w w' ∧ ∃ l, l.map (·.1) = (if s ≠ [] ∧ ∀ p ∈ parts 44 s, mOk (mrOf p) = true then (parts 44 s).map mrOf else []) ∧ MsO w' w.heap.size v l ∧ er = if s = [] ∨ ∀ p ∈ parts 44 s, mOk (mrOf p) = true then 0 else 3
theorem parse13_whole (s : List UInt8) (w : World) (hl : s.length ≤ 100000) : Calls Tryz.prog 5 #[.string (bs s)] w fun e w' => ∃ v er, e = .returned (.tuple #[v, .int .i64 er]) ∧ PrO s w v er w' := by
  by_cases hs : s = []
  · subst hs
    refine (parse13_nil w).mono ?_
    rintro e w' ⟨rfl, b⟩
    exact ⟨_, _, rfl, b, [], by simp, ⟨Sl.nil _ _ _, fun p hp => by cases hp⟩, by simp⟩
  · refine (parse13_all s w hl hs).mono ?_
    rintro e w' (⟨ha, v, l, rfl, he, hm, b⟩ | ⟨⟨p, hp, hx⟩, rfl, b⟩)
    · exact ⟨v, 0, rfl, b, l, by rw [if_pos ⟨hs, ha⟩]; exact he, hm, by rw [if_pos (Or.inr ha)]⟩
    · have hn : ¬ ∀ p ∈ parts 44 s, mOk (mrOf p) = true := fun h => by rw [h p hp] at hx; cases hx
      exact ⟨_, 3, rfl, b, [], by rw [if_neg (fun h => hn h.2)]; rfl, ⟨Sl.nil _ _ _, fun p hp => by cases hp⟩, by rw [if_neg (fun h => h.elim hs hn)]⟩
theorem rparse13_whole (s : List UInt8) (w : World) (hl : s.length ≤ 100000) : Calls Tryz.prog 6 #[.string (bs s)] w fun e w' => ∃ v er, e = .returned (.tuple #[v, .int .i64 er]) ∧ PrO s w v er w' := by
  by_cases hs : s = []
  · subst hs
    refine (rparse13_nil w).mono ?_
    rintro e w' ⟨rfl, b, hs⟩
    exact ⟨_, _, rfl, b, [], by simp, ⟨hs, fun p hp => by cases hp⟩, by simp⟩
  · refine (rparse13_all s w hl hs).mono ?_
    rintro e w' (⟨ha, v, l, rfl, he, hm, b⟩ | ⟨⟨p, hp, hx⟩, rfl, b⟩)
    · exact ⟨v, 0, rfl, b, l, by rw [if_pos ⟨hs, ha⟩]; exact he, hm, by rw [if_pos (Or.inr ha)]⟩
    · have hn : ¬ ∀ p ∈ parts 44 s, mOk (mrOf p) = true := fun h => by rw [h p hp] at hx; cases hx
      exact ⟨_, 3, rfl, b, [], by rw [if_neg (fun h => hn h.2)]; rfl, ⟨Sl.nil _ _ _, fun p hp => by cases hp⟩, by rw [if_neg (fun h => h.elim hs hn)]⟩
end Go.Proofs.YtobdlfikomnmcaaGreatDoor
