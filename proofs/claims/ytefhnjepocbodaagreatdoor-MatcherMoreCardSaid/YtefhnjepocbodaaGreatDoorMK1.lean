/- Layer 12: where a number stands in a list: BinarySearch, walked. What a call has turned: all but some blocks is as it was. Layer 12: slices.Insert of one number where there is room, walked. -/
import Derived.Test.YtefhnjepocbodaaGreatDoorMT3
import Derived.Test.YtefhnjepocbodaaGreatDoorMB0
import Derived.Deep.RegionLaw
import Derived.RegionTactic
import Derived.Laws.IdiomCopy
import Derived.Laws.Externs
import Derived.Laws.LoneSync
import Derived.Lib.Overlaps
import Derived.Shelf.Spec.SlicesInsert
namespace Go.Proofs.YtefhnjepocbodaaGreatDoor
open Go.RowKit Go.Lib

/-- How many are less. -/
def pos (l : List Int) (n : Int) : Nat := (l.filter fun x => decide (x < n)).length
theorem pos_le (l : List Int) (n : Int) : pos l n ≤ l.length := List.length_filter_le _ _
theorem pos_iff : ∀ (l : List Int) (n : Int), Up l → ∀ j x, l[j]? = some x → (x < n ↔ j < pos l n)
  | [], n, _, j, x, h => by simp at h
  | a :: l, n, hu, j, x, h => by
    have hu' : Up l := (List.pairwise_cons.1 hu).2
    have ha := (List.pairwise_cons.1 hu).1
    by_cases han : a < n
    · have hp : pos (a :: l) n = pos l n + 1 := by simp [pos, han]
      rw [hp]
      cases j with
      | zero => simp only [List.getElem?_cons_zero, Option.some.injEq] at h; subst h; exact ⟨fun _ => by omega, fun _ => han⟩
      | succ j =>
        have := pos_iff l n hu' j x (by simpa using h)
        omega
    · have hp : pos (a :: l) n = 0 := by
        unfold pos
        rw [List.length_eq_zero_iff, List.filter_eq_nil_iff]
        intro y hy
        rcases List.mem_cons.1 hy with rfl | hy
        · simpa using han
        · have := ha y hy; simp; omega
      rw [hp]
      constructor
      · intro hx
        cases j with
        | zero => simp only [List.getElem?_cons_zero, Option.some.injEq] at h; omega
        | succ j => have := ha x (List.mem_of_getElem? (by simpa using h)); omega
      · intro h0; omega
theorem pos_mem (l : List Int) (n : Int) (hu : Up l) : n ∈ l ↔ l[pos l n]? = some n := by
  constructor
  · intro hn
    obtain ⟨j, hj⟩ := List.getElem?_of_mem hn
    have h1 := pos_iff l n hu j n hj
    have hjl := (List.getElem?_eq_some_iff.1 hj).1
    rcases Nat.lt_trichotomy j (pos l n) with h | h | h
    · omega
    · rw [← h]; exact hj
    · obtain ⟨x, hx⟩ : ∃ x, l[pos l n]? = some x := ⟨_, List.getElem?_eq_getElem (by omega)⟩
      have h2 := pos_iff l n hu (pos l n) x hx
      have h3 : x < n := by
        have hj' := (List.getElem?_eq_some_iff.1 hj).2
        have hx' := (List.getElem?_eq_some_iff.1 hx).2
        have := (List.pairwise_iff_getElem.1 hu) (pos l n) j (by omega) hjl h
        omega
      omega
  · exact fun h => List.mem_of_getElem? h

set_option maxRecDepth 100000 in
theorem nan_int (a : Int) (w : World) : Calls Tryz.prog 98 #[.int .i64 a] w fun e w' => e = .returned (.bool false) ∧ w = w' := by
  go_enter Tryz.func98, Tryz.ntmps98
  go_wp2
  go_ret
  exact ⟨rfl, rfl⟩
set_option maxRecDepth 100000 in
theorem nan2_int (a : Int) (w : World) : Calls Tryz.prog 74 #[.int .i64 a] w fun e w' => e = .returned (.bool false) ∧ w = w' := by
  go_enter Tryz.func74, Tryz.ntmps74
  go_wp2
  go_ret
  exact ⟨rfl, rfl⟩
set_option maxRecDepth 100000 in
theorem less_int (a b : Int) (w : World) : Calls Tryz.prog 73 #[.int .i64 a, .int .i64 b] w fun e w' => e = .returned (.bool (decide (a < b))) ∧ w = w' := by
  go_enter Tryz.func73, Tryz.ntmps73
  go_wp2_with fail
  refine (nan_int _ _).mono ?_
  rintro e w1 ⟨rfl, rfl⟩
  go_wp2
  go_ret
  exact ⟨rfl, rfl⟩

set_option maxHeartbeats 1000000 in
set_option maxRecDepth 100000 in
theorem search_any (v : Value) (l : List Int) (n : Int) (w : World) (h : Nc w v l) (hu : Up l) :
    Calls Tryz.prog 52 #[v, .int .i64 n] w fun e w' => e = .returned (.tuple #[.int .i64 (pos l n), .bool (decide (n ∈ l))]) ∧ w = w' := by
  obtain ⟨hl, a, cap, g, off, rfl, hlc, hg, hc⟩ := h
  have hpi := Lib.hid (pos_iff l n hu)
  have hpm := Lib.hid (pos_mem l n hu)
  have hpl := pos_le l n
  obtain ⟨P, hP⟩ : ∃ P, P = pos l n := ⟨_, rfl⟩
  obtain ⟨N, hN⟩ : ∃ N, N = l.length := ⟨_, rfl⟩
  rw [← hP] at hpi hpm hpl ⊢
  rw [← hN] at hg hl hlc hpl ⊢
  have HN := Lib.hid hN
  have HG := Lib.hid hg
  have HC := Lib.hid hc
  have LS := Lib.hid (fun x W => less_int x n W)
  clear hN hP hg hc hu
  go_enter Tryz.func52, Tryz.ntmps52
  go_wp2_with fail
  go_loopw [7, 8] (fun i' j' wr => ∃ (i j : Nat), i' = .int .i64 i ∧ j' = .int .i64 j ∧ i ≤ P ∧ P ≤ j ∧ j ≤ N ∧ w = wr) (fun i' j' _ => (RowKit.intOf j').toNat - (RowKit.intOf i').toNat)
  case atStart => exact ⟨0, N, rfl, rfl, by omega, by omega, by omega, rfl⟩
  case round =>
    obtain ⟨i, j, rfl, rfl, hi, hj, hjN, rfl⟩ := hrel
    by_cases hlt : i < j
    · obtain ⟨m, hm⟩ : ∃ m, m = (i + j) / 2 := ⟨_, rfl⟩
      have hm1 : i ≤ m ∧ m < j := by omega
      obtain ⟨x, hx⟩ : ∃ x, l[m]? = some x := ⟨_, List.getElem?_eq_getElem (by have := HN.out; omega)⟩
      obtain ⟨rfl, hgl⟩ := HG.out (by omega)
      have cx := HC.out m x hx
      have hxi := hpi.out m x hx
      have hlt' : (i : Int) < j := by omega
      have hd1 : ((i : Int) + (j : Int)) / 2 = (m : Int) := by omega
      have hd2 : (i + j) / 2 = m := hm.symm
      have hm0 : (m : Int) < N := by omega
      have LX := Lib.hid (LS.out x w)
      clear hm hx
      by_cases hxn : x < n
      · rw [show decide (x < n) = true by simpa using hxn] at LX
        have hmP := hxi.1 hxn
        clear hxi hxn
        go_wp2_with fail
        refine LX.out.mono ?_
        rintro e w1 ⟨rfl, rfl⟩
        go_wp2
        exact ⟨⟨m + 1, j, by go_num, rfl, by omega, by omega, by omega, trivial⟩, by simp [RowKit.intOf]; omega⟩
      · rw [show decide (x < n) = false by simpa using hxn] at LX
        have hmP : ¬ m < P := fun e => hxn (hxi.2 e)
        clear hxi hxn
        go_wp2_with fail
        refine LX.out.mono ?_
        rintro e w1 ⟨rfl, rfl⟩
        go_wp2
        exact ⟨⟨i, m, rfl, by go_num, by omega, by omega, by omega, trivial⟩, by simp [RowKit.intOf]; omega⟩
    · obtain rfl : i = P := by omega
      obtain rfl : j = i := by omega
      by_cases hPN : j < N
      · obtain ⟨x, hx⟩ : ∃ x, l[j]? = some x := ⟨_, List.getElem?_eq_getElem (by have := HN.out; omega)⟩
        obtain ⟨rfl, hgl⟩ := HG.out (by omega)
        have cx := HC.out j x hx
        have hPN' : (j : Int) < N := by omega
        have hmem : decide (n ∈ l) = (x == n) := by
          rw [Bool.eq_iff_iff, decide_eq_true_iff, hpm.out, hx]; simp
        have N2 := Lib.hid (fun a W => nan2_int a W)
        have HM := Lib.hid hmem
        cases hxn : (x == n)
        · rw [hxn] at HM
          clear hx hmem
          go_wp2_with fail
          refine (N2.out _ _).mono ?_
          rintro e w1 ⟨rfl, rfl⟩
          go_wp2
          go_ret2
          exact ⟨by rw [HM.out]; rfl, rfl⟩
        · rw [hxn] at HM
          clear hx hmem
          go_wp2_with fail
          go_ret2
          exact ⟨by rw [HM.out]; rfl, rfl⟩
      · have hmem : decide (n ∈ l) = false := by
          rw [decide_eq_false_iff_not, hpm.out]
          intro h
          have := (List.getElem?_eq_some_iff.1 h).1
          have := HN.out
          omega
        have HM := Lib.hid hmem
        have hPN' : ¬ (j : Int) < N := by omega
        clear hmem
        go_wp2_with fail
        go_ret2
        exact ⟨by rw [HM.out]; rfl, rfl⟩
end Go.Proofs.YtefhnjepocbodaaGreatDoor

namespace Go.Proofs.YtefhnjepocbodaaGreatDoor
open Go.RowKit Go.Lib

/-- Of the blocks that were there, those alone that S names have turned. -/
structure Turn (S : Nat → Prop) (w w' : World) : Prop where
  os : w'.os = w.os
  tape : w'.tape = w.tape
  output : w'.output = w.output
  size : w.heap.size ≤ w'.heap.size
  block : ∀ k, k < w.heap.size → ¬ S k → w'.heap[k]? = w.heap[k]?

theorem Turn.refl (S : Nat → Prop) (w : World) : Turn S w w := ⟨rfl, rfl, rfl, Nat.le_refl _, fun _ _ _ => rfl⟩
theorem Turn.trans {S : Nat → Prop} {a b c : World} (h : Turn S a b) (k : Turn S b c) : Turn S a c :=
  ⟨k.os.trans h.os, k.tape.trans h.tape, k.output.trans h.output, Nat.le_trans h.size k.size, fun i hi hr => (k.block i (Nat.lt_of_lt_of_le hi h.size) hr).trans (h.block i hi hr)⟩
theorem Turn.mono {S S' : Nat → Prop} {a b : World} (h : Turn S a b) (hs : ∀ k, S k → S' k) : Turn S' a b := ⟨h.os, h.tape, h.output, h.size, fun i hi hr => h.block i hi fun e => hr (hs i e)⟩
theorem Turn.of_below {S : Nat → Prop} {a b : World} (h : Below a.heap.size a b) : Turn S a b := ⟨h.os, h.tape, h.output, h.size, fun i hi _ => h.block i hi⟩
theorem Turn.below {S : Nat → Prop} {a b : World} {B : Nat} (h : Turn S a b) (hB : B ≤ a.heap.size) (hS : ∀ k, S k → B ≤ k) : Below B a b :=
  ⟨h.os, h.tape, h.output, h.size, fun i hi => h.block i (by omega) fun e => by have := hS i e; omega⟩
theorem Turn.alloc {S : Nat → Prop} {a b : World} (h : Turn S a b) (o : Obj) : Turn S a (b.alloc o) :=
  h.trans (Turn.of_below ((Below.refl _ _).alloc (Nat.le_refl _) o))
theorem Turn.drew {S : Nat → Prop} {a b : World} (h : Turn S a b) : Turn S a b.drew := ⟨h.os, h.tape, h.output, h.size, h.block⟩
theorem Turn.setCell {S : Nat → Prop} {a b : World} (h : Turn S a b) (p : Addr) (u : Value) (hp : S p.block) : Turn S a (b.setCell p u) :=
  h.trans ⟨rfl, rfl, rfl, by simp [World.setCell], fun i _ hr => Below.heap_setCell b p u i fun e => hr (e ▸ hp)⟩
theorem Turn.setNew {S : Nat → Prop} {a b : World} (h : Turn S a b) (p : Addr) (u : Value) (hp : a.heap.size ≤ p.block) : Turn S a (b.setCell p u) :=
  ⟨h.os, h.tape, h.output, by have := h.size; simpa [World.setCell] using this, fun i hi hr => (Below.heap_setCell b p u i (by omega)).trans (h.block i hi hr)⟩
theorem Turn.cell {S : Nat → Prop} {w w' : World} (h : Turn S w w') {p : Addr} (hp : p.block < w.heap.size) (hs : ¬ S p.block) : w'.cell? p = w.cell? p := World.cell?_of_block (w := w) (h.block p.block hp hs)
theorem Turn.frozen {S : Nat → Prop} {w w' : World} (h : Turn S w w') {p : Addr} (hp : p.block < w.heap.size) (hs : ¬ S p.block) : w'.frozen? p = w.frozen? p := World.frozen?_of_block (w := w) (h.block p.block hp hs)
end Go.Proofs.YtefhnjepocbodaaGreatDoor

namespace Go.Proofs.YtefhnjepocbodaaGreatDoor
open Go.RowKit Go.Lib

theorem ic_cons (x : Int) (l : List Int) : ic (x :: l) = .int .i64 x :: ic l := rfl
theorem sl_ins {w : World} {base g off n c i : Nat} {l : List Int} {x : Int} (h : Sl w base 1 (.slice (some ⟨g, off, none⟩) n c) n (ic l)) (hi : i ≤ n) (hr : n + 1 ≤ c) :
    Sl ((w.setCells g (off + (i + 1)) (ic (l.drop i))).setCells g (off + i) [.int .i64 x]) base 1 (.slice (some ⟨g, off, none⟩) (n + 1) c) (n + 1) (ic (l.take i ++ x :: l.drop i)) := by
  have hl : l.length = n := by have := h.1; rw [ic_length] at this; omega
  rcases h.2 with ⟨h0, _⟩ | ⟨g', off', cap', he, hb, hg, hnc, hcm, hfree, hcell⟩
  · cases h0
  cases he
  have hdl : (ic (l.drop i)).length = n - i := by rw [ic_length, List.length_drop, hl]
  have S1 : ∀ k, k < c → ((w.setCells g (off + (i + 1)) (ic (l.drop i))).cell? ⟨g, off + k, none⟩).isSome = true := fun k hk =>
    isSome_setCells g _ _ _ (fun j hj => by rw [Nat.add_assoc]; exact (hfree (i + 1 + j) (by omega)).1) _ (hfree k (by omega)).1
  refine ⟨by rw [ic_length]; simp; omega, .inr ⟨g, off, c, rfl, hb, by rw [size_setCells, size_setCells]; exact hg, hr, hcm, fun j hj => ⟨?_, ?_⟩, fun j hj => ?_⟩⟩
  · exact isSome_setCells g _ _ _ (fun k hk => by
      have : k = 0 := by simpa using hk
      subst this
      exact S1 i (by omega)) _ (S1 j (by omega))
  · rw [World.frozen?_setCells, World.frozen?_setCells]; exact (hfree j (by omega)).2
  · rcases Nat.lt_trichotomy j i with hji | hji | hji
    · rw [World.cell?_setCells_out g _ _ _ ⟨g, off + j, none⟩ (fun _ _ => by show off + j < off + i ∨ _; omega), World.cell?_setCells_out g _ _ _ ⟨g, off + j, none⟩ (fun _ _ => by show off + j < off + (i + 1) ∨ _; omega), hcell j (by omega)]
      unfold ic
      rw [List.getElem?_map, List.getElem?_map, List.getElem?_append_left (by rw [List.length_take]; omega), List.getElem?_take, if_pos hji]
    · subst hji
      have := World.cell?_setCells_in g [Value.int .i64 x] (off + j) (w.setCells g (off + (j + 1)) (ic (l.drop j))) (fun k hk => by
        have : k = 0 := by simpa using hk
        subst this
        exact S1 j (by omega)) 0 (by simp)
      simp only [Nat.add_zero] at this
      rw [this]
      unfold ic
      rw [List.getElem?_map, List.getElem?_append_right (by rw [List.length_take]; omega), List.length_take, Nat.min_eq_left (by omega), Nat.sub_self]
      rfl
    · rw [World.cell?_setCells_out g _ _ _ ⟨g, off + j, none⟩ (fun _ _ => by show off + j < off + i ∨ off + i + [Value.int .i64 x].length ≤ off + j; simp; omega)]
      have := World.cell?_setCells_in g (ic (l.drop i)) (off + (i + 1)) w (fun k hk => by rw [Nat.add_assoc]; exact (hfree (i + 1 + k) (by omega)).1) (j - (i + 1)) (by omega)
      rw [show off + (i + 1) + (j - (i + 1)) = off + j by omega] at this
      rw [this, ← List.getElem?_eq_getElem]
      unfold ic
      rw [List.getElem?_map, List.getElem?_map, List.getElem?_append_right (by rw [List.length_take]; omega), List.length_take, Nat.min_eq_left (by omega), show j - i = (j - (i + 1)) + 1 by omega, List.getElem?_cons_succ]

theorem turn_cells (w : World) (g o : Nat) (vs : List Value) : Turn (fun k => k = g) w (w.setCells g o vs) := by
  have h := grownBy_setCells g vs o w
  exact ⟨h.os, h.tape, h.output, h.size, fun i hi hr => h.block i hi (fun e => hr (Option.some.inj e))⟩
theorem shape_of {w : World} {g o : Nat} (h : (w.cell? ⟨g, o, none⟩).isSome = true) : ∃ t k, w.shape? g = some (t, k) ∧ o < k := by
  obtain ⟨v, hv⟩ := Option.isSome_iff_exists.1 h
  obtain ⟨e, n, h1, h2, _⟩ := World.shape?_of_cell? hv
  exact ⟨e, n, h1, h2⟩

set_option maxHeartbeats 4000000 in
set_option maxRecDepth 100000 in
theorem insert_room (base g off n c i b : Nat) (l : List Int) (x : Int) (w : World) (hs : Sl w base 1 (.slice (some ⟨g, off, none⟩) n c) n (ic l)) (hi : i < n) (hroom : n + 1 ≤ c) (hv : w.heap[b]? = some (.cells #[.int .i64 x] 3)) (hb : b ≠ g) :
    Calls Tryz.prog 53 #[.slice (some ⟨g, off, none⟩) n c, .int .i64 i, .slice (some ⟨b, 0, none⟩) 1 1] w fun e w' => e = .returned (.slice (some ⟨g, off, none⟩) (n + 1) c) ∧ Sl w' base 1 (.slice (some ⟨g, off, none⟩) (n + 1) c) (n + 1) (ic (l.take i ++ x :: l.drop i)) ∧ Turn (fun k => k = g) w w' := by
  have hl : l.length = n := by have := hs.1; rw [ic_length] at this; omega
  have hfin := sl_ins (w := w.drew) (x := x) hs.drew (i := i) (by omega) hroom
  rcases hs.2 with ⟨h0, _⟩ | ⟨g', off', cap', he, hbg, hg, hnc, hcm, hfree, hcell⟩
  · cases h0
  cases he
  have hcm2 : c ≤ 9223372036854775807 := by unfold maxLen at hcm; omega
  obtain ⟨tB, kB, hsb, hkB⟩ := shape_of (hfree i (by omega)).1
  have hsa : w.shape? b = some (3, 1) := by unfold World.shape?; rw [hv]; rfl
  have cv : w.cell? ⟨b, 0, none⟩ = some (.int .i64 x) := Lib.cell_of_heap hv 0
  have fv : w.frozen? ⟨b, 0, none⟩ = false := Lib.frozen_of_heap hv 0
  have fv1 : w.frozen? ⟨b, 1, none⟩ = false := Lib.frozen_of_heap hv 1
  have hsz : (Tryz.prog.info? 3).map (·.size) = some 1 := by
    obtain ⟨i0, hi0, h0, h1, h2⟩ := info_parts bi_int
    rw [hi0]; simp [h1]
  have hov : ∀ lb cb, (callFunc 75 #[.slice (some ⟨b, 0, none⟩) 1 1, .slice (some ⟨g, off + (i + 1), none⟩) lb cb]).run Tryz.prog w = .ok (.value (.bool false)) w := fun lb cb => by
    rw [run_callFunc_extern Tryz.func75 (by kernel_rfl) (by kernel_rfl) (by kernel_rfl) (e := Extern.SlicesOverlaps.overlaps #[38, 38] #[4]) (by kernel_rfl),
      Lib.run_overlaps_apart w 38 4 3 Tryz.underlying38 1 (fun w => Tryz.sizeOf3 w) ⟨b, 0, none⟩ ⟨g, off + (i + 1), none⟩ 1 1 lb cb hb 3 tB 1 kB hsa hsb (by omega) fv fv1]
    rfl
  have hdl : (ic (l.drop i)).length = n - i := by rw [ic_length, List.length_drop, hl]
  have hz2 : ¬ ((i : Int) = (n : Int)) := by omega
  have hw1 : IntKind.i64.wrap ((i : Int) + 1) = (i : Int) + 1 := by rw [IntKind.wrap_i64]; omega
  have htn : ((i : Int) + 1).toNat = i + 1 := by omega
  have hb1 : (0 : Int) ≤ (i : Int) + 1 := by omega
  have hb2 : ¬ (c = i + 1) := by omega
  have hb4 : ¬ (c = i) := by omega
  have hin : i ≤ n := by omega
  have hin2 : (i : Int) ≤ (n : Int) + 1 := by omega
  have hcp1 : ∀ ty dc sc, (Builtin.copy_ #[39, 39] ty #[.slice (some ⟨g, off + (i + 1), none⟩) (n - i) dc, .slice (some ⟨g, off + i, none⟩) (n + 1 - i) sc]).run Tryz.prog w.drew = .ok (goInt (ic (l.drop i)).length) (w.drew.setCells g (off + (i + 1)) (ic (l.drop i))) := fun ty dc sc =>
    run_copy_cells w.drew _ _ ty 3 g (off + (i + 1)) (n - i) dc ⟨g, off + i, none⟩ (n + 1 - i) sc (ic (l.drop i)) Tryz.underlying39 hsz (by rw [hdl]; simp only [Nat.min_def]; split <;> omega)
      (fun j v hj => by
        rw [Addr.add_lit, Nat.add_assoc]
        have hjl : j < (ic (l.drop i)).length := (List.getElem?_eq_some_iff.1 hj).1
        have := hcell (i + j) (by omega)
        rw [← hj]
        refine this.trans ?_
        unfold ic
        rw [List.getElem?_map, List.getElem?_map, List.getElem?_drop])
      (fun j hj => by rw [Nat.add_assoc]; exact (hfree _ (by omega)).1) (fun j hj => by rw [Nat.add_assoc]; exact (hfree _ (by omega)).2) (ic_one _)
  obtain ⟨W1, hW1⟩ : ∃ W1, W1 = w.drew.setCells g (off + (i + 1)) (ic (l.drop i)) := ⟨_, rfl⟩
  have hsp1 : ∀ k, k < c → (W1.cell? ⟨g, off + k, none⟩).isSome = true := fun k hk => by
    rw [hW1]
    exact isSome_setCells g _ _ _ (fun j hj => by rw [Nat.add_assoc]; exact (hfree _ (by omega)).1) _ (hfree k (by omega)).1
  have hcp2 : ∀ ty dc, (Builtin.copy_ #[39, 38] ty #[.slice (some ⟨g, off + i, none⟩) (n + 1 - i) dc, .slice (some ⟨b, 0, none⟩) 1 1]).run Tryz.prog W1 = .ok (goInt 1) (W1.setCells g (off + i) [.int .i64 x]) := fun ty dc =>
    run_copy_cells W1 _ _ ty 3 g (off + i) (n + 1 - i) dc ⟨b, 0, none⟩ 1 1 [.int .i64 x] Tryz.underlying39 hsz (by simp only [List.length_singleton, Nat.min_def]; split <;> omega)
      (fun j v hj => by
        have hj1 := (List.getElem?_eq_some_iff.1 hj).1
        obtain rfl : j = 0 := by simpa using hj1
        rw [Addr.add_lit, hW1, World.cell?_setCells_out g _ _ _ _ (fun h _ => absurd h hb)]
        rw [← hj]
        exact cv)
      (fun j hj => by
        obtain rfl : j = 0 := by simpa using hj
        exact hsp1 _ (by omega)) (fun j hj => by
        obtain rfl : j = 0 := by simpa using hj
        rw [hW1, World.frozen?_setCells]; exact (hfree i (by omega)).2) (by simp [Value.oneCell'])
  have T1 : Turn (fun k => k = g) w W1 := by rw [hW1]; exact (Turn.refl _ w).drew.trans (turn_cells _ _ _ _)
  rw [← hW1] at hcp1 hfin
  have FIN := Lib.hid hfin
  clear hcell hfree hW1 hsp1 hs hfin hl hdl hsb hsa cv fv fv1 hsz hv
  go_enter Tryz.func53, Tryz.ntmps53
  go_wp2_with (simp only [hov])
  go_region_law (refine step_copy_runI rfl _ _ 39 39 rfl _ _ (by simp [Act.eval, Act.put]) (by simp [Act.eval, Act.put]) (hcp1 _ _ _) ?_)
  all_goals go_wp2_with (at_builtin; refine wpList_copy_runI _ rfl _ _ 39 38 rfl _ _ rfl rfl (hcp2 _ _) ?_)
  all_goals go_ret
  all_goals exact ⟨rfl, FIN.out, T1.trans (turn_cells _ _ _ _)⟩
end Go.Proofs.YtefhnjepocbodaaGreatDoor
