/- Layer 12: where a number stands in a list: BinarySearch, walked. -/
import Derived.Test.YteheojiokbdgmaaGreatDoorMT3
namespace Go.Proofs.YteheojiokbdgmaaGreatDoor
open Go.RowKit Go.Lib

/-- How many are less. -/
def pos (l : List Int) (n : Int) : Nat := (l.filter fun x => decide (x < n)).length
theorem pos_le (l : List Int) (n : Int) : pos l n ≤ l.length := List.length_filter_le _ _
theorem pos_iff : ∀ (l : List Int) (n : Int), Up l → ∀ j x, l[j]? = some x → (x < n ↔ j < pos l n)
  | [], n, _, j, x, h => by simp at h
  | a :: l, n, hu, j, x, h => by
    have hu' : Up l := (List.pairwise_cons.1 hu).2
    have ha := (List.pairwise_cons.1 hu).1
    by_cases han : a < n
    · have hp : pos (a :: l) n = pos l n + 1 := by simp [pos, han]
      rw [hp]
      cases j with
      | zero => simp only [List.getElem?_cons_zero, Option.some.injEq] at h; subst h; exact ⟨fun _ => by omega, fun _ => han⟩
      | succ j =>
        have := pos_iff l n hu' j x (by simpa using h)
        omega
    · have hp : pos (a :: l) n = 0 := by
        unfold pos
        rw [List.length_eq_zero_iff, List.filter_eq_nil_iff]
        intro y hy
        rcases List.mem_cons.1 hy with rfl | hy
        · simpa using han
        · have := ha y hy; simp; omega
      rw [hp]
      constructor
      · intro hx
        cases j with
        | zero => simp only [List.getElem?_cons_zero, Option.some.injEq] at h; omega
        | succ j => have := ha x (List.mem_of_getElem? (by simpa using h)); omega
      · intro h0; omega
theorem pos_mem (l : List Int) (n : Int) (hu : Up l) : n ∈ l ↔ l[pos l n]? = some n := by
  constructor
  · intro hn
    obtain ⟨j, hj⟩ := List.getElem?_of_mem hn
    have h1 := pos_iff l n hu j n hj
    have hjl := (List.getElem?_eq_some_iff.1 hj).1
    rcases Nat.lt_trichotomy j (pos l n) with h | h | h
    · omega
    · rw [← h]; exact hj
    · obtain ⟨x, hx⟩ : ∃ x, l[pos l n]? = some x := ⟨_, List.getElem?_eq_getElem (by omega)⟩
      have h2 := pos_iff l n hu (pos l n) x hx
      have h3 : x < n := by
        have hj' := (List.getElem?_eq_some_iff.1 hj).2
        have hx' := (List.getElem?_eq_some_iff.1 hx).2
        have := (List.pairwise_iff_getElem.1 hu) (pos l n) j (by omega) hjl h
        omega
      omega
  · exact fun h => List.mem_of_getElem? h

set_option maxRecDepth 100000 in
theorem nan_int (a : Int) (w : World) : Calls Tryz.prog 79 #[.int .i64 a] w fun e w' => e = .returned (.bool false) ∧ w = w' := by
  go_enter Tryz.func79, Tryz.ntmps79
  go_wp2
  go_ret
  exact ⟨rfl, rfl⟩
set_option maxRecDepth 100000 in
theorem nan2_int (a : Int) (w : World) : Calls Tryz.prog 57 #[.int .i64 a] w fun e w' => e = .returned (.bool false) ∧ w = w' := by
  go_enter Tryz.func57, Tryz.ntmps57
  go_wp2
  go_ret
  exact ⟨rfl, rfl⟩
set_option maxRecDepth 100000 in
theorem less_int (a b : Int) (w : World) : Calls Tryz.prog 56 #[.int .i64 a, .int .i64 b] w fun e w' => e = .returned (.bool (decide (a < b))) ∧ w = w' := by
  go_enter Tryz.func56, Tryz.ntmps56
  go_wp2_with fail
  refine (nan_int _ _).mono ?_
  rintro e w1 ⟨rfl, rfl⟩
  go_wp2
  go_ret
  exact ⟨rfl, rfl⟩

set_option maxHeartbeats 1000000 in
set_option maxRecDepth 100000 in
theorem search_any (v : Value) (l : List Int) (n : Int) (w : World) (h : Nc w v l) (hu : Up l) :
    Calls Tryz.prog 44 #[v, .int .i64 n] w fun e w' => e = .returned (.tuple #[.int .i64 (pos l n), .bool (decide (n ∈ l))]) ∧ w = w' := by
  obtain ⟨hl, a, cap, g, off, rfl, hlc, hg, hc⟩ := h
  have hpi := Lib.hid (pos_iff l n hu)
  have hpm := Lib.hid (pos_mem l n hu)
  have hpl := pos_le l n
  obtain ⟨P, hP⟩ : ∃ P, P = pos l n := ⟨_, rfl⟩
  obtain ⟨N, hN⟩ : ∃ N, N = l.length := ⟨_, rfl⟩
  rw [← hP] at hpi hpm hpl ⊢
  rw [← hN] at hg hl hlc hpl ⊢
  have HN := Lib.hid hN
  have HG := Lib.hid hg
  have HC := Lib.hid hc
  have LS := Lib.hid (fun x W => less_int x n W)
  clear hN hP hg hc hu
  go_enter Tryz.func44, Tryz.ntmps44
  go_wp2_with fail
  go_loopw [7, 8] (fun i' j' wr => ∃ (i j : Nat), i' = .int .i64 i ∧ j' = .int .i64 j ∧ i ≤ P ∧ P ≤ j ∧ j ≤ N ∧ w = wr) (fun i' j' _ => (RowKit.intOf j').toNat - (RowKit.intOf i').toNat)
  case atStart => exact ⟨0, N, rfl, rfl, by omega, by omega, by omega, rfl⟩
  case round =>
    obtain ⟨i, j, rfl, rfl, hi, hj, hjN, rfl⟩ := hrel
    by_cases hlt : i < j
    · obtain ⟨m, hm⟩ : ∃ m, m = (i + j) / 2 := ⟨_, rfl⟩
      have hm1 : i ≤ m ∧ m < j := by omega
      obtain ⟨x, hx⟩ : ∃ x, l[m]? = some x := ⟨_, List.getElem?_eq_getElem (by have := HN.out; omega)⟩
      obtain ⟨rfl, hgl⟩ := HG.out (by omega)
      have cx := HC.out m x hx
      have hxi := hpi.out m x hx
      have hlt' : (i : Int) < j := by omega
      have hd1 : ((i : Int) + (j : Int)) / 2 = (m : Int) := by omega
      have hd2 : (i + j) / 2 = m := hm.symm
      have hm0 : (m : Int) < N := by omega
      have LX := Lib.hid (LS.out x w)
      clear hm hx
      by_cases hxn : x < n
      · rw [show decide (x < n) = true by simpa using hxn] at LX
        have hmP := hxi.1 hxn
        clear hxi hxn
        go_wp2_with fail
        refine LX.out.mono ?_
        rintro e w1 ⟨rfl, rfl⟩
        go_wp2
        exact ⟨⟨m + 1, j, by go_num, rfl, by omega, by omega, by omega, trivial⟩, by simp [RowKit.intOf]; omega⟩
      · rw [show decide (x < n) = false by simpa using hxn] at LX
        have hmP : ¬ m < P := fun e => hxn (hxi.2 e)
        clear hxi hxn
        go_wp2_with fail
        refine LX.out.mono ?_
        rintro e w1 ⟨rfl, rfl⟩
        go_wp2
        exact ⟨⟨i, m, rfl, by go_num, by omega, by omega, by omega, trivial⟩, by simp [RowKit.intOf]; omega⟩
    · obtain rfl : i = P := by omega
      obtain rfl : j = i := by omega
      by_cases hPN : j < N
      · obtain ⟨x, hx⟩ : ∃ x, l[j]? = some x := ⟨_, List.getElem?_eq_getElem (by have := HN.out; omega)⟩
        obtain ⟨rfl, hgl⟩ := HG.out (by omega)
        have cx := HC.out j x hx
        have hPN' : (j : Int) < N := by omega
        have hmem : decide (n ∈ l) = (x == n) := by
          rw [Bool.eq_iff_iff, decide_eq_true_iff, hpm.out, hx]; simp
        have N2 := Lib.hid (fun a W => nan2_int a W)
        have HM := Lib.hid hmem
        cases hxn : (x == n)
        · rw [hxn] at HM
          clear hx hmem
          go_wp2_with fail
          refine (N2.out _ _).mono ?_
          rintro e w1 ⟨rfl, rfl⟩
          go_wp2
          go_ret2
          exact ⟨by rw [HM.out]; rfl, rfl⟩
        · rw [hxn] at HM
          clear hx hmem
          go_wp2_with fail
          go_ret2
          exact ⟨by rw [HM.out]; rfl, rfl⟩
      · have hmem : decide (n ∈ l) = false := by
          rw [decide_eq_false_iff_not, hpm.out]
          intro h
          have := (List.getElem?_eq_some_iff.1 h).1
          have := HN.out
          omega
        have HM := Lib.hid hmem
        have hPN' : ¬ (j : Int) < N := by omega
        clear hmem
        go_wp2_with fail
        go_ret2
        exact ⟨by rw [HM.out]; rfl, rfl⟩
end Go.Proofs.YteheojiokbdgmaaGreatDoor
