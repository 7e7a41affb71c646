/- Layer 6: a text's parts between two bytes: plain maths. The library's iterator over a text's parts (strings.SplitSeq at a text of one byte), walked: it keeps the rest of the text in a cell of its own. -/
import Derived.Test.YtobdlfikomnmcaaGreatDoorMStr
import Derived.RangeFuncNested
import Derived.RangeFuncBound
import Derived.RangeFuncCalls
import Derived.RangeFuncLeaves
import Derived.Shelf.Abstract
import Derived.Shelf.RegionOpen
import Derived.WalkKit
import Derived.OwnWalkIn
import Derived.TacticsInMore
import Derived.LoopNIn
import Derived.LoopIn
namespace Go.Proofs.YtobdlfikomnmcaaGreatDoor
open Go.RowKit Go.Lib

/-- A text's parts between bytes c. -/
def parts (c : UInt8) : List UInt8 → List (List UInt8)
  | [] => [[]]
  | x :: l => if x = c then [] :: parts c l else match parts c l with
    | [] => [[x]]
    | p :: ps => (x :: p) :: ps
theorem parts_ne (c : UInt8) : ∀ l, parts c l ≠ []
  | [] => by simp [parts]
  | x :: l => by
    unfold parts
    split
    · simp
    · split <;> simp
theorem parts_none (c : UInt8) : ∀ l, c ∉ l → parts c l = [l]
  | [], _ => rfl
  | x :: l, h => by
    have hx : ¬ x = c := fun e => h (by simp [e])
    rw [parts, if_neg hx, parts_none c l (fun e => h (by simp [e]))]
theorem parts_app (c : UInt8) : ∀ l r, c ∉ l → parts c (l ++ c :: r) = l :: parts c r
  | [], r, _ => by simp [parts]
  | x :: l, r, h => by
    have hx : ¬ x = c := fun e => h (by simp [e])
    rw [List.cons_append, parts, if_neg hx, parts_app c l r (fun e => h (by simp [e]))]
theorem parts_index {c : UInt8} {l : List UInt8} {i : Nat} (h3 : l[i]? = some c) (h4 : c ∉ l.take i) : parts c l = l.take i :: parts c (l.drop (i + 1)) := by
  have hi : i < l.length := (List.getElem?_eq_some_iff.1 h3).1
  have he : l = l.take i ++ c :: l.drop (i + 1) := by
    have := List.take_append_drop i l
    rw [List.drop_eq_getElem_cons hi] at this
    rw [show l[i] = c by rw [List.getElem?_eq_getElem hi] at h3; exact Option.some.inj h3] at this
    exact this.symm
  have := parts_app c (l.take i) (l.drop (i + 1)) h4
  rw [← he] at this
  exact this
theorem parts_len (c : UInt8) : ∀ l p, p ∈ parts c l → p.length ≤ l.length
  | [], p, h => by simp [parts] at h; simp [h]
  | x :: l, p, h => by
    have ih := parts_len c l
    unfold parts at h
    split at h
    · rcases List.mem_cons.1 h with rfl | h
      · simp
      · have := ih p h; simp; omega
    · split at h
      · simp at h; simp [h]
      · rename_i q qs hq
        rcases List.mem_cons.1 h with rfl | h
        · have := ih q (by rw [hq]; simp); simp; omega
        · have := ih p (by rw [hq]; simp [h]); simp; omega
theorem parts_count (c : UInt8) : ∀ l, (parts c l).length ≤ l.length + 1
  | [] => by simp [parts]
  | x :: l => by
    have ih := parts_count c l
    unfold parts
    split
    · simp; omega
    · split
      · simp
      · rename_i q qs hq
        rw [hq] at ih
        simp at *; omega
end Go.Proofs.YtobdlfikomnmcaaGreatDoor

namespace Go.Proofs.YtobdlfikomnmcaaGreatDoor
open Go.RowKit Go.Lib
attribute [local go_sem] Oper.semAt_some

theorem index2_any (s : ByteArray) (c : UInt8) (w : World) :
    Calls Tryz.prog 43 #[.string s, .string (bs [c])] w fun e w' => e = .returned (.int .i64 (Lib.indexByte s.data.toList c)) ∧ w = w' := by
  go_enter Tryz.func43, Tryz.ntmps43
  go_wp2_with fail
  refine (index1_any _ _ _).mono ?_
  rintro e w1 ⟨rfl, rfl⟩
  go_wp2
  go_ret
  exact ⟨rfl, rfl⟩

/-- How much of the text is left: read off its box. -/
def leftIn (B : Nat) (W : World) : Nat := match W.cell? ⟨B, 0, none⟩ with
  | some (.string b) => b.size
  | _ => 0

set_option maxRecDepth 100000 in
set_option maxHeartbeats 2000000 in
theorem split_iter (n l B : Nat) (c : UInt8) (s0 : List UInt8) (J Jx : List (List UInt8) → World → Prop) (hn : 1 ≤ n)
    (hJs : ∀ pre W v, J pre W → J pre (W.setCell ⟨B, 0, none⟩ v))
    (hY : ∀ pre x t W, J pre W → parts c s0 = pre ++ x :: t → YieldAt Fence.wide (n - 1) Tryz.prog l #[.string (bs x)] W fun e W' =>
      (e = .returned (.bool true) ∧ J (pre ++ [x]) W' ∧ ∀ k, B ≤ k → k < B + 3 → W'.heap[k]? = W.heap[k]?) ∨ (e = .returned (.bool false) ∧ Jx (pre ++ [x]) W'))
    (W : World) (hs : W.cell? ⟨B, 0, none⟩ = some (.string (bs s0))) (hf : W.frozen? ⟨B, 0, none⟩ = false) (hc : W.cell? ⟨B + 1, 0, none⟩ = some (.string (bs [c]))) (hv : W.cell? ⟨B + 2, 0, none⟩ = some (.int .i64 0)) (h0 : J [] W) (hl : s0.length ≤ 1000000) :
    CallsIn Fence.wide n Tryz.prog 41 #[.func (.yield l) #[] #[], .pointer (some ⟨B + 1, 0, none⟩), .pointer (some ⟨B, 0, none⟩), .pointer (some ⟨B + 2, 0, none⟩)] W fun e W' => (∃ v, e = .returned v) ∧
      (J (parts c s0) W' ∨ ∃ pre x t, parts c s0 = pre ++ x :: t ∧ Jx (pre ++ [x]) W') := by
  have hz : (bs [c]).size = 1 := rfl
  refine callsIn_of_wp Tryz.func41 rfl trivial ?_ rfl
  simp only [Tryz.ntmps41, List.size_toArray, List.length_cons, List.length_nil, Nat.reduceAdd, Nat.reduceSub, Array.replicate_succ, Array.replicate_zero, List.push_toArray, List.append_toArray, List.nil_append, List.cons_append]
  gi_wp2
  gi_loopw [7] (fun _ wr => ∃ (pre : List (List UInt8)) (cur : List UInt8), parts c s0 = pre ++ parts c cur ∧ cur.length ≤ 1000000 ∧ J pre wr ∧ wr.cell? ⟨B, 0, none⟩ = some (.string (bs cur)) ∧ wr.frozen? ⟨B, 0, none⟩ = false ∧ wr.cell? ⟨B + 1, 0, none⟩ = some (.string (bs [c])) ∧ wr.cell? ⟨B + 2, 0, none⟩ = some (.int .i64 0)) (fun _ wr => leftIn B wr)
  case atStart => exact ⟨[], s0, by simp, hl, h0, hs, hf, hc, hv⟩
  case round =>
    clear hs hf hc hv h0
    obtain ⟨pre, cur, hp, hcl, hJ, hs, hf, hc, hv⟩ := hrel
    rcases indexB_bounds cur c with ⟨h1, h2⟩ | ⟨i, h1, h2, h3, h4⟩
    · have HI := Lib.hid (fun W => show Calls Tryz.prog 43 #[.string (bs cur), .string (bs [c])] W (fun e w' => e = .returned (.int .i64 (-1)) ∧ W = w') by rw [← h1]; exact index2_any (bs cur) c W)
      have hpp := Lib.hid (show parts c s0 = pre ++ [cur] by rw [hp, parts_none c cur h2])
      obtain ⟨fn, tmps, assign, body, hy, hR⟩ := hY pre cur [] wr hJ hpp.out
      clear hp h1 h2
      gi_wp2
      refine ⟨trivial, ?_⟩
      refine (callsIn_wide.2 (HI.out _)).mono ?_
      rintro e w1 ⟨rfl, rfl⟩
      gi_wp2
      refine hR.mono ?_
      rintro e W3 (⟨rfl, hJ3, hk3⟩ | ⟨rfl, hJx3⟩)
      · gi_wp2
        go_end0
        exact ⟨⟨_, rfl⟩, .inl (by rw [hpp.out]; exact hJ3)⟩
      · gi_wp2
        go_end0
        exact ⟨⟨_, rfl⟩, .inr ⟨pre, cur, [], hpp.out, hJx3⟩⟩
    · have HI := Lib.hid (fun W => show Calls Tryz.prog 43 #[.string (bs cur), .string (bs [c])] W (fun e w' => e = .returned (.int .i64 i) ∧ W = w') by rw [← h1]; exact index2_any (bs cur) c W)
      have hi1 : (i : Int) + 1 ≤ (bs cur).size := by rw [bs_size]; omega
      have hpp := Lib.hid (show parts c s0 = pre ++ cur.take i :: parts c (cur.drop (i + 1)) by rw [hp, parts_index h3 h4])
      obtain ⟨fn, tmps, assign, body, hy, hR⟩ := hY pre (cur.take i) _ wr hJ hpp.out
      have e1 := bs_take cur i
      have e2 := bs_drop cur (i + 1)
      have hcz : (bs cur).size ≤ 1000000 := bs_size_le _ _ hcl
      have HL := Lib.hid (show (cur.drop (i + 1)).length + i + 1 = cur.length by rw [List.length_drop]; omega)
      obtain ⟨nx, hnx⟩ : ∃ nx, nx = cur.drop (i + 1) := ⟨_, rfl⟩
      rw [← hnx] at e2 hpp HL
      clear hp h1 h2 h3 h4 hnx
      gi_wp2
      refine ⟨trivial, ?_⟩
      refine (callsIn_wide.2 (HI.out _)).mono ?_
      rintro e w1 ⟨rfl, rfl⟩
      gi_wp2
      refine hR.mono ?_
      rintro e W3 (⟨rfl, hJ3, hk3⟩ | ⟨rfl, hJx3⟩)
      · have hs3 := (World.cell?_of_block (a := ⟨B, 0, none⟩) (hk3 B (by omega) (by omega))).trans hs
        have hf3 := (World.frozen?_of_block (a := ⟨B, 0, none⟩) (hk3 B (by omega) (by omega))).trans hf
        have hc3 := (World.cell?_of_block (a := ⟨B + 1, 0, none⟩) (hk3 (B + 1) (by omega) (by omega))).trans hc
        have hv3 := (World.cell?_of_block (a := ⟨B + 2, 0, none⟩) (hk3 (B + 2) (by omega) (by omega))).trans hv
        gi_wp2
        have hlen := HL.out
        have hsame : (W3.setCell ⟨B, 0, none⟩ (.string (bs nx))).cell? ⟨B, 0, none⟩ = some (.string (bs nx)) := cell_setCell_same _ _ _ _ (by rw [hs3]; rfl)
        refine ⟨⟨pre ++ [cur.take i], nx, by rw [hpp.out]; simp, by omega, hJs _ _ _ hJ3, hsame, by rw [frozen_setCell]; exact hf3, ?_, ?_⟩, ?_⟩
        · rw [cell_setCell_other _ _ _ _ _ (.inl (by simp))]; exact hc3
        · rw [cell_setCell_other _ _ _ _ _ (.inl (by simp))]; exact hv3
        · unfold leftIn
          rw [hsame, hs]
          simp only
          rw [bs_size, bs_size]
          omega
      · gi_wp2
        refine bodyPost_ret (results_none rfl _ _ _) rfl ?_
        exact ⟨⟨_, rfl⟩, .inr ⟨pre, cur.take i, _, hpp.out, hJx3⟩⟩
end Go.Proofs.YtobdlfikomnmcaaGreatDoor
