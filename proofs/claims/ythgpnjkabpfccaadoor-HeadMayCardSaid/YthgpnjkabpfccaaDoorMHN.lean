/- Layer 15: the oldest range of a head with one series. -/
import Derived.Test.YthgpnjkabpfccaaDoorMHM
import Derived.Maps.RangeRun
namespace Go.Proofs.YthgpnjkabpfccaaDoor
open Go.RowKit Go.Lib
open Go.ChangeMaps (setBlock)

set_option maxHeartbeats 2000000 in
set_option maxRecDepth 100000 in
theorem oldest_one (b ms mi mp cs p : Nat) (se sa sm nu pl nu' pl' : Int) (lv sv : Value) (K : ByteArray) (base n : Nat) (xs : List Value) (w : World) (h : HdB b ms mi mp se sa 10 0 25 sm nu pl w) (hm : MapIs ms [⟨K, .pointer (some ⟨p, 0, none⟩), cs⟩] (cs + 1) w) (sb : SrB p lv K nu' pl' sv w) (sl : Sl w base 2 sv (n + 1) xs) (h0 : xs[0]? = some (.int .i64 3)) (hsm : sm ≠ 0) (hn : n ≤ 1000000) :
    Calls Tryd.prog 11 #[.pointer (some ⟨b, 0, none⟩)] w fun e w' => e = .returned (.tuple #[.int .i64 0, .int .i64 10, .bool true]) ∧ Below w.heap.size w w' := by
  obtain ⟨es, hes⟩ : ∃ es : Array MapEntry, es = #[{ key := .string K, val := .pointer (some ⟨p, 0, none⟩), born := cs }] := ⟨_, rfl⟩
  have hmh : w.heap[ms]? = some (.map es (cs + 1)) := by rw [hes]; exact hm
  have hrg := run_range_map (P := Tryd.prog) w 31 9 72 ms es (cs + 1) Tryd.underlying31 hmh
  have c2 : w.cell? ⟨b, 2, none⟩ = some (.int .i64 10) := Lib.cell_of_heap h 2
  have c4 : w.cell? ⟨b, 4, none⟩ = some (.int .i64 25) := Lib.cell_of_heap h 4
  have c5 : w.cell? ⟨b, 5, none⟩ = some (.int .i64 sm) := Lib.cell_of_heap h 5
  have c7 : w.cell? ⟨b, 7, none⟩ = some (.map (some ms)) := Lib.cell_of_heap h 7
  have lms := mapIs_lt hm
  have e0 : (sm == 0) = false := by simpa using hsm
  obtain ⟨g, off, cap, rfl, hcl⟩ : ∃ g off cap, sv = .slice (some ⟨g, off, none⟩) (n + 1) cap ∧ w.cell? ⟨g, off, none⟩ = some (.int .i64 3) := by
    rcases sl.2 with ⟨_, q⟩ | ⟨g, off, cap, he, _⟩
    · omega
    · subst he
      have := sl.cells 0 _ h0
      rw [Addr.add_lit, Nat.add_zero] at this
      exact ⟨g, off, cap, rfl, this⟩
  have F := Lib.hid (fun W (bb : Below w.heap.size w W) => (show (W.cell? ⟨p, 4, none⟩ = some (.slice (some ⟨g, off, none⟩) (n + 1) cap) ∧ W.cell? ⟨g, off, none⟩ = some (.int .i64 3)) ∧ (W.cell? ⟨b, 2, none⟩ = some (.int .i64 10) ∧ W.cell? ⟨b, 4, none⟩ = some (.int .i64 25)) from
    ⟨⟨(bb.cell (p := ⟨p, 4, none⟩) (srB_lt sb)).trans (Lib.cell_of_heap sb 4), (bb.cell (p := ⟨g, off, none⟩) (sl.lt g rfl).2).trans hcl⟩, (bb.cell (p := ⟨b, 2, none⟩) (hdB_lt h)).trans c2, (bb.cell (p := ⟨b, 4, none⟩) (hdB_lt h)).trans c4⟩))
  obtain ⟨N, hN⟩ : ∃ N, N = n + 1 := ⟨_, rfl⟩
  rw [← hN] at F
  have hN0 : (0 : Int) < N := by omega
  have HES := Lib.hid hes
  clear hN h hm sb sl h0 hsm hcl hes
  go_enter Tryd.func11, Tryd.ntmps11
  go_wp2_with fail
  go_loopw [5] (fun l' wr => (l' = .int .i64 25 ∧ wr.heap[w.heap.size]? = some (.mapIter (some ms) (cs + 1) #[] (cs + 1)) ∧ Below w.heap.size w wr) ∨ (l' = .int .i64 3 ∧ wr.heap[w.heap.size]? = some (.mapIter (some ms) (cs + 1) #[cs] (cs + 1)) ∧ Below w.heap.size w wr)) (fun l' _ => (RowKit.intOf l').toNat)
  case atStart => exact .inl ⟨rfl, heap_alloc_new w _, (Below.refl _ w).alloc (Nat.le_refl _) _⟩
  case round =>
    have hold : ∀ x ∈ es.toList, x.born < cs + 1 := by rw [HES.out]; intro x hx; simp at hx; subst hx; simp
    rcases hrel with ⟨rfl, hit, hb⟩ | ⟨rfl, hit, hb⟩
    · have hmr : wr.heap[ms]? = some (.map es (cs + 1)) := (hb.block ms lms).trans hmh
      rcases run_next_at (P := Tryd.prog) wr 0 w.heap.size ms (cs + 1) (cs + 1) #[] es (cs + 1) hit hmr hold (Nat.le_refl _) with ⟨hz, _⟩ | ⟨e, hmem, w1, hw1, hn⟩
      · exfalso; rw [HES.out] at hz; simp [leftOf] at hz
      · obtain rfl : e = { key := .string K, val := .pointer (some ⟨p, 0, none⟩), born := cs } := by rw [HES.out] at hmem; simpa [leftOf] using hmem
        obtain ⟨W1, hW1⟩ : ∃ W1, W1 = setBlock w1 w.heap.size (.mapIter (some ms) (cs + 1) ((#[] : Array Nat).push cs) (cs + 1)) := ⟨_, rfl⟩
        simp only at hn
        rw [← hW1] at hn
        have hlt : w.heap.size < wr.heap.size := (Array.getElem?_eq_some_iff.1 hit).1
        have z1 : W1.heap.size = wr.heap.size := by rw [hW1]; rcases hw1 with rfl | rfl <;> simp [setBlock]
        have hr1 : W1.heap[w.heap.size]? = some (.mapIter (some ms) (cs + 1) ((#[] : Array Nat).push cs) (cs + 1)) := by rw [hW1]; rcases hw1 with rfl | rfl <;> simp [setBlock, hlt]
        have hb1 : ∀ k, k ≠ w.heap.size → W1.heap[k]? = wr.heap[k]? := fun k hk => by
          rw [hW1]
          rcases hw1 with rfl | rfl
          · simp [setBlock, Array.getElem?_setIfInBounds_ne (Ne.symm hk)]
          · simp [setBlock, Array.getElem?_setIfInBounds_ne (Ne.symm hk)]; rfl
        have hbel1 : Below w.heap.size w W1 := by
          refine ⟨?_, ?_, ?_, by have := hb.size; omega, fun k hk => (hb1 k (by omega)).trans (hb.block k hk)⟩
          all_goals rw [hW1]; rcases hw1 with rfl | rfl
          · exact hb.os
          · exact hb.os
          · exact hb.tape
          · exact hb.tape
          · exact hb.output
          · exact hb.output
        have hen := run_entry_at (P := Tryd.prog) W1 w.heap.size ms (cs + 1) #[] es (cs + 1) { key := .string K, val := .pointer (some ⟨p, 0, none⟩), born := cs } hr1 ((hb1 ms (by omega)).trans hmr) (by rw [HES.out]; simp) (by rw [HES.out]; simp)
        simp only at hen
        obtain ⟨⟨f1, f2⟩, _⟩ := F.out _ hbel1
        have HR1 := Lib.hid hr1
        have HB1 := Lib.hid hbel1
        clear hW1 hw1 hmem hit hmr hold hb z1 hr1 hb1 hbel1 hlt
        go_wp2_with fail
        exact ⟨.inr ⟨rfl, HR1.out, HB1.out⟩, by decide⟩
    · have hmr : wr.heap[ms]? = some (.map es (cs + 1)) := (hb.block ms lms).trans hmh
      rcases run_next_at (P := Tryd.prog) wr 0 w.heap.size ms (cs + 1) (cs + 1) #[cs] es (cs + 1) hit hmr hold (Nat.le_refl _) with ⟨_, hn⟩ | ⟨e, hmem, _⟩
      · obtain ⟨_, ⟨f3, f4⟩⟩ := F.out _ hb
        have HB := Lib.hid hb
        have hr10 : Int.tmod 3 10 = 3 := by decide
        clear hit hmr hold hb
        go_wp2_with fail
        go_quiet (fail)
        go_wp2
        go_ret3
        exact ⟨rfl, below_draw HB.out _⟩
      · exfalso; rw [HES.out] at hmem; simp [leftOf] at hmem
end Go.Proofs.YthgpnjkabpfccaaDoor
