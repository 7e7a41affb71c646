/- Layer 25: slices.Insert of one element of two cells: what it leaves; at samples, walked. -/
import Derived.Test.YtfckgcckpfklaaaGreatDoorMA1
import Derived.Test.YtfckgcckpfklaaaGreatDoorMRd
import Derived.Deep.RegionLaw
import Derived.RegionTactic
import Derived.Laws.IdiomCopy
import Derived.Laws.Externs
import Derived.Laws.LoneSync
import Derived.Lib.Overlaps
import Derived.Lib.AppendZerosOnto
import Derived.Shelf.Spec.SlicesInsert
namespace Go.Proofs.YtfckgcckpfklaaaGreatDoor
open Go.RowKit Go.Lib
set_option linter.unusedVariables false

theorem run_copy_two {P : Program} (w : World) (dT sT ty elem : TypeId) (b o dLen dCap : Nat) (a : Addr) (sLen sCap : Nat) (cs : List Value)
    (hu : P.underlying dT = some (.slice elem)) (hs : (P.info? elem).map (·.size) = some 2) (hn : cs.length = Nat.min sLen dLen * 2)
    (hsrc : ∀ j v, cs[j]? = some v → w.cell? (a.add j) = some v) (hc : ∀ j, j < cs.length → (w.cell? ⟨b, o + j, none⟩).isSome = true) (hf : ∀ j, j < cs.length → w.frozen? ⟨b, o + j, none⟩ = false) (h1 : ∀ v ∈ cs, v.oneCell' = true) :
    (Builtin.copy_ #[dT, sT] ty #[.slice (some ⟨b, o, none⟩) dLen dCap, .slice (some a) sLen sCap]).run P w = .ok (goInt (Nat.min sLen dLen)) (w.setCells b o cs) := by
  have hl := run_loadCells_list (P := P) w a cs hsrc
  have hst := run_storeCells_cells (P := P) b o cs 0 w (by simpa using hc) (by simpa using hf) h1
  cases hq : P.info? elem with
  | none => simp [hq] at hs
  | some i =>
    have hi : i.size = 2 := by simpa [hq] using hs
    simp [Builtin.copy_, run_underlying hu, Builtin.lenOf, Builtin.firstCells, sizeOf, typeInfo, hq, hi, ← hn, hl, hst]

/-- Two cells put in at element i. -/
def insC (xs ys : List Value) (i : Nat) : List Value := xs.take (i * 2) ++ (ys ++ xs.drop (i * 2))
theorem insC_len {xs ys : List Value} {n i : Nat} (hx : xs.length = n * 2) (hy : ys.length = 2) (hi : i ≤ n) : (insC xs ys i).length = (n + 1) * 2 := by
  unfold insC
  simp only [List.length_append, List.length_take, List.length_drop, hx, hy]
  omega
theorem insC_lo {xs ys : List Value} {n i j : Nat} (hx : xs.length = n * 2) (hi : i ≤ n) (hj : j < i * 2) : (insC xs ys i)[j]? = xs[j]? := by
  unfold insC
  rw [List.getElem?_append_left (by rw [List.length_take]; omega), List.getElem?_take, if_pos hj]
theorem insC_mid {xs ys : List Value} {n i j : Nat} (hx : xs.length = n * 2) (hy : ys.length = 2) (hi : i ≤ n) (h1 : i * 2 ≤ j) (h2 : j < i * 2 + 2) : (insC xs ys i)[j]? = ys[j - i * 2]? := by
  unfold insC
  rw [List.getElem?_append_right (by rw [List.length_take]; omega), List.length_take, Nat.min_eq_left (by omega), List.getElem?_append_left (by omega)]
theorem insC_hi {xs ys : List Value} {n i j : Nat} (hx : xs.length = n * 2) (hy : ys.length = 2) (hi : i ≤ n) (h1 : i * 2 + 2 ≤ j) : (insC xs ys i)[j]? = xs[j - 2]? := by
  unfold insC
  rw [List.getElem?_append_right (by rw [List.length_take]; omega), List.length_take, Nat.min_eq_left (by omega), List.getElem?_append_right (by omega), List.getElem?_drop, hy]
  congr 1
  omega
theorem insC_end (xs ys : List Value) {n : Nat} (hx : xs.length = n * 2) : insC xs ys n = xs ++ ys := by
  unfold insC
  rw [← hx, List.take_length, List.drop_length, List.append_nil]

theorem sl_ins {w : World} {base g off n c i : Nat} {xs ys : List Value} (hy : ys.length = 2) (h : Sl w base 2 (.slice (some ⟨g, off, none⟩) n c) n xs) (hi : i ≤ n) (hr : n + 1 ≤ c) :
    Sl ((w.setCells g (off + (i + 1) * 2) (xs.drop (i * 2))).setCells g (off + i * 2) ys) base 2 (.slice (some ⟨g, off, none⟩) (n + 1) c) (n + 1) (insC xs ys i) := by
  have hl : xs.length = n * 2 := h.1
  rcases h.2 with ⟨h0, _⟩ | ⟨g', off', cap', he, hb, hg, hnc, hcm, hfree, hcell⟩
  · cases h0
  cases he
  have hdl : (xs.drop (i * 2)).length = n * 2 - i * 2 := by rw [List.length_drop, hl]
  have S1 : ∀ k, k < c * 2 → ((w.setCells g (off + (i + 1) * 2) (xs.drop (i * 2))).cell? ⟨g, off + k, none⟩).isSome = true := fun k hk =>
    isSome_setCells g _ _ _ (fun j hj => by rw [Nat.add_assoc]; exact (hfree ((i + 1) * 2 + j) (by omega)).1) _ (hfree k (by omega)).1
  refine ⟨insC_len hl hy hi, .inr ⟨g, off, c, rfl, hb, by rw [size_setCells, size_setCells]; exact hg, hr, hcm, fun j hj => ⟨?_, ?_⟩, fun j hj => ?_⟩⟩
  · exact isSome_setCells g _ _ _ (fun k hk => by rw [Nat.add_assoc]; exact S1 (i * 2 + k) (by omega)) _ (S1 j (by omega))
  · rw [World.frozen?_setCells, World.frozen?_setCells]; exact (hfree j (by omega)).2
  · by_cases hji : j < i * 2
    · rw [World.cell?_setCells_out g _ _ _ ⟨g, off + j, none⟩ (fun _ _ => by show off + j < off + i * 2 ∨ _; omega), World.cell?_setCells_out g _ _ _ ⟨g, off + j, none⟩ (fun _ _ => by show off + j < off + (i + 1) * 2 ∨ _; omega), hcell j (by omega), insC_lo hl hi hji]
    · by_cases hj2 : j < i * 2 + 2
      · have := World.cell?_setCells_in g ys (off + i * 2) (w.setCells g (off + (i + 1) * 2) (xs.drop (i * 2))) (fun k hk => by rw [Nat.add_assoc]; exact S1 _ (by omega)) (j - i * 2) (by omega)
        rw [show off + i * 2 + (j - i * 2) = off + j by omega] at this
        rw [this, insC_mid hl hy hi (by omega) hj2, List.getElem?_eq_getElem]
      · rw [World.cell?_setCells_out g _ _ _ ⟨g, off + j, none⟩ (fun _ _ => by show off + j < off + i * 2 ∨ off + i * 2 + ys.length ≤ off + j; omega)]
        have := World.cell?_setCells_in g (xs.drop (i * 2)) (off + (i + 1) * 2) w (fun k hk => by rw [Nat.add_assoc]; exact (hfree ((i + 1) * 2 + k) (by omega)).1) (j - (i + 1) * 2) (by omega)
        rw [show off + (i + 1) * 2 + (j - (i + 1) * 2) = off + j by omega] at this
        rw [this, insC_hi hl hy hi (by omega), ← List.getElem?_eq_getElem, List.getElem?_drop]
        congr 1
        omega

theorem turn_cells (w : World) (g o : Nat) (vs : List Value) : Turn (fun k => k = g) w (w.setCells g o vs) := by
  have h := grownBy_setCells g vs o w
  exact ⟨h.os, h.tape, h.output, h.size, fun i hi hr => h.block i hi (fun e => hr (Option.some.inj e))⟩
theorem shape_of {w : World} {g o : Nat} (h : (w.cell? ⟨g, o, none⟩).isSome = true) : ∃ t k, w.shape? g = some (t, k) ∧ o < k := by
  obtain ⟨v, hv⟩ := Option.isSome_iff_exists.1 h
  obtain ⟨e, n, h1, h2, _⟩ := World.shape?_of_cell? hv
  exact ⟨e, n, h1, h2⟩
/-- A list comes, in its own memory or in new memory; nothing else is turned. -/
def IW (w : World) (base : Nat) (v : Value) (n : Nat) (xs : List Value) (e : Ending) (w' : World) : Prop :=
  ∃ v', e = .returned v' ∧ Sl w' base 2 v' n xs ∧ Turn (fun k => v.ownBlock = some k) w w' ∧ ∀ k, v'.ownBlock = some k → v.ownBlock = some k ∨ w.heap.size ≤ k

set_option maxHeartbeats 4000000 in
set_option maxRecDepth 100000 in
theorem insert_room_S (base g off n c i b : Nat) (xs : List Value) (x0 x1 : Value) (w : World) (hs : Sl w base 2 (.slice (some ⟨g, off, none⟩) n c) n xs) (hi : i < n) (hroom : n + 1 ≤ c) (hv : w.heap[b]? = some (.cells #[x0, x1] 34)) (hb : b ≠ g) (h1 : ∀ v ∈ xs, v.oneCell' = true) (h2 : x0.oneCell' = true ∧ x1.oneCell' = true) :
    Calls Tryz.prog 47 #[.slice (some ⟨g, off, none⟩) n c, .int .i64 i, .slice (some ⟨b, 0, none⟩) 1 1] w fun e w' => e = .returned (.slice (some ⟨g, off, none⟩) (n + 1) c) ∧ Sl w' base 2 (.slice (some ⟨g, off, none⟩) (n + 1) c) (n + 1) (insC xs [x0, x1] i) ∧ Turn (fun k => k = g) w w' := by
  have hl : xs.length = n * 2 := hs.1
  have hfin := sl_ins (w := w.drew) (ys := [x0, x1]) rfl hs.drew (i := i) (by omega) hroom
  rcases hs.2 with ⟨h0, _⟩ | ⟨g', off', cap', he, hbg, hg, hnc, hcm, hfree, hcell⟩
  · cases h0
  cases he
  have hcm2 : c ≤ 9223372036854775807 := by unfold maxLen at hcm; omega
  obtain ⟨tB, kB, hsb, hkB⟩ := shape_of (hfree (i * 2) (by omega)).1
  have hsa : w.shape? b = some (34, 2) := by unfold World.shape?; rw [hv]; rfl
  have cv : w.cell? ⟨b, 0, none⟩ = some x0 := Lib.cell_of_heap hv 0
  have cv1 : w.cell? ⟨b, 1, none⟩ = some x1 := Lib.cell_of_heap hv 1
  have fv : w.frozen? ⟨b, 0, none⟩ = false := Lib.frozen_of_heap hv 0
  have fv1 : w.frozen? ⟨b, 2, none⟩ = false := Lib.frozen_of_heap hv 2
  have hsz : (Tryz.prog.info? 34).map (·.size) = some 2 := by
    obtain ⟨i0, hi0, h0, h1, h2⟩ := info_parts zc_smp
    rw [hi0]; simp [h1]
  have hov : ∀ lb cb, (callFunc 69 #[.slice (some ⟨b, 0, none⟩) 1 1, .slice (some ⟨g, off + (i + 1) * 2, none⟩) lb cb]).run Tryz.prog w = .ok (.value (.bool false)) w := fun lb cb => by
    rw [run_callFunc_extern Tryz.func69 (by kernel_rfl) (by kernel_rfl) (by kernel_rfl) (e := Extern.SlicesOverlaps.overlaps #[41, 41] #[4]) (by kernel_rfl),
      Lib.run_overlaps_apart w 41 4 34 Tryz.underlying41 2 (fun w => Tryz.sizeOf34 w) ⟨b, 0, none⟩ ⟨g, off + (i + 1) * 2, none⟩ 1 1 lb cb hb 34 tB 2 kB hsa hsb (by omega) fv fv1]
    rfl
  have hdl : (xs.drop (i * 2)).length = n * 2 - i * 2 := by rw [List.length_drop, hl]
  have hz2 : ¬ ((i : Int) = (n : Int)) := by omega
  have hw1 : IntKind.i64.wrap ((i : Int) + 1) = (i : Int) + 1 := by rw [IntKind.wrap_i64]; omega
  have htn : ((i : Int) + 1).toNat = i + 1 := by omega
  have hb1 : (0 : Int) ≤ (i : Int) + 1 := by omega
  have hb2 : ¬ (c = i + 1) := by omega
  have hb4 : ¬ (c = i) := by omega
  have hin : i ≤ n := by omega
  have hin2 : (i : Int) ≤ (n : Int) + 1 := by omega
  have hcp1 : ∀ ty dc sc, (Builtin.copy_ #[41, 41] ty #[.slice (some ⟨g, off + (i + 1) * 2, none⟩) (n - i) dc, .slice (some ⟨g, off + i * 2, none⟩) (n + 1 - i) sc]).run Tryz.prog w.drew = .ok (goInt (Nat.min (n + 1 - i) (n - i))) (w.drew.setCells g (off + (i + 1) * 2) (xs.drop (i * 2))) := fun ty dc sc =>
    run_copy_two w.drew _ _ ty 34 g (off + (i + 1) * 2) (n - i) dc ⟨g, off + i * 2, none⟩ (n + 1 - i) sc (xs.drop (i * 2)) Tryz.underlying41 hsz (by rw [hdl, show Nat.min (n + 1 - i) (n - i) = n - i from Nat.min_eq_right (by omega)]; omega)
      (fun j v hj => by
        rw [Addr.add_lit, Nat.add_assoc]
        have hjl : j < (xs.drop (i * 2)).length := (List.getElem?_eq_some_iff.1 hj).1
        have := hcell (i * 2 + j) (by omega)
        rw [← hj]
        refine this.trans ?_
        rw [List.getElem?_drop])
      (fun j hj => by rw [Nat.add_assoc]; exact (hfree _ (by omega)).1) (fun j hj => by rw [Nat.add_assoc]; exact (hfree _ (by omega)).2) (fun v hv => h1 v (List.mem_of_mem_drop hv))
  obtain ⟨W1, hW1⟩ : ∃ W1, W1 = w.drew.setCells g (off + (i + 1) * 2) (xs.drop (i * 2)) := ⟨_, rfl⟩
  have hsp1 : ∀ k, k < c * 2 → (W1.cell? ⟨g, off + k, none⟩).isSome = true := fun k hk => by
    rw [hW1]
    exact isSome_setCells g _ _ _ (fun j hj => by rw [Nat.add_assoc]; exact (hfree _ (by omega)).1) _ (hfree k (by omega)).1
  have hcp2 : ∀ ty dc, (Builtin.copy_ #[41, 41] ty #[.slice (some ⟨g, off + i * 2, none⟩) (n + 1 - i) dc, .slice (some ⟨b, 0, none⟩) 1 1]).run Tryz.prog W1 = .ok (goInt (Nat.min 1 (n + 1 - i))) (W1.setCells g (off + i * 2) [x0, x1]) := fun ty dc =>
    run_copy_two W1 _ _ ty 34 g (off + i * 2) (n + 1 - i) dc ⟨b, 0, none⟩ 1 1 [x0, x1] Tryz.underlying41 hsz (by rw [show Nat.min 1 (n + 1 - i) = 1 from Nat.min_eq_left (by omega)]; rfl)
      (fun j v hj => by
        have hj1 : j < 2 := (List.getElem?_eq_some_iff.1 hj).1
        rw [Addr.add_lit, hW1, World.cell?_setCells_out g _ _ _ _ (fun h _ => absurd h hb)]
        rw [← hj]
        match j, hj1 with
        | 0, _ => exact cv
        | 1, _ => exact cv1)
      (fun j hj => by rw [Nat.add_assoc]; have : j < 2 := hj; exact hsp1 _ (by omega)) (fun j hj => by
        have : j < 2 := hj
        rw [hW1, World.frozen?_setCells, Nat.add_assoc]; exact (hfree (i * 2 + j) (by omega)).2) (by simp [h2])
  have T1 : Turn (fun k => k = g) w W1 := by rw [hW1]; exact (Turn.refl _ w).drew.trans (turn_cells _ _ _ _)
  rw [← hW1] at hcp1 hfin
  have FIN := Lib.hid hfin
  clear hcell hfree hW1 hsp1 hs hfin hl hdl hsb hsa cv cv1 fv fv1 hsz hv h1 h2
  go_enter Tryz.func47, Tryz.ntmps47
  go_wp2_with (simp only [hov])
  go_region_law (refine step_copy_runI rfl _ _ 41 41 rfl _ _ (by simp [Act.eval, Act.put]) (by simp [Act.eval, Act.put]) (hcp1 _ _ _) ?_)
  all_goals go_wp2_with (at_builtin; refine wpList_copy_runI _ rfl _ _ 41 41 rfl _ _ rfl rfl (hcp2 _ _) ?_)
  all_goals go_ret
  all_goals exact ⟨rfl, FIN.out, T1.trans (turn_cells _ _ _ _)⟩

set_option maxHeartbeats 4000000 in
set_option maxRecDepth 100000 in
theorem insert_grow_S (base g off n i b : Nat) (xs : List Value) (x0 x1 : Value) (w : World) (hs : Sl w base 2 (.slice (some ⟨g, off, none⟩) n n) n xs) (hi : i < n) (hn : n ≤ 1000000) (hv : w.heap[b]? = some (.cells #[x0, x1] 34)) (h1 : ∀ v ∈ xs, v.oneCell' = true) (h2 : x0.oneCell' = true ∧ x1.oneCell' = true) :
    Calls Tryz.prog 47 #[.slice (some ⟨g, off, none⟩) n n, .int .i64 i, .slice (some ⟨b, 0, none⟩) 1 1] w fun e w' => ∃ c, e = .returned (.slice (some ⟨w.heap.size, 0, none⟩) (n + 1) c) ∧ Sl w' w.heap.size 2 (.slice (some ⟨w.heap.size, 0, none⟩) (n + 1) c) (n + 1) (insC xs [x0, x1] i) ∧ Below w.heap.size w w' := by
  obtain ⟨i0, hi0, hz0, hz1, hz2⟩ := info_parts zc_smp
  have hl : xs.length = n * 2 := hs.1
  rcases hs.2 with ⟨h0, _⟩ | ⟨g', off', cap', he, hbg, hg, hnc, hcm, hfree, hcell⟩
  · cases h0
  cases he
  have hsz : (Tryz.prog.info? 34).map (·.size) = some 2 := by rw [hi0]; simp [hz1]
  have hold : (Builtin.firstCells i0.size i (.slice (some ⟨g, off, none⟩) i n)).run Tryz.prog w.drew = .ok ((xs.take (i * 2)).toArray) w.drew := by
    refine run_firstCells_some (P := Tryz.prog) (w := w.drew) i0.size i ⟨g, off, none⟩ i n (xs.take (i * 2)) (by rw [List.length_take, hz1, hl]; omega) (fun j v hj => ?_)
    have hj1 : j < i * 2 := by have := (List.getElem?_eq_some_iff.1 hj).1; rw [List.length_take] at this; omega
    rw [Addr.add_lit]
    have := hcell j (by omega)
    rw [← hj]
    refine this.trans ?_
    rw [List.getElem?_take, if_pos hj1]
  have hrz : ∀ ty, _ := fun ty => Lib.run_append_grow_zeros (P := Tryz.prog) w 41 3 ty 34 i0 (.agg #[.int .i64 0, .int .u64 0]) .i64 .i64 Tryz.underlying41 Tryz.underlying3 hi0 hz0 (some ⟨g, off, none⟩) i n (xs.take (i * 2)) hold (n + 1 - i) (by omega) (by omega) (by omega) (by omega) (by rw [hz2]; omega) (growslice_fits (by omega) (by rw [hz2]; omega))
  have hG := grownCap_ge w (i + (n + 1 - i)) n 34
  have hM := grownCap_le_maxLen w (i + (n + 1 - i)) n 34 (by unfold maxLen; omega)
  obtain ⟨G, hGe⟩ : ∃ G, G = grownCap w (i + (n + 1 - i)) n 34 := ⟨_, rfl⟩
  rw [← hGe] at hG hM hrz
  rw [show i + (n + 1 - i) = n + 1 by omega] at hG hrz
  obtain ⟨cs, hcs⟩ : ∃ cs, cs = ((xs.take (i * 2)).toArray ++ Builtin.zeroCells (Value.cells (.agg #[.int .i64 0, .int .u64 0])) (n + 1 - i) ++ Builtin.zeroCells (Value.cells (.agg #[.int .i64 0, .int .u64 0])) (G - (n + 1))) := ⟨_, rfl⟩
  rw [← hcs] at hrz
  have hcsz : cs.size = G * 2 := by
    rw [hcs, Array.size_append, Array.size_append, size_zeroCells, size_zeroCells, List.size_toArray, List.length_take]
    show min (i * 2) xs.length + (n + 1 - i) * 2 + (G - (n + 1)) * 2 = G * 2
    omega
  have hcs0 : ∀ j, j < i * 2 → cs[j]? = (xs.take (i * 2))[j]? := fun j hj => by
    have hji : j < (xs.take (i * 2)).toArray.size := by rw [List.size_toArray, List.length_take]; omega
    rw [hcs, Array.getElem?_append_left (by rw [Array.size_append]; omega), Array.getElem?_append_left hji]
    simp
  have hown := World.ownsRow_made (base := w.heap.size) (e := 34) (size := 2) w.drew cs G (Nat.le_refl _) hM hcsz
  have hslG := Sl.of_owns hown
  obtain ⟨W1, hW1⟩ : ∃ W1, W1 = w.drew.alloc (.cells cs 34) := ⟨_, rfl⟩
  rw [← hW1] at hslG
  obtain ⟨D, hD⟩ : ∃ D, D = w.heap.size := ⟨_, rfl⟩
  have hb1 : Below w.heap.size w W1 := by rw [hW1]; exact ((Below.refl w.heap.size w).drew).alloc (Nat.le_refl _) _
  have hrow1 : W1.heap[D]? = some (.cells cs 34) := by rw [hW1, hD]; exact heap_alloc_new w.drew _
  have hDl : D < W1.heap.size := (Array.getElem?_eq_some_iff.1 hrow1).1
  have hgD : g ≠ D := by omega
  have hfr : ∀ j, j < G * 2 → (W1.cell? ⟨D, j, none⟩).isSome = true ∧ W1.frozen? ⟨D, j, none⟩ = false := fun j hj => by
    refine ⟨?_, Lib.frozen_of_heap hrow1 j⟩
    rw [Lib.cell_of_heap hrow1 j]
    simp [hcsz, hj]
  have hbl : b < w.heap.size := (Array.getElem?_eq_some_iff.1 hv).1
  have hbD : b ≠ D := by omega
  have cv : W1.cell? ⟨b, 0, none⟩ = some x0 := (hb1.cell (p := ⟨b, 0, none⟩) hbl).trans (Lib.cell_of_heap hv 0)
  have cv1 : W1.cell? ⟨b, 1, none⟩ = some x1 := (hb1.cell (p := ⟨b, 1, none⟩) hbl).trans (Lib.cell_of_heap hv 1)
  have hcp1 : ∀ ty dc, (Builtin.copy_ #[41, 41] ty #[.slice (some ⟨D, i * 2, none⟩) (n + 1 - i) dc, .slice (some ⟨b, 0, none⟩) 1 1]).run Tryz.prog W1 = .ok (goInt (Nat.min 1 (n + 1 - i))) (W1.setCells D (i * 2) [x0, x1]) := fun ty dc =>
    run_copy_two W1 _ _ ty 34 D (i * 2) (n + 1 - i) dc ⟨b, 0, none⟩ 1 1 [x0, x1] Tryz.underlying41 hsz (by rw [show Nat.min 1 (n + 1 - i) = 1 from Nat.min_eq_left (by omega)]; rfl)
      (fun j v hj => by
        have hj1 : j < 2 := (List.getElem?_eq_some_iff.1 hj).1
        rw [Addr.add_lit, ← hj]
        match j, hj1 with
        | 0, _ => exact cv
        | 1, _ => exact cv1)
      (fun j hj => (hfr (i * 2 + j) (by have : j < 2 := hj; omega)).1) (fun j hj => (hfr (i * 2 + j) (by have : j < 2 := hj; omega)).2) (by simp [h2])
  obtain ⟨W2, hW2⟩ : ∃ W2, W2 = W1.setCells D (i * 2) [x0, x1] := ⟨_, rfl⟩
  have hfr2 : ∀ k, k < G * 2 → (W2.cell? ⟨D, k, none⟩).isSome = true ∧ W2.frozen? ⟨D, k, none⟩ = false := fun k hk => by
    rw [hW2]
    refine ⟨isSome_setCells D _ _ _ (fun j hj => ?_) _ (hfr k hk).1, by rw [World.frozen?_setCells]; exact (hfr k hk).2⟩
    have : j < 2 := hj
    exact (hfr (i * 2 + j) (by omega)).1
  have hdl : (xs.drop (i * 2)).length = n * 2 - i * 2 := by rw [List.length_drop, hl]
  have hcp2 : ∀ ty dc sc, (Builtin.copy_ #[41, 41] ty #[.slice (some ⟨D, (i + 1) * 2, none⟩) (n - i) dc, .slice (some ⟨g, off + i * 2, none⟩) (n - i) sc]).run Tryz.prog W2.drew = .ok (goInt (Nat.min (n - i) (n - i))) (W2.drew.setCells D ((i + 1) * 2) (xs.drop (i * 2))) := fun ty dc sc =>
    run_copy_two W2.drew _ _ ty 34 D ((i + 1) * 2) (n - i) dc ⟨g, off + i * 2, none⟩ (n - i) sc (xs.drop (i * 2)) Tryz.underlying41 hsz (by rw [hdl, show Nat.min (n - i) (n - i) = n - i from Nat.min_self _]; omega)
      (fun j v hj => by
        rw [Addr.add_lit, Nat.add_assoc]
        have hjl : j < (xs.drop (i * 2)).length := (List.getElem?_eq_some_iff.1 hj).1
        have h1 := hcell (i * 2 + j) (by omega)
        rw [← hj]
        show W2.cell? _ = _
        rw [hW2, World.cell?_setCells_out D _ _ _ _ (fun h _ => absurd h hgD)]
        refine (hb1.cell (p := ⟨g, off + (i * 2 + j), none⟩) hg).trans (h1.trans ?_)
        rw [List.getElem?_drop])
      (fun j hj => (hfr2 _ (by omega)).1) (fun j hj => (hfr2 _ (by omega)).2) (fun v hv => h1 v (List.mem_of_mem_drop hv))
  obtain ⟨W3, hW3⟩ : ∃ W3, W3 = W2.drew.setCells D ((i + 1) * 2) (xs.drop (i * 2)) := ⟨_, rfl⟩
  have hfin : Sl W3 w.heap.size 2 (.slice (some ⟨D, 0, none⟩) (n + 1) G) (n + 1) (insC xs [x0, x1] i) := by
    refine ⟨insC_len hl rfl (by omega), .inr ⟨D, 0, G, rfl, by omega, by rw [hW3, hW2, size_setCells]; show D < (W1.setCells D (i * 2) [x0, x1]).heap.size; rw [size_setCells]; exact hDl, hG, hM, fun j hj => ?_, fun j hj => ?_⟩⟩
    · rw [Nat.zero_add, hW3]
      refine ⟨isSome_setCells D (xs.drop (i * 2)) ((i + 1) * 2) W2.drew (fun k hk => (hfr2 ((i + 1) * 2 + k) (by rw [hdl] at hk; omega)).1) j (hfr2 j (by omega)).1, ?_⟩
      rw [World.frozen?_setCells]
      exact (hfr2 j (by omega)).2
    · rw [Nat.zero_add, hW3]
      by_cases hji : j < i * 2
      · rw [World.cell?_setCells_out D _ _ _ ⟨D, j, none⟩ (fun _ _ => by show j < (i + 1) * 2 ∨ _; omega)]
        show W2.cell? _ = _
        rw [hW2, World.cell?_setCells_out D _ _ _ ⟨D, j, none⟩ (fun _ _ => by show j < i * 2 ∨ _; omega), Lib.cell_of_heap hrow1 j, hcs0 j hji, insC_lo hl (by omega) hji, List.getElem?_take, if_pos hji]
      · by_cases hj2 : j < i * 2 + 2
        · rw [World.cell?_setCells_out D _ _ _ ⟨D, j, none⟩ (fun _ _ => by show j < (i + 1) * 2 ∨ _; omega)]
          show W2.cell? _ = _
          rw [hW2]
          have := World.cell?_setCells_in D [x0, x1] (i * 2) W1 (fun k hk => (hfr (i * 2 + k) (by have : k < 2 := hk; omega)).1) (j - i * 2) (by show j - i * 2 < 2; omega)
          rw [show i * 2 + (j - i * 2) = j by omega] at this
          rw [this, insC_mid hl rfl (by omega) (by omega) hj2, List.getElem?_eq_getElem]
        · have := World.cell?_setCells_in D (xs.drop (i * 2)) ((i + 1) * 2) W2.drew (fun k hk => (hfr2 _ (by omega)).1) (j - (i + 1) * 2) (by omega)
          rw [show (i + 1) * 2 + (j - (i + 1) * 2) = j by omega] at this
          rw [this, insC_hi hl rfl (by omega) (by omega), ← List.getElem?_eq_getElem, List.getElem?_drop]
          congr 1
          omega
  have hbel : Below w.heap.size w W3 := by
    have t2 : Turn (fun k => k = D) W1 W3 := by rw [hW3, hW2]; exact (turn_cells _ _ _ _).trans ((Turn.refl _ _).drew.trans (turn_cells _ _ _ _))
    exact hb1.trans (t2.below hb1.size (fun k hk => by omega))
  rw [← hW1] at hrz
  rw [← hW2] at hcp1
  rw [← hW3] at hcp2
  rw [← hD] at hrz hfin hbel ⊢
  have FIN := Lib.hid hfin
  have BEL := Lib.hid hbel
  have hz2' : ¬ ((i : Int) = (n : Int)) := by omega
  have hin : i ≤ n := by omega
  have hin2 : (i : Int) ≤ (n : Int) + 1 := by omega
  have hni : (n : Int) + 1 - i = ((n + 1 - i : Nat) : Int) := by omega
  have htn : ((i : Int) + 1).toNat = i + 1 := by omega
  have hb2 : ¬ (G = i + 1) := by omega
  have hb4 : ¬ (G = i) := by omega
  have hb5 : ¬ (n = i) := by omega
  have hw1 : IntKind.i64.wrap ((i : Int) + 1) = (i : Int) + 1 := by rw [IntKind.wrap_i64]; omega
  have hb6 : (i : Int) + 1 ≤ (n : Int) + 1 := by omega
  have hb7 : (0 : Int) ≤ (i : Int) + 1 := by omega
  have hb8 : i + 1 ≤ n + 1 := by omega
  have hb9 : n + 1 - (i + 1) = n - i := by omega
  clear hfin hbel hW1 hW2 hW3 hfr hfr2 hrow1 hcs hcs0 hown hslG hold hcell hfree hcsz hGe hb1 hs hv cv cv1 hdl hsz hl hi0 hz0 hz1 hz2 hgD hbD hD hbl h1 h2
  go_enter Tryz.func47, Tryz.ntmps47
  go_wp2_with (first
    | (at_builtin; refine Lib.wpList_append_run _ rfl _ _ _ _ rfl _ _ rfl rfl _ _ (hrz _) ?_)
    | (at_builtin; refine wpList_copy_runI _ rfl _ _ 41 41 rfl _ _ rfl rfl (hcp1 _ _) ?_))
  go_region_law (refine step_copy_runI rfl _ _ 41 41 rfl _ _ (by simp [Act.eval, Act.put]) (by simp [Act.eval, Act.put]) (hcp2 _ _ _) ?_)
  all_goals go_wp2_with fail
  all_goals go_ret
  all_goals exact ⟨G, rfl, FIN.out, BEL.out⟩

set_option maxHeartbeats 4000000 in
set_option maxRecDepth 100000 in
theorem insert_end_S (base n b : Nat) (v : Value) (xs : List Value) (x0 x1 : Value) (w : World) (hs : Sl w base 2 v n xs) (hn : n ≤ 1000000) (hbase : base ≤ w.heap.size) (hv : w.heap[b]? = some (.cells #[x0, x1] 34)) (h2 : x0.oneCell' = true ∧ x1.oneCell' = true) :
    Calls Tryz.prog 47 #[v, .int .i64 n, .slice (some ⟨b, 0, none⟩) 1 1] w fun e w' => ∃ v', e = .returned v' ∧ Ext base 2 w v n xs w' v' (n + 1) (xs ++ [x0, x1]) := by
  obtain ⟨i0, hi, hz0, hz1, hz2⟩ := info_parts zc_smp
  obtain ⟨v', w', hr, hx⟩ := run_append_sl (P := Tryz.prog) w base 41 41 34 i0 (.agg #[.int .i64 0, .int .u64 0]) 2 16 Tryz.underlying41 hi hz0 hz1 hz2 rfl (by decide) v n xs hs ⟨b, 0, none⟩ 1 1 [x0, x1] rfl (fun j u hu => by
    have hj1 : j < 2 := (List.getElem?_eq_some_iff.1 hu).1
    rw [Addr.add_lit, ← hu]
    match j, hj1 with
    | 0, _ => exact Lib.cell_of_heap hv 0
    | 1, _ => exact Lib.cell_of_heap hv 1) (by simp [h2]) (by unfold maxLen; omega) (by omega) hbase
  obtain ⟨a, c, rfl⟩ := hs.slice
  have hr2 := hr
  have HX := Lib.hid hx
  have hnc : (n : Int) ≤ (c : Int) := by
    rcases hs.2 with ⟨h0, h1⟩ | ⟨g, off, cap, he, _, _, h3, _⟩
    · omega
    · cases he; omega
  clear hi hz0 hz1 hz2 hr hx hs hv h2
  by_cases hcn : c = n
  · subst hcn
    go_enter Tryz.func47, Tryz.ntmps47
    go_wp2_with (at_builtin; refine Lib.wpList_append_run _ rfl _ _ _ _ rfl _ _ rfl rfl _ _ hr2 ?_)
    all_goals go_ret
    all_goals exact ⟨_, rfl, HX.out⟩
  · go_enter Tryz.func47, Tryz.ntmps47
    go_wp2_with (at_builtin; refine Lib.wpList_append_run _ rfl _ _ _ _ rfl _ _ rfl rfl _ _ hr2 ?_)
    all_goals go_ret
    all_goals exact ⟨_, rfl, HX.out⟩

theorem insert_S (base i b n : Nat) (v : Value) (xs : List Value) (x0 x1 : Value) (w : World) (hs : Sl w base 2 v n xs) (hi : i ≤ n) (hn : n ≤ 1000000) (hbase : base ≤ w.heap.size) (hv : w.heap[b]? = some (.cells #[x0, x1] 34)) (hb : v.ownBlock ≠ some b) (h1 : ∀ v ∈ xs, v.oneCell' = true) (h2 : x0.oneCell' = true ∧ x1.oneCell' = true) :
    Calls Tryz.prog 47 #[v, .int .i64 i, .slice (some ⟨b, 0, none⟩) 1 1] w (IW w base v (n + 1) (insC xs [x0, x1] i)) := by
  by_cases hie : i = n
  · subst hie
    refine (insert_end_S base i b v xs x0 x1 w hs hn hbase hv h2).mono ?_
    rintro e w' ⟨v', rfl, hx⟩
    refine ⟨v', rfl, ?_, ⟨hx.grown.os, hx.grown.tape, hx.grown.output, hx.grown.size, fun k hk hne => hx.grown.block k hk fun e => hne e.symm⟩, fun k hk => ?_⟩
    · rw [insC_end xs _ hs.1]; exact hx.now
    · rcases hx.alias with ⟨a, cap, h1, h2, _⟩ | h
      · exact .inl (by rw [h1]; rw [h2] at hk; cases a <;> exact hk)
      · exact .inr (h k hk)
  · have hs0 := hs
    rcases hs.2 with ⟨h0, h1⟩ | ⟨g, off, c, rfl, hbg, hg, hnc, hcm, hfree, hcell⟩
    · omega
    · by_cases hroom : n + 1 ≤ c
      · refine (insert_room_S base g off n c i b xs x0 x1 w hs0 (by omega) hroom hv (fun e => hb (by rw [e]; rfl)) h1 h2).mono ?_
        rintro e w' ⟨rfl, h1, h2⟩
        exact ⟨_, rfl, h1, h2.mono (fun k e => by rw [e]; rfl), fun k hk => .inl hk⟩
      · obtain rfl : c = n := by omega
        refine (insert_grow_S base g off c i b xs x0 x1 w hs0 (by omega) hn hv h1 h2).mono ?_
        rintro e w' ⟨c, rfl, h1, h2⟩
        refine ⟨_, rfl, h1.mono hbase, (Turn.of_below h2).mono (fun _ e => e), fun k hk => .inr ?_⟩
        cases hk
        exact Nat.le_refl _
end Go.Proofs.YtfckgcckpfklaaaGreatDoor
