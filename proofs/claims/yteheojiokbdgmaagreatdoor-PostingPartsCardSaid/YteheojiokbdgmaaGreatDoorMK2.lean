/- Layer 12: slices.Insert of one number where there is room, walked. Slices only read, appended to one's own; slices in a slice. slices.Grow of nothing, slices.Concat, walked. -/
import Derived.Test.YteheojiokbdgmaaGreatDoorMK1
import Derived.Test.YteheojiokbdgmaaGreatDoorMLen
import Derived.Deep.RegionLaw
import Derived.RegionTactic
import Derived.Laws.IdiomCopy
import Derived.Laws.Externs
import Derived.Laws.LoneSync
import Derived.Lib.Overlaps
import Derived.Shelf.Spec.SlicesInsert
import Derived.Test.YteheojiokbdgmaaGreatDoorMSl3
import Derived.Test.YteheojiokbdgmaaGreatDoorML4
import Derived.Lib.AppendZerosOnto
import Derived.Test.YteheojiokbdgmaaGreatDoorMT0
namespace Go.Proofs.YteheojiokbdgmaaGreatDoor
open Go.RowKit Go.Lib

theorem ic_cons (x : Int) (l : List Int) : ic (x :: l) = .int .i64 x :: ic l := rfl
theorem sl_ins {w : World} {base g off n c i : Nat} {l : List Int} {x : Int} (h : Sl w base 1 (.slice (some ⟨g, off, none⟩) n c) n (ic l)) (hi : i ≤ n) (hr : n + 1 ≤ c) :
    Sl ((w.setCells g (off + (i + 1)) (ic (l.drop i))).setCells g (off + i) [.int .i64 x]) base 1 (.slice (some ⟨g, off, none⟩) (n + 1) c) (n + 1) (ic (l.take i ++ x :: l.drop i)) := by
  have hl : l.length = n := by have := h.1; rw [ic_length] at this; omega
  rcases h.2 with ⟨h0, _⟩ | ⟨g', off', cap', he, hb, hg, hnc, hcm, hfree, hcell⟩
  · cases h0
  cases he
  have hdl : (ic (l.drop i)).length = n - i := by rw [ic_length, List.length_drop, hl]
  have S1 : ∀ k, k < c → ((w.setCells g (off + (i + 1)) (ic (l.drop i))).cell? ⟨g, off + k, none⟩).isSome = true := fun k hk =>
    isSome_setCells g _ _ _ (fun j hj => by rw [Nat.add_assoc]; exact (hfree (i + 1 + j) (by omega)).1) _ (hfree k (by omega)).1
  refine ⟨by rw [ic_length]; simp; omega, .inr ⟨g, off, c, rfl, hb, by rw [size_setCells, size_setCells]; exact hg, hr, hcm, fun j hj => ⟨?_, ?_⟩, fun j hj => ?_⟩⟩
  · exact isSome_setCells g _ _ _ (fun k hk => by
      have : k = 0 := by simpa using hk
      subst this
      exact S1 i (by omega)) _ (S1 j (by omega))
  · rw [World.frozen?_setCells, World.frozen?_setCells]; exact (hfree j (by omega)).2
  · rcases Nat.lt_trichotomy j i with hji | hji | hji
    · rw [World.cell?_setCells_out g _ _ _ ⟨g, off + j, none⟩ (fun _ _ => by show off + j < off + i ∨ _; omega), World.cell?_setCells_out g _ _ _ ⟨g, off + j, none⟩ (fun _ _ => by show off + j < off + (i + 1) ∨ _; omega), hcell j (by omega)]
      unfold ic
      rw [List.getElem?_map, List.getElem?_map, List.getElem?_append_left (by rw [List.length_take]; omega), List.getElem?_take, if_pos hji]
    · subst hji
      have := World.cell?_setCells_in g [Value.int .i64 x] (off + j) (w.setCells g (off + (j + 1)) (ic (l.drop j))) (fun k hk => by
        have : k = 0 := by simpa using hk
        subst this
        exact S1 j (by omega)) 0 (by simp)
      simp only [Nat.add_zero] at this
      rw [this]
      unfold ic
      rw [List.getElem?_map, List.getElem?_append_right (by rw [List.length_take]; omega), List.length_take, Nat.min_eq_left (by omega), Nat.sub_self]
      rfl
    · rw [World.cell?_setCells_out g _ _ _ ⟨g, off + j, none⟩ (fun _ _ => by show off + j < off + i ∨ off + i + [Value.int .i64 x].length ≤ off + j; simp; omega)]
      have := World.cell?_setCells_in g (ic (l.drop i)) (off + (i + 1)) w (fun k hk => by rw [Nat.add_assoc]; exact (hfree (i + 1 + k) (by omega)).1) (j - (i + 1)) (by omega)
      rw [show off + (i + 1) + (j - (i + 1)) = off + j by omega] at this
      rw [this, ← List.getElem?_eq_getElem]
      unfold ic
      rw [List.getElem?_map, List.getElem?_map, List.getElem?_append_right (by rw [List.length_take]; omega), List.length_take, Nat.min_eq_left (by omega), show j - i = (j - (i + 1)) + 1 by omega, List.getElem?_cons_succ]

theorem turn_cells (w : World) (g o : Nat) (vs : List Value) : Turn (fun k => k = g) w (w.setCells g o vs) := by
  have h := grownBy_setCells g vs o w
  exact ⟨h.os, h.tape, h.output, h.size, fun i hi hr => h.block i hi (fun e => hr (Option.some.inj e))⟩
theorem shape_of {w : World} {g o : Nat} (h : (w.cell? ⟨g, o, none⟩).isSome = true) : ∃ t k, w.shape? g = some (t, k) ∧ o < k := by
  obtain ⟨v, hv⟩ := Option.isSome_iff_exists.1 h
  obtain ⟨e, n, h1, h2, _⟩ := World.shape?_of_cell? hv
  exact ⟨e, n, h1, h2⟩

set_option maxHeartbeats 4000000 in
set_option maxRecDepth 100000 in
theorem insert_room (base g off n c i b : Nat) (l : List Int) (x : Int) (w : World) (hs : Sl w base 1 (.slice (some ⟨g, off, none⟩) n c) n (ic l)) (hi : i < n) (hroom : n + 1 ≤ c) (hv : w.heap[b]? = some (.cells #[.int .i64 x] 3)) (hb : b ≠ g) :
    Calls Tryz.prog 45 #[.slice (some ⟨g, off, none⟩) n c, .int .i64 i, .slice (some ⟨b, 0, none⟩) 1 1] w fun e w' => e = .returned (.slice (some ⟨g, off, none⟩) (n + 1) c) ∧ Sl w' base 1 (.slice (some ⟨g, off, none⟩) (n + 1) c) (n + 1) (ic (l.take i ++ x :: l.drop i)) ∧ Turn (fun k => k = g) w w' := by
  have hl : l.length = n := by have := hs.1; rw [ic_length] at this; omega
  have hfin := sl_ins (w := w.drew) (x := x) hs.drew (i := i) (by omega) hroom
  rcases hs.2 with ⟨h0, _⟩ | ⟨g', off', cap', he, hbg, hg, hnc, hcm, hfree, hcell⟩
  · cases h0
  cases he
  have hcm2 : c ≤ 9223372036854775807 := by unfold maxLen at hcm; omega
  obtain ⟨tB, kB, hsb, hkB⟩ := shape_of (hfree i (by omega)).1
  have hsa : w.shape? b = some (3, 1) := by unfold World.shape?; rw [hv]; rfl
  have cv : w.cell? ⟨b, 0, none⟩ = some (.int .i64 x) := Lib.cell_of_heap hv 0
  have fv : w.frozen? ⟨b, 0, none⟩ = false := Lib.frozen_of_heap hv 0
  have fv1 : w.frozen? ⟨b, 1, none⟩ = false := Lib.frozen_of_heap hv 1
  have hsz : (Tryz.prog.info? 3).map (·.size) = some 1 := by
    obtain ⟨i0, hi0, h0, h1, h2⟩ := info_parts bi_int
    rw [hi0]; simp [h1]
  have hov : ∀ lb cb, (callFunc 58 #[.slice (some ⟨b, 0, none⟩) 1 1, .slice (some ⟨g, off + (i + 1), none⟩) lb cb]).run Tryz.prog w = .ok (.value (.bool false)) w := fun lb cb => by
    rw [run_callFunc_extern Tryz.func58 (by kernel_rfl) (by kernel_rfl) (by kernel_rfl) (e := Extern.SlicesOverlaps.overlaps #[28, 28] #[4]) (by kernel_rfl),
      Lib.run_overlaps_apart w 28 4 3 Tryz.underlying28 1 (fun w => Tryz.sizeOf3 w) ⟨b, 0, none⟩ ⟨g, off + (i + 1), none⟩ 1 1 lb cb hb 3 tB 1 kB hsa hsb (by omega) fv fv1]
    rfl
  have hdl : (ic (l.drop i)).length = n - i := by rw [ic_length, List.length_drop, hl]
  have hz2 : ¬ ((i : Int) = (n : Int)) := by omega
  have hw1 : IntKind.i64.wrap ((i : Int) + 1) = (i : Int) + 1 := by rw [IntKind.wrap_i64]; omega
  have htn : ((i : Int) + 1).toNat = i + 1 := by omega
  have hb1 : (0 : Int) ≤ (i : Int) + 1 := by omega
  have hb2 : ¬ (c = i + 1) := by omega
  have hb4 : ¬ (c = i) := by omega
  have hin : i ≤ n := by omega
  have hin2 : (i : Int) ≤ (n : Int) + 1 := by omega
  have hcp1 : ∀ ty dc sc, (Builtin.copy_ #[36, 36] ty #[.slice (some ⟨g, off + (i + 1), none⟩) (n - i) dc, .slice (some ⟨g, off + i, none⟩) (n + 1 - i) sc]).run Tryz.prog w.drew = .ok (goInt (ic (l.drop i)).length) (w.drew.setCells g (off + (i + 1)) (ic (l.drop i))) := fun ty dc sc =>
    run_copy_cells w.drew _ _ ty 3 g (off + (i + 1)) (n - i) dc ⟨g, off + i, none⟩ (n + 1 - i) sc (ic (l.drop i)) Tryz.underlying36 hsz (by rw [hdl]; simp only [Nat.min_def]; split <;> omega)
      (fun j v hj => by
        rw [Addr.add_lit, Nat.add_assoc]
        have hjl : j < (ic (l.drop i)).length := (List.getElem?_eq_some_iff.1 hj).1
        have := hcell (i + j) (by omega)
        rw [← hj]
        refine this.trans ?_
        unfold ic
        rw [List.getElem?_map, List.getElem?_map, List.getElem?_drop])
      (fun j hj => by rw [Nat.add_assoc]; exact (hfree _ (by omega)).1) (fun j hj => by rw [Nat.add_assoc]; exact (hfree _ (by omega)).2) (ic_one _)
  obtain ⟨W1, hW1⟩ : ∃ W1, W1 = w.drew.setCells g (off + (i + 1)) (ic (l.drop i)) := ⟨_, rfl⟩
  have hsp1 : ∀ k, k < c → (W1.cell? ⟨g, off + k, none⟩).isSome = true := fun k hk => by
    rw [hW1]
    exact isSome_setCells g _ _ _ (fun j hj => by rw [Nat.add_assoc]; exact (hfree _ (by omega)).1) _ (hfree k (by omega)).1
  have hcp2 : ∀ ty dc, (Builtin.copy_ #[36, 28] ty #[.slice (some ⟨g, off + i, none⟩) (n + 1 - i) dc, .slice (some ⟨b, 0, none⟩) 1 1]).run Tryz.prog W1 = .ok (goInt 1) (W1.setCells g (off + i) [.int .i64 x]) := fun ty dc =>
    run_copy_cells W1 _ _ ty 3 g (off + i) (n + 1 - i) dc ⟨b, 0, none⟩ 1 1 [.int .i64 x] Tryz.underlying36 hsz (by simp only [List.length_singleton, Nat.min_def]; split <;> omega)
      (fun j v hj => by
        have hj1 := (List.getElem?_eq_some_iff.1 hj).1
        obtain rfl : j = 0 := by simpa using hj1
        rw [Addr.add_lit, hW1, World.cell?_setCells_out g _ _ _ _ (fun h _ => absurd h hb)]
        rw [← hj]
        exact cv)
      (fun j hj => by
        obtain rfl : j = 0 := by simpa using hj
        exact hsp1 _ (by omega)) (fun j hj => by
        obtain rfl : j = 0 := by simpa using hj
        rw [hW1, World.frozen?_setCells]; exact (hfree i (by omega)).2) (by simp [Value.oneCell'])
  have T1 : Turn (fun k => k = g) w W1 := by rw [hW1]; exact (Turn.refl _ w).drew.trans (turn_cells _ _ _ _)
  rw [← hW1] at hcp1 hfin
  have FIN := Lib.hid hfin
  clear hcell hfree hW1 hsp1 hs hfin hl hdl hsb hsa cv fv fv1 hsz hv
  go_enter Tryz.func45, Tryz.ntmps45
  go_wp2_with (simp only [hov])
  go_region_law (refine step_copy_runI rfl _ _ 36 36 rfl _ _ (by simp [Act.eval, Act.put]) (by simp [Act.eval, Act.put]) (hcp1 _ _ _) ?_)
  all_goals go_wp2_with (at_builtin; refine wpList_copy_runI _ rfl _ _ 36 28 rfl _ _ rfl rfl (hcp2 _ _) ?_)
  all_goals go_ret
  all_goals exact ⟨rfl, FIN.out, T1.trans (turn_cells _ _ _ _)⟩
end Go.Proofs.YteheojiokbdgmaaGreatDoor

namespace Go.Proofs.YteheojiokbdgmaaGreatDoor
open Go.RowKit Go.Lib

section
variable {P : Program}
theorem run_append_none_rd (w : World) (base c : Nat) (t ty e : TypeId) (i : TypeInfo) (size : Nat) (ht : P.underlying t = some (.slice e)) (hi : P.info? e = some i) (v : Value) (n : Nat) (xs : List Value) (hown : Sl w base size v n xs) :
    (Builtin.append_ #[t, t] ty #[v, .slice none 0 c]).run P w = .ok v w := by
  rcases hown.2 with ⟨rfl, rfl⟩ | ⟨g, off, cap, rfl, _, _, hnc, _⟩
  · simp [Builtin.append_, run_underlying ht, sizeOf, typeInfo, hi, Builtin.lenOf, Builtin.firstCells]
  · simp [Builtin.append_, run_underlying ht, sizeOf, typeInfo, hi, Builtin.lenOf, Builtin.firstCells, hnc, storeCells]

/-- 'append(v, x..)', x a slice that is only read, for the walk. -/
theorem wpList_append_rd (w : World) {ops : Array Oper} {rest : List Oper} {o : Oper} {a : Act} {Q : Exit → Act → World → Prop} (hgd : o.guard = none) (s x : Operand) (t : TypeId)
    (ho : o.op = .call { callee := .builtin .append, args := #[s, x], argTypes := #[t, t] })
    (base : Nat) (e : TypeId) (i : TypeInfo) (z : Value) (size bytes : Nat) (ht : P.underlying t = some (.slice e)) (hi : P.info? e = some i) (hz : i.zero = some z)
    (hsize : i.size = size) (hby : i.bytes = bytes) (hzs : z.cells.size = size) (hsz : 0 < size)
    (v : Value) (n : Nat) (xs : List Value) (hs : a.eval s = v) (hown : Sl w base size v n xs)
    (xv : Value) (m : Nat) (news : List Value) (hx : a.eval x = xv) (hnew : Rd w size xv m news) (h1 : ∀ u ∈ news, u.oneCell' = true)
    (h63 : n + m ≤ maxLen) (hbytes : (n + m) * bytes ≤ 140737488355328) (hbase : base ≤ w.heap.size)
    (h : ∀ v' w', Ext base size w v n xs w' v' (n + m) (xs ++ news) → wpList P ops Q rest (a.put o.dst v') w') : wpList P ops Q (o :: rest) a w := by
  obtain ⟨hl, ax, cap, g, off, rfl, hg, hc⟩ := hnew
  cases ax with
  | none =>
    have hm : m = 0 := by
      rcases Nat.eq_zero_or_pos m with h0 | h0
      · exact h0
      · have := (hg h0).1; cases this
    subst hm
    have hn : news = [] := List.eq_nil_of_length_eq_zero (by omega)
    subst hn
    refine wpList_plain hgd fun K hK => ?_
    have hr := run_append_none_rd (P := P) w base cap t o.type e i size ht hi v n xs hown
    unfold Oper.wp execOp
    simp only [ho, resolve, invoke, builtin, Sem.run_bind, Sem.run_pure, Result.andThen_ok, List.map_toArray, List.map_cons, List.map_nil, hs, hx, hr]
    have := h v w
    rw [Nat.add_zero, List.append_nil] at this
    exact hK _ _ (this (Ext.refl hown))
  | some ad =>
    refine wpList_append_sl w hgd s x t ho base e i z size bytes ht hi hz hsize hby hzs hsz v n xs hs hown ad m cap news hx hl (fun j u hu => ?_) h1 h63 hbytes hbase h
    have hj : j < news.length := (List.getElem?_eq_some_iff.1 hu).1
    have hm : 0 < m := by
      rcases Nat.eq_zero_or_pos m with h0 | h0
      · subst h0; simp at hl; rw [hl] at hj; simp at hj
      · exact h0
    obtain ⟨he, _⟩ := hg hm
    obtain rfl : ad = ⟨g, off, none⟩ := Option.some.inj he
    rw [Addr.add_lit, hc j (by omega), hu]
end

/-- Slices in a slice, one cell each, only read. -/
def Rds (w : World) (v : Value) (ls : List (List Value)) : Prop :=
  ∃ a cap g off, v = .slice a ls.length cap ∧ (0 < ls.length → a = some ⟨g, off, none⟩ ∧ g < w.heap.size) ∧ ∀ j l, ls[j]? = some l → ∃ x, w.cell? ⟨g, off + j, none⟩ = some x ∧ Rd w 1 x l.length l
theorem rd_form {w : World} {size n : Nat} {v : Value} {xs : List Value} (h : Rd w size v n xs) : ∃ a cap, v = .slice a n cap := by
  obtain ⟨_, a, cap, _, _, hv, _⟩ := h
  exact ⟨a, cap, hv⟩
theorem flat_take (ls : List (List Value)) (i : Nat) (l : List Value) (h : ls[i]? = some l) : (ls.take (i + 1)).flatten = (ls.take i).flatten ++ l := by
  rw [List.take_add_one, h, List.flatten_append]; simp
theorem flat_take_le (ls : List (List Value)) (i : Nat) : (ls.take i).flatten.length ≤ ls.flatten.length := by
  have h : ls.flatten = (ls.take i).flatten ++ (ls.drop i).flatten := by rw [← List.flatten_append, List.take_append_drop]
  rw [h, List.length_append]; omega
end Go.Proofs.YteheojiokbdgmaaGreatDoor

namespace Go.Proofs.YteheojiokbdgmaaGreatDoor
open Go.RowKit Go.Lib

end Go.Proofs.YteheojiokbdgmaaGreatDoor
