/- An append to whatever slice of one's own, as one step of a region that draws its order. Layer 12: the first series of an index. Layer 12: slices.Insert of one number where there is no room, and at the end, walked. -/
import Derived.Test.YtefhnjepocbodaaGreatDoorMSl3
import Derived.Deep.RegionLaw
import Derived.Test.YtefhnjepocbodaaGreatDoorMTC
import Derived.Test.YtefhnjepocbodaaGreatDoorMDM
import Derived.Test.YtefhnjepocbodaaGreatDoorML8
import Derived.Lib.AppendZeros
import Derived.Deep.RegionHeld3
import Derived.RegionTactic
import Derived.Test.YtefhnjepocbodaaGreatDoorMK1
import Derived.Test.YtefhnjepocbodaaGreatDoorMKA
namespace Go.Proofs.YtefhnjepocbodaaGreatDoor
open Go.RowKit Go.Lib

theorem step_append_sl {P : Program} {ops : Array Oper} {o : Oper} {a : Act} {w : World} {K : Act → World → Prop} {Q : Exit → Act → World → Prop} {E : Prop}
    (hg : o.guard = none) (s x : Operand) (t : TypeId) (ho : o.op = Op.call { callee := Callee.builtin Builtin.append, args := #[s, x], argTypes := #[t, t] })
    (base : Nat) (e : TypeId) (i : TypeInfo) (z : Value) (size bytes : Nat) (ht : P.underlying t = some (.slice e)) (hi : P.info? e = some i) (hz : i.zero = some z)
    (hsize : i.size = size) (hby : i.bytes = bytes) (hzs : z.cells.size = size) (hsz : 0 < size)
    (v : Value) (n : Nat) (xs : List Value) (hs : a.eval s = v) (hown : Sl w base size v n xs)
    (ad : Addr) (m c : Nat) (news : List Value) (hx : a.eval x = .slice (some ad) m c) (hl : news.length = m * size) (hnews : ∀ j u, news[j]? = some u → w.cell? (ad.add j) = some u) (h1 : ∀ u ∈ news, u.oneCell' = true)
    (h63 : n + m ≤ maxLen) (hbytes : (n + m) * bytes ≤ 140737488355328) (hbase : base ≤ w.heap.size)
    (hK : ∀ v' w', Ext base size w v n xs w' v' (n + m) (xs ++ news) → K (a.put o.dst v') w') :
    if Region.wanted o (yielded ops a.tmps) = true then Oper.wp P o a w K Q else E := by
  have hw : Region.wanted o (yielded ops a.tmps) = true := by simp [Region.wanted, hg]
  rw [if_pos hw]
  obtain ⟨v', w', hr, h2⟩ := run_append_sl (P := P) w base t o.type e i z size bytes ht hi hz hsize hby hzs hsz v n xs hown ad m c news hl hnews h1 h63 hbytes hbase
  unfold Oper.wp
  simp [execOp, ho, resolve, invoke, builtin, hs, hx, hr, Result.andThen]
  exact hK v' w' h2
end Go.Proofs.YtefhnjepocbodaaGreatDoor

namespace Go.Proofs.YtefhnjepocbodaaGreatDoor
open Go.RowKit Go.Lib

theorem append_types {P : Program} {w : World} {t u e ty : TypeId} {a : Option Addr} {n c : Nat} {i : TypeInfo} {x : Value} (hi : P.info? e = some i) (ht : P.underlying t = some (.slice e)) (hu : P.underlying u = some (.slice e)) :
    (Builtin.append_ #[t, u] ty #[.slice a n c, x]).run P w = (Builtin.append_ #[t, t] ty #[.slice a n c, x]).run P w := by
  simp [Builtin.append_, run_underlying ht, run_underlying hu, sizeOf, typeInfo, hi]

set_option maxHeartbeats 1000000 in
set_option maxRecDepth 100000 in
theorem search_nil (n : Int) (w : World) : Calls Tryz.prog 52 #[.slice none 0 0, .int .i64 n] w fun e w' => e = .returned (.tuple #[.int .i64 0, .bool false]) ∧ w = w' := by
  go_enter Tryz.func52, Tryz.ntmps52
  go_wp2_with fail
  go_loopw [7, 8] (fun i' j' wr => i' = .int .i64 0 ∧ j' = .int .i64 0 ∧ w = wr) (fun _ _ _ => 0)
  case atStart => exact ⟨rfl, rfl, rfl⟩
  case round =>
    obtain ⟨rfl, rfl, rfl⟩ := hrel
    go_wp2
    go_ret2
    exact ⟨rfl, rfl⟩

set_option maxHeartbeats 1000000 in
set_option maxRecDepth 100000 in
theorem insert_nil (n : Int) (b : Nat) (w : World) (hb : w.cell? ⟨b, 0, none⟩ = some (.int .i64 n)) : Calls Tryz.prog 53 #[.slice none 0 0, .int .i64 0, .slice (some ⟨b, 0, none⟩) 1 1] w (NewN w [n]) := by
  obtain ⟨i0, hi, hz0, hz1, hz2⟩ := info_parts bi_int
  obtain ⟨v', w', hr, hx⟩ := run_append_sl (P := Tryz.prog) w w.heap.size 39 39 3 i0 (.int .i64 0) 1 8 Tryz.underlying39 hi hz0 hz1 hz2 rfl (by decide) (.slice none 0 0) 0 [] (Sl.nil _ _ _) ⟨b, 0, none⟩ 1 1 (ic [n]) rfl (fun j u hu => by
    have hj := (List.getElem?_eq_some_iff.1 hu).1
    obtain rfl : j = 0 := by simp [ic] at hj; omega
    rw [Addr.add_lit]
    rw [hb]; exact hu) (ic_one [n]) (by decide) (by decide) (Nat.le_refl _)
  have hr2 := (append_types (x := .slice (some ⟨b, 0, none⟩) 1 1) (w := w) (a := none) (n := 0) (c := 0) (ty := 39) hi Tryz.underlying39 Tryz.underlying38).trans hr
  have hs := hx.now
  rw [List.nil_append, Nat.zero_add] at hs
  have HS := Lib.hid hs
  have HB := Lib.hid (hx.below (B := w.heap.size) (Nat.le_refl _) (Nat.le_refl _))
  clear hi hz0 hz1 hz2 hr hx hs
  go_enter Tryz.func53, Tryz.ntmps53
  go_wp2_with (at_builtin; refine Lib.wpList_append_run _ rfl _ _ _ _ rfl _ _ rfl rfl _ _ hr2 ?_)
  go_ret
  exact ⟨_, rfl, HS.out, HB.out⟩

set_option maxHeartbeats 1000000 in
set_option maxRecDepth 100000 in
theorem with_nil (n : Int) (w : World) : Calls Tryz.prog 29 #[.slice none 0 0, .int .i64 n] w (NewN w [n]) := by
  have C := Lib.hid (fun W => search_nil n W)
  have hc : (w.alloc (.cells #[.int .i64 n] 38)).cell? ⟨w.heap.size, 0, none⟩ = some (.int .i64 n) := Lib.cell_of_heap (heap_alloc_new w _) 0
  have hc2 : (w.alloc (.cells #[.int .i64 n] 3)).cell? ⟨w.heap.size, 0, none⟩ = some (.int .i64 n) := Lib.cell_of_heap (heap_alloc_new w _) 0
  have D := Lib.hid (insert_nil n w.heap.size (w.alloc (.cells #[.int .i64 n] 3)) hc2)
  clear hc hc2
  go_enter Tryz.func29, Tryz.ntmps29
  go_wp2_with fail
  refine (C.out _).mono ?_
  rintro e w1 ⟨rfl, rfl⟩
  go_wp2_with fail
  refine D.out.mono ?_
  rintro e w2 ⟨v2, rfl, s2, b2⟩
  go_wp2
  go_ret
  exact ⟨_, rfl, s2.mono (by simp), ((Below.refl _ _).alloc (Nat.le_refl _) _).trans (b2.mono (by simp))⟩
end Go.Proofs.YtefhnjepocbodaaGreatDoor

namespace Go.Proofs.YtefhnjepocbodaaGreatDoor
open Go.RowKit Go.Lib

set_option maxHeartbeats 4000000 in
set_option maxRecDepth 100000 in
theorem insert_grow (base g off n i b : Nat) (l : List Int) (x : Int) (w : World) (hs : Sl w base 1 (.slice (some ⟨g, off, none⟩) n n) n (ic l)) (hi : i < n) (hn : n ≤ 1000000) (hv : w.heap[b]? = some (.cells #[.int .i64 x] 3)) :
    Calls Tryz.prog 53 #[.slice (some ⟨g, off, none⟩) n n, .int .i64 i, .slice (some ⟨b, 0, none⟩) 1 1] w fun e w' => ∃ c, e = .returned (.slice (some ⟨w.heap.size, 0, none⟩) (n + 1) c) ∧ Sl w' w.heap.size 1 (.slice (some ⟨w.heap.size, 0, none⟩) (n + 1) c) (n + 1) (ic (l.take i ++ x :: l.drop i)) ∧ Below w.heap.size w w' := by
  obtain ⟨i0, hi0, hz0, hz1, hz2⟩ := info_parts bi_int
  have hl : l.length = n := by have := hs.1; rw [ic_length] at this; omega
  rcases hs.2 with ⟨h0, _⟩ | ⟨g', off', cap', he, hbg, hg, hnc, hcm, hfree, hcell⟩
  · cases h0
  cases he
  have hsz : (Tryz.prog.info? 3).map (·.size) = some 1 := by rw [hi0]; simp [hz1]
  have hold : (Builtin.firstCells i0.size i (.slice (some ⟨g, off, none⟩) i n)).run Tryz.prog w.drew = .ok ((ic (l.take i)).toArray) w.drew := by
    refine run_firstCells_some (P := Tryz.prog) (w := w.drew) i0.size i ⟨g, off, none⟩ i n (ic (l.take i)) (by rw [ic_length, List.length_take, hz1]; omega) (fun j v hj => ?_)
    have hj1 : j < i := by have := (List.getElem?_eq_some_iff.1 hj).1; rw [ic_length, List.length_take] at this; omega
    rw [Addr.add_lit]
    have := hcell j (by omega)
    rw [← hj]
    refine this.trans ?_
    unfold ic
    rw [List.getElem?_map, List.getElem?_map, List.getElem?_take, if_pos hj1]
  have hrz : ∀ ty, _ := fun ty => Lib.run_append_grow_zeros (P := Tryz.prog) w 39 3 ty 3 i0 (.int .i64 0) .i64 .i64 Tryz.underlying39 Tryz.underlying3 hi0 hz0 (some ⟨g, off, none⟩) i n (ic (l.take i)) hold (n + 1 - i) (by omega) (by omega) (by omega) (by omega) (by rw [hz2]; omega) (growslice_fits (by omega) (by rw [hz2]; omega))
  have hG := grownCap_ge w (i + (n + 1 - i)) n 3
  have hM := grownCap_le_maxLen w (i + (n + 1 - i)) n 3 (by unfold maxLen; omega)
  obtain ⟨G, hGe⟩ : ∃ G, G = grownCap w (i + (n + 1 - i)) n 3 := ⟨_, rfl⟩
  rw [← hGe] at hG hM hrz
  rw [show i + (n + 1 - i) = n + 1 by omega] at hG hrz
  obtain ⟨cs, hcs⟩ : ∃ cs, cs = ((ic (l.take i)).toArray ++ Builtin.zeroCells (Value.int .i64 0).cells (n + 1 - i) ++ Builtin.zeroCells (Value.int .i64 0).cells (G - (n + 1))) := ⟨_, rfl⟩
  rw [← hcs] at hrz
  have hcsz : cs.size = G := by
    rw [hcs, Array.size_append, Array.size_append, size_zeroCells, size_zeroCells, List.size_toArray, ic_length, List.length_take]
    show min i l.length + (n + 1 - i) * 1 + (G - (n + 1)) * 1 = G
    omega
  have hcs0 : ∀ j, j < i → cs[j]? = (ic (l.take i))[j]? := fun j hj => by
    have hji : j < (ic (l.take i)).toArray.size := by rw [List.size_toArray, ic_length, List.length_take]; omega
    rw [hcs, Array.getElem?_append_left (by rw [Array.size_append]; omega), Array.getElem?_append_left hji]
    simp
  have hown := World.ownsRow_made (base := w.heap.size) (e := 3) (size := 1) w.drew cs G (Nat.le_refl _) hM (by rw [hcsz, Nat.mul_one])
  have hslG := Sl.of_owns hown
  obtain ⟨W1, hW1⟩ : ∃ W1, W1 = w.drew.alloc (.cells cs 3) := ⟨_, rfl⟩
  rw [← hW1] at hslG
  obtain ⟨D, hD⟩ : ∃ D, D = w.heap.size := ⟨_, rfl⟩
  have hb1 : Below w.heap.size w W1 := by rw [hW1]; exact ((Below.refl w.heap.size w).drew).alloc (Nat.le_refl _) _
  have hrow1 : W1.heap[D]? = some (.cells cs 3) := by rw [hW1, hD]; exact heap_alloc_new w.drew _
  have hDl : D < W1.heap.size := (Array.getElem?_eq_some_iff.1 hrow1).1
  have hgD : g ≠ D := by omega
  have hfr : ∀ j, j < G → (W1.cell? ⟨D, j, none⟩).isSome = true ∧ W1.frozen? ⟨D, j, none⟩ = false := fun j hj => by
    refine ⟨?_, Lib.frozen_of_heap hrow1 j⟩
    rw [Lib.cell_of_heap hrow1 j]
    simp [hcsz, hj]
  have hbD : b ≠ D := by have := (Array.getElem?_eq_some_iff.1 hv).1; omega
  have cv : W1.cell? ⟨b, 0, none⟩ = some (.int .i64 x) := (hb1.cell (p := ⟨b, 0, none⟩) (Array.getElem?_eq_some_iff.1 hv).1).trans (Lib.cell_of_heap hv 0)
  have hcp1 : ∀ ty dc, (Builtin.copy_ #[39, 38] ty #[.slice (some ⟨D, i, none⟩) (n + 1 - i) dc, .slice (some ⟨b, 0, none⟩) 1 1]).run Tryz.prog W1 = .ok (goInt 1) (W1.setCells D i [.int .i64 x]) := fun ty dc =>
    run_copy_cells W1 _ _ ty 3 D i (n + 1 - i) dc ⟨b, 0, none⟩ 1 1 [.int .i64 x] Tryz.underlying39 hsz (by simp only [List.length_singleton, Nat.min_def]; split <;> omega)
      (fun j v hj => by
        have hj1 := (List.getElem?_eq_some_iff.1 hj).1
        obtain rfl : j = 0 := by simpa using hj1
        rw [Addr.add_lit, ← hj]
        exact cv)
      (fun j hj => by
        obtain rfl : j = 0 := by simpa using hj
        exact (hfr i (by omega)).1) (fun j hj => by
        obtain rfl : j = 0 := by simpa using hj
        exact (hfr i (by omega)).2) (by simp [Value.oneCell'])
  obtain ⟨W2, hW2⟩ : ∃ W2, W2 = W1.setCells D i [.int .i64 x] := ⟨_, rfl⟩
  have hfr2 : ∀ k, k < G → (W2.cell? ⟨D, k, none⟩).isSome = true ∧ W2.frozen? ⟨D, k, none⟩ = false := fun k hk => by
    rw [hW2]
    refine ⟨isSome_setCells D _ _ _ (fun j hj => ?_) _ (hfr k hk).1, by rw [World.frozen?_setCells]; exact (hfr k hk).2⟩
    obtain rfl : j = 0 := by simpa using hj
    exact (hfr i (by omega)).1
  have hdl : (ic (l.drop i)).length = n - i := by rw [ic_length, List.length_drop, hl]
  have hcp2 : ∀ ty dc sc, (Builtin.copy_ #[39, 39] ty #[.slice (some ⟨D, i + 1, none⟩) (n - i) dc, .slice (some ⟨g, off + i, none⟩) (n - i) sc]).run Tryz.prog W2.drew = .ok (goInt (ic (l.drop i)).length) (W2.drew.setCells D (i + 1) (ic (l.drop i))) := fun ty dc sc =>
    run_copy_cells W2.drew _ _ ty 3 D (i + 1) (n - i) dc ⟨g, off + i, none⟩ (n - i) sc (ic (l.drop i)) Tryz.underlying39 hsz (by rw [hdl]; simp only [Nat.min_def]; split <;> omega)
      (fun j v hj => by
        rw [Addr.add_lit, Nat.add_assoc]
        have hjl : j < (ic (l.drop i)).length := (List.getElem?_eq_some_iff.1 hj).1
        have h1 := hcell (i + j) (by omega)
        rw [← hj]
        show W2.cell? _ = _
        rw [hW2, World.cell?_setCells_out D _ _ _ _ (fun h _ => absurd h hgD)]
        refine (hb1.cell (p := ⟨g, off + (i + j), none⟩) hg).trans (h1.trans ?_)
        unfold ic
        rw [List.getElem?_map, List.getElem?_map, List.getElem?_drop])
      (fun j hj => (hfr2 _ (by omega)).1) (fun j hj => (hfr2 _ (by omega)).2) (ic_one _)
  obtain ⟨W3, hW3⟩ : ∃ W3, W3 = W2.drew.setCells D (i + 1) (ic (l.drop i)) := ⟨_, rfl⟩
  have hfin : Sl W3 w.heap.size 1 (.slice (some ⟨D, 0, none⟩) (n + 1) G) (n + 1) (ic (l.take i ++ x :: l.drop i)) := by
    refine ⟨by rw [ic_length]; simp; omega, .inr ⟨D, 0, G, rfl, by omega, by rw [hW3, hW2, size_setCells]; show D < (W1.setCells D i [Value.int .i64 x]).heap.size; rw [size_setCells]; exact hDl, hG, hM, fun j hj => ?_, fun j hj => ?_⟩⟩
    · rw [Nat.zero_add, hW3]
      refine ⟨isSome_setCells D (ic (l.drop i)) (i + 1) W2.drew (fun k hk => (hfr2 (i + 1 + k) (by rw [hdl] at hk; omega)).1) j (hfr2 j (by omega)).1, ?_⟩
      rw [World.frozen?_setCells]
      exact (hfr2 j (by omega)).2
    · rw [Nat.zero_add, hW3]
      rcases Nat.lt_trichotomy j i with hji | hji | hji
      · rw [World.cell?_setCells_out D _ _ _ ⟨D, j, none⟩ (fun _ _ => by show j < i + 1 ∨ _; omega)]
        show W2.cell? _ = _
        rw [hW2, World.cell?_setCells_out D _ _ _ ⟨D, j, none⟩ (fun _ _ => by show j < i ∨ _; omega), Lib.cell_of_heap hrow1 j, hcs0 j hji]
        unfold ic
        rw [List.getElem?_map, List.getElem?_map, List.getElem?_append_left (by rw [List.length_take]; omega)]
      · subst hji
        rw [World.cell?_setCells_out D _ _ _ ⟨D, j, none⟩ (fun _ _ => by show j < j + 1 ∨ _; omega)]
        show W2.cell? _ = _
        rw [hW2]
        have := World.cell?_setCells_in D [Value.int .i64 x] j W1 (fun k hk => by
          obtain rfl : k = 0 := by simpa using hk
          exact (hfr j (by omega)).1) 0 (by simp)
        simp only [Nat.add_zero] at this
        rw [this]
        unfold ic
        rw [List.getElem?_map, List.getElem?_append_right (by rw [List.length_take]; omega), List.length_take, Nat.min_eq_left (by omega), Nat.sub_self]
        rfl
      · have := World.cell?_setCells_in D (ic (l.drop i)) (i + 1) W2.drew (fun k hk => (hfr2 _ (by omega)).1) (j - (i + 1)) (by omega)
        rw [show i + 1 + (j - (i + 1)) = j by omega] at this
        rw [this, ← List.getElem?_eq_getElem]
        unfold ic
        rw [List.getElem?_map, List.getElem?_map, List.getElem?_append_right (by rw [List.length_take]; omega), List.length_take, Nat.min_eq_left (by omega), show j - i = (j - (i + 1)) + 1 by omega, List.getElem?_cons_succ]
  have hbel : Below w.heap.size w W3 := by
    have t2 : Turn (fun k => k = D) W1 W3 := by rw [hW3, hW2]; exact (turn_cells _ _ _ _).trans ((Turn.refl _ _).drew.trans (turn_cells _ _ _ _))
    exact hb1.trans (t2.below hb1.size (fun k hk => by omega))
  rw [← hW1] at hrz
  rw [← hW2] at hcp1
  rw [← hW3] at hcp2
  rw [← hD] at hrz hfin hbel ⊢
  have FIN := Lib.hid hfin
  have BEL := Lib.hid hbel
  have hz2' : ¬ ((i : Int) = (n : Int)) := by omega
  have hin : i ≤ n := by omega
  have hin2 : (i : Int) ≤ (n : Int) + 1 := by omega
  have hni : (n : Int) + 1 - i = ((n + 1 - i : Nat) : Int) := by omega
  have htn : ((i : Int) + 1).toNat = i + 1 := by omega
  have hb2 : ¬ (G = i + 1) := by omega
  have hb4 : ¬ (G = i) := by omega
  have hb5 : ¬ (n = i) := by omega
  have hw1 : IntKind.i64.wrap ((i : Int) + 1) = (i : Int) + 1 := by rw [IntKind.wrap_i64]; omega
  have hb6 : (i : Int) + 1 ≤ (n : Int) + 1 := by omega
  have hb7 : (0 : Int) ≤ (i : Int) + 1 := by omega
  have hb8 : i + 1 ≤ n + 1 := by omega
  have hb9 : n + 1 - (i + 1) = n - i := by omega
  clear hfin hbel hW1 hW2 hW3 hfr hfr2 hrow1 hcs hcs0 hown hslG hold hcell hfree hcsz hGe hb1 hs hv cv hdl hsz hl hi0 hz0 hz1 hz2 hgD hbD hD
  go_enter Tryz.func53, Tryz.ntmps53
  go_wp2_with (first
    | (at_builtin; refine Lib.wpList_append_run _ rfl _ _ _ _ rfl _ _ rfl rfl _ _ (hrz _) ?_)
    | (at_builtin; refine wpList_copy_runI _ rfl _ _ 39 38 rfl _ _ rfl rfl (hcp1 _ _) ?_))
  go_region_law (refine step_copy_runI rfl _ _ 39 39 rfl _ _ (by simp [Act.eval, Act.put]) (by simp [Act.eval, Act.put]) (hcp2 _ _ _) ?_)
  all_goals go_wp2_with fail
  all_goals go_ret
  all_goals exact ⟨G, rfl, FIN.out, BEL.out⟩

set_option maxHeartbeats 4000000 in
set_option maxRecDepth 100000 in
theorem insert_end (base n b : Nat) (v : Value) (l : List Int) (x : Int) (w : World) (hs : Sl w base 1 v n (ic l)) (hn : n ≤ 1000000) (hbase : base ≤ w.heap.size) (hv : w.heap[b]? = some (.cells #[.int .i64 x] 3)) :
    Calls Tryz.prog 53 #[v, .int .i64 n, .slice (some ⟨b, 0, none⟩) 1 1] w fun e w' => ∃ v', e = .returned v' ∧ Ext base 1 w v n (ic l) w' v' (n + 1) (ic (l ++ [x])) := by
  obtain ⟨i0, hi, hz0, hz1, hz2⟩ := info_parts bi_int
  obtain ⟨v', w', hr, hx⟩ := run_append_sl (P := Tryz.prog) w base 39 39 3 i0 (.int .i64 0) 1 8 Tryz.underlying39 hi hz0 hz1 hz2 rfl (by decide) v n (ic l) hs ⟨b, 0, none⟩ 1 1 (ic [x]) rfl (fun j u hu => by
    have hj := (List.getElem?_eq_some_iff.1 hu).1
    obtain rfl : j = 0 := by simp [ic] at hj; omega
    rw [Addr.add_lit, Lib.cell_of_heap hv 0]
    exact hu) (ic_one [x]) (by unfold maxLen; omega) (by omega) hbase
  obtain ⟨a, c, rfl⟩ := hs.slice
  have hr2 := (append_types (x := .slice (some ⟨b, 0, none⟩) 1 1) (w := w) (a := a) (n := n) (c := c) (ty := 39) hi Tryz.underlying39 Tryz.underlying38).trans hr
  rw [← ic_append] at hx
  have HX := Lib.hid hx
  have hnc : (n : Int) ≤ (c : Int) := by
    rcases hs.2 with ⟨h0, h1⟩ | ⟨g, off, cap, he, _, _, h3, _⟩
    · omega
    · cases he; omega
  clear hi hz0 hz1 hz2 hr hx hs hv
  by_cases hcn : c = n
  · subst hcn
    go_enter Tryz.func53, Tryz.ntmps53
    go_wp2_with (at_builtin; refine Lib.wpList_append_run _ rfl _ _ _ _ rfl _ _ rfl rfl _ _ hr2 ?_)
    all_goals go_ret
    all_goals exact ⟨_, rfl, HX.out⟩
  · go_enter Tryz.func53, Tryz.ntmps53
    go_wp2_with (at_builtin; refine Lib.wpList_append_run _ rfl _ _ _ _ rfl _ _ rfl rfl _ _ hr2 ?_)
    all_goals go_ret
    all_goals exact ⟨_, rfl, HX.out⟩
end Go.Proofs.YtefhnjepocbodaaGreatDoor
