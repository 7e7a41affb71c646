/- Layer 12: the first series of an index. -/
import Derived.Test.YthgpnjkabpfccaaDoorMTA
import Derived.Test.YthgpnjkabpfccaaDoorMDM
import Derived.Test.YthgpnjkabpfccaaDoorML8
import Derived.Lib.AppendZeros
import Derived.Deep.RegionHeld3
import Derived.Test.YthgpnjkabpfccaaDoorMU0
import Derived.RegionTactic
namespace Go.Proofs.YthgpnjkabpfccaaDoor
open Go.RowKit Go.Lib

theorem append_types {P : Program} {w : World} {t u e ty : TypeId} {a : Option Addr} {n c : Nat} {i : TypeInfo} {x : Value} (hi : P.info? e = some i) (ht : P.underlying t = some (.slice e)) (hu : P.underlying u = some (.slice e)) :
    (Builtin.append_ #[t, u] ty #[.slice a n c, x]).run P w = (Builtin.append_ #[t, t] ty #[.slice a n c, x]).run P w := by
  simp [Builtin.append_, run_underlying ht, run_underlying hu, sizeOf, typeInfo, hi]

set_option maxHeartbeats 1000000 in
set_option maxRecDepth 100000 in
theorem search_nil (n : Int) (w : World) : Calls Tryd.prog 73 #[.slice none 0 0, .int .i64 n] w fun e w' => e = .returned (.tuple #[.int .i64 0, .bool false]) ∧ w = w' := by
  go_enter Tryd.func73, Tryd.ntmps73
  go_wp2_with fail
  go_loopw [7, 8] (fun i' j' wr => i' = .int .i64 0 ∧ j' = .int .i64 0 ∧ w = wr) (fun _ _ _ => 0)
  case atStart => exact ⟨rfl, rfl, rfl⟩
  case round =>
    obtain ⟨rfl, rfl, rfl⟩ := hrel
    go_wp2
    go_ret2
    exact ⟨rfl, rfl⟩

set_option maxHeartbeats 1000000 in
set_option maxRecDepth 100000 in
theorem insert_nil (n : Int) (b : Nat) (w : World) (hb : w.cell? ⟨b, 0, none⟩ = some (.int .i64 n)) : Calls Tryd.prog 74 #[.slice none 0 0, .int .i64 0, .slice (some ⟨b, 0, none⟩) 1 1] w (NewN w [n]) := by
  obtain ⟨i0, hi, hz0, hz1, hz2⟩ := info_parts bi_int
  obtain ⟨v', w', hr, hx⟩ := run_append_sl (P := Tryd.prog) w w.heap.size 56 56 3 i0 (.int .i64 0) 1 8 Tryd.underlying56 hi hz0 hz1 hz2 rfl (by decide) (.slice none 0 0) 0 [] (Sl.nil _ _ _) ⟨b, 0, none⟩ 1 1 (ic [n]) rfl (fun j u hu => by
    have hj := (List.getElem?_eq_some_iff.1 hu).1
    obtain rfl : j = 0 := by simp [ic] at hj; omega
    rw [Addr.add_lit]
    rw [hb]; exact hu) (ic_one [n]) (by decide) (by decide) (Nat.le_refl _)
  have hr2 := (append_types (x := .slice (some ⟨b, 0, none⟩) 1 1) (w := w) (a := none) (n := 0) (c := 0) (ty := 56) hi Tryd.underlying56 Tryd.underlying55).trans hr
  have hs := hx.now
  rw [List.nil_append, Nat.zero_add] at hs
  have HS := Lib.hid hs
  have HB := Lib.hid (hx.below (B := w.heap.size) (Nat.le_refl _) (Nat.le_refl _))
  clear hi hz0 hz1 hz2 hr hx hs
  go_enter Tryd.func74, Tryd.ntmps74
  go_wp2_with (at_builtin; refine Lib.wpList_append_run _ rfl _ _ _ _ rfl _ _ rfl rfl _ _ hr2 ?_)
  go_ret
  exact ⟨_, rfl, HS.out, HB.out⟩

set_option maxHeartbeats 1000000 in
set_option maxRecDepth 100000 in
theorem with_nil (n : Int) (w : World) : Calls Tryd.prog 62 #[.slice none 0 0, .int .i64 n] w (NewN w [n]) := by
  have C := Lib.hid (fun W => search_nil n W)
  have hc : (w.alloc (.cells #[.int .i64 n] 55)).cell? ⟨w.heap.size, 0, none⟩ = some (.int .i64 n) := Lib.cell_of_heap (heap_alloc_new w _) 0
  have hc2 : (w.alloc (.cells #[.int .i64 n] 3)).cell? ⟨w.heap.size, 0, none⟩ = some (.int .i64 n) := Lib.cell_of_heap (heap_alloc_new w _) 0
  have D := Lib.hid (insert_nil n w.heap.size (w.alloc (.cells #[.int .i64 n] 3)) hc2)
  clear hc hc2
  go_enter Tryd.func62, Tryd.ntmps62
  go_wp2_with fail
  refine (C.out _).mono ?_
  rintro e w1 ⟨rfl, rfl⟩
  go_wp2_with fail
  refine D.out.mono ?_
  rintro e w2 ⟨v2, rfl, s2, b2⟩
  go_wp2
  go_ret
  exact ⟨_, rfl, s2.mono (by simp), ((Below.refl _ _).alloc (Nat.le_refl _) _).trans (b2.mono (by simp))⟩
end Go.Proofs.YthgpnjkabpfccaaDoor
