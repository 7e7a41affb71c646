/- Layer 12: Values, whatever is in the index: the shelf's contracts on slices.Sorted(maps.Keys(m)). -/
import Derived.Test.YteheojiokbdgmaaGreatDoorMIX8
import Derived.Test.YteheojiokbdgmaaGreatDoorMIY5
namespace Go.Proofs.YteheojiokbdgmaaGreatDoor
open Go.RowKit Go.Lib Go.Maps Go.Sort Go.Shelf
set_option linter.unusedVariables false

/-- The values of a name. -/
def valsH (H : List HEn) (x : List UInt8) : List (List UInt8) := ((lookK HEn.x x H).map fun h => h.vs.map VEn.y).getD []
/-- Texts in rising order, in new memory. -/
def TextsN (w : World) (xs : List (List UInt8)) (e : Ending) (w' : World) : Prop :=
  ∃ (v : Value) (ss : List (List UInt8)), e = .returned v ∧ ss.Perm xs ∧ w'.ownsRow w.heap.size 9 1 v ss.length ((ss.mergeSort (fun x y => decide (x ≤ y))).map Go.Proofs.encStr) ∧ (v = .slice none 0 0 ↔ ss = []) ∧ Below w.heap.size w w'

set_option maxHeartbeats 1000000 in
set_option maxRecDepth 100000 in
theorem values_any (base b mh ml ch cl : Nat) (va : Value) (A : List Int) (H : List HEn) (L : List LEn) (o : Own) (x : List UInt8) (w : World) (h : IxW base b mh ml va A H ch L cl o w) (hx : ∀ a ∈ H, ∀ e ∈ a.vs, e.y.length ≤ maxLen) (hl : ∀ a ∈ H, a.vs.length ≤ 1000000) :
    Calls Tryz.prog 12 #[.pointer (some ⟨b, 0, none⟩), .string (bs x)] w (TextsN w (valsH H x)) := by
  have k1 : w.cell? ⟨b, 1, none⟩ = some (.map (some mh)) := Lib.cell_of_heap h.box 1
  have l1 := lkH mh ch x h.mapH
  rcases e0 : lookK HEn.x x H with _ | k
  · have hv : valsH H x = [] := by unfold valsH; rw [e0]; rfl
    rw [e0] at l1
    simp only [Option.map_none, Option.getD_none] at l1
    rw [hv]
    clear h e0 hv hx hl
    refine (callsIn_wide (n := 6)).1 ?_
    have hfK : Fence.wide.fn 28 := trivial
    have hfS : Fence.wide.fn 27 := trivial
    refine callsIn_of_wp Tryz.func12 rfl trivial ?_ rfl
    simp only [Tryz.ntmps12, List.size_toArray, List.length_cons, List.length_nil, Nat.reduceAdd, Nat.reduceSub, Array.replicate_succ, Array.replicate_zero, List.push_toArray, List.append_toArray, List.nil_append, List.cons_append]
    gi_wp2_with (first
      | (gi_at_call 28; refine (Tryz.maps_Keys_28 _ _).mono ?_; rintro e w' ⟨rfl, rfl⟩)
      | (gi_at_call 27; refine (Tryz.slices_Sorted_keys_nil_27_28 w).mono ?_; rintro e w' ⟨v, ss, rfl, hS, hrow, hnil, hb⟩))
    go_ret
    exact ⟨v, ss, rfl, by rw [hS], ownsRow_base_a hrow (by simp), hnil, ((Below.refl _ w).alloc (Nat.le_refl _) _).trans (hb.mono (by simp))⟩
  · have hk := (lookK_mem HEn.x e0).1
    have K := h.inner k hk
    have hv : valsH H x = k.vs.map VEn.y := by unfold valsH; rw [e0]; rfl
    rw [e0] at l1
    simp only [Option.map_some, Option.getD_some] at l1
    obtain ⟨D, hown, hsz, hpm⟩ := mapIs_owns VEn.y VEn.born VEn.en (fun _ => rfl) (fun _ => rfl) K.2.1 K.2.2.2.2 K.2.2.2.1 (hx k hk) (by have := hl k hk; unfold maxLen; omega)
    have hmax : Maps.size D ≤ maxLen := by rw [hsz]; have := hl k hk; unfold maxLen; omega
    have hbytes : Maps.size D * 16 ≤ 140737488355328 := by have := hl k hk; omega
    have HP := Lib.hid hpm
    rw [hv]
    obtain ⟨n, hn⟩ : ∃ n, n = k.vs.length := ⟨_, rfl⟩
    rw [← hn] at hown
    obtain ⟨mi, hmi⟩ : ∃ mi, mi = k.mi := ⟨_, rfl⟩
    rw [← hmi] at hown l1
    clear h hpm e0 hv hx hl K hk hn hmi
    refine (callsIn_wide (n := 6)).1 ?_
    have hfK : Fence.wide.fn 28 := trivial
    have hfS : Fence.wide.fn 27 := trivial
    refine callsIn_of_wp Tryz.func12 rfl trivial ?_ rfl
    simp only [Tryz.ntmps12, List.size_toArray, List.length_cons, List.length_nil, Nat.reduceAdd, Nat.reduceSub, Array.replicate_succ, Array.replicate_zero, List.push_toArray, List.append_toArray, List.nil_append, List.cons_append]
    gi_wp2_with (first
      | (gi_at_call 28; refine (Tryz.maps_Keys_28 _ _).mono ?_; rintro e w' ⟨rfl, rfl⟩)
      | (gi_at_call 27; refine (Tryz.slices_Sorted_keys_27_28 mi n D _ w hown hmax hbytes).mono ?_; rintro e w' ⟨v, ss, rfl, hS, hrow, hnil, hb⟩))
    go_ret
    exact ⟨v, ss, rfl, hS.trans HP.out, ownsRow_base_a hrow (by simp), hnil, ((Below.refl _ w).alloc (Nat.le_refl _) _).trans (hb.mono (by simp))⟩
end Go.Proofs.YteheojiokbdgmaaGreatDoor
