/- Layer 12: Names, whatever is in the index: the shelf's contracts on slices.Sorted(maps.Keys(m)), laid at this seat (made by wip/iter.sh ahead). -/
import Derived.Test.YteheojiokbdgmaaDoorMIX8
import Derived.Test.YteheojiokbdgmaaDoorItr
namespace Go.Proofs.YteheojiokbdgmaaDoor
open Go.RowKit Go.Lib Go.Maps Go.Sort Go.Shelf

set_option maxHeartbeats 1000000 in
set_option maxRecDepth 100000 in
theorem names_any (base b mh ml ch cl : Nat) (va : Value) (A : List Int) (H : List HEn) (L : List LEn) (o : Own) (w : World) (h : IxW base b mh ml va A H ch L cl o w) (hx : ∀ a ∈ H, a.x.length ≤ maxLen) (hl : H.length ≤ 1000000) :
    Calls Tryd.prog 7 #[.pointer (some ⟨b, 0, none⟩)] w fun e w' => ∃ (v : Value) (ss : List (List UInt8)), e = .returned v ∧ ss.Perm (H.map HEn.x) ∧
      w'.ownsRow w.heap.size 9 1 v ss.length ((ss.mergeSort (fun x y => decide (x ≤ y))).map Go.Proofs.encStr) ∧ (v = .slice none 0 0 ↔ ss = []) ∧ Below w.heap.size w w' := by
  have k1 : w.cell? ⟨b, 1, none⟩ = some (.map (some mh)) := Lib.cell_of_heap h.box 1
  obtain ⟨D, hown, hsz, hpm⟩ := mapIs_owns HEn.x HEn.born HEn.en (fun _ => rfl) (fun _ => rfl) h.mapH h.bornH h.keysH hx (by unfold maxLen; omega)
  have hmax : Maps.size D ≤ maxLen := by rw [hsz]; unfold maxLen; omega
  have hbytes : Maps.size D * 16 ≤ 140737488355328 := by omega
  have HP := Lib.hid hpm
  clear h hpm
  refine (callsIn_wide (n := 6)).1 ?_
  have hfK : Fence.wide.fn 19 := trivial
  have hfS : Fence.wide.fn 18 := trivial
  refine callsIn_of_wp Tryd.func7 rfl trivial ?_ rfl
  simp only [Tryd.ntmps7, List.size_toArray, List.length_cons, List.length_nil, Nat.reduceAdd, Nat.reduceSub, Array.replicate_succ, Array.replicate_zero, List.push_toArray, List.append_toArray, List.nil_append, List.cons_append]
  gi_wp2_with (first
    | (gi_at_call 19; refine (Tryd.maps_Keys_19 _ _).mono ?_; rintro e w' ⟨rfl, rfl⟩)
    | (gi_at_call 18; refine (Tryd.slices_Sorted_keys_18_19 mh H.length D _ w hown hmax hbytes).mono ?_; rintro e w' ⟨v, ss, rfl, hS, hrow, hnil, hb⟩))
  go_ret
  exact ⟨v, ss, rfl, hS.trans HP.out, ownsRow_base_a hrow (by simp), hnil, ((Below.refl _ w).alloc (Nat.le_refl _) _).trans (hb.mono (by simp))⟩
/-- An index of which no name and value has a series has no entries. -/
theorem none_of_get {H : List HEn} (F : Full H) (hn : (H.map HEn.x).Nodup) (hv : ∀ h ∈ H, (h.vs.map VEn.y).Nodup) (h0 : ∀ x y, getH H x y = []) : H = [] := by
  rcases H with _ | ⟨k, H⟩
  · rfl
  · exfalso
    obtain ⟨h1, h2⟩ := F k (by simp)
    rcases e : k.vs with _ | ⟨v, vs⟩
    · exact h1 e
    · have hm : v ∈ k.vs := by rw [e]; simp
      have hl := lookK_of_mem VEn.y (hv k (by simp)) hm
      have := h0 k.x v.y
      unfold getH at this
      rw [lookK_of_mem HEn.x hn (by simp)] at this
      have g : getV k.vs v.y = v.l := by unfold getV; rw [hl]; rfl
      exact h2 v hm (by rw [← g]; exact this)
end Go.Proofs.YteheojiokbdgmaaDoor
