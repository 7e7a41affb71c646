/- The library's contracts, laid over this program. Layer 12: numbers sorted, each once; slices.Sort and slices.Compact over one's own list; Any. Layer 12: slices.Compact over one's own list; Any, walked. -/
import Derived.Shelf.Sort.Plain
import Derived.Shelf.Slices.In.SortNone
import Derived.Test.YteheojiokbdgmaaGreatDoorProg
import Derived.Test.YteheojiokbdgmaaGreatDoorMT4
import Derived.Test.YteheojiokbdgmaaGreatDoorMK2
import Derived.Test.YteheojiokbdgmaaGreatDoorMLen
import Derived.Lib.SlicesCompact
import Derived.Sort.EveryDepth
import Derived.Lib.SliceRun
import Derived.Lib.RowBridge
namespace Go.Proofs.YteheojiokbdgmaaGreatDoor
open Go.Shelf Go.Proofs
end Go.Proofs.YteheojiokbdgmaaGreatDoor

namespace Go.Proofs.YteheojiokbdgmaaGreatDoor
open Go.RowKit Go.Lib Go.Shelf Go.Proofs

theorem get_arr (zs : List Int) (m : Nat) (h : m < zs.length) : zs.toArray[m]! = zs[m] := by
  rw [getElem!_pos _ m (by simpa using h)]; simp
theorem take_mem_succ (zs : List Int) (m : Nat) (h : m < zs.length) (y : Int) : y ∈ zs.take (m + 1) ↔ y ∈ zs.take m ∨ y = zs[m] := by
  rw [List.take_add_one, List.getElem?_eq_getElem h, List.mem_append]
  simp
/-- What Compact leaves of a sorted list. -/
theorem compact_go (zs : List Int) (hs : zs.Pairwise (· ≤ ·)) : ∀ m, m ≤ zs.length → (∀ y, y ∈ Lib.compactUpTo zs.toArray m ↔ y ∈ zs.take m) ∧ Up (Lib.compactUpTo zs.toArray m)
  | 0, _ => ⟨fun y => by simp [Lib.compactUpTo], by simp [Lib.compactUpTo]; exact up_nil⟩
  | m + 1, hm => by
    have hlt : m < zs.length := by omega
    obtain ⟨h1, h2⟩ := compact_go zs hs m (by omega)
    rw [Lib.compactUpTo_succ]
    have hg := get_arr zs m hlt
    by_cases hk : Lib.keeps zs.toArray m = true
    · rw [if_pos hk, hg]
      refine ⟨fun y => by rw [List.mem_append, h1 y, take_mem_succ zs m hlt y]; simp, ?_⟩
      refine List.pairwise_append.2 ⟨h2, List.pairwise_singleton _ _, fun y hy x hx => ?_⟩
      obtain rfl := List.mem_singleton.1 hx
      have hy := (h1 y).1 hy
      unfold Lib.keeps at hk
      have hk := of_decide_eq_true hk
      rcases hk with h0 | hne
      · subst h0; simp at hy
      · have hm0 : 0 < m := by
          rcases Nat.eq_zero_or_pos m with h0 | h0
          · subst h0; simp at hy
          · exact h0
        rw [hg, get_arr zs (m - 1) (by omega)] at hne
        obtain ⟨j, hj, rfl⟩ := List.getElem_of_mem hy
        rw [List.length_take] at hj
        rw [List.getElem_take]
        have e1 : zs[j] ≤ zs[m - 1] := by
          rcases Nat.lt_or_ge j (m - 1) with h | h
          · exact (List.pairwise_iff_getElem.1 hs) j (m - 1) (by omega) (by omega) h
          · have : j = m - 1 := by omega
            subst this; exact Int.le_refl _
        have e2 : zs[m - 1] ≤ zs[m] := (List.pairwise_iff_getElem.1 hs) (m - 1) m (by omega) hlt (by omega)
        omega
    · have hk' : ¬ (m = 0 ∨ zs.toArray[m]! ≠ zs.toArray[m - 1]!) := fun h => hk (decide_eq_true h)
      rw [if_neg hk, List.append_nil]
      refine ⟨fun y => ?_, h2⟩
      rw [h1 y, take_mem_succ zs m hlt y]
      have hm0 : 0 < m := by omega
      have he : zs[m] = zs[m - 1] := by
        have := fun h => hk' (.inr h)
        rw [hg, get_arr zs (m - 1) (by omega)] at this
        exact Classical.byContradiction this
      constructor
      · exact .inl
      · rintro (h | rfl)
        · exact h
        · rw [he]
          exact List.mem_iff_getElem.2 ⟨m - 1, by rw [List.length_take]; omega, by rw [List.getElem_take]⟩
theorem compact_is (ls : List (List Int)) (l : List Int) (hp : l.Perm ls.flatten) (hs : l.Pairwise (· ≤ ·)) : Lib.compact l = anyZ ls := by
  obtain ⟨h1, h2⟩ := compact_go l hs l.length (Nat.le_refl _)
  refine up_unique _ _ h2 (anyZ_up ls) fun y => ?_
  unfold Lib.compact
  rw [h1 y, List.take_length, anyZ_mem, hp.mem_iff]
  simp [List.mem_flatten]

theorem perm_of_inI {d d' : Array Int} (h : Sort.PermIn 0 d.size d d') : d'.toList.Perm d.toList := by
  obtain ⟨h1, _, h3⟩ := h
  have e1 : d'.extract 0 d.size = d' := by rw [← h1]; exact Array.extract_size
  have e2 : d.extract 0 d.size = d := Array.extract_size
  rw [e1, e2] at h3
  exact h3
theorem holds_of_sl {w : World} {base g off cap : Nat} {l : List Int} (h : Sl w base 1 (.slice (some ⟨g, off, none⟩) l.length cap) l.length (ic l)) : Sort.Holds (Value.int .i64) w g off l.toArray := by
  intro j hj
  have hj' : j < l.length := by simpa using hj
  rcases h.2 with ⟨h0, _⟩ | ⟨g', off', cap', he, _, _, hnc, _, hfree, hcell⟩
  · cases h0
  · cases he
    refine ⟨?_, (hfree j (by omega)).2⟩
    rw [hcell j (by omega), get_arr l j hj']
    exact ic_at l j _ (List.getElem?_eq_getElem hj')

/-- A row of one's own with other numbers in it. -/
theorem sl_put {w w' : World} {base g off cap n : Nat} {l l' : List Int} (h : Sl w base 1 (.slice (some ⟨g, off, none⟩) l.length cap) l.length (ic l)) (hl : l'.length = l.length) (hn : n ≤ l.length)
    (hs : w.heap.size ≤ w'.heap.size) (hc : ∀ j x, l'[j]? = some x → w'.cell? ⟨g, off + j, none⟩ = some (.int .i64 x)) (ho : ∀ j, l.length ≤ j → w'.cell? ⟨g, off + j, none⟩ = w.cell? ⟨g, off + j, none⟩) (hf : ∀ a, a.block < w.heap.size → w'.frozen? a = w.frozen? a) :
    Sl w' base 1 (.slice (some ⟨g, off, none⟩) n cap) n (ic (l'.take n)) := by
  rcases h.2 with ⟨h0, _⟩ | ⟨g', off', cap', he, hb, hg, hnc, hcm, hfree, hcell⟩
  · cases h0
  · cases he
    refine ⟨by rw [ic_length, List.length_take]; omega, .inr ⟨g, off, cap, rfl, hb, by omega, by omega, hcm, fun j hj => ⟨?_, ?_⟩, fun j hj => ?_⟩⟩
    · by_cases hjl : j < l'.length
      · rw [hc j l'[j] (List.getElem?_eq_getElem hjl)]; rfl
      · rw [ho j (by omega)]; exact (hfree j hj).1
    · rw [hf _ hg]; exact (hfree j hj).2
    · have hjl : j < l'.length := by omega
      rw [hc j l'[j] (List.getElem?_eq_getElem hjl), ic_at (l'.take n) j l'[j] (by rw [List.getElem?_take, if_pos (by omega)]; exact List.getElem?_eq_getElem hjl)]

theorem below_world {B : Nat} {w w' : World} {g n off : Nat} {d : Array Int} {os : Array Obj} (hg : B ≤ g) (hw : w' = Sort.grow (Sort.putRow (Value.int .i64) (Sort.ahead w n) g off d) os) (hB : B ≤ w.heap.size) : Below B w w' := by
  subst hw
  refine ⟨rfl, rfl, rfl, by simp, fun k hk => ?_⟩
  rw [Sort.heap_grow_old _ _ (by simp; omega)]
  have hgk : g ≠ k := by omega
  simp [Sort.putRow, Sort.mapBlock, Sort.ahead, Array.getElem?_modify, hgk]

end Go.Proofs.YteheojiokbdgmaaGreatDoor

namespace Go.Proofs.YteheojiokbdgmaaGreatDoor
open Go.RowKit Go.Lib Go.Shelf Go.Proofs

theorem sl_cellI {w : World} {base g off n cap : Nat} {l : List Int} (h : Sl w base 1 (.slice (some ⟨g, off, none⟩) n cap) n (ic l)) (j : Nat) (x : Int) (hj : l[j]? = some x) : w.cell? ⟨g, off + j, none⟩ = some (.int .i64 x) := by
  have hl : l.length = n := by have := h.1; rw [ic_length] at this; omega
  have hjl := (List.getElem?_eq_some_iff.1 hj).1
  rcases h.2 with ⟨h0, _⟩ | ⟨g', off', cap', he, _, _, _, _, _, hcell⟩
  · cases h0
  · cases he
    rw [hcell j (by omega)]
    exact ic_at l j x hj
theorem sl_frozI {w : World} {base g off n cap : Nat} {xs : List Value} (h : Sl w base 1 (.slice (some ⟨g, off, none⟩) n cap) n xs) (j : Nat) (hj : j < n) : w.frozen? ⟨g, off + j, none⟩ = false := by
  rcases h.2 with ⟨h0, _⟩ | ⟨g', off', cap', he, _, _, hnc, _, hfree, _⟩
  · cases h0
  · cases he
    exact (hfree j (by omega)).2
theorem sl_setI {w : World} {base g off n cap : Nat} {l : List Int} (h : Sl w base 1 (.slice (some ⟨g, off, none⟩) n cap) n (ic l)) (k : Nat) (x : Int) : Sl (w.setCell ⟨g, off + k, none⟩ (.int .i64 x)) base 1 (.slice (some ⟨g, off, none⟩) n cap) n (ic (l.set k x)) := by
  have hl : l.length = n := by have := h.1; rw [ic_length] at this; omega
  rcases h.2 with ⟨h0, _⟩ | ⟨g', off', cap', he, hb, hg, hnc, hcm, hfree, hcell⟩
  · cases h0
  · cases he
    refine ⟨by rw [ic_length, List.length_set]; omega, .inr ⟨g, off, cap, rfl, hb, by simpa [World.setCell] using hg, hnc, hcm, fun j hj => ⟨?_, ?_⟩, fun j hj => ?_⟩⟩
    · by_cases hjk : j = k
      · subst hjk
        rw [cell_setCell_same _ _ _ _ (hfree j hj).1]; rfl
      · rw [cell_setCell_other _ _ _ _ _ (.inr (by simp only; omega))]; exact (hfree j hj).1
    · rw [frozen_setCell]; exact (hfree j hj).2
    · have hjl : j < (l.set k x).length := by rw [List.length_set]; omega
      rw [ic_at _ j _ (List.getElem?_eq_getElem hjl), List.getElem_set]
      by_cases hjk : k = j
      · subst hjk
        rw [if_pos rfl, cell_setCell_same _ _ _ _ (hfree k (by omega)).1]
      · rw [if_neg hjk, cell_setCell_other _ _ _ _ _ (.inr (by simp only; omega)), hcell j (by omega)]
        exact ic_at l j _ (List.getElem?_eq_getElem (by omega))
theorem sl_cutI {w : World} {base g off n cap m : Nat} {l : List Int} (h : Sl w base 1 (.slice (some ⟨g, off, none⟩) n cap) n (ic l)) (hm : m ≤ n) : Sl w base 1 (.slice (some ⟨g, off, none⟩) m cap) m (ic (l.take m)) := by
  have hl : l.length = n := by have := h.1; rw [ic_length] at this; omega
  rcases h.2 with ⟨h0, _⟩ | ⟨g', off', cap', he, hb, hg, hnc, hcm, hfree, hcell⟩
  · cases h0
  · cases he
    refine ⟨by rw [ic_length, List.length_take]; omega, .inr ⟨g, off, cap, rfl, hb, hg, by omega, hcm, hfree, fun j hj => ?_⟩⟩
    rw [hcell j (by omega), ic_at l j l[j] (List.getElem?_eq_getElem (by omega)), ic_at (l.take m) j l[j] (by rw [List.getElem?_take, if_pos (by omega)]; exact List.getElem?_eq_getElem (by omega))]
theorem keep_eq (l : List Int) (k : Nat) (x y : Int) (hx : l[k + 1]? = some x) (hy : l[k]? = some y) : Lib.keeps l.toArray (k + 1) = !decide (x = y) := by
  obtain ⟨h1, rfl⟩ := List.getElem?_eq_some_iff.1 hx
  obtain ⟨h2, rfl⟩ := List.getElem?_eq_some_iff.1 hy
  unfold Lib.keeps
  rw [get_arr l (k + 1) h1, Nat.add_sub_cancel, get_arr l k h2]
  by_cases h : l[k + 1] = l[k] <;> simp [h]
theorem comp_succ (l : List Int) (k : Nat) (x y : Int) (hx : l[k + 1]? = some x) (hy : l[k]? = some y) : Lib.compactUpTo l.toArray (k + 1 + 1) = if x = y then Lib.compactUpTo l.toArray (k + 1) else Lib.compactUpTo l.toArray (k + 1) ++ [x] := by
  rw [Lib.compactUpTo_succ, keep_eq l k x y hx hy]
  obtain ⟨h1, rfl⟩ := List.getElem?_eq_some_iff.1 hx
  rw [get_arr l (k + 1) h1]
  by_cases h : l[k + 1] = y <;> simp [h]
theorem comp_one (l : List Int) (h : 0 < l.length) : Lib.compactUpTo l.toArray 1 = l.take 1 := by
  obtain ⟨x, m, rfl⟩ : ∃ x m, l = x :: m := by
    cases l with
    | nil => simp at h
    | cons x m => exact ⟨x, m, rfl⟩
  rw [Lib.compactUpTo_succ]
  simp [Lib.compactUpTo, Lib.keeps]

theorem run_tailI (g off n cap k : Nat) (hk : k < n) (hn : n ≤ cap) (W : World) : (Instr.slice 36 (.slice (some ⟨g, off, none⟩) n cap) (some (.int .i64 (k : Int))) none none).run Tryz.prog W = .ok (.slice (some ⟨g, off + k, none⟩) (n - k) (cap - k)) W := by
  have hu := run_underlying Tryz.underlying36
  have hz := Tryz.sizeOf3
  have h1 : (k : Int) ≤ n := by omega
  have h4 : ¬ cap = k := by omega
  simp [Instr.slice, Instr.sliceBounds, go_sem, hu, hz, Addr.add, h1, h4]
  all_goals omega
theorem take_set_succ (e : List Int) (K : Nat) (x : Int) (h : K < e.length) : (e.set K x).take (K + 1) = e.take K ++ [x] := by
  rw [List.take_add_one, List.getElem?_set_self h, List.take_set_of_le (Nat.le_refl _)]; rfl

/-- Lists in a slice, as slices in a slice. -/
theorem rds_of_ncs {w : World} {v : Value} {ls : List (List Int)} (h : Ncs w v ls) : Rds w v (ls.map ic) := by
  obtain ⟨_, a, cap, g, off, rfl, _, h1, h2⟩ := h
  refine ⟨a, cap, g, off, by rw [List.length_map], fun hn => h1 (by simpa using hn), fun j l hl => ?_⟩
  rw [List.getElem?_map] at hl
  cases hj : ls[j]? with
  | none => rw [hj] at hl; cases hl
  | some x =>
    rw [hj] at hl
    obtain rfl := Option.some.inj hl
    obtain ⟨y, hy, hy2⟩ := h2 j x hj
    refine ⟨y, hy, ?_⟩
    rw [ic_length]
    obtain ⟨_, a', cap', g', off', hv, _, h3, h4⟩ := hy2
    refine ⟨by rw [ic_length]; omega, a', cap', g', off', hv, h3, fun k hk => ?_⟩
    have hk' : k < x.length := by omega
    rw [h4 k x[k] (List.getElem?_eq_getElem hk'), ic_at x k x[k] (List.getElem?_eq_getElem hk')]
theorem flat_ic (ls : List (List Int)) : (ls.map ic).flatten = ic ls.flatten := by
  induction ls with
  | nil => rfl
  | cons l ls ih => rw [List.map_cons, List.flatten_cons, ih, List.flatten_cons, ic_append]

end Go.Proofs.YteheojiokbdgmaaGreatDoor
