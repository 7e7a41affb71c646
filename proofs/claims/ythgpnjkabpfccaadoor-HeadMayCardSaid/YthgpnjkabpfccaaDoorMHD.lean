/- Layer 15: a new series, its last time; Series, Samples. -/
import Derived.Test.YthgpnjkabpfccaaDoorMHA
import Derived.Test.YthgpnjkabpfccaaDoorMHC
namespace Go.Proofs.YthgpnjkabpfccaaDoor
open Go.RowKit Go.Lib

/-- A series' box. -/
def SrB (p : Nat) (lv : Value) (key : ByteArray) (nu pl : Int) (sv : Value) (w : World) : Prop :=
  w.heap[p]? = some (.cells #[lv, .string key, .int .i64 nu, .int .i64 pl, sv] 76)
theorem srB_lt {p : Nat} {lv : Value} {key : ByteArray} {nu pl : Int} {sv : Value} {w : World} (h : SrB p lv key nu pl sv w) : p < w.heap.size := (Array.getElem?_eq_some_iff.1 h).1

set_option maxRecDepth 100000 in
theorem newSeries_any (v : Value) (ds : List Pr) (key : ByteArray) (w : World) (h : Rd w 2 v ds.length (prc ds)) (hm : ∀ p ∈ ds, p.n.length ≤ 100000000 ∧ p.v.length ≤ 100000000) (hn0 : ds.length ≤ 1000000) :
    Calls Tryd.prog 29 #[v, .string key] w fun e w' => ∃ p lv, e = .returned (.pointer (some ⟨p, 0, none⟩)) ∧ w.heap.size ≤ p ∧ SrB p lv key 9223372036854775807 0 (.slice none 0 0) w' ∧ Sl w' w.heap.size 2 lv ds.length (prc ds) ∧ (∀ k, lv.ownBlock = some k → k ≠ p) ∧ Below w.heap.size w w' := by
  have C := Lib.hid (own_any v ds w h hm hn0)
  obtain ⟨a, c, rfl⟩ := rd_form h
  clear h hm
  go_enter Tryd.func29, Tryd.ntmps29
  go_wp2_with fail
  refine C.out.mono ?_
  rintro e w1 ⟨lv, rfl, s1, b1⟩
  obtain ⟨a1, c1, rfl⟩ := s1.slice
  go_wp2_with fail
  go_ret
  refine ⟨w1.heap.size, _, rfl, b1.size, heap_alloc_new _ _, s1.alloc _, fun k hk => ?_, b1.alloc b1.size _⟩
  have := (s1.lt k hk).2
  omega

set_option maxRecDepth 100000 in
theorem last_nil (w : World) : Calls Tryd.prog 41 #[.pointer none] w fun e w' => e = .returned (.int .i64 (-1)) ∧ w = w' := by
  go_enter Tryd.func41, Tryd.ntmps41
  go_wp2
  go_ret
  exact ⟨rfl, rfl⟩

set_option maxRecDepth 100000 in
theorem last_some (p : Nat) (lv : Value) (key : ByteArray) (nu pl : Int) (g off n c : Nat) (t : Int) (w : World) (hn : n ≤ 1000000) (h : SrB p lv key nu pl (.slice (some ⟨g, off, none⟩) (n + 1) c) w) (ht : w.cell? ⟨g, off + n * 2, none⟩ = some (.int .i64 t)) :
    Calls Tryd.prog 41 #[.pointer (some ⟨p, 0, none⟩)] w fun e w' => e = .returned (.int .i64 t) ∧ ∃ q, w' = w.drewN q := by
  have c4 : w.cell? ⟨p, 4, none⟩ = some (.slice (some ⟨g, off, none⟩) (n + 1) c) := Lib.cell_of_heap h 4
  obtain ⟨N, hN⟩ : ∃ N, N = n + 1 := ⟨_, rfl⟩
  rw [← hN] at c4
  have e0 : ((N : Int) == 0) = false := by simp; omega
  have e1 : (N : Int) - 1 = (n : Int) := by omega
  have j1 : (n : Int) < (N : Int) := by omega
  have j2 : (0 : Int) ≤ (n : Int) := by omega
  have j3 : (N : Int) ≤ 1000001 := by omega
  clear h hN
  go_enter Tryd.func41, Tryd.ntmps41
  go_wp2_with fail
  go_quiet (fail)
  go_wp2
  go_ret
  exact ⟨rfl, _, rfl⟩

set_option maxRecDepth 100000 in
theorem samples_hd (b ms mi mp : Nat) (se sa wd fl tp sm nu pl : Int) (w : World) (h : HdB b ms mi mp se sa wd fl tp sm nu pl w) :
    Calls Tryd.prog 12 #[.pointer (some ⟨b, 0, none⟩)] w fun e w' => e = .returned (.int .i64 sm) ∧ w = w' := by
  have c5 : w.cell? ⟨b, 5, none⟩ = some (.int .i64 sm) := Lib.cell_of_heap h 5
  go_enter Tryd.func12, Tryd.ntmps12
  go_wp2
  go_ret
  exact ⟨rfl, rfl⟩

set_option maxRecDepth 100000 in
theorem series_hd (b ms mi mp c : Nat) (es : List En) (se sa wd fl tp sm nu pl : Int) (w : World) (h : HdB b ms mi mp se sa wd fl tp sm nu pl w) (hm : MapIs ms es c w) :
    Calls Tryd.prog 16 #[.pointer (some ⟨b, 0, none⟩)] w fun e w' => e = .returned (.int .i64 es.length) ∧ w = w' := by
  have c7 : w.cell? ⟨b, 7, none⟩ = some (.map (some ms)) := Lib.cell_of_heap h 7
  have hb : w.heap[ms]? = some (.map (es.map En.ent).toArray c) := hm
  have hl := fun ty => run_len_map (P := Tryd.prog) w 31 ty ms _ _ (by kernel_rfl) hb
  have hsz : ((es.map En.ent).toArray).size = es.length := by simp
  rw [hsz] at hl
  go_enter Tryd.func16, Tryd.ntmps16
  go_wp2
  go_ret
  exact ⟨rfl, rfl⟩
end Go.Proofs.YthgpnjkabpfccaaDoor
