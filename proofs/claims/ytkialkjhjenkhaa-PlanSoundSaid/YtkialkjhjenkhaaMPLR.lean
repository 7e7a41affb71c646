/- Layer 20: a plan's names, rising. -/
import Derived.Test.YtkialkjhjenkhaaMPLK
import Derived.Test.YtkialkjhjenkhaaMSrt
namespace Go.Proofs.Ytkialkjhjenkhaa
open Go.RowKit Go.Lib
open Go.Proofs (encStr)
set_option linter.unusedVariables false

theorem get_str20 (ss : List (List UInt8)) (j : Nat) (hj : j < ss.length) : (ss.map encStr)[j]? = some (encStr ss.toArray[j]!) := by
  simp [hj]
def sortN (ss : List (List UInt8)) : List (List UInt8) := ss.mergeSort fun x y => decide (x ≤ y)
theorem sc_enc (ss : List (List UInt8)) : sc ss = ss.map encStr := rfl
/-- Names sorted where they lie. -/
theorem sortn_any (v : Value) (ss : List (List UInt8)) (base : Nat) (w : World) (hs : Sl w base 1 v ss.length (sc ss)) (hlen : ss.length ≤ 1000) :
    Calls Try.prog 31 #[v] w fun e w' => e = .returned (.tuple #[]) ∧ Sl w' base 1 v ss.length (sc (sortN ss)) ∧ Turn (fun k => v.ownBlock = some k) w w' := by
  rcases hs.2 with ⟨rfl, h0⟩ | ⟨g, off, cap, rfl, hb, hg, hnc, hcm, hfree, hcell⟩
  · have hnil : ss = [] := List.eq_nil_of_length_eq_zero h0
    subst hnil
    refine (slices_Sort_string_none none 0 w).mono ?_
    rintro e w' ⟨rfl, rfl⟩
    exact ⟨rfl, by simpa [sortN] using hs, Turn.refl _ _⟩
  · have hH : Sort.Holds encStr w g off ss.toArray := by
      intro j hj
      have hj' : j < ss.length := by simpa using hj
      exact ⟨(hcell j (by omega)).trans (get_str20 ss j hj'), (hfree j (by omega)).2⟩
    refine (slices_Sort_string g off cap ss w hH hg (by omega)).mono ?_
    rintro e w' ⟨rfl, n, os, rfl⟩
    obtain ⟨ts, hts⟩ : ∃ ts, ts = sortN ss := ⟨_, rfl⟩
    have htl : ts.length = ss.length := by rw [hts]; exact List.length_mergeSort ss
    rw [← hts]
    rw [show (ss.mergeSort fun x y => decide (x ≤ y)) = ts from hts.symm]
    have hg' : g < (Sort.putRow encStr (Sort.ahead w n) g off ts.toArray).heap.size := by simpa using hg
    have hcells : ∀ j, j < ts.length → (Sort.grow (Sort.putRow encStr (Sort.ahead w n) g off ts.toArray) os).cell? ⟨g, off + j, none⟩ = some (encStr ts.toArray[j]!) := fun j hj => by
      rw [Sort.cell?_grow _ _ _ hg']
      exact Sort.cell?_putRow encStr (Sort.ahead w n) g off ss.toArray ts.toArray hH (by simp [htl]) j (by simpa using hj)
    refine ⟨rfl, ⟨by simp [sc_enc, htl], .inr ⟨g, off, cap, rfl, hb, by simp; omega, hnc, hcm, fun j hj => ⟨?_, ?_⟩, fun j hj => ?_⟩⟩, rfl, rfl, rfl, by simp, fun k hk hne => ?_⟩
    · by_cases hjt : j < ts.length
      · rw [hcells j hjt]; rfl
      · rw [Sort.cell?_grow _ _ _ hg', Sort.cell?_putRow_other _ _ _ _ _ _ (.inr (.inr (by simp; omega)))]
        exact (hfree j hj).1
    · rw [Sort.frozen?_grow _ _ _ hg', Sort.frozen?_putRow]
      exact (hfree j hj).2
    · rw [hcells j (by omega)]
      exact (get_str20 ts j (by omega)).symm
    · rw [Sort.heap_grow_old _ _ (by simpa using hk)]
      have hgk : g ≠ k := fun e => hne (by rw [e]; rfl)
      simp [Sort.putRow, Sort.mapBlock, Sort.ahead, Array.getElem?_modify, hgk]
/-- Of names that differ: they rise. -/
theorem sortN_up (ss : List (List UInt8)) (h : ss.Pairwise (fun x y => x ≠ y)) : (sortN ss).Pairwise (· < ·) := by
  have hp : (sortN ss).Perm ss := List.mergeSort_perm ss _
  have h1 : (sortN ss).Pairwise (fun a b => decide (a ≤ b) = true) := List.pairwise_mergeSort (fun a b c h k => by
    simp only [decide_eq_true_eq] at *; exact List.le_trans h k) (fun a b => by
    simp only [Bool.or_eq_true, decide_eq_true_eq]; exact List.le_total a b) ss
  have h2 : (sortN ss).Pairwise (fun x y => x ≠ y) := (hp.symm.pairwise_iff (fun {a b} h e => h e.symm)).1 h
  refine (h1.and h2).imp (fun {a b} hab => ?_)
  have h3 : a ≤ b := by simpa using hab.1
  rcases bytes_tri a b with e | e | e
  · exact e
  · exact absurd e hab.2
  · exact absurd e (List.not_lt.2 h3)
set_option maxHeartbeats 1000000 in
set_option maxRecDepth 100000 in
theorem pnames_any (a b c : Int) (v : Value) (qs : List Mq) (w : World) (h : MsR w v qs) (hm : qs.length ≤ 1000) :
    Calls Try.prog 16 #[planV a b c v] w fun e w' => ∃ v', e = .returned v' ∧ Sl w' w.heap.size 1 v' qs.length (sc (sortN (ids qs))) ∧ Below w.heap.size w w' := by
  have NM := Lib.hid (fun W (bb : Below w.heap.size w W) => names_any v qs W (h.on bb) hm)
  obtain ⟨av, kv, rfl⟩ := rd_form h.rd
  have hidl : (ids qs).length = qs.length := by simp [ids]
  have HIL := Lib.hid hidl
  have BA := Lib.hid (show Below w.heap.size w (w.alloc (.cells #[.int .i64 a, .int .i64 b, .int .i64 c, .slice av qs.length kv] 33)) from (Below.refl _ _).alloc (Nat.le_refl _) _)
  clear h hidl
  unfold planV
  go_enter Try.func16, Try.ntmps16
  go_wp2_with (first
    | (go_at_call 27; (with_reducible refine (NM.out _ BA.out).mono ?_); rintro e w1 ⟨v1, rfl, sl1, b1⟩; have B1 := Lib.hid (BA.out.trans (b1.mono (by simp))); have z1 := b1.size; have SL1 := Lib.hid sl1; have SR := Lib.hid (sortn_any v1 (ids qs) (w.alloc (.cells #[.int .i64 a, .int .i64 b, .int .i64 c, .slice av qs.length kv] 33)).heap.size w1 (by rw [HIL.out]; exact sl1) (by rw [HIL.out]; exact hm)); clear sl1 b1)
    | (go_at_call 31; (with_reducible refine SR.out.mono ?_); rintro e w2 ⟨rfl, sl2, t2⟩)
    | fail)
  go_ret
  rw [HIL.out] at sl2
  refine ⟨_, rfl, sl2.mono (by simp), B1.out.trans (t2.below (by simp at z1; omega) (fun k hk => by have := (SL1.out.lt k hk).1; simp at this; omega))⟩
end Go.Proofs.Ytkialkjhjenkhaa
