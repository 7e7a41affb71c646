/- Layer 13: the matcher of a text. -/
import Derived.Test.YtobdlfikomnmcaaGreatDoorMTB1
import Derived.Test.YtobdlfikomnmcaaGreatDoorMSl3
import Derived.Deep.RegionHeld3
import Derived.Deep.Cut
import Derived.Deep.RegionWith
namespace Go.Proofs.YtobdlfikomnmcaaGreatDoor
open Go.RowKit Go.Lib
set_option linter.unusedVariables false

/-- A matcher in plain words. -/
structure Mr where
  k : Nat
  n : List UInt8
  vs : List (List UInt8)
def sgs : List UInt8 := [61, 33, 94, 64]
def firstK (r : List UInt8) : List Nat → Option Nat
  | [] => none
  | k :: ks => if pre (sgn k) r then some k else firstK r ks
def ks4 : List Nat := [1, 2, 3, 4]
def mrOf (s : List UInt8) : Mr :=
  if Lib.indexAny s sgs < 0 then ⟨0, [], []⟩ else
  match firstK (s.drop (Lib.indexAny s sgs).toNat) ks4 with
  | none => ⟨0, [], []⟩
  | some k => ⟨k, s.take (Lib.indexAny s sgs).toNat, parts 124 ((s.drop (Lib.indexAny s sgs).toNat).drop (sgn k).length)⟩
theorem idxany_lt (c : List UInt8) : ∀ s : List UInt8, Lib.indexAny s c ≤ s.length
  | [] => by simp [Lib.indexAny]
  | b :: l => by
    have ih := idxany_lt c l
    unfold Lib.indexAny
    simp only [List.length_cons]
    split
    · omega
    · split <;> omega
def txs (l : List (List UInt8)) : List Value := l.map fun p => .string (bs p)
def mrV (m : Mr) (v : Value) : Value := .agg #[.int .i64 m.k, .string (bs m.n), v]

theorem results_cellM {P : Program} {fn : Func} {p : Tmp} {ty : TypeId} (h : fn.results = #[.cell p ty]) (tmps : Array Value) (w : World) (g : Nat) (t : TypeId) (cs : Array Value) (fr : Nat × Nat) (d : TypeDesc)
    (hp : tmps.getD p undef = .pointer (some ⟨g, 0, none⟩)) (hg : w.heap[g]? = some (.cells cs t fr))
    (hu : P.underlying ty = some d) (hd : (match d with | .struct _ | .array _ _ => true | _ => false) = true) (hi : (P.info? ty).map (·.size) = some cs.size) :
    (results fn tmps).run P w = .ok (.agg cs) w := by
  have hp' : tmps[p]?.getD undef = .pointer (some ⟨g, 0, none⟩) := by simpa using hp
  simp [results, h, hp', asAddr, run_loadVar_row w g t ty cs fr d hg hu hd hi]
theorem put3 (W : World) (g : Nat) (a b c a' b' c' : Value) (t : TypeId) (h : W.heap[g]? = some (.cells #[a, b, c] t)) :
    (((W.setCell ⟨g, 0, none⟩ a').setCell ⟨g, 1, none⟩ b').setCell ⟨g, 2, none⟩ c').heap[g]? = some (.cells #[a', b', c'] t) := by
  have h1 := heap_setCell_same W g 0 _ _ a' h
  have h2 := heap_setCell_same _ g 1 _ _ b' h1
  have h3 := heap_setCell_same _ g 2 _ _ c' h2
  rw [h3]; rfl

set_option maxRecDepth 100000 in
set_option maxHeartbeats 1000000 in
theorem part13_any (s : List UInt8) (w : World) (hs : s.length < 1000000) :
    Calls Tryz.prog 15 #[.string (bs s)] w fun e w' => ∃ v, e = .returned (mrV (mrOf s) v) ∧ Sl w' w.heap.size 1 v (mrOf s).vs.length (txs (mrOf s).vs) ∧ Below w.heap.size w w' := by
  have IA := Lib.hid (fun W => idxany_all s sgs W hs (by decide) (by decide) (Asc.of_all (by decide)))
  have SG := Lib.hid sign_any
  have hge := Lib.indexAny_ge sgs s
  obtain ⟨x, hx⟩ : ∃ x, x = Lib.indexAny s sgs := ⟨_, rfl⟩
  obtain ⟨m, hm⟩ : ∃ m, m = mrOf s := ⟨_, rfl⟩
  have hm2 := hm
  unfold mrOf at hm2
  rw [← hx] at IA hm2 hge
  rw [← hm]
  by_cases h0 : x < 0
  · rw [if_pos h0] at hm2
    subst hm2
    clear hx hm hge
    go_enter Tryz.func15, Tryz.ntmps15
    go_wp2_with fail
    refine (IA.out _).mono ?_
    rintro e w1 ⟨rfl, b1⟩
    have bz := (Below.refl w.heap.size w).alloc (Nat.le_refl _) (.cells #[.int .i64 0, .string ⟨#[]⟩, .slice none 0 0] 24)
    have HB := Lib.hid (bz.trans (b1.mono bz.size))
    have hb := (b1.block w.heap.size (by simp)).trans (heap_alloc_new w _)
    have HW := Lib.hid (put3 w1 w.heap.size _ _ _ (.int .i64 0) (.string ⟨#[]⟩) (.slice none 0 0) _ hb)
    have r0 := Lib.cell_of_heap hb 0; have r1 := Lib.cell_of_heap hb 1; have r2 := Lib.cell_of_heap hb 2
    have f0 := Lib.frozen_of_heap hb 0; have f1 := Lib.frozen_of_heap hb 1; have f2 := Lib.frozen_of_heap hb 2
    simp at r0 r1 r2
    clear bz b1 hb
    go_wp2_with fail
    refine bodyPost_ret (results_cellM Tryz.results15 _ _ w.heap.size _ _ _ _ rfl HW.out Tryz.underlying24 rfl (by kernel_rfl)) rfl ?_
    exact ⟨_, rfl, Sl.nil _ _ _, ((HB.out.setCell (p := ⟨w.heap.size, 0, none⟩) (Nat.le_refl _) _).setCell (p := ⟨w.heap.size, 1, none⟩) (Nat.le_refl _) _).setCell (p := ⟨w.heap.size, 2, none⟩) (Nat.le_refl _) _⟩
  · rw [if_neg h0] at hm2
    obtain ⟨i, rfl⟩ : ∃ i : Nat, x = i := ⟨x.toNat, by omega⟩
    rw [Int.toNat_natCast] at hm2
    have hil : i ≤ s.length := by have := idxany_lt sgs s; rw [← hx] at this; omega
    have hz : (bs s).size = s.length := bs_size s
    have e1 := bs_take s i
    have e2 := bs_drop s i
    rw [hz] at e2
    have hil2 : (i : Int) ≤ ((bs s).size : Int) := by rw [hz]; omega
    obtain ⟨r, hr⟩ : ∃ r, r = s.drop i := ⟨_, rfl⟩
    rw [← hr] at hm2 e2
    have HM := Lib.hid hm2
    clear hm2 hm hx
    go_enter Tryz.func15, Tryz.ntmps15
    go_wp2_with fail
    refine (IA.out _).mono ?_
    rintro e w1 ⟨rfl, b1⟩
    have bz := (Below.refl w.heap.size w).alloc (Nat.le_refl _) (.cells #[.int .i64 0, .string ⟨#[]⟩, .slice none 0 0] 24)
    have hb := (b1.block w.heap.size (by simp)).trans (heap_alloc_new w _)
    have G0 := Lib.hid (show Below w.heap.size w w1 ∧ w1.heap[w.heap.size]? = some (.cells #[.int .i64 0, .string ⟨#[]⟩, .slice none 0 0] 24) ∧ firstK r ks4 = firstK r (ks4.drop (1 - 1)) from ⟨bz.trans (b1.mono bz.size), hb, rfl⟩)
    have CP := Lib.hid (fun k W => cutpre_any r (sgn k) W)
    have SP := Lib.hid (fun k W => split_one (r.drop (sgn k).length) 124 W (by rw [hr]; simp; omega))
    have hrl : r.length ≤ 1000000 := by rw [hr]; simp; omega
    clear hr b1 bz hb
    go_wp2_with fail
    go_loopw [4] (fun k' wr => ∃ j : Nat, k' = .int .i64 j ∧ 1 ≤ j ∧ j ≤ 5 ∧ Hid (Below w.heap.size w wr ∧ wr.heap[w.heap.size]? = some (.cells #[.int .i64 0, .string ⟨#[]⟩, .slice none 0 0] 24) ∧ firstK r ks4 = firstK r (ks4.drop (j - 1)))) (fun k' _ => 5 - (RowKit.intOf k').toNat)
    case atStart => exact ⟨1, rfl, by omega, by omega, G0⟩
    case round =>
      clear G0
      obtain ⟨W0, rfl⟩ : ∃ W0, W0 = wr := ⟨_, rfl⟩
      obtain ⟨j, rfl, hj1, hj5, hgg⟩ := hrel
      obtain ⟨hB0, hb, hg⟩ := hgg.out
      by_cases hj : j ≤ 4
      · have hd : ks4.drop (j - 1) = j :: ks4.drop (j + 1 - 1) := by
          have : j = 1 ∨ j = 2 ∨ j = 3 ∨ j = 4 := by omega
          rcases this with rfl | rfl | rfl | rfl <;> rfl
        rw [hd, firstK] at hg
        have hj4 : (j : Int) ≤ 4 := by omega
        have CPj := Lib.hid (CP.out j)
        obtain ⟨sg, hsg⟩ : ∃ sg, sg = sgn j := ⟨_, rfl⟩
        have SPj := Lib.hid (SP.out j)
        have SGj := Lib.hid (fun W => SG.out j W hj1 hj)
        rw [← hsg] at CPj hg SPj SGj
        obtain ⟨dd, hdd⟩ : ∃ dd, dd = r.drop sg.length := ⟨_, rfl⟩
        rw [← hdd] at CPj SPj
        have HS := Lib.hid hsg
        have HD := Lib.hid hdd
        have hddl : dd.length ≤ 1000000 := by rw [hdd]; have := hrl; simp; omega
        have HBB := Lib.hid hB0
        clear hd hsg hdd CP SP SG hB0 hgg
        cases hp : pre sg r with
        | true =>
          rw [hp, if_pos rfl] at hg
          rw [hp] at CPj
          simp only [if_true] at CPj
          have HMM := HM.out
          rw [hg] at HMM
          simp only at HMM
          rw [← HS.out, ← HD.out] at HMM
          have HM3 := Lib.hid HMM
          clear HMM hg HM
          have FB := Lib.hid (fun (w3 W : World) (h3 : w3 = W.alloc (.cells ((parts 124 dd).map fun p => Value.string (bs p)).toArray 9)) (hW : W.heap = W0.heap) =>
            show w3.heap[w.heap.size]? = some (.cells #[.int .i64 0, .string ⟨#[]⟩, .slice none 0 0] 24) ∧ Sl w3 (w.heap.size + 1) 1 (.slice (some ⟨W0.heap.size, 0, none⟩) (parts 124 dd).length (parts 124 dd).length) (parts 124 dd).length (txs (parts 124 dd)) from by
            have hlt : w.heap.size < W0.heap.size := (Array.getElem?_eq_some_iff.1 hb).1
            have hz0 : W.heap.size = W0.heap.size := by rw [hW]
            subst h3
            refine ⟨?_, ?_⟩
            · rw [Below.heap_alloc _ _ _ (by omega), hW]; exact hb
            · rw [← hz0]
              exact Sl.lit W (w.heap.size + 1) 1 (parts 124 dd).length _ 9 (by omega) (by have := parts_count 124 dd; have := hddl; unfold maxLen; omega) (by simp))
          clear hb
          go_upto_region 7 with fail
          go_region_held3 (fun W => True) (first | trivial | fail)
            (first
              | (go_at_call 24; refine (SGj.out _).mono ?_; rintro e w2 ⟨rfl, rfl⟩)
              | (go_at_call 28; refine (CPj.out _).mono ?_; rintro e w2 ⟨rfl, rfl⟩)
              | fail)
          go_wp2_with fail
          go_upto_region 9 with fail
          go_region_with (first
            | (go_at_call 29; refine (SPj.out _).mono ?_; rintro e w3 ⟨rfl, hw3⟩; obtain ⟨hb3, sl3⟩ := FB.out w3 _ hw3 rfl; have B3 : Below w.heap.size w w3 := by { rw [hw3]; refine Below.alloc ?_ (by exact HBB.out.size) _; with_reducible repeat (first | exact HBB.out | apply Below.drew) }; clear hw3; have HW := Lib.hid (put3 w3 w.heap.size _ _ _ (.int .i64 j) (.string (bs (s.take i))) (.slice (some ⟨W0.heap.size, 0, none⟩) (parts 124 dd).length (parts 124 dd).length) _ hb3); have r0 := Lib.cell_of_heap hb3 0; have r1 := Lib.cell_of_heap hb3 1; have r2 := Lib.cell_of_heap hb3 2; have f0 := Lib.frozen_of_heap hb3 0; have f1 := Lib.frozen_of_heap hb3 1; have f2 := Lib.frozen_of_heap hb3 2; simp at r0 r1 r2; clear hb3)
            | fail)
          all_goals
            go_wp2_with fail
            refine bodyPost_ret (results_cellM Tryz.results15 _ _ w.heap.size _ _ _ _ rfl HW.out Tryz.underlying24 rfl (by kernel_rfl)) rfl ?_
            rw [HM3.out]
            exact ⟨_, rfl, (sl_else (sl_else (sl_else sl3 _ _ (by simp only; omega)) _ _ (by simp only; omega)) _ _ (by simp only; omega)).mono (by omega), ((B3.setCell (p := ⟨w.heap.size, 0, none⟩) (Nat.le_refl _) _).setCell (p := ⟨w.heap.size, 1, none⟩) (Nat.le_refl _) _).setCell (p := ⟨w.heap.size, 2, none⟩) (Nat.le_refl _) _⟩
        | false =>
          rw [hp] at hg CPj
          simp only [Bool.false_eq_true, if_false] at hg CPj
          have HG := Lib.hid hg
          have Hb := Lib.hid hb
          clear hg hb
          go_upto_region 7 with fail
          go_region_held3 (fun W => True) (first | trivial | fail)
            (first
              | (go_at_call 24; refine (SGj.out _).mono ?_; rintro e w2 ⟨rfl, rfl⟩)
              | (go_at_call 28; refine (CPj.out _).mono ?_; rintro e w2 ⟨rfl, rfl⟩)
              | fail)
          go_wp2_with fail
          exact ⟨⟨j + 1, by simp, by omega, by omega, Lib.hid ⟨HBB.out.drew, Hb.out, HG.out⟩⟩, by simp [RowKit.intOf]; omega⟩
      · have hj4 : ¬ (j : Int) ≤ 4 := by omega
        obtain rfl : j = 5 := by omega
        have hgn : firstK r ks4 = none := hg
        have HM2 := HM.out
        rw [hgn] at HM2
        simp only at HM2
        subst HM2
        have HW := Lib.hid (put3 W0 w.heap.size _ _ _ (.int .i64 0) (.string ⟨#[]⟩) (.slice none 0 0) _ hb)
        have r0 := Lib.cell_of_heap hb 0; have r1 := Lib.cell_of_heap hb 1; have r2 := Lib.cell_of_heap hb 2
        have f0 := Lib.frozen_of_heap hb 0; have f1 := Lib.frozen_of_heap hb 1; have f2 := Lib.frozen_of_heap hb 2
        simp at r0 r1 r2
        have HB := Lib.hid hB0
        clear hb hB0 hg hgn hgg
        go_wp2_with fail
        refine bodyPost_ret (results_cellM Tryz.results15 _ _ w.heap.size _ _ _ _ rfl HW.out Tryz.underlying24 rfl (by kernel_rfl)) rfl ?_
        exact ⟨_, rfl, Sl.nil _ _ _, ((HB.out.setCell (p := ⟨w.heap.size, 0, none⟩) (Nat.le_refl _) _).setCell (p := ⟨w.heap.size, 1, none⟩) (Nat.le_refl _) _).setCell (p := ⟨w.heap.size, 2, none⟩) (Nat.le_refl _) _⟩
end Go.Proofs.YtobdlfikomnmcaaGreatDoor
