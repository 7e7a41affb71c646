/- Layer 13: a matcher cut short, as the document's. -/
import Derived.Test.YtobdlfikomnmcaaGreatDoorMTM9
import Derived.Deep.RegionWith
import Derived.Deep.RegionLaw
import Derived.Deep.RegionHeld3
namespace Go.Proofs.YtobdlfikomnmcaaGreatDoor
open Go.RowKit Go.Lib
set_option linter.unusedVariables false

def vsS (z : Om) : List (List UInt8) := (z.zs.take 12).map fun x => x.take 42

theorem zc_text : (Tryz.prog.info? 9).map (fun i => (i.zero, i.size, i.bytes)) = some (some (.string ByteArray.empty), 1, 16) := by kernel_rfl
/-- As short goes: the box of what came in, that of what is made. -/
def ShR (w : World) (z : Om) (i : Nat) (W : World) : Prop := ∃ v, W.heap[w.heap.size]? = some (.cells #[.int .i64 z.k, .string (bs z.n), .slice z.a z.ln z.cp] 24) ∧ W.heap[w.heap.size + 1]? = some (.cells #[.int .i64 0, .string ⟨#[]⟩, .slice none 0 0] 33) ∧
  W.heap[w.heap.size + 2]? = some (.cells #[.int .i64 z.k, .string (bs (z.n.take 42)), v] 33) ∧ Sl W (w.heap.size + 3) 1 v i (txs ((z.zs.take i).map fun x => x.take 42)) ∧ Below w.heap.size w W ∧ w.heap.size + 3 ≤ W.heap.size

set_option maxHeartbeats 2000000 in
set_option maxRecDepth 100000 in
theorem short13_any (z : Om) (w : World) (h : OmAt w z) :
    Calls Tryz.prog 7 #[.agg #[.int .i64 z.k, .string (bs z.n), .slice z.a z.ln z.cp]] w fun e w' => ∃ v, e = .returned (.agg #[.int .i64 z.k, .string (bs (z.n.take 42)), v]) ∧ Sl w' w.heap.size 1 v (vsS z).length (txs (vsS z)) ∧ Below w.heap.size w w' := by
  obtain ⟨k, n, a, ln, cp, zs⟩ := z
  obtain ⟨h1, h2, h3, h4⟩ := h
  simp only at h1 h2 h3 h4
  have C42 := Lib.hid cut42
  obtain ⟨i0, hi, hz0, hz1, hz2⟩ := info_parts zc_text
  have Hz := Lib.hid hz0; have Hs := Lib.hid hz1; have Hb := Lib.hid hz2; have Hi := Lib.hid hi
  clear hz0 hz1 hz2 hi
  simp only
  go_enter Tryz.func7, Tryz.ntmps7
  go_wp2_with fail
  have q : ∀ o : Obj, True := fun _ => trivial
  go_region_held3 (fun W => W.cell? ⟨w.heap.size, 0, none⟩ = some (.int .i64 k) ∧ W.cell? ⟨w.heap.size, 1, none⟩ = some (.string (bs n)))
    (first | assumption | go_keep | (constructor <;> go_simp) | (constructor <;> simp) | fail)
    (first
      | (go_at_call 4; refine (C42.out _ _).mono ?_; rintro e w1 ⟨rfl, rfl⟩)
      | fail)
  all_goals
    obtain ⟨W1, hW1⟩ : ∃ W1, W1 = (((w.alloc (.cells #[.int .i64 k, .string (bs n), .slice a ln cp] 24)).alloc (.cells #[.int .i64 0, .string ⟨#[]⟩, .slice none 0 0] 33)).alloc (.cells #[.int .i64 k, .string (bs (n.take 42)), .slice none 0 0] 33)).drew := ⟨_, rfl⟩
    rw [← hW1]
    have G0 : ShR w ⟨k, n, a, ln, cp, zs⟩ 0 W1 := by
      rw [hW1]
      obtain ⟨w1, hw1⟩ : ∃ w1, w1 = w.alloc (.cells #[.int .i64 k, .string (bs n), .slice a ln cp] 24) := ⟨_, rfl⟩
      obtain ⟨w2, hw2⟩ : ∃ w2, w2 = w1.alloc (.cells #[.int .i64 0, .string ⟨#[]⟩, .slice none 0 0] 33) := ⟨_, rfl⟩
      rw [← hw1, ← hw2]
      have z1 : w1.heap.size = w.heap.size + 1 := by rw [hw1]; simp
      have z2 : w2.heap.size = w.heap.size + 2 := by rw [hw2]; simp; omega
      have a0 : w1.heap[w.heap.size]? = some (.cells #[.int .i64 k, .string (bs n), .slice a ln cp] 24) := by rw [hw1]; exact heap_alloc_new w _
      have a1 : w2.heap[w.heap.size + 1]? = some (.cells #[.int .i64 0, .string ⟨#[]⟩, .slice none 0 0] 33) := by
        have := heap_alloc_new w1 (.cells #[.int .i64 0, .string ⟨#[]⟩, .slice none 0 0] 33)
        rw [z1, ← hw2] at this; exact this
      have a2 : (w2.alloc (.cells #[.int .i64 k, .string (bs (n.take 42)), .slice none 0 0] 33)).heap[w.heap.size + 2]? = some (.cells #[.int .i64 k, .string (bs (n.take 42)), .slice none 0 0] 33) := by
        have := heap_alloc_new w2 (.cells #[.int .i64 k, .string (bs (n.take 42)), .slice none 0 0] 33)
        rw [z2] at this; exact this
      refine ⟨.slice none 0 0, ?_, ?_, a2, Sl.nil _ _ _, ?_, ?_⟩
      · show (w2.alloc _).heap[w.heap.size]? = _
        rw [Below.heap_alloc _ _ _ (by omega), hw2, Below.heap_alloc _ _ _ (by omega)]; exact a0
      · show (w2.alloc _).heap[w.heap.size + 1]? = _
        rw [Below.heap_alloc _ _ _ (by omega)]; exact a1
      · have b1 : Below w.heap.size w w1 := by rw [hw1]; exact (Below.refl _ _).alloc (Nat.le_refl _) _
        have b2 : Below w.heap.size w w2 := by rw [hw2]; exact b1.alloc (by omega) _
        exact (b2.alloc (by omega) _).drew
      · show w.heap.size + 3 ≤ (w2.alloc _).heap.size
        simp; omega
    have HG0 := Lib.hid G0
    clear G0 hW1
    go_wp2_with fail
    go_loopw [4] (fun i' wr => ∃ i : Nat, i' = .int .i64 i ∧ i ≤ ln ∧ i ≤ 12 ∧ Hid (ShR w ⟨k, n, a, ln, cp, zs⟩ i wr)) (fun i' _ => 12 - (RowKit.intOf i').toNat)
    case atStart => exact ⟨0, rfl, by omega, by omega, HG0⟩
    case round =>
      clear HG0
      obtain ⟨W0, rfl⟩ : ∃ W0, W0 = wr := ⟨_, rfl⟩
      obtain ⟨i, rfl, hi, hi12, hsh⟩ := hrel
      obtain ⟨v, hb0, hb1, hb2, hs, hb, hz⟩ := hsh.out
      simp only at hb0 hb2 hs
      have r0 := Lib.cell_of_heap hb0 2
      have x0 := Lib.cell_of_heap hb2 0; have x1 := Lib.cell_of_heap hb2 1; have x2 := Lib.cell_of_heap hb2 2
      have xf := Lib.frozen_of_heap hb2 2
      simp at r0 x0 x1 x2
      obtain ⟨va, vc, rfl⟩ := hs.slice
      have HS := Lib.hid hs; have HB0 := Lib.hid hb0; have HB1 := Lib.hid hb1; have HB2 := Lib.hid hb2; have HB := Lib.hid hb
      clear hsh hb0 hb1 hb2 hs
      have i0z : (0 : Int) ≤ i := by omega
      by_cases hl : i < ln
      · have hli : (i : Int) < ln := by omega
        by_cases h12 : i < 12
        · have h12i : (i : Int) < 12 := by omega
          obtain ⟨_, a', cap', g, off, ev, hg, hc⟩ := h4
          cases ev
          obtain ⟨rfl, hgl⟩ := hg (by omega)
          obtain ⟨y, hy⟩ : ∃ y, zs[i]? = some y := ⟨_, List.getElem?_eq_getElem (by omega)⟩
          have c0 : W0.cell? ⟨g, off + i, none⟩ = some (.string (bs y)) := ((HB.out).cell (p := ⟨g, off + i, none⟩) hgl).trans ((hc i (by omega)).trans (txs_at zs i y hy))
          have hgw : g < W0.heap.size := by omega
          have hzw : w.heap.size + 2 < W0.heap.size := by omega
          have HY := Lib.hid hy
          have hlit : ∀ j u, [Value.string (bs (y.take 42))][j]? = some u → ((W0.alloc (.cells #[.string (bs (y.take 42))] 9)).drew).cell? ((⟨W0.heap.size, 0, none⟩ : Addr).add j) = some u := by
            intro j u hu
            exact (Sl.lit W0 W0.heap.size 1 1 #[.string (bs (y.take 42))] 9 (Nat.le_refl _) (by decide) rfl).cells j u hu
          have q : ∀ o, (W0.alloc o).drew.cell? ⟨w.heap.size, 2, none⟩ = some (.slice (some ⟨g, off, none⟩) ln cp) ∧ (W0.alloc o).drew.cell? ⟨g, off + i, none⟩ = some (.string (bs y)) := fun o =>
            ⟨(((Below.refl W0.heap.size W0).alloc (Nat.le_refl _) o).drew.cell (p := ⟨w.heap.size, 2, none⟩) (by show w.heap.size < _; omega)).trans r0, (((Below.refl W0.heap.size W0).alloc (Nat.le_refl _) o).drew.cell (p := ⟨g, off + i, none⟩) hgw).trans c0⟩
          have x2 : W0.cell? ⟨w.heap.size + 1 + 1, 2, none⟩ = some (.slice va i vc) := x2
          have qx : ∀ o, (W0.alloc o).cell? ⟨w.heap.size + 1 + 1, 2, none⟩ = some (.slice va i vc) := fun o =>
            (((Below.refl W0.heap.size W0).alloc (Nat.le_refl _) o).cell (p := ⟨w.heap.size + 1 + 1, 2, none⟩) hzw).trans x2
          have FX := Lib.hid (fun (w2 : World) (v2 : Value) (xs2 : List Value) (hx : Ext (w.heap.size + 3) 1 (W0.alloc (.cells #[.string (bs (y.take 42))] 9)).drew (.slice va i vc) i (txs ((zs.take i).map fun x => x.take 42)) w2 v2 (i + 1) xs2) =>
            show (w2.cell? ⟨w.heap.size, 2, none⟩ = some (.slice (some ⟨g, off, none⟩) ln cp) ∧ w2.cell? ⟨g, off + i, none⟩ = some (.string (bs y))) ∧ (w2.cell? ⟨w.heap.size + 1 + 1, 2, none⟩ = some (.slice va i vc) ∧ w2.frozen? ⟨w.heap.size + 1 + 1, 2, none⟩ = false) ∧ (∀ k, k < w.heap.size + 3 → w2.heap[k]? = W0.heap[k]?) ∧ Below w.heap.size w w2 ∧ W0.heap.size ≤ w2.heap.size ∧ (∀ u, (w2.setCell ⟨w.heap.size + 1 + 1, 2, none⟩ u).cell? ⟨w.heap.size, 2, none⟩ = some (.slice (some ⟨g, off, none⟩) ln cp) ∧ (w2.setCell ⟨w.heap.size + 1 + 1, 2, none⟩ u).cell? ⟨g, off + i, none⟩ = some (.string (bs y))) from by
              have hk : ∀ k, k < w.heap.size + 3 → w2.heap[k]? = W0.heap[k]? := fun k hk => (hx.grown.block k (by show k < (W0.alloc _).heap.size; simp; omega) (fun e => by have := (HS.out.lt k e.symm).1; omega)).trans (Below.heap_alloc _ _ _ (by omega))
              have hz2 : W0.heap.size + 1 ≤ w2.heap.size := by have := hx.grown.size; simpa using this
              have rr1 := (World.cell?_of_block (a := ⟨w.heap.size, 2, none⟩) (hk _ (by show w.heap.size < _; omega))).trans r0
              have rr2 := (World.cell?_of_block (a := ⟨g, off + i, none⟩) (hk _ (by show g < _; omega))).trans c0
              refine ⟨⟨rr1, rr2⟩, ⟨(World.cell?_of_block (a := ⟨w.heap.size + 1 + 1, 2, none⟩) (hk _ (by show w.heap.size + 1 + 1 < _; omega))).trans x2, (World.frozen?_of_block (a := ⟨w.heap.size + 1 + 1, 2, none⟩) (hk _ (by show w.heap.size + 1 + 1 < _; omega))).trans xf⟩, hk, ?_, by omega, fun u => ⟨by rw [cell_setCell_other _ _ _ _ _ (.inl (by simp only [ne_eq]; omega))]; exact rr1, by rw [cell_setCell_other _ _ _ _ _ (.inl (by simp only [ne_eq]; omega))]; exact rr2⟩⟩
              exact ((HB.out.alloc (by omega) _).drew).trans (hx.below (by omega) (by show w.heap.size ≤ (W0.alloc _).heap.size; simp; omega)))
          have hbd := HB.out.drew
          have n1 : i + 1 ≤ maxLen := by unfold maxLen; omega
          clear hc hy x0 x1
          go_upto_region 5 with fail
          go_region_law (first
            | (refine step_append_slB rfl (.tmp 23) (.tmp 30) 22 rfl (w.heap.size + 3) 9 i0 _ 1 16 Tryz.underlying22 Hi.out Hz.out Hs.out Hb.out rfl (by decide) (.slice va i vc) i _ (by simp [Act.eval]) (HS.out.alloc _).drew ⟨W0.heap.size, 0, none⟩ 1 1 [.string (bs (y.take 42))] (by simp [Act.eval]) rfl hlit (by simp [Value.oneCell']) n1 (by omega) (by simp; omega) ?_; intro v2 w2 hx; obtain ⟨rr, ⟨y2, yf⟩, hk2, hb2, hz2, rs⟩ := FX.out w2 v2 _ hx; obtain ⟨a2, c2, rfl⟩ := hx.now.slice)
            | (go_simp; go_at_call 4; refine (C42.out _ _).mono ?_; rintro e w1 ⟨rfl, rfl⟩)
            | fail)
          all_goals go_wp2_with fail
          all_goals
            have ht : (zs.take (i + 1)).map (fun x => x.take 42) = (zs.take i).map (fun x => x.take 42) ++ [y.take 42] := by
              rw [List.take_add_one, HY.out]; simp
            have o0 := (hk2 w.heap.size (by omega)).trans HB0.out
            have o1 := (hk2 (w.heap.size + 1) (by omega)).trans HB1.out
            have o2 := (hk2 (w.heap.size + 2) (by omega)).trans HB2.out
            have o2' : (w2.setCell ⟨w.heap.size + 1 + 1, 2, none⟩ (.slice a2 (i + 1) c2)).heap[w.heap.size + 2]? = some (.cells #[.int .i64 k, .string (bs (n.take 42)), .slice a2 (i + 1) c2] 33) := by
              have := heap_setCell_same w2 (w.heap.size + 2) 2 _ _ (.slice a2 (i + 1) c2) o2
              exact this
            have hsn : Sl (w2.setCell ⟨w.heap.size + 1 + 1, 2, none⟩ (.slice a2 (i + 1) c2)) (w.heap.size + 3) 1 (.slice a2 (i + 1) c2) (i + 1) (txs ((zs.take (i + 1)).map fun x => x.take 42)) := by
              rw [ht, show txs ((zs.take i).map (fun x => x.take 42) ++ [y.take 42]) = txs ((zs.take i).map fun x => x.take 42) ++ [.string (bs (y.take 42))] by simp [txs]]
              exact sl_else hx.now _ _ (by simp only; omega)
            exact ⟨⟨i + 1, by simp, by omega, by omega, Lib.hid ⟨_, (Below.heap_setCell _ _ _ _ (by simp only [ne_eq]; omega)).trans o0, (Below.heap_setCell _ _ _ _ (by simp only [ne_eq]; omega)).trans o1, o2', hsn, hb2.setCell (by simp only; omega) _, by simp [World.setCell]; omega⟩⟩, by simp [RowKit.intOf]; omega⟩
        · have h12i : ¬ (i : Int) < 12 := by omega
          have hvs : (zs.take i).map (fun x => x.take 42) = vsS ⟨k, n, a, ln, cp, zs⟩ := by unfold vsS; rw [show i = 12 by omega]
          have hil : i = (vsS ⟨k, n, a, ln, cp, zs⟩).length := by rw [← hvs]; simp; omega
          have HW := Lib.hid (put3 W0 (w.heap.size + 1) _ _ _ (.int .i64 k) (.string (bs (n.take 42))) (.slice va i vc) _ HB1.out)
          have e0 := Lib.cell_of_heap HB1.out 0; have e1 := Lib.cell_of_heap HB1.out 1; have e2 := Lib.cell_of_heap HB1.out 2
          have f0 := Lib.frozen_of_heap HB1.out 0; have f1 := Lib.frozen_of_heap HB1.out 1; have f2 := Lib.frozen_of_heap HB1.out 2
          simp at e0 e1 e2
          have x0 : W0.cell? ⟨w.heap.size + 1 + 1, 0, none⟩ = some (.int .i64 k) := x0
          have x1 : W0.cell? ⟨w.heap.size + 1 + 1, 1, none⟩ = some (.string (bs (n.take 42))) := x1
          have x2 : W0.cell? ⟨w.heap.size + 1 + 1, 2, none⟩ = some (.slice va i vc) := x2
          rw [hvs] at HS
          have HIL := Lib.hid hil
          clear hvs hil h4
          go_wp2_with fail
          refine bodyPost_ret (results_cellM Tryz.results7 _ _ (w.heap.size + 1) _ _ _ _ rfl HW.out Tryz.underlying33 rfl (by kernel_rfl)) rfl ?_
          rw [← HIL.out]
          exact ⟨_, rfl, (sl_else (sl_else (sl_else HS.out _ _ (by simp only; omega)) _ _ (by simp only; omega)) _ _ (by simp only; omega)).mono (by omega), ((HB.out.setCell (p := ⟨w.heap.size + 1, 0, none⟩) (by simp only; omega) _).setCell (p := ⟨w.heap.size + 1, 1, none⟩) (by simp only; omega) _).setCell (p := ⟨w.heap.size + 1, 2, none⟩) (by simp only; omega) _⟩
      · have hli : ¬ (i : Int) < ln := by omega
        have hvs : (zs.take i).map (fun x => x.take 42) = vsS ⟨k, n, a, ln, cp, zs⟩ := by unfold vsS; simp only; rw [List.take_of_length_le (show zs.length ≤ i by omega), List.take_of_length_le (show zs.length ≤ 12 by omega)]
        have hil : i = (vsS ⟨k, n, a, ln, cp, zs⟩).length := by rw [← hvs]; simp; omega
        have HW := Lib.hid (put3 W0 (w.heap.size + 1) _ _ _ (.int .i64 k) (.string (bs (n.take 42))) (.slice va i vc) _ HB1.out)
        have e0 := Lib.cell_of_heap HB1.out 0; have e1 := Lib.cell_of_heap HB1.out 1; have e2 := Lib.cell_of_heap HB1.out 2
        have f0 := Lib.frozen_of_heap HB1.out 0; have f1 := Lib.frozen_of_heap HB1.out 1; have f2 := Lib.frozen_of_heap HB1.out 2
        simp at e0 e1 e2
        have x0 : W0.cell? ⟨w.heap.size + 1 + 1, 0, none⟩ = some (.int .i64 k) := x0
        have x1 : W0.cell? ⟨w.heap.size + 1 + 1, 1, none⟩ = some (.string (bs (n.take 42))) := x1
        have x2 : W0.cell? ⟨w.heap.size + 1 + 1, 2, none⟩ = some (.slice va i vc) := x2
        rw [hvs] at HS
        have HIL := Lib.hid hil
        clear hvs hil h4
        go_wp2_with fail
        refine bodyPost_ret (results_cellM Tryz.results7 _ _ (w.heap.size + 1) _ _ _ _ rfl HW.out Tryz.underlying33 rfl (by kernel_rfl)) rfl ?_
        rw [← HIL.out]
        exact ⟨_, rfl, (sl_else (sl_else (sl_else HS.out _ _ (by simp only; omega)) _ _ (by simp only; omega)) _ _ (by simp only; omega)).mono (by omega), ((HB.out.setCell (p := ⟨w.heap.size + 1, 0, none⟩) (by simp only; omega) _).setCell (p := ⟨w.heap.size + 1, 1, none⟩) (by simp only; omega) _).setCell (p := ⟨w.heap.size + 1, 2, none⟩) (by simp only; omega) _⟩
end Go.Proofs.YtobdlfikomnmcaaGreatDoor
