/- Layer 14, rows: the front's Push, walked. Layer 14, rows: the library's Push over the front; put; walked. -/
import Derived.Test.YtabeaehiidnbbaaDoorMAN
import Derived.Test.YtabeaehiidnbbaaDoorMRN
import Derived.Test.YtabeaehiidnbbaaDoorMAO
namespace Go.Proofs.YtabeaehiidnbbaaDoor
open Go.RowKit Go.Lib Hp
set_option linter.unusedVariables false

theorem zc_prestR : (Tryd.prog.info? 93).map (fun i => (i.zero, i.size, i.bytes)) = some (some (.pointer none), 1, 8) := by kernel_rfl

theorem asrt_SR (W : World) (v : Value) : (Instr.typeAssert (.iface 93 v) 20 93 false).run Tryd.prog W = .ok v W := by kernel_rfl

set_option maxHeartbeats 4000000 in
set_option maxRecDepth 100000 in
theorem fpush_SR (F p n : Nat) (rv fv : Value) (xs : List Value) (w : World) (hbox : w.heap[F]? = some (.cells #[rv, fv] 91)) (hsl : Sl w (F + 1) 1 rv n xs) (hn : n ≤ 1000000) :
    Calls Tryd.prog 117 #[.pointer (some ⟨F, 0, none⟩), .iface 93 (.pointer (some ⟨p, 0, none⟩))] w fun e w' => e = .returned (.tuple #[]) ∧ ∃ rv' w5, Ext (F + 1) 1 (w.alloc (.cells #[.pointer (some ⟨p, 0, none⟩)] 93)).drew rv n xs w5 rv' (n + 1) (xs ++ [.pointer (some ⟨p, 0, none⟩)]) ∧ w' = w5.setCell ⟨F, 0, none⟩ rv' := by
  obtain ⟨i0, hi, hz0, hz1, hz2⟩ := info_parts zc_prestR
  have Hz := Lib.hid hz0; have Hs := Lib.hid hz1; have Hb := Lib.hid hz2; have Hi := Lib.hid hi
  clear hz0 hz1 hz2 hi
  have hF : F < w.heap.size := (Array.getElem?_eq_some_iff.1 hbox).1
  obtain ⟨ra, rc, er⟩ := hsl.slice
  subst er
  obtain ⟨Y, hY⟩ : ∃ Y, Y = (w.alloc (.cells #[.pointer (some ⟨p, 0, none⟩)] 93)).drew := ⟨_, rfl⟩
  have ownY : Sl Y (F + 1) 1 (.slice ra n rc) n xs := by rw [hY]; exact (hsl.alloc _).drew
  have litY : ∀ j u, [Value.pointer (some ⟨p, 0, none⟩)][j]? = some u → Y.cell? ((⟨w.heap.size, 0, none⟩ : Addr).add j) = some u := by
    have := (Sl.lit w 0 1 1 #[.pointer (some ⟨p, 0, none⟩)] 93 (Nat.zero_le _) (by decide) rfl).cells
    rw [hY]; exact this
  have hyF : Y.heap[F]? = some (.cells #[.slice ra n rc, fv] 91) := by rw [hY]; exact (Below.heap_alloc w _ F hF).trans hbox
  have hYF : F < Y.heap.size := (Array.getElem?_eq_some_iff.1 hyF).1
  have hob : ∀ k, (Value.slice ra n rc).ownBlock = some k → k ≠ F := fun k hk => by have := (hsl.lt k hk).1; omega
  have c0 := Lib.cell_of_heap hbox 0
  simp at c0
  have HY := Lib.hid hY
  rw [← hY]
  have hone : ∀ v ∈ [Value.pointer (some ⟨p, 0, none⟩)], v.oneCell' = true := by
    intro v hv
    rw [List.mem_singleton] at hv
    subst hv
    rfl
  have n1 : n + 1 ≤ maxLen := by unfold maxLen; omega
  have n2 : (n + 1) * 8 ≤ 140737488355328 := by omega
  have hYF1 : F + 1 ≤ Y.heap.size := hYF
  have HE := Lib.hid (fun v' w5 (hx5 : Ext (F + 1) 1 Y (.slice ra n rc) n xs w5 v' (n + 1) (xs ++ [.pointer (some ⟨p, 0, none⟩)])) => show (∃ a c, v' = .slice a (n + 1) c) ∧ w5.cell? ⟨F, 0, none⟩ = some (.slice ra n rc) ∧ w5.frozen? ⟨F, 0, none⟩ = false from
    ⟨hx5.now.slice, (hx5.cell_old ⟨F, 0, none⟩ hYF hob).trans (Lib.cell_of_heap hyF 0), (hx5.frozen_old ⟨F, 0, none⟩ hYF hob).trans (Lib.frozen_of_heap hyF 0)⟩)
  have hta := fun W v => asrt_SR W v
  clear hY hyF
  go_enter Tryd.func117, Tryd.ntmps117
  go_region_law (rw [← HY.out]; refine step_append_sl rfl _ _ 89 rfl (F + 1) 93 i0 (.pointer none) 1 8 Tryd.underlying89 Hi.out Hz.out Hs.out Hb.out rfl (by decide) _ n xs rfl ownY ⟨w.heap.size, 0, none⟩ 1 1 [.pointer (some ⟨p, 0, none⟩)] rfl rfl litY hone n1 n2 hYF1 ?_; intro v' w5 hx5; obtain ⟨⟨a5, c5, rfl⟩, p1, pf1⟩ := HE.out v' w5 hx5)
  all_goals go_wp2
  all_goals go_end0
  all_goals exact ⟨rfl, _, _, by assumption, rfl⟩

theorem fpush_FrSR {w0 w : World} {F n p : Nat} {P f : Nat → Nat} {rv : Value} {cur : Nat → List Rq} {iv : Nat → Value} (h : FrSR w0 w F P rv n f cur iv) (hn : n ≤ 1000000)
    (hr : w.heap[P p]? = some (.cells #[.int .i64 p, iv p] 95) ∧ F < P p ∧ RdQ w0 (iv p) (cur p) ∧ 0 < (cur p).length) (ho : ∀ g, rv.ownBlock = some g → P p ≠ g) :
    Calls Tryd.prog 117 #[.pointer (some ⟨F, 0, none⟩), .iface 93 (.pointer (some ⟨P p, 0, none⟩))] w fun e w' => e = .returned (.tuple #[]) ∧ ∃ rv', FrSR w0 w' F P rv' (n + 1) (snocF f n p) cur iv ∧ Bk F rv w w' ∧ ∀ g, rv'.ownBlock = some g → rv.ownBlock = some g ∨ w.heap.size ≤ g := by
  have hF : F < w.heap.size := (Array.getElem?_eq_some_iff.1 h.box).1
  refine (fpush_SR F (P p) n rv _ (ptc P f n) w h.box h.sl hn).mono ?_
  rintro e w' ⟨rfl, rv', w5, hx, hw'⟩
  obtain ⟨Y, hY⟩ : ∃ Y, Y = (w.alloc (.cells #[.pointer (some ⟨P p, 0, none⟩)] 93)).drew := ⟨_, rfl⟩
  rw [← hY] at hx
  have bY : Below w.heap.size w Y := by rw [hY]; exact ((Below.refl _ _).alloc (Nat.le_refl _) _).drew
  have bF : Below F w w5 := (bY.mono (by omega)).trans (hx.below (by omega) (by have := bY.size; omega))
  have bF' : Below F w w' := by rw [hw']; exact bF.setCell (p := ⟨F, 0, none⟩) (Nat.le_refl _) _
  -- a block elsewhere stays
  have hblk : ∀ b, b < w.heap.size → b ≠ F → (∀ g, rv.ownBlock = some g → b ≠ g) → w'.heap[b]? = w.heap[b]? := fun b hb hbF hbo => by
    rw [hw', Below.heap_setCell _ _ _ _ (by simp only; omega)]
    rw [Ext.block_old hx b (by have := bY.size; omega) (fun k hk e => hbo k hk e.symm)]
    exact bY.block b hb
  have hboxY : Y.heap[F]? = _ := (bY.block F hF).trans h.box
  have hbox5 : w5.heap[F]? = _ := (Ext.block_old hx F (by have := bY.size; omega) (fun k hk e => by have := (h.sl.lt k hk).1; omega)).trans hboxY
  have hall : ∀ q, Has (snocF f n p) (n + 1) q → w.heap[P q]? = some (.cells #[.int .i64 q, iv q] 95) ∧ F < P q ∧ (RdQ w0 (iv q) (cur q) ∧ 0 < (cur q).length) ∧ ∀ g, rv.ownBlock = some g → P q ≠ g := fun q hq => by
    rcases (snocF_has f n p q).1 hq with hq | rfl
    · obtain ⟨r1, r2, r3, r4⟩ := h.rest q hq
      exact ⟨r1, r2, ⟨r3, r4⟩, fun g hg => h.own g hg q hq⟩
    · exact ⟨hr.1, hr.2.1, hr.2.2, ho⟩
  refine ⟨rfl, rv', ⟨?_, ?_, fun g hg q hq => ?_, fun q hq => ?_, h.below.trans (bF'.mono h.big), h.big⟩, ⟨bF', hblk⟩, fun g hg => ?_⟩
  · rw [hw', heap_setCell_same w5 F 0 _ _ rv' hbox5]; rfl
  · rw [ptc_snoc, hw']
    exact sl_else hx.now _ _ (by simp)
  · obtain ⟨r1, r2, r3, r4⟩ := hall q hq
    have hlt : P q < w.heap.size := (Array.getElem?_eq_some_iff.1 r1).1
    rcases hx.alias with ⟨a, cap, e0, e1, _⟩ | hnew
    · refine r4 g ?_
      rw [e0]
      rw [e1] at hg
      rw [ownBlock_slice a n (n + 1) cap cap]
      exact hg
    · have := hnew g hg
      have := bY.size
      omega
  · obtain ⟨r1, r2, r3, r4⟩ := hall q hq
    exact ⟨(hblk (P q) (Array.getElem?_eq_some_iff.1 r1).1 (by omega) r4).trans r1, r2, r3.1, r3.2⟩
  · rcases hx.alias with ⟨a, cap, e0, e1, _⟩ | hnew
    · refine .inl ?_
      rw [e0]
      rw [e1] at hg
      rw [ownBlock_slice a n (n + 1) cap cap]
      exact hg
    · have := hnew g hg
      have := bY.size
      exact .inr (by omega)
end Go.Proofs.YtabeaehiidnbbaaDoor

namespace Go.Proofs.YtabeaehiidnbbaaDoor
open Go.RowKit Go.Lib Hp
set_option linter.unusedVariables false

theorem mPush_SR (k F : Nat) (W : World) : (method (k + 1) 88 (.pointer (some ⟨F, 0, none⟩)) "Push").run Tryd.prog W = .ok (117, .pointer (some ⟨F, 0, none⟩)) W := by kernel_rfl
theorem mLen_SR (k F : Nat) (W : World) : (method (k + 1) 88 (.pointer (some ⟨F, 0, none⟩)) "Len").run Tryd.prog W = .ok (38, .pointer (some ⟨F, 0, none⟩)) W := by kernel_rfl
theorem mPop_SR (k F : Nat) (W : World) : (method (k + 1) 88 (.pointer (some ⟨F, 0, none⟩)) "Pop").run Tryd.prog W = .ok (116, .pointer (some ⟨F, 0, none⟩)) W := by kernel_rfl
theorem flen_FrSR {w0 w : World} {F n : Nat} {P f : Nat → Nat} {rv : Value} {cur : Nat → List Rq} {iv : Nat → Value} (h : FrSR w0 w F P rv n f cur iv) :
    Calls Tryd.prog 38 #[.pointer (some ⟨F, 0, none⟩)] w fun e w' => e = .returned (.int .i64 n) ∧ w = w' := by
  obtain ⟨ra, rc, er⟩ := h.sl.slice
  subst er
  have c := Lib.cell_of_heap h.box 0
  exact flen_SR F n rc ra w (by simpa using c)

set_option maxHeartbeats 2000000 in
set_option maxRecDepth 100000 in
theorem hpush_FrSR {w0 w : World} {F n p : Nat} {P f : Nat → Nat} {rv : Value} {cur : Nat → List Rq} {iv : Nat → Value} (h : FrSR w0 w F P rv n f cur iv) (hn : n ≤ 100000)
    (hr : w.heap[P p]? = some (.cells #[.int .i64 p, iv p] 95) ∧ F < P p ∧ RdQ w0 (iv p) (cur p) ∧ 0 < (cur p).length) (ho : ∀ g, rv.ownBlock = some g → P p ≠ g) :
    Calls Tryd.prog 40 #[.iface 88 (.pointer (some ⟨F, 0, none⟩)), .iface 93 (.pointer (some ⟨P p, 0, none⟩))] w fun e w' => e = .returned (.tuple #[]) ∧ ∃ rv', FrSR w0 w' F P rv' (n + 1) (up (ltSR cur) (snocF f n p) n) cur iv ∧ Bk F rv w w' ∧ ∀ g, rv'.ownBlock = some g → rv.ownBlock = some g ∨ w.heap.size ≤ g := by
  have PU := Lib.hid (fpush_FrSR h (by omega) hr ho)
  have mP := fun k W => mPush_SR k F W
  have mL := fun k W => mLen_SR k F W
  obtain ⟨q, hq⟩ : ∃ q, q = P p := ⟨_, rfl⟩
  rw [← hq] at PU ⊢
  have hF : F ≤ w.heap.size := Nat.le_of_lt (Array.getElem?_eq_some_iff.1 h.box).1
  clear h hr ho hq
  go_enter Tryd.func40, Tryd.ntmps40
  go_wp2_with fail
  refine PU.out.mono ?_
  rintro e w1 ⟨rfl, rv', f1, b1, o1⟩
  have LN := Lib.hid (flen_FrSR f1)
  have UP := Lib.hid (up_FrSR f1 n (by omega) (by omega))
  have B1 := Lib.hid b1
  have O1 := Lib.hid o1
  clear f1 b1 PU o1
  go_wp2_with fail
  refine LN.out.mono ?_
  rintro e w2 ⟨rfl, rfl⟩
  go_wp2_with fail
  refine UP.out.mono ?_
  rintro e w3 ⟨rfl, f3, b3⟩
  go_wp2
  go_end0
  refine ⟨rfl, rv', f3, ⟨B1.out.b.trans b3.b, fun b h1 h2 h3 => (b3.k b (Nat.lt_of_lt_of_le h1 B1.out.b.size) h2 (fun g hg e => ?_)).trans (B1.out.k b h1 h2 h3)⟩, O1.out⟩
  rcases O1.out g hg with h | h
  · exact h3 g h e
  · omega
end Go.Proofs.YtabeaehiidnbbaaDoor
