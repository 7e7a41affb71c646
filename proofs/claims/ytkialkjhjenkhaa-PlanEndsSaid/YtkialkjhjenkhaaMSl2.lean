/- Slices made, and copied into, as lists of cells. No program's text. -/
import Derived.Test.YtkialkjhjenkhaaMSl
namespace Go.Proofs.Ytkialkjhjenkhaa
open Go.RowKit Go.Lib

section
variable {P : Program}
/-- 'make([]T, l, c)', one cell an element. -/
theorem run_make_sl (w : World) (t e : TypeId) (i : TypeInfo) (z : Value) (ht : P.underlying t = some (.slice e)) (hi : P.info? e = some i) (hz : i.zero = some z) (hs1 : i.size = 1)
    (kl kc : IntKind) (l c : Int) (h0 : 0 ≤ l) (hlc : l ≤ c) (hbytes : (i.bytes : Int) * c ≤ 281474976710656) (h63 : c ≤ 9223372036854775807) :
    ∃ w' xs, (Instr.makeSlice t (.int kl l) (.int kc c)).run P w = .ok (.slice (some ⟨w.heap.size, 0, none⟩) l.toNat c.toNat) w' ∧ Sl w' w.heap.size 1 (.slice (some ⟨w.heap.size, 0, none⟩) l.toNat c.toNat) l.toNat xs ∧ w.grownBy w' none := by
  have hr := run_make (P := P) w t e i z ht hi hz kl kc l c h0 hlc hbytes h63
  have hsz : (madeCells z.cells (c.toNat * i.size)).size = c.toNat := by rw [size_madeCells, hs1, Nat.mul_one]
  have hown := World.ownsRow_made (e := e) (size := 1) w (madeCells z.cells (c.toNat * i.size)) c.toNat (Nat.le_refl _) (by unfold maxLen; omega) (by rw [hsz, Nat.mul_one])
  have hs0 := Sl.of_owns hown
  refine ⟨_, (madeCells z.cells (c.toNat * i.size)).toList.take l.toNat, hr, ⟨?_, .inr ⟨w.heap.size, 0, c.toNat, rfl, Nat.le_refl _, by simp, by omega, by unfold maxLen; omega, ?_, ?_⟩⟩, World.grownBy_alloc w _ none⟩
  · rw [List.length_take, Array.length_toList, hsz]; omega
  · rcases hs0.2 with ⟨h, _⟩ | ⟨g', off', cap', he, _, _, _, _, hfree, _⟩
    · cases h
    · cases he
      exact hfree
  · intro j hj
    rw [cell_of_row _ _ (0 + j) _ _ _ (heap_alloc_new w _), Nat.zero_add, List.getElem?_take, if_pos (by omega)]
    simp

theorem wpList_make_sl (w : World) {ops : Array Oper} {rest : List Oper} {o : Oper} {a : Act} {Q : Exit → Act → World → Prop} (hgd : o.guard = none) (l c : Operand) (t : TypeId) (ho : o.op = Op.makeSlice t l c)
    (e : TypeId) (i : TypeInfo) (z : Value) (ht : P.underlying t = some (.slice e)) (hi : P.info? e = some i) (hz : i.zero = some z) (hs1 : i.size = 1) (hb1 : i.bytes = 1)
    (kl kc : IntKind) (L C : Int) (hl : a.eval l = .int kl L) (hc : a.eval c = .int kc C) (G n m : Nat) (hG : w.heap.size = G) (hL : L = (n : Int)) (hC : C = (m : Int)) (hlc : n ≤ m) (hbytes : m ≤ 140737488355328)
    (h : ∀ w' xs, Sl w' G 1 (.slice (some ⟨G, 0, none⟩) n m) n xs → w.grownBy w' none → G < w'.heap.size → wpList P ops Q rest (a.put o.dst (.slice (some ⟨G, 0, none⟩) n m)) w') : wpList P ops Q (o :: rest) a w := by
  subst hG; subst hL; subst hC
  refine wpList_plain hgd fun K hK => ?_
  obtain ⟨w', xs, hr, h2, h3⟩ := run_make_sl (P := P) w t e i z ht hi hz hs1 kl kc n m (by omega) (by omega) (by rw [hb1]; omega) (by omega)
  rw [Int.toNat_natCast, Int.toNat_natCast] at hr h2
  unfold Oper.wp
  simp [execOp, ho, hl, hc, hr, Result.andThen]
  exact hK _ _ (h w' xs h2 h3 (h2.lt _ rfl).2)

/-- 'copy(d, s)', as many elements in s as in d, one cell each. -/
theorem run_copy_sl (w : World) (dT sT ty elem : TypeId) (hu : P.underlying dT = some (.slice elem)) (hsz : (P.info? elem).map (·.size) = some 1)
    (base b2 g off n cap : Nat) (s : Value) (xs ys : List Value) (hd : Sl w base 1 (.slice (some ⟨g, off, none⟩) n cap) n xs) (hs : Sl w b2 1 s n ys) (h1 : ∀ v ∈ ys, v.oneCell' = true) :
    ∃ w', (Builtin.copy_ #[dT, sT] ty #[.slice (some ⟨g, off, none⟩) n cap, s]).run P w = .ok (goInt n) w' ∧ Sl w' base 1 (.slice (some ⟨g, off, none⟩) n cap) n ys ∧ w.grownBy w' (some g) := by
  have hyl : ys.length = n := by have := hs.1; omega
  rcases hs.2 with ⟨rfl, rfl⟩ | ⟨g2, off2, cap2, rfl, _, _, _, _, _, _⟩
  · have hy : ys = [] := List.eq_nil_of_length_eq_zero hyl
    subst hy
    have hr := run_copy_none (P := P) w dT sT ty elem (some ⟨g, off, none⟩) none 0 cap 0 0 hu hsz rfl
    have hx : xs = [] := List.eq_nil_of_length_eq_zero (by have := hd.1; omega)
    subst hx
    exact ⟨w, hr, hd, World.grownBy.refl _ _⟩
  · rcases hd.2 with ⟨h, _⟩ | ⟨g1, off1, cap1, he, hb1, hg1, hn1, hc1, hfree1, hcell1⟩
    · cases h
    cases he
    have hr := run_copy_cells (P := P) w dT sT ty elem g off n cap ⟨g2, off2, none⟩ n cap2 ys hu hsz (by rw [hyl]; exact (Nat.min_self n).symm) hs.cells
      (fun j hj => (hfree1 j (by omega)).1) (fun j hj => (hfree1 j (by omega)).2) h1
    rw [hyl] at hr
    refine ⟨_, hr, ⟨by omega, .inr ⟨g, off, cap, rfl, hb1, by rw [size_setCells]; exact hg1, hn1, hc1, fun j hj => ⟨?_, ?_⟩, fun j hj => ?_⟩⟩, grownBy_setCells g ys off w⟩
    · by_cases hj' : j < ys.length
      · rw [World.cell?_setCells_in g ys off w (fun i hi => (hfree1 i (by omega)).1) j hj']; rfl
      · rw [World.cell?_setCells_out g ys off w ⟨g, off + j, none⟩ (fun _ _ => by simp only; omega)]
        exact (hfree1 j hj).1
    · rw [World.frozen?_setCells]; exact (hfree1 j hj).2
    · rw [World.cell?_setCells_in g ys off w (fun i hi => (hfree1 i (by omega)).1) j (by omega), List.getElem?_eq_getElem (by omega)]

theorem wpList_copy_sl (w : World) {ops : Array Oper} {rest : List Oper} {o : Oper} {a : Act} {Q : Exit → Act → World → Prop} (hgd : o.guard = none) (d s : Operand) (dT sT : TypeId)
    (ho : o.op = .call { callee := .builtin .copy, args := #[d, s], argTypes := #[dT, sT] }) (elem : TypeId) (hu : P.underlying dT = some (.slice elem)) (hsz : (P.info? elem).map (·.size) = some 1)
    (base b2 g off n cap : Nat) (sv : Value) (xs ys : List Value) (hdv : a.eval d = .slice (some ⟨g, off, none⟩) n cap) (hsv : a.eval s = sv) (hd : Sl w base 1 (.slice (some ⟨g, off, none⟩) n cap) n xs) (hs : Sl w b2 1 sv n ys) (h1 : ∀ v ∈ ys, v.oneCell' = true)
    (h : ∀ w', Sl w' base 1 (.slice (some ⟨g, off, none⟩) n cap) n ys → w.grownBy w' (some g) → wpList P ops Q rest (a.put o.dst (goInt n)) w') : wpList P ops Q (o :: rest) a w := by
  refine wpList_plain hgd fun K hK => ?_
  obtain ⟨w', hr, h2, h3⟩ := run_copy_sl (P := P) w dT sT o.type elem hu hsz base b2 g off n cap sv xs ys hd hs h1
  unfold Oper.wp
  simp [execOp, ho, resolve, invoke, builtin, hdv, hsv, hr, Result.andThen]
  exact hK _ _ (h w' h2 h3)
end

theorem cb_one (l : List UInt8) : ∀ v ∈ cb l, v.oneCell' = true := by
  intro v hv
  simp only [cb, List.mem_map] at hv
  obtain ⟨b, _, rfl⟩ := hv
  rfl

/-- A new block of two cells, and what lies below the next one is as it was: its cells. -/
theorem box_at {w W : World} {x y : Value} {t : TypeId} (h : Below (w.heap.size + 1) (w.alloc (.cells #[x, y] t)) W) : W.cell? ⟨w.heap.size, 0, none⟩ = some x ∧ W.cell? ⟨w.heap.size, 1, none⟩ = some y := by
  have hblk := heap_alloc_new w (.cells #[x, y] t)
  constructor
  · rw [h.cell (p := ⟨w.heap.size, 0, none⟩) (by simp), cell_of_row _ _ 0 _ _ _ hblk]; rfl
  · rw [h.cell (p := ⟨w.heap.size, 1, none⟩) (by simp), cell_of_row _ _ 1 _ _ _ hblk]; rfl

theorem below_rowed {B : Nat} {a w w' : World} {row : Option Nat} (h : Below B a w) (hg : w.grownBy w' row) (hB : B ≤ a.heap.size) (hr : ∀ k, row = some k → B ≤ k) : Below B a w' :=
  h.grown hg (Nat.le_trans hB h.size) hr

end Go.Proofs.Ytkialkjhjenkhaa
