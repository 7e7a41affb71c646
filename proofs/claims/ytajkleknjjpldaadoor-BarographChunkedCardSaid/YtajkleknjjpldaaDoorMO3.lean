/- Layer 7's rows and trails: what a chunk is written to. -/
import Derived.Test.YtajkleknjjpldaaDoorMO2
namespace Go.Proofs.YtajkleknjjpldaaDoor
open Go.RowKit Go.Lib

theorem RowV.grow {B r : Nat} {v : Value} {l : List Bool} {w w' : World} (h : RowV B r v l w) (k : Below w.heap.size w w') : RowV B r v l w' := by
  have hr : r < w.heap.size := Nat.lt_of_lt_of_le h.lt h.hB
  exact ⟨h.lt, Nat.le_trans h.hB k.size, h.bytes.on k, (k.cell (p := ⟨r, 0, none⟩) hr).trans h.c0, (k.cell (p := ⟨r, 1, none⟩) hr).trans h.len, (k.frozen (p := ⟨r, 0, none⟩) hr).trans h.f0, (k.frozen (p := ⟨r, 1, none⟩) hr).trans h.f1⟩
theorem RowV.set {B r g o : Nat} {v : Value} {l : List Bool} {w : World} (h : RowV B r v l w) (u : Value) (ha : g < B) (hr : g ≠ r) : RowV B r v l (w.setCell ⟨g, o, none⟩ u) :=
  ⟨h.lt, by simpa [World.setCell] using h.hB, sl_else h.bytes _ u ha, (cell_setCell_other _ _ _ _ _ (.inl (Ne.symm hr))).trans h.c0, (cell_setCell_other _ _ _ _ _ (.inl (Ne.symm hr))).trans h.len, (frozen_setCell _ _ _ _ _).trans h.f0, (frozen_setCell _ _ _ _ _).trans h.f1⟩

/-- A trail's cells. -/
def trc (T : Xo.Tr) : List Value := [.int .i64 T.T, .int .u64 T.V, .int .i64 T.st, .int .i64 T.a, .int .i64 T.z]
/-- The tables of this layer, ahead of block B. -/
structure Tabs (B : Nat) (w : World) : Prop where
  gw : 0 < B
  gd : 3 < B
  hB : B ≤ w.heap.size
  wd : ∀ j, j < 5 → w.cell? ⟨0, j, none⟩ = some (.int .i64 (Xo.wd j))
  db : TabAt 3 Lib.deBruijn64tab w
theorem Tabs.turn {B : Nat} {S : Nat → Prop} {w w' : World} (h : Tabs B w) (k : Turn S w w') (hS : ∀ k, S k → B ≤ k) : Tabs B w' :=
  ⟨h.gw, h.gd, Nat.le_trans h.hB k.size,
   fun j hj => (k.cell (p := ⟨_, j, none⟩) (Nat.lt_of_lt_of_le h.gw h.hB) (fun e => by have := hS _ e; have := h.gw; simp only at *; omega)).trans (h.wd j hj),
   fun j hj => (k.cell (p := ⟨_, j, none⟩) (Nat.lt_of_lt_of_le h.gd h.hB) (fun e => by have := hS _ e; have := h.gd; simp only at *; omega)).trans (h.db j hj)⟩
theorem Tabs.below {B C : Nat} {w w' : World} (h : Tabs B w) (k : Below C w w') (hC : B ≤ C) : Tabs B w' :=
  ⟨h.gw, h.gd, Nat.le_trans h.hB k.size, fun j hj => (k.cell (p := ⟨_, j, none⟩) (Nat.lt_of_lt_of_le h.gw hC)).trans (h.wd j hj), fun j hj => (k.cell (p := ⟨_, j, none⟩) (Nat.lt_of_lt_of_le h.gd hC)).trans (h.db j hj)⟩
theorem Tabs.less {B C : Nat} {w : World} (h : Tabs B w) (hC : B ≤ C) (hw : C ≤ w.heap.size) : Tabs C w := ⟨Nat.lt_of_lt_of_le h.gw hC, Nat.lt_of_lt_of_le h.gd hC, hw, h.wd, h.db⟩

/-- Which blocks the writing of a chunk turns. -/
def PS (B r t : Nat) (k : Nat) : Prop := k = r ∨ k = t ∨ B ≤ k
/-- A row in block r, a trail in block t, both ahead of block B; the tables ahead of block C. -/
structure Pt (C B r t : Nat) (v : Value) (l : List Bool) (T : Xo.Tr) (w : World) : Prop where
  row : RowV B r v l w
  tab : Tabs C w
  tB : t < B
  tr : t ≠ r
  Cr : C ≤ r
  Ct : C ≤ t
  c : ∀ j, j < 5 → w.cell? ⟨t, j, none⟩ = (trc T)[j]?
  f : ∀ j, j < 5 → w.frozen? ⟨t, j, none⟩ = false
section
variable {C B r t : Nat} {v : Value} {l : List Bool} {T : Xo.Tr} {w w' : World}
theorem Pt.c0 (h : Pt C B r t v l T w) : w.cell? ⟨t, 0, none⟩ = some (.int .i64 T.T) := h.c 0 (by omega)
theorem Pt.c1 (h : Pt C B r t v l T w) : w.cell? ⟨t, 1, none⟩ = some (.int .u64 T.V) := h.c 1 (by omega)
theorem Pt.c2 (h : Pt C B r t v l T w) : w.cell? ⟨t, 2, none⟩ = some (.int .i64 T.st) := h.c 2 (by omega)
theorem Pt.c3 (h : Pt C B r t v l T w) : w.cell? ⟨t, 3, none⟩ = some (.int .i64 T.a) := h.c 3 (by omega)
theorem Pt.c4 (h : Pt C B r t v l T w) : w.cell? ⟨t, 4, none⟩ = some (.int .i64 T.z) := h.c 4 (by omega)
theorem Pt.lt (h : Pt C B r t v l T w) : t < w.heap.size := Nat.lt_of_lt_of_le h.tB h.row.hB
theorem Pt.CB (h : Pt C B r t v l T w) : C ≤ B := by have := h.Ct; have := h.tB; omega
theorem Pt.grow (h : Pt C B r t v l T w) (k : Below w.heap.size w w') : Pt C B r t v l T w' :=
  ⟨h.row.grow k, h.tab.below k h.tab.hB, h.tB, h.tr, h.Cr, h.Ct, fun j hj => (k.cell (p := ⟨t, j, none⟩) h.lt).trans (h.c j hj), fun j hj => (k.frozen (p := ⟨t, j, none⟩) h.lt).trans (h.f j hj)⟩
theorem Pt.store (h : Pt C B r t v l T w) (o : Nat) (u : Value) (T' : Xo.Tr) (ho : o < 5) (hT : trc T' = (trc T).set o u) : Pt C B r t v l T' (w.setCell ⟨t, o, none⟩ u) := by
  refine ⟨h.row.set u h.tB h.tr, ?_, h.tB, h.tr, h.Cr, h.Ct, fun j hj => ?_, fun j hj => (frozen_setCell _ _ _ _ _).trans (h.f j hj)⟩
  · exact h.tab.turn ((Turn.refl (fun k => k = t) w).setCell _ _ rfl) (fun k hk => by have := h.Ct; omega)
  · rw [hT, List.getElem?_set]
    by_cases e : o = j
    · subst e
      rw [if_pos rfl, if_pos (by simp [trc]; omega)]
      exact cell_setCell_same _ _ _ _ (by rw [h.c o ho]; simp [trc]; omega)
    · rw [if_neg e]
      exact (cell_setCell_other _ _ _ _ _ (.inr (Ne.symm e))).trans (h.c j hj)
end
/-- What the writing of a chunk turns, in full. -/
structure Cg (B r t : Nat) (v v' : Value) (w w' : World) : Prop where
  turn : Turn (PS B r t) w w'
  mine : ∀ k, k < w.heap.size → k ≠ r → k ≠ t → v.ownBlock ≠ some k → w'.heap[k]? = w.heap[k]?
  fresh : v'.ownBlock = v.ownBlock ∨ ∀ k, v'.ownBlock = some k → w.heap.size ≤ k
theorem Cg.trans {B r t : Nat} {v v1 v2 : Value} {w w1 w2 : World} (h : Cg B r t v v1 w w1) (k : Cg B r t v1 v2 w1 w2) : Cg B r t v v2 w w2 := by
  have hs := h.turn.size
  refine ⟨h.turn.trans k.turn, fun i hi hr ht hv => ?_, ?_⟩
  · rw [k.mine i (by omega) hr ht ?_, h.mine i hi hr ht hv]
    rcases h.fresh with e | f
    · rw [e]; exact hv
    · intro e; have := f i e; omega
  · rcases k.fresh with e | f
    · rw [e]
      exact h.fresh
    · exact .inr fun i hi => by have := f i hi; omega
theorem Cg.of_below {B r t : Nat} {v : Value} {w w' : World} (h : Below w.heap.size w w') : Cg B r t v v w w' := ⟨Turn.of_below h, fun k hk _ _ _ => h.block k hk, .inl rfl⟩
theorem Cg.store {B r t o : Nat} {v : Value} {w : World} (u : Value) : Cg B r t v v w (w.setCell ⟨t, o, none⟩ u) :=
  ⟨(Turn.refl _ w).setCell _ _ (.inr (.inl rfl)), fun k _ _ ht _ => Below.heap_setCell w ⟨t, o, none⟩ u k ht, .inl rfl⟩
theorem Cg.cell {B r t : Nat} {v v' : Value} {w w' : World} (h : Cg B r t v v' w w') {p : Addr} (hp : p.block < w.heap.size) (hr : p.block ≠ r) (ht : p.block ≠ t) (hv : v.ownBlock ≠ some p.block) : w'.cell? p = w.cell? p :=
  World.cell?_of_block (w := w) (h.mine p.block hp hr ht hv)
/-- The row holds l now, the trail T. -/
def Pw (C B r t : Nat) (v : Value) (l : List Bool) (T : Xo.Tr) (w w' : World) : Prop := ∃ v', Pt C B r t v' l T w' ∧ Cg B r t v v' w w'
theorem Pw.trans {C B r t : Nat} {v v1 : Value} {l : List Bool} {T : Xo.Tr} {w w1 w2 : World} (h : Cg B r t v v1 w w1) (k : Pw C B r t v1 l T w1 w2) : Pw C B r t v l T w w2 := by
  obtain ⟨v, h2, c2⟩ := k
  exact ⟨v, h2, h.trans c2⟩
theorem Pt.wr {C B r t : Nat} {v : Value} {l l' : List Bool} {T : Xo.Tr} {w w' : World} (h : Pt C B r t v l T w) (k : Wr B r v l' w w') : Pw C B r t v l' T w w' := by
  obtain ⟨v', h2, k⟩ := k
  have hk : Turn (PS B r t) w w' := ⟨k.keep.os, k.keep.tape, k.keep.output, k.keep.size, fun i _ hS => k.keep.block i (Nat.lt_of_not_le fun hh => hS (.inr (.inr hh))) fun e => hS (.inl e)⟩
  have hS : ∀ k, PS B r t k → C ≤ k := by
    intro k hk
    have := h.Cr; have := h.Ct; have := h.CB
    rcases hk with hk | hk | hk <;> omega
  exact ⟨v', ⟨h2, h.tab.turn hk hS, h.tB, h.tr, h.Cr, h.Ct, fun j hj => (k.keep.cell (p := ⟨t, j, none⟩) h.tB h.tr).trans (h.c j hj), fun j hj => (k.keep.frozen (p := ⟨t, j, none⟩) h.tB h.tr).trans (h.f j hj)⟩, hk, fun i hi hr _ hv => k.mine i hi hr hv, k.fresh⟩

section
variable {C B r t : Nat} {v : Value} {l : List Bool} {T : Xo.Tr} {w : World}
theorem pbit (h : Pt C B r t v l T w) (hl : l.length ≤ 900000) (b : Bool) :
    Calls Tryd.prog 56 #[.pointer (some ⟨r, 0, none⟩), .bool b] w fun e w' => e = .returned (.tuple #[]) ∧ Pw C B r t v (l ++ [b]) T w w' :=
  (bit_any B r v l b w h.row (by omega)).mono fun _ _ hx => ⟨hx.1, h.wr hx.2⟩
theorem pbits (h : Pt C B r t v l T w) (hl : l.length ≤ 900000) (x k : Nat) (X K : Int) (hX : X = (x : Int)) (hK : K = (k : Int)) (hx : x < 18446744073709551616) (hk : k ≤ 64) :
    Calls Tryd.prog 40 #[.pointer (some ⟨r, 0, none⟩), .int .u64 X, .int .i64 K] w fun e w' => e = .returned (.tuple #[]) ∧ Pw C B r t v (l ++ Bt.bitsN x k) T w w' := by
  subst hX; subst hK
  have := rbits_any B r v l x (k : Int) w h.row hl hx (by omega) (by omega)
  rw [show (min (max (k : Int) 0) 64).toNat = k by omega] at this
  exact this.mono fun _ _ hx => ⟨hx.1, h.wr hx.2⟩
theorem punary (h : Pt C B r t v l T w) (hl : l.length ≤ 900000) (k : Nat) (hk : k ≤ 4) :
    Calls Tryd.prog 59 #[.pointer (some ⟨r, 0, none⟩), .int .i64 k, .int .i64 4] w fun e w' => e = .returned (.tuple #[]) ∧ Pw C B r t v (l ++ Bt.unary k 4) T w w' :=
  (runary_any B r v l k 4 w h.row hl (by omega) (by omega) (by omega) (by omega)).mono fun _ _ hx => ⟨hx.1, h.wr hx.2⟩
end

set_option maxRecDepth 100000 in
theorem wput_any (C B r t : Nat) (v : Value) (l : List Bool) (tT : Int) (tV : Nat) (ts : Int) (ta tz x : Nat) (w : World) (h : Pt C B r t v l ⟨tT, tV, ts, ta, tz⟩ w) (hx : x < 18446744073709551616) (haz : ta + tz ≤ 64) (hl : l.length ≤ 800000) :
    Calls Tryd.prog 42 #[.pointer (some ⟨t, 3, none⟩), .pointer (some ⟨r, 0, none⟩), .int .u64 x] w fun e w' => e = .returned (.tuple #[]) ∧ Pw C B r t v (l ++ Xo.winBits (ta, tz) x) ⟨tT, tV, ts, (Xo.winAfter (ta, tz) x).1, (Xo.winAfter (ta, tz) x).2⟩ w w' := by
  by_cases h0 : x = 0
  · subst h0
    have e1 : Xo.winBits (ta, tz) 0 = [false] := rfl
    have e2 : Xo.winAfter (ta, tz) 0 = (ta, tz) := rfl
    rw [e1, e2]
    clear e1 e2
    have PB := Lib.hid (pbit h (by omega) false)
    go_enter Tryd.func42, Tryd.ntmps42
    go_wp2_with (go_at_call 56; refine PB.out.mono ?_; rintro e w1 ⟨rfl, hp⟩)
    exact bodyPost_ret (results_none rfl _ _ _) rfl ⟨rfl, hp⟩
  · have hn : ((x : Int) == 0) = false := by simp; omega
    have PB := Lib.hid (show Calls Tryd.prog 56 #[.pointer (some ⟨r, 0, none⟩), .bool ((x : Int) != 0)] w (fun e w' => e = .returned (.tuple #[]) ∧ Pw C B r t v (l ++ [true]) ⟨tT, tV, ts, ta, tz⟩ w w') by
      rw [show ((x : Int) != 0) = true by simp; omega]
      exact pbit h (by omega) true)
    have hown := Xo.own_bd x hx h0
    have hown1 := Xo.bitLen_64 x hx
    have N1 := Lib.hid (fun W hT hg => narrowest_any x W hx h0 hT hg)
    obtain ⟨oa, oz, ho⟩ : ∃ oa oz, Xo.own x = (oa, oz) := ⟨_, _, rfl⟩
    rw [ho] at N1 hown
    simp only at N1 hown
    have V1 := Lib.hid (fun W => covers_any ta tz oa oz W haz hown.2.2.1)
    cases hc : Xo.covers (ta, tz) (oa, oz)
    · rw [hc] at V1
      have e1 : l ++ Xo.winBits (ta, tz) x = l ++ [true] ++ [true] ++ Bt.bitsN oa 6 ++ Bt.bitsN (oz - 1) 6 ++ Bt.bitsN (x / 2 ^ (64 - oa - oz)) oz := by
        unfold Xo.winBits
        rw [if_neg h0, ho, if_neg (by simp [hc])]
        simp
      have e2 : Xo.winAfter (ta, tz) x = (oa, oz) := by unfold Xo.winAfter; rw [if_neg h0, ho, if_neg (by simp [hc])]
      rw [e1, e2]
      clear e1 e2 hown1 ho
      obtain ⟨hoa, hoz, hoz2, _⟩ := hown
      obtain ⟨p, hp⟩ : ∃ p : Nat, p = 64 - oa - oz := ⟨_, rfl⟩
      have BH := Lib.hid (fun W => show Calls Tryd.prog 62 #[.agg #[.int .i64 oa, .int .i64 oz]] W (fun e w' => e = .returned (.int .i64 p) ∧ w' = W.alloc (.cells #[.int .i64 oa, .int .i64 oz] 70)) by rw [hp]; exact behind_any oa oz W hoz2)
      rw [← hp]
      have hp64 : p ≤ 64 := by omega
      clear hp
      go_enter Tryd.func42, Tryd.ntmps42
      go_wp2_with (first
        | (go_at_call 56; refine PB.out.mono ?_; rintro e w1 ⟨rfl, v1, P1, u1⟩)
        | (go_at_call 60; refine (N1.out _ P1.tab.db (Nat.lt_of_lt_of_le P1.tab.gd P1.tab.hB)).mono ?_; rintro e w2 ⟨rfl, b2⟩; have P2 := P1.grow b2; have q3 := P2.c3; have q4 := P2.c4; have ht := P2.lt))
      have K : ∀ W, Below (w2.alloc (.cells #[.int .i64 oa, .int .i64 oz] 70)).heap.size (w2.alloc (.cells #[.int .i64 oa, .int .i64 oz] 70)) W → W.cell? ⟨t, 3, none⟩ = some (.int .i64 ta) ∧ W.cell? ⟨t, 4, none⟩ = some (.int .i64 tz) ∧ W.cell? ⟨w2.heap.size, 0, none⟩ = some (.int .i64 oa) ∧ W.cell? ⟨w2.heap.size, 1, none⟩ = some (.int .i64 oz) := by
        intro W b
        refine ⟨(b.cell (p := ⟨t, 3, none⟩) (by simp; omega)).trans ?_, (b.cell (p := ⟨t, 4, none⟩) (by simp; omega)).trans ?_, (b.cell (p := ⟨w2.heap.size, 0, none⟩) (by simp)).trans ?_, (b.cell (p := ⟨w2.heap.size, 1, none⟩) (by simp)).trans ?_⟩ <;> simp [go_sem, q3, q4, ht]
      go_region_held3 (fun W => W.cell? ⟨t, 3, none⟩ = some (.int .i64 ta) ∧ W.cell? ⟨t, 4, none⟩ = some (.int .i64 tz) ∧ W.cell? ⟨w2.heap.size, 0, none⟩ = some (.int .i64 oa) ∧ W.cell? ⟨w2.heap.size, 1, none⟩ = some (.int .i64 oz))
        (first | exact K _ (Below.refl _ _) | exact K _ (Below.refl _ _).drew | exact K _ b3 | exact K _ ((Below.refl _ _).drew.trans b3) | assumption)
        ((go_at_call 61; refine (V1.out _).mono ?_; rintro e w3 ⟨rfl, b3⟩))
      have b23 : Below w2.heap.size w2 w3 := by
        first
          | exact ((Below.refl _ _).alloc (Nat.le_refl _) _).trans (b3.mono (by simp))
          | exact ((Below.refl _ _).alloc (Nat.le_refl _) _).drew.trans (b3.mono (by simp))
      have P3 := P2.grow b23
      have u3 : Cg B r t v v1 w w3 := (u1.trans (Cg.of_below b2)).trans (Cg.of_below b23)
      obtain ⟨_, _, n0, n1⟩ := K w3 (by first | exact b3 | exact (Below.refl _ _).drew.trans b3)
      have hn2 : w2.heap.size < w3.heap.size := by have := b3.size; simp at this; omega
      have hnt : w2.heap.size ≠ t := by omega
      have hnr : w2.heap.size ≠ r := by have := P2.row.lt; have := P2.row.hB; omega
      have hno : v1.ownBlock ≠ some w2.heap.size := fun e => by have := (P2.row.bytes.lt _ e).2; omega
      have PB2 := Lib.hid (pbit P3 (by simp; omega) true)
      have XS : ((x : Int) / 2 ^ p) = ((x / 2 ^ p : Nat) : Int) := by simp
      have hxp : x / 2 ^ p < 18446744073709551616 := Nat.lt_of_le_of_lt (Nat.div_le_self _ _) hx
      have htz : oz ≤ 64 := by omega
      have U3 := Lib.hid u3
      have H3 := Lib.hid (show 3 < 5 by decide)
      have H4 := Lib.hid (show 4 < 5 by decide)
      clear K u3 b23 b2 b3 P1 P2 u1 V1 N1 PB q3 q4
      go_wp2_with (go_at_call 56; refine PB2.out.mono ?_; rintro e w4 ⟨rfl, v4, P4, u4⟩; have g3 := P4.f 3 H3.out; have g4 := P4.f 4 H4.out; have q3 := P4.c3; have q4 := P4.c4; have ht := P4.lt; have m0 := (u4.cell (p := ⟨w2.heap.size, 0, none⟩) hn2 hnr hnt hno).trans n0; have m1 := (u4.cell (p := ⟨w2.heap.size, 1, none⟩) hn2 hnr hnt hno).trans n1)
      have P5 := (P4.store 3 (.int .i64 oa) ⟨tT, tV, ts, oa, tz⟩ (by omega) rfl).store 4 (.int .i64 oz) ⟨tT, tV, ts, oa, oz⟩ (by omega) rfl
      have U5 := Lib.hid ((U3.out.trans u4).trans ((Cg.store (B := B) (r := r) (t := t) (v := v4) (o := 3) (w := w4) (.int .i64 oa)).trans (Cg.store (o := 4) (.int .i64 oz))))
      have L6 : (l ++ [true] ++ [true]).length ≤ 900000 := by simp; omega
      have L7 : (l ++ [true] ++ [true] ++ Bt.bitsN oa 6).length ≤ 900000 := by simp [Bt.bitsN_length]; omega
      have L8 : (l ++ [true] ++ [true] ++ Bt.bitsN oa 6 ++ Bt.bitsN (oz - 1) 6).length ≤ 900000 := by simp [Bt.bitsN_length]; omega
      have PA := Lib.hid (pbits P5 L6 oa 6 oa 6 rfl rfl (by omega) (by omega))
      have PZ := Lib.hid (fun v' W (h : Pt C B r t v' (l ++ [true] ++ [true] ++ Bt.bitsN oa 6) ⟨tT, tV, ts, oa, oz⟩ W) => pbits h L7 (oz - 1) 6 ((oz : Int) - 1) 6 (by omega) rfl (by omega) (by omega))
      have PB3 := Lib.hid (fun v' W (h : Pt C B r t v' (l ++ [true] ++ [true] ++ Bt.bitsN oa 6 ++ Bt.bitsN (oz - 1) 6) ⟨tT, tV, ts, oa, oz⟩ W) => pbits h L8 (x / 2 ^ p) oz _ _ XS rfl hxp htz)
      clear L6 L7 L8 U3 u4 P4 P3 P5 XS hxp q3 q4 g3 g4 m0 m1 n0 n1 hn2 hnt hnr hno PB2
      go_wp2_with (first
        | (go_at_call 40; first
          | ((with_reducible refine PA.out.mono ?_); rintro e w6 ⟨rfl, v6, P6, u6⟩; have q4 := P6.c4; have ht := P6.lt)
          | ((with_reducible refine (PZ.out _ _ P6).mono ?_); rintro e w7 ⟨rfl, v7, P7, u7⟩; have r3 := P7.c3; have r4 := P7.c4; have ht := P7.lt)))
      have K : ∀ W, Below w7.heap.size w7 W → W.cell? ⟨t, 3, none⟩ = some (.int .i64 oa) ∧ W.cell? ⟨t, 4, none⟩ = some (.int .i64 oz) := fun W b => ⟨(b.cell (p := ⟨t, 3, none⟩) ht).trans r3, (b.cell (p := ⟨t, 4, none⟩) ht).trans r4⟩
      have U6 := Lib.hid u6
      have U7 := Lib.hid u7
      clear u6 u7 q4
      go_region_held3 (fun W => W.cell? ⟨t, 3, none⟩ = some (.int .i64 oa) ∧ W.cell? ⟨t, 4, none⟩ = some (.int .i64 oz))
        (first | exact K _ (Below.refl _ _) | exact K _ (Below.refl _ _).drew | exact K _ ((Below.refl _ _).alloc (Nat.le_refl _) _) | exact K _ ((Below.refl _ _).alloc (Nat.le_refl _) _).drew | exact ⟨(P9.c3), (P9.c4)⟩ | assumption)
        ((first
          | (go_at_call 62; refine (BH.out _).mono ?_; rintro e w8 ⟨rfl, rfl⟩)
          | (go_at_call 40; refine (PB3.out v7 _ (P7.grow ((Below.refl _ _).drew.alloc (Nat.le_refl _) _))).mono ?_; rintro e w9 ⟨rfl, v9, P9, u9⟩)))
      go_end0
      have b78 : ∀ o, Below w7.heap.size w7 ((w7.drew).alloc o) := fun o => (Below.refl _ _).drew.alloc (Nat.le_refl _) o
      exact ⟨rfl, v9, P9, (((U5.out.trans U6.out).trans U7.out).trans (Cg.of_below (b78 _))).trans u9⟩
    · rw [hc] at V1
      have e1 : l ++ Xo.winBits (ta, tz) x = l ++ [true] ++ [false] ++ Bt.bitsN (x / 2 ^ (64 - ta - tz)) tz := by
        unfold Xo.winBits
        rw [if_neg h0, ho, if_pos hc]
        simp
      have e2 : Xo.winAfter (ta, tz) x = (ta, tz) := by unfold Xo.winAfter; rw [if_neg h0, ho, if_pos hc]
      rw [e1, e2]
      clear e1 e2 hown1 ho
      obtain ⟨p, hp⟩ : ∃ p : Nat, p = 64 - ta - tz := ⟨_, rfl⟩
      have BH := Lib.hid (fun W => show Calls Tryd.prog 62 #[.agg #[.int .i64 ta, .int .i64 tz]] W (fun e w' => e = .returned (.int .i64 p) ∧ w' = W.alloc (.cells #[.int .i64 ta, .int .i64 tz] 70)) by rw [hp]; exact behind_any ta tz W haz)
      rw [← hp]
      have hp64 : p ≤ 64 := by omega
      clear hp
      go_enter Tryd.func42, Tryd.ntmps42
      go_wp2_with (first
        | (go_at_call 56; refine PB.out.mono ?_; rintro e w1 ⟨rfl, v1, P1, u1⟩)
        | (go_at_call 60; refine (N1.out _ P1.tab.db (Nat.lt_of_lt_of_le P1.tab.gd P1.tab.hB)).mono ?_; rintro e w2 ⟨rfl, b2⟩; have P2 := P1.grow b2; have q3 := P2.c3; have q4 := P2.c4; have ht := P2.lt))
      have K : ∀ W, Below (w2.alloc (.cells #[.int .i64 oa, .int .i64 oz] 70)).heap.size (w2.alloc (.cells #[.int .i64 oa, .int .i64 oz] 70)) W → W.cell? ⟨t, 3, none⟩ = some (.int .i64 ta) ∧ W.cell? ⟨t, 4, none⟩ = some (.int .i64 tz) ∧ W.cell? ⟨w2.heap.size, 0, none⟩ = some (.int .i64 oa) ∧ W.cell? ⟨w2.heap.size, 1, none⟩ = some (.int .i64 oz) := by
        intro W b
        refine ⟨(b.cell (p := ⟨t, 3, none⟩) (by simp; omega)).trans ?_, (b.cell (p := ⟨t, 4, none⟩) (by simp; omega)).trans ?_, (b.cell (p := ⟨w2.heap.size, 0, none⟩) (by simp)).trans ?_, (b.cell (p := ⟨w2.heap.size, 1, none⟩) (by simp)).trans ?_⟩ <;> simp [go_sem, q3, q4, ht]
      go_region_held3 (fun W => W.cell? ⟨t, 3, none⟩ = some (.int .i64 ta) ∧ W.cell? ⟨t, 4, none⟩ = some (.int .i64 tz) ∧ W.cell? ⟨w2.heap.size, 0, none⟩ = some (.int .i64 oa) ∧ W.cell? ⟨w2.heap.size, 1, none⟩ = some (.int .i64 oz))
        (first | exact K _ (Below.refl _ _) | exact K _ (Below.refl _ _).drew | exact K _ b3 | exact K _ ((Below.refl _ _).drew.trans b3) | assumption)
        ((go_at_call 61; refine (V1.out _).mono ?_; rintro e w3 ⟨rfl, b3⟩))
      have b23 : Below w2.heap.size w2 w3 := by
        first
          | exact ((Below.refl _ _).alloc (Nat.le_refl _) _).trans (b3.mono (by simp))
          | exact ((Below.refl _ _).alloc (Nat.le_refl _) _).drew.trans (b3.mono (by simp))
      have P3 := P2.grow b23
      have u3 : Cg B r t v v1 w w3 := (u1.trans (Cg.of_below b2)).trans (Cg.of_below b23)
      have PB2 := Lib.hid (pbit P3 (by simp; omega) false)
      have XS : ((x : Int) / 2 ^ p) = ((x / 2 ^ p : Nat) : Int) := by simp
      have hxp : x / 2 ^ p < 18446744073709551616 := Nat.lt_of_le_of_lt (Nat.div_le_self _ _) hx
      have htz : tz ≤ 64 := by omega
      have LL : (l ++ [true] ++ [false]).length ≤ 900000 := by simp; omega
      have PB3 := Lib.hid (fun v' W (h : Pt C B r t v' (l ++ [true] ++ [false]) ⟨tT, tV, ts, ta, tz⟩ W) => pbits h LL (x / 2 ^ p) tz _ _ XS rfl hxp htz)
      have U3 := Lib.hid u3
      clear K u3 b23 b2 b3 P1 P2 u1 XS hxp LL V1 N1 PB q3 q4
      go_wp2_with (go_at_call 56; refine PB2.out.mono ?_; rintro e w4 ⟨rfl, v4, P4, u4⟩; have q3 := P4.c3; have q4 := P4.c4; have ht := P4.lt)
      have K : ∀ W, Below w4.heap.size w4 W → W.cell? ⟨t, 3, none⟩ = some (.int .i64 ta) ∧ W.cell? ⟨t, 4, none⟩ = some (.int .i64 tz) := fun W b => ⟨(b.cell (p := ⟨t, 3, none⟩) ht).trans q3, (b.cell (p := ⟨t, 4, none⟩) ht).trans q4⟩
      have U4 := Lib.hid u4
      clear u4
      go_region_held3 (fun W => W.cell? ⟨t, 3, none⟩ = some (.int .i64 ta) ∧ W.cell? ⟨t, 4, none⟩ = some (.int .i64 tz))
        (first | exact K _ (Below.refl _ _) | exact K _ (Below.refl _ _).drew | exact K _ ((Below.refl _ _).alloc (Nat.le_refl _) _) | exact K _ ((Below.refl _ _).alloc (Nat.le_refl _) _).drew | exact ⟨(P5.c3), (P5.c4)⟩ | assumption)
        ((first
          | (go_at_call 62; refine (BH.out _).mono ?_; rintro e w5 ⟨rfl, rfl⟩)
          | (go_at_call 40; refine (PB3.out v4 _ (P4.grow ((Below.refl _ _).drew.alloc (Nat.le_refl _) _))).mono ?_; rintro e w6 ⟨rfl, v5, P5, u5⟩)))
      go_end0
      have b45 : ∀ o, Below w4.heap.size w4 ((w4.drew).alloc o) := fun o => (Below.refl _ _).drew.alloc (Nat.le_refl _) o
      exact ⟨rfl, v5, P5, ((U3.out.trans U4.out).trans (Cg.of_below (b45 _))).trans u5⟩
end Go.Proofs.YtajkleknjjpldaaDoor
