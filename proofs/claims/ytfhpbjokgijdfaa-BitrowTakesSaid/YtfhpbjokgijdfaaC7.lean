/- What layer 3's statements call: the fixed answers; things written. -/
import Derived.Test.YtfhpbjokgijdfaaC6
import Derived.Handy
namespace Go.Proofs.Ytfhpbjokgijdfaa
open Go.RowKit Go.Lib

theorem row_new (w : World) (t : TypeId) : RowV (w.heap.size + 1) w.heap.size (.slice none 0 0) [] (w.alloc (.cells #[.slice none 0 0, .int .i64 0] t)) := by
  have hblk := heap_alloc_new w (.cells #[.slice none 0 0, .int .i64 0] t)
  refine ⟨by omega, by simp, Sl.nil _ _ _, ?_, ?_, ?_, ?_⟩
  · rw [cell_of_row _ _ 0 _ _ _ hblk]; rfl
  · rw [cell_of_row _ _ 1 _ _ _ hblk]; rfl
  · simp only [World.frozen?, hblk]; rfl
  · simp only [World.frozen?, hblk]; rfl
theorem RowV.below {B r : Nat} {v : Value} {l : List Bool} {w w' : World} (h : RowV B r v l w) (k : Below w.heap.size w w') : RowV B r v l w' := by
  have hr : r < w.heap.size := Nat.lt_of_lt_of_le h.lt h.hB
  exact ⟨h.lt, Nat.le_trans h.hB k.size, h.bytes.on k, (k.cell (p := ⟨r, 0, none⟩) hr).trans h.c0, (k.cell (p := ⟨r, 1, none⟩) hr).trans h.len, (k.frozen (p := ⟨r, 0, none⟩) hr).trans h.f0, (k.frozen (p := ⟨r, 1, none⟩) hr).trans h.f1⟩
/-- What another block's owner does leaves a row as it is. -/
theorem RowV.other {B r e C : Nat} {v : Value} {l : List Bool} {w w' : World} (h : RowV B r v l w) (k : Keep C e w w') (hC : w.heap.size ≤ C) (he : e ≠ r) (hv : ∀ b, v.ownBlock = some b → b ≠ e) : RowV B r v l w' := by
  have hr : r < C := Nat.lt_of_lt_of_le (Nat.lt_of_lt_of_le h.lt h.hB) hC
  exact ⟨h.lt, Nat.le_trans h.hB k.size, h.bytes.keep k (fun b hb => ⟨Nat.lt_of_lt_of_le (h.bytes.lt b hb).2 hC, hv b hb⟩), (k.cell (p := ⟨r, 0, none⟩) hr (Ne.symm he)).trans h.c0, (k.cell (p := ⟨r, 1, none⟩) hr (Ne.symm he)).trans h.len, (k.frozen (p := ⟨r, 0, none⟩) hr (Ne.symm he)).trans h.f0, (k.frozen (p := ⟨r, 1, none⟩) hr (Ne.symm he)).trans h.f1⟩
/-- What a row's calls do to another slice. -/
theorem Chg.sl {B r base size n : Nat} {v v' x : Value} {w w' : World} {xs : List Value} (h : Chg B r v v' w w') (hs : Sl w base size x n xs) (hr : ∀ k, x.ownBlock = some k → k ≠ r ∧ v.ownBlock ≠ some k) : Sl w' base size x n xs :=
  hs.same h.keep.size fun k hk => h.mine k (hs.lt k hk).2 (hr k hk).1 (hr k hk).2

set_option maxRecDepth 100000 in
theorem bawake_any (w : World) : Calls Try.prog 15 #[] w fun e w' => e = .returned (.bool true) ∧ Below w.heap.size w w' := by
  have hT := bs_toList
  have hbs : (bs [188]).toList = [188] := bs_toList _
  have hpk : Bt.pack [true, false, true, true, true, true, false] = [188] := by decide +kernel
  have hn5 : Bt.number (ahead [188] 0 3) = 5 := by decide +kernel
  have hb3 : Bt.bitAt [188] 3 = true := by decide +kernel
  have hw9 : Lib.bitLen 300 = 9 := by decide +kernel
  have HP := Lib.hid hpk; have H5 := Lib.hid hn5; have H3 := Lib.hid hb3; have H9 := Lib.hid hw9
  clear hpk hn5 hb3 hw9
  have hrow := row_new w 25
  go_enter Try.func15, Try.ntmps15
  go_wp2_with fail
  refine (rbits_any (w.heap.size + 1) w.heap.size _ [] 5 3 _ hrow (by simp) (by decide) (by decide) (by decide)).mono ?_
  rintro e w1 ⟨rfl, v1, r1, k1⟩
  go_wp2_with fail
  refine (bit_any (w.heap.size + 1) w.heap.size _ _ true _ r1 (by decide +kernel)).mono ?_
  rintro e w2 ⟨rfl, v2, r2, k2⟩
  go_wp2_with fail
  refine (runary_any (w.heap.size + 1) w.heap.size _ _ 2 4 _ r2 (by decide +kernel) (by decide) (by decide) (by decide) (by decide)).mono ?_
  rintro e w3 ⟨rfl, v3, r3, k3⟩
  have hl : [] ++ Bt.bitsN 5 (min (max (3 : Int) 0) 64).toNat ++ [true] ++ Bt.unary 2 4 = [true, false, true, true, true, true, false] := by decide
  rw [hl] at r3
  have K3 := ((k1.trans k2).trans k3).keep
  have b3 : Below w.heap.size w w3 := below_keep ((Below.refl w.heap.size w).alloc (Nat.le_refl _) _) (K3.mono (by omega)) (Nat.le_refl _)
  clear r1 r2 k1 k2 k3 K3 hrow hl
  have T := fun W (h : RowV (w.heap.size + 1) w.heap.size v3 [true, false, true, true, true, true, false] W) => rtext_any _ _ _ _ W h
  rw [HP.out] at T
  have HT := Lib.hid T
  clear T
  go_wp2_with fail
  refine (HT.out _ r3).mono ?_
  rintro e w4 ⟨rfl, rfl⟩
  go_wp2_with fail
  refine (rlen_any _ _ _ _ _ r3).mono ?_
  rintro e w4 ⟨rfl, rfl⟩
  go_wp2_with fail
  refine (over_any [188] 7 _ (by decide) (by decide) (by decide)).mono ?_
  rintro e w4 ⟨rfl, e4, b4⟩
  have r4 := r3.below b4
  have B4 := below_step b3 b4
  have z3 := b3.size
  obtain ⟨E, hE⟩ : ∃ E, E = w3.heap.size := ⟨_, rfl⟩
  rw [← hE] at e4 ⊢
  have hEr : w.heap.size ≤ E := by omega
  rw [show min (max (7 : Int) 0).toNat (8 * ([188] : List UInt8).length) = 7 by decide] at e4
  clear hE b4 r3
  go_wp2_with fail
  refine (HT.out _ r4).mono ?_
  rintro e w5 ⟨rfl, rfl⟩
  go_wp2_with fail
  refine (rlen_any _ _ _ _ _ r4).mono ?_
  rintro e w5 ⟨rfl, rfl⟩
  go_wp2_with fail
  refine (ebits_ok E 0 7 3 [188] _ e4 (by decide) (by decide) (by decide)).mono ?_
  rintro e w5 ⟨rfl, e5, k5⟩
  rw [show (min (max (3 : Int) 0) 64).toNat = 3 by decide, H5.out]
  rw [show 0 + (min (max (3 : Int) 0) 64).toNat = 3 by decide] at e5
  go_wp2_with fail
  refine (ebit_ok E 3 7 [188] _ e5 (by decide)).mono ?_
  rw [H3.out]
  rintro e w6 ⟨rfl, e6, k6⟩
  go_wp2_with fail
  refine (eunary_ok E 4 7 2 7 4 [188] _ e6 (by decide) (by decide) (by decide +kernel) (by decide) (.inr (by decide +kernel))).mono ?_
  rintro e w7 ⟨rfl, e7, k7⟩
  go_wp2_with fail
  refine (left_any E 7 7 0 [188] _ e7).mono ?_
  rintro e w8 ⟨rfl, m, rfl⟩
  go_wp2_with fail
  refine (width_any 300 _ (by decide)).mono ?_
  rw [H9.out]
  rintro e w8 ⟨rfl, rfl⟩
  go_wp2
  go_ret
  have z4 := B4.size
  have z5 := k5.size
  have z6 := k6.size
  exact ⟨rfl, below_draw (below_keep (below_keep (below_keep B4 (k5.mono z4) hEr) (k6.mono (by omega)) hEr) (k7.mono (by omega)) hEr) m⟩

/-- A thing that is written or taken. -/
structure Th where
  k : Int
  n : Int
  m : Int
  v : Nat
  b : Bool
def Th.val (t : Th) : Value := .agg #[.int .i64 t.k, .int .i64 t.n, .int .i64 t.m, .int .u64 t.v, .bool t.b]
structure Th.Fits (t : Th) : Prop where
  k0 : -9223372036854775808 ≤ t.k
  k1 : t.k ≤ 9223372036854775807
  n0 : -9223372036854775808 ≤ t.n
  n1 : t.n ≤ 9223372036854775807
  m0 : -9223372036854775808 ≤ t.m
  m1 : t.m ≤ 9223372036854775807
  v1 : t.v < 18446744073709551616
/-- With numbers that aren't too great. -/
def Th.sm (t : Th) : Th := { t with n := min t.n 70, m := min t.m 30 }
theorem Th.Fits.sm {t : Th} (h : t.Fits) : t.sm.Fits := ⟨h.k0, h.k1, by have := h.n0; show _ ≤ min t.n 70; omega, by have := h.n1; show min t.n 70 ≤ _; omega, by have := h.m0; show _ ≤ min t.m 30; omega, by have := h.m1; show min t.m 30 ≤ _; omega, h.v1⟩
/-- Its bits. -/
def Th.bits (t : Th) : List Bool := if t.k = 1 then [t.b] else if t.k = 2 then Bt.bitsN t.v (min (max t.n 0) 64).toNat else if t.k = 3 then Bt.unary t.n t.m else []

set_option maxRecDepth 100000 in
theorem small_any (t : Th) (h : t.Fits) (w : World) : Calls Try.prog 17 #[t.val] w fun e w' => e = .returned t.sm.val ∧ Below w.heap.size w w' := by
  obtain ⟨k, n, m, v, b⟩ := t
  obtain ⟨n0, n1⟩ := And.intro h.n0 h.n1
  obtain ⟨m0, m1⟩ := And.intro h.m0 h.m1
  simp only at n0 n1 m0 m1
  show Calls Try.prog 17 #[.agg #[.int .i64 k, .int .i64 n, .int .i64 m, .int .u64 v, .bool b]] w fun e w' => e = .returned (.agg #[.int .i64 k, .int .i64 (min n 70), .int .i64 (min m 30), .int .u64 v, .bool b]) ∧ Below w.heap.size w w'
  go_enter Try.func17, Try.ntmps17
  go_wp2
  go_returns
  exact ⟨rfl, ((Below.refl _ _).alloc (Nat.le_refl _) _).alloc (by simp) _⟩

/-- Its bits are on the row, and the answer. -/
def Put (B r : Nat) (v : Value) (l b : List Bool) (w : World) (e : Ending) (w' : World) : Prop :=
  ∃ x, e = .returned x ∧ Sl w' w.heap.size 1 x b.length (bc b) ∧ Wr B r v (l ++ b) w w'
theorem wr_below {B r : Nat} {v : Value} {l : List Bool} {w w' w'' : World} (h : Wr B r v l w w') (k : Below w'.heap.size w' w'') : Wr B r v l w w'' := by
  obtain ⟨v', hv, hc⟩ := h
  have hs := hc.keep.size
  have hB : B ≤ w'.heap.size := hv.hB
  refine ⟨v', hv.below k, ⟨hc.keep.trans (Keep.of_below (k.mono hB)), fun i hi hr hne => (k.block i (by omega)).trans (hc.mine i hi hr hne), hc.fresh⟩⟩
theorem below_wr {B r : Nat} {v : Value} {l : List Bool} {w w' w'' : World} (k : Below w.heap.size w w') (hB : B ≤ w.heap.size) (h : Wr B r v l w' w'') : Wr B r v l w w'' := by
  obtain ⟨v', hv', hc⟩ := h
  have hs := k.size
  refine ⟨v', hv', ⟨(Keep.of_below (k.mono hB)).trans hc.keep, fun i hi hr hne => (hc.mine i (by omega) hr hne).trans (k.block i hi), ?_⟩⟩
  rcases hc.fresh with e | f
  · exact .inl e
  · exact .inr fun i hi => by have := f i hi; omega

set_option maxRecDepth 100000 in
theorem put_any (B r : Nat) (v : Value) (l : List Bool) (t : Th) (h : t.Fits) (hm : t.m ≤ 30) (w : World) (hrow : RowV B r v l w) (hl : l.length ≤ 900000) :
    Calls Try.prog 16 #[.pointer (some ⟨r, 0, none⟩), t.val] w (Put B r v l t.bits w) := by
  obtain ⟨k, n, m, u, b⟩ := t
  obtain ⟨n0, n1⟩ := And.intro h.n0 h.n1
  obtain ⟨m0, m1⟩ := And.intro h.m0 h.m1
  have u1 := h.v1
  simp only at n0 n1 m0 m1 u1 hm
  have hrlt := hrow.lt
  have hB := hrow.hB
  have hvlt := hrow.bytes.lt
  show Calls Try.prog 16 #[.pointer (some ⟨r, 0, none⟩), .agg #[.int .i64 k, .int .i64 n, .int .i64 m, .int .u64 u, .bool b]] w (Put B r v l (if k = 1 then [b] else if k = 2 then Bt.bitsN u (min (max n 0) 64).toNat else if k = 3 then Bt.unary n m else []) w)
  obtain ⟨box, hbox⟩ : ∃ box, box = Obj.cells #[.int .i64 k, .int .i64 n, .int .i64 m, .int .u64 u, .bool b] 32 := ⟨_, rfl⟩
  have hb0 : Below w.heap.size w (w.alloc box) := (Below.refl _ _).alloc (Nat.le_refl _) _
  have hrow0 := hrow.below hb0
  have hblk : (w.alloc box).heap[w.heap.size]? = some box := heap_alloc_new w box
  have key : ∀ w1, Chg B r v v w w1 → True := fun _ _ => trivial
  have hbx : ∀ v' w1, Chg B r v v' (w.alloc box) w1 → w1.heap[w.heap.size]? = some box := fun v' w1 hc =>
    (hc.mine w.heap.size (by simp) (by omega) (fun e => by have := (hvlt _ e).2; omega)).trans hblk
  have HX := Lib.hid hbx
  clear hbx key hblk
  by_cases h1 : k = 1
  · subst h1
    rw [if_pos rfl]
    subst hbox
    go_enter Try.func16, Try.ntmps16
    go_wp2_with fail
    refine (bit_any B r v l b _ hrow0 (by omega)).mono ?_
    rintro e w1 ⟨rfl, v1, hr1, hc1⟩
    have hx := HX.out v1 w1 hc1
    have c4 : w1.cell? ⟨w.heap.size, 4, none⟩ = some (.bool b) := by rw [cell_of_row _ _ 4 _ _ _ hx]; rfl
    have z1 := hc1.keep.size
    simp only [World.size_alloc] at z1
    clear hx
    go_wp2_with fail
    go_ret
    refine ⟨_, rfl, Sl.lit w1 w.heap.size 1 1 #[.bool b] _ (by omega) (by decide) rfl, ?_⟩
    exact wr_below (below_wr hb0 hB ⟨v1, hr1, hc1⟩) ((Below.refl _ _).alloc (Nat.le_refl _) _)
  · rw [if_neg h1]
    by_cases h2 : k = 2
    · subst h2
      rw [if_pos rfl]
      subst hbox
      go_enter Try.func16, Try.ntmps16
      go_wp2_with fail
      refine (rbits_any B r v l u n _ hrow0 hl u1 n0 n1).mono ?_
      rintro e w1 ⟨rfl, v1, hr1, hc1⟩
      have hx := HX.out v1 w1 hc1
      have c3 : w1.cell? ⟨w.heap.size, 3, none⟩ = some (.int .u64 u) := by rw [cell_of_row _ _ 3 _ _ _ hx]; rfl
      have c1 : w1.cell? ⟨w.heap.size, 1, none⟩ = some (.int .i64 n) := by rw [cell_of_row _ _ 1 _ _ _ hx]; rfl
      have z1 := hc1.keep.size
      simp only [World.size_alloc] at z1
      clear hx
      go_wp2_with fail
      refine (rbits03_any u n _ u1 n0 n1).mono ?_
      rintro e w2 ⟨x, rfl, hs2, b2⟩
      go_wp2_with fail
      go_ret
      exact ⟨_, rfl, hs2.mono (by omega), wr_below (below_wr hb0 hB ⟨v1, hr1, hc1⟩) b2⟩
    · rw [if_neg h2]
      by_cases h3 : k = 3
      · subst h3
        rw [if_pos rfl]
        subst hbox
        go_enter Try.func16, Try.ntmps16
        go_wp2_with fail
        refine (runary_any B r v l n m _ hrow0 hl (by omega) n0 n1 m0).mono ?_
        rintro e w1 ⟨rfl, v1, hr1, hc1⟩
        have hx := HX.out v1 w1 hc1
        have c3 : w1.cell? ⟨w.heap.size, 2, none⟩ = some (.int .i64 m) := by rw [cell_of_row _ _ 2 _ _ _ hx]; rfl
        have c1 : w1.cell? ⟨w.heap.size, 1, none⟩ = some (.int .i64 n) := by rw [cell_of_row _ _ 1 _ _ _ hx]; rfl
        have z1 := hc1.keep.size
        simp only [World.size_alloc] at z1
        clear hx
        go_wp2_with fail
        refine (runary03_any n m _ (by omega) n0 n1 m0).mono ?_
        rintro e w2 ⟨x, rfl, hs2, b2⟩
        go_wp2_with fail
        go_ret
        exact ⟨_, rfl, hs2.mono (by omega), wr_below (below_wr hb0 hB ⟨v1, hr1, hc1⟩) b2⟩
      · rw [if_neg h3]
        subst hbox
        have d1 : (k == 1) = false := by simp; omega
        have d2 : (k == 2) = false := by simp; omega
        have d3 : (k == 3) = false := by simp; omega
        go_enter Try.func16, Try.ntmps16
        go_wp2_with fail
        go_ret
        refine ⟨_, rfl, Sl.nil _ _ _, ?_⟩
        rw [List.append_nil]
        exact below_wr hb0 hB ⟨v, hrow0, Chg.refl _ _ _ _⟩
end Go.Proofs.Ytfhpbjokgijdfaa
