/- Layer 14: the library's CompactFunc over samples, walked. -/
import Derived.Test.YtfckgcckpfklaaaGreatDoorMAW
import Derived.Test.YtfckgcckpfklaaaGreatDoorMAX
import Derived.Lib.SliceRun
namespace Go.Proofs.YtfckgcckpfklaaaGreatDoor
open Go.RowKit Go.Lib
set_option linter.unusedVariables false

theorem compFrom_snoc (x y : Sp) : ∀ (m : List Sp) (t : Int), compFrom t (m ++ [x] ++ [y]) = compFrom t (m ++ [x]) ++ (if x.t = y.t then [] else [y])
  | [], t => by
    simp only [List.nil_append, List.cons_append, compFrom]
    by_cases h1 : t = x.t
    · rw [if_pos h1, if_pos h1, h1]
      by_cases h2 : x.t = y.t <;> simp [h2]
    · rw [if_neg h1, if_neg h1]
      by_cases h2 : x.t = y.t <;> simp [h2]
  | z :: m, t => by
    simp only [List.cons_append, compFrom]
    by_cases h1 : t = z.t
    · rw [if_pos h1, if_pos h1]; exact compFrom_snoc x y m t
    · rw [if_neg h1, if_neg h1, compFrom_snoc x y m z.t]; rfl
theorem compS_snoc (x y : Sp) (m : List Sp) : compS (m ++ [x] ++ [y]) = compS (m ++ [x]) ++ (if x.t = y.t then [] else [y]) := by
  cases m with
  | nil => simp only [List.nil_append, List.cons_append, compS, compFrom]
  | cons z m => simp only [List.cons_append, compS]; rw [compFrom_snoc x y m z.t]
theorem compS_succ (l : List Sp) (k : Nat) (x y : Sp) (hx : l[k + 1]? = some x) (hy : l[k]? = some y) : compS (l.take (k + 1 + 1)) = if x.t = y.t then compS (l.take (k + 1)) else compS (l.take (k + 1)) ++ [x] := by
  rw [List.take_add_one (i := k + 1), hx, List.take_add_one (i := k), hy]
  show compS (l.take k ++ [y] ++ [x]) = if x.t = y.t then compS (l.take k ++ [y]) else compS (l.take k ++ [y]) ++ [x]
  rw [compS_snoc]
  by_cases h : x.t = y.t
  · simp [h]
  · rw [if_neg h, if_neg (fun e => h e.symm)]
theorem compS_one (l : List Sp) : compS (l.take 1) = l.take 1 := by
  cases l with
  | nil => rfl
  | cons x l => simp [compS, compFrom]

theorem sl_cellS {w : World} {base g off n cap : Nat} {l : List Sp} (h : Sl w base 2 (.slice (some ⟨g, off, none⟩) n cap) n (spc l)) (j : Nat) (x : Sp) (hj : l[j]? = some x) : w.cell? ⟨g, off + j * 2, none⟩ = some (.int .i64 x.t) ∧ w.cell? ⟨g, off + j * 2 + 1, none⟩ = some (.int .u64 x.v) := by
  obtain ⟨h0, h1⟩ := spc_at l j x hj
  have c0 := h.cells (j * 2) _ h0
  have c1 := h.cells (j * 2 + 1) _ h1
  rw [Addr.add_lit] at c0 c1
  exact ⟨c0, by rw [Nat.add_assoc]; exact c1⟩
theorem sl_froz14 {w : World} {base size g off n cap : Nat} {xs : List Value} (h : Sl w base size (.slice (some ⟨g, off, none⟩) n cap) n xs) (j : Nat) (hj : j < n * size) : w.frozen? ⟨g, off + j, none⟩ = false := sl_free14 h j hj
theorem spc_setAt : ∀ (l : List Sp) (k : Nat) (x : Sp), ((spc l).set (k * 2) (.int .i64 x.t)).set (k * 2 + 1) (.int .u64 x.v) = spc (l.set k x)
  | [], k, x => by simp [spc]
  | y :: l, 0, x => rfl
  | y :: l, k + 1, x => by
    have ih := spc_setAt l k x
    rw [show (k + 1) * 2 = k * 2 + 1 + 1 by omega]
    show (([Value.int .i64 y.t, .int .u64 y.v] ++ spc l).set (k * 2 + 1 + 1) _).set (k * 2 + 1 + 1 + 1) _ = _
    simp only [List.cons_append, List.nil_append, List.set_cons_succ, List.set]
    rw [ih]
    rfl
theorem sl_setS {w : World} {base g off n cap : Nat} {l : List Sp} (h : Sl w base 2 (.slice (some ⟨g, off, none⟩) n cap) n (spc l)) (k : Nat) (x : Sp) (hk : k < n) : Sl ((w.setCell ⟨g, off + k * 2, none⟩ (.int .i64 x.t)).setCell ⟨g, off + k * 2 + 1, none⟩ (.int .u64 x.v)) base 2 (.slice (some ⟨g, off, none⟩) n cap) n (spc (l.set k x)) := by
  have h1 := sl_put14 h (.int .i64 x.t) (show k * 2 < n * 2 by omega)
  have h2 := sl_put14 h1 (.int .u64 x.v) (show k * 2 + 1 < n * 2 by omega)
  rw [spc_setAt] at h2
  rw [Nat.add_assoc]
  exact h2
theorem sl_cutS {w : World} {base g off n cap m : Nat} {l : List Sp} (h : Sl w base 2 (.slice (some ⟨g, off, none⟩) n cap) n (spc l)) (hm : m ≤ n) : Sl w base 2 (.slice (some ⟨g, off, none⟩) m cap) m (spc (l.take m)) := by
  have hl : l.length = n := by have := h.1; rw [spc_len] at this; omega
  rcases h.2 with ⟨h0, _⟩ | ⟨g', off', cap', he, hb, hg, hnc, hcm, hfree, hcell⟩
  · cases h0
  · cases he
    refine ⟨by rw [spc_len, List.length_take]; omega, .inr ⟨g, off, cap, rfl, hb, hg, by omega, hcm, hfree, fun j hj => ?_⟩⟩
    rw [hcell j (by omega)]
    have e : spc l = spc (l.take m) ++ spc (l.drop m) := by rw [← spc_append, List.take_append_drop]
    rw [e, List.getElem?_append_left (by rw [spc_len, List.length_take]; omega)]
theorem take_setS (e : List Sp) (K : Nat) (x : Sp) (h : K < e.length) : (e.set K x).take (K + 1) = e.take K ++ [x] := by
  rw [List.take_add_one, List.getElem?_set_self h, List.take_set_of_le (Nat.le_refl _)]; rfl
theorem run_tailS (g off n cap k : Nat) (hk : k < n) (hn : n ≤ cap) (W : World) : (Instr.slice 41 (.slice (some ⟨g, off, none⟩) n cap) (some (.int .i64 (k : Int))) none none).run Tryz.prog W = .ok (.slice (some ⟨g, off + k * 2, none⟩) (n - k) (cap - k)) W := by
  have hu := run_underlying Tryz.underlying41
  have hz := Tryz.sizeOf34
  have h1 : (k : Int) ≤ n := by omega
  have h4 : ¬ cap = k := by omega
  simp [Instr.slice, Instr.sliceBounds, go_sem, hu, hz, Addr.add, h1, h4]
  all_goals omega

theorem zero_cellsS (n : Nat) : ((Builtin.zeroCells (Value.agg #[.int .i64 0, .int .u64 0]).cells n).toList).length = n * 2 ∧ ∀ v ∈ (Builtin.zeroCells (Value.agg #[.int .i64 0, .int .u64 0]).cells n).toList, v.oneCell' = true := by
  have hc : (Value.agg #[.int .i64 0, .int .u64 0]).cells = #[.int .i64 0, .int .u64 0] := rfl
  rw [hc]
  refine ⟨by rw [Array.length_toList, size_zeroCells]; rfl, fun v hv => ?_⟩
  simp only [Builtin.zeroCells, Array.toList_map, List.mem_map] at hv
  obtain ⟨i, _, rfl⟩ := hv
  have h2 : i % 2 < 2 := Nat.mod_lt _ (by decide)
  show (#[Value.int .i64 0, .int .u64 0][i % 2]!).oneCell' = true
  rcases (show i % 2 = 0 ∨ i % 2 = 1 by omega) with h | h <;> rw [h] <;> rfl
theorem run_clear2 {P : Program} (w : World) (t e ty : TypeId) (ht : P.underlying t = some (.slice e)) (hv : ∀ w, (zeroValue e).run P w = .ok (.agg #[.int .i64 0, .int .u64 0]) w) (b o n c : Nat) (hn : 0 < n)
    (hc : ∀ j, j < n * 2 → (w.cell? ⟨b, o + j, none⟩).isSome = true) (hf : ∀ j, j < n * 2 → w.frozen? ⟨b, o + j, none⟩ = false) :
    (Builtin.clear_ #[t] ty #[.slice (some ⟨b, o, none⟩) n c]).run P w = .ok (.tuple #[]) (w.setCells b o (Builtin.zeroCells (Value.agg #[.int .i64 0, .int .u64 0]).cells n).toList) := by
  obtain ⟨z1, z2⟩ := zero_cellsS n
  obtain ⟨Z, hZ⟩ : ∃ Z, Z = (Builtin.zeroCells (Value.agg #[.int .i64 0, .int .u64 0]).cells n).toList := ⟨_, rfl⟩
  rw [← hZ] at z1 z2 ⊢
  have hst := run_storeCells_cells (P := P) b o Z 0 w (by rw [z1]; simpa using hc) (by rw [z1]; simpa using hf) z2
  simp only [Nat.add_zero] at hst
  obtain ⟨m, rfl⟩ : ∃ m, n = m + 1 := ⟨n - 1, by omega⟩
  simp [Builtin.clear_, run_underlying ht, hv, ← hZ, hst]

theorem samet_any (x y : Sp) (w : World) : Calls Tryz.prog 78 #[.agg #[.int .i64 x.t, .int .u64 x.v], .agg #[.int .i64 y.t, .int .u64 y.v]] w fun e w' => e = .returned (.bool (x.t == y.t)) ∧ Below w.heap.size w w' := by
  obtain ⟨xt, xv⟩ := x
  obtain ⟨yt, yv⟩ := y
  go_enter Tryz.func78, Tryz.ntmps78
  go_wp2
  go_ret
  exact ⟨rfl, ((Below.refl _ _).alloc (Nat.le_refl _) _).alloc (by simp) _⟩

set_option maxHeartbeats 4000000 in
set_option maxRecDepth 100000 in
theorem compf_any (v : Value) (l : List Sp) (base : Nat) (w : World) (h : Sl w base 2 v l.length (spc l)) (hl : l.length ≤ 1000000) (hB : base ≤ w.heap.size) :
    Calls Tryz.prog 75 #[v, .func (.func 78) #[] #[]] w fun e w' => ∃ v', e = .returned v' ∧ Sl w' base 2 v' (compS l).length (spc (compS l)) ∧ Below base w w' := by
  have zv := Tryz.zeroValue34
  have zs := Tryz.sizeOf34
  obtain ⟨va, cap, rfl⟩ := h.slice
  obtain ⟨n, hn⟩ : ∃ n, n = l.length := ⟨_, rfl⟩
  rw [← hn] at h hl ⊢
  have HN := Lib.hid hn
  have HH := Lib.hid h
  by_cases h2 : n < 2
  · have h2' : (n : Int) < 2 := by omega
    have HF := Lib.hid (show compS l = l by
      have : l = l.take 1 := (List.take_of_length_le (by omega)).symm
      rw [this, compS_one])
    clear h hn h2
    go_enter Tryz.func75, Tryz.ntmps75
    go_wp2
    go_ret
    exact ⟨_, rfl, by rw [HF.out, ← HN.out]; exact HH.out, Below.refl _ _⟩
  · have h2' : ¬ (n : Int) < 2 := by omega
    obtain ⟨g, off, he, hbg, hgw, hnc, hcm⟩ : ∃ g off, va = some ⟨g, off, none⟩ ∧ base ≤ g ∧ g < w.heap.size ∧ n ≤ cap ∧ cap ≤ maxLen := by
      rcases h.2 with ⟨_, h0⟩ | ⟨g, off, cap', he, hb, hg, hnc, hcm, _, _⟩
      · omega
      · cases he; exact ⟨g, off, rfl, hb, hg, hnc, hcm⟩
    subst he
    have hcm63 : cap ≤ 9223372036854775807 := by unfold maxLen at hcm; exact hcm
    have HG := Lib.hid hgw
    have HBG := Lib.hid hbg
    clear h hn h2 hgw hbg hcm
    go_enter Tryz.func75, Tryz.ntmps75
    go_wp2_with fail
    go_loopw [5] (fun k' wr => ∃ (k : Nat), k' = .int .i64 ((k : Int) + 1) ∧ k + 1 ≤ n ∧ Hid (compS (l.take (k + 1)) = l.take (k + 1)) ∧ Sl wr base 2 (.slice (some ⟨g, off, none⟩) n cap) n (spc l) ∧ Below base w wr) (fun k' _ => n - (RowKit.intOf k').toNat)
    case atStart => exact ⟨0, rfl, by omega, compS_one l, HH.out, Below.refl _ _⟩
    case round =>
      obtain ⟨W0, rfl⟩ : ∃ W0, W0 = wr := ⟨_, rfl⟩
      obtain ⟨k, rfl, hk, hc, hs, hb⟩ := hrel
      have HS := Lib.hid hs; have HB := Lib.hid hb; have HCK := Lib.hid hc.out
      clear hb hc
      by_cases hlt : k + 1 < n
      · obtain ⟨x, hx⟩ : ∃ x, l[k + 1]? = some x := ⟨l[k + 1]'(by have := HN.out; omega), List.getElem?_eq_getElem (by have := HN.out; omega)⟩
        obtain ⟨y, hy⟩ : ∃ y, l[k]? = some y := ⟨l[k]'(by have := HN.out; omega), List.getElem?_eq_getElem (by have := HN.out; omega)⟩
        have HST := Lib.hid (compS_succ l k x y hx hy)
        have i1 : (k : Int) + 1 < n := by omega
        have i2 : (0 : Int) ≤ (k : Int) + 1 := by omega
        have i3 : (k : Int) < n := by omega
        have i4 : (0 : Int) ≤ k := by omega
        have i5 : ((k : Int) + 1).toNat = k + 1 := by omega
        have wk : IntKind.i64.wrap ((k : Int) + 1 - 1) = (k : Int) := by rw [show (k : Int) + 1 - 1 = k by omega]; exact IntWalk.i64_in _ (by omega)
        have wk2 : IntKind.i64.wrap (k : Int) = (k : Int) := IntWalk.i64_in _ (by omega)
        have CB := Lib.hid (fun W => samet_any x y W)
        have FX := Lib.hid (fun W (bb : Below W0.heap.size W0 W) => show W.cell? ⟨g, off + (k + 1) * 2, none⟩ = some (.int .i64 x.t) ∧ W.cell? ⟨g, off + (k + 1) * 2 + 1, none⟩ = some (.int .u64 x.v) ∧ W.cell? ⟨g, off + k * 2, none⟩ = some (.int .i64 y.t) ∧ W.cell? ⟨g, off + k * 2 + 1, none⟩ = some (.int .u64 y.v) from ⟨(sl_cellS (HS.out.on bb) (k + 1) x hx).1, (sl_cellS (HS.out.on bb) (k + 1) x hx).2, sl_cellS (HS.out.on bb) k y hy⟩)
        obtain ⟨xt, hxt⟩ : ∃ xt, xt = x.t := ⟨_, rfl⟩
        obtain ⟨xv, hxv⟩ : ∃ xv, xv = x.v := ⟨_, rfl⟩
        obtain ⟨yt, hyt⟩ : ∃ yt, yt = y.t := ⟨_, rfl⟩
        obtain ⟨yv, hyv⟩ : ∃ yv, yv = y.v := ⟨_, rfl⟩
        rw [← hxt, ← hxv, ← hyt, ← hyv] at FX CB
        rw [← hxt, ← hyt] at HST
        obtain ⟨ca, hca⟩ : ∃ ca, ca = (xt == yt) := ⟨_, rfl⟩
        rw [← hca] at CB
        have HCA := Lib.hid hca
        clear hca
        have HX := Lib.hid hx
        have B0 := Below.refl W0.heap.size W0
        obtain ⟨c0, c1, c2, c3⟩ := FX.out _ B0
        clear hs hx hy hxt hxv hyt hyv
        go_upto_region 6 with fail
        have BQ := B0.drew
        go_region_held3 (fun W => W.cell? ⟨g, off + (k + 1) * 2, none⟩ = some (.int .i64 xt) ∧ W.cell? ⟨g, off + (k + 1) * 2 + 1, none⟩ = some (.int .u64 xv) ∧ W.cell? ⟨g, off + k * 2, none⟩ = some (.int .i64 yt) ∧ W.cell? ⟨g, off + k * 2 + 1, none⟩ = some (.int .u64 yv))
          (first | (refine FX.out _ ?_; assumption) | assumption | fail)
          (first | (go_at_call 78; ((with_reducible refine (CB.out _).mono ?_)); rintro e w2 ⟨rfl, b2⟩; have B2 : Below W0.heap.size W0 w2 := BQ.trans (b2.mono BQ.size)) | fail)
        have S2 := Lib.hid (HS.out.on B2)
        have HB2 := Lib.hid (HB.out.trans (B2.mono (by have := HB.out.size; omega)))
        clear B2 b2 BQ B0 CB FX
        cases ca
        case true =>
          have hxy : xt = yt := by have := HCA.out; simpa using this.symm
          have HST2 := Lib.hid (show compS (l.take (k + 1 + 1)) = l.take (k + 1) by rw [HST.out, if_pos hxy]; exact HCK.out)
          have hsl := run_tailS g off n cap (k + 1) hlt hnc
          rw [show ((k + 1 : Nat) : Int) = (k : Int) + 1 by omega] at hsl
          obtain ⟨m, hm⟩ : ∃ m, m = n - (k + 1) := ⟨_, rfl⟩
          rw [← hm] at hsl
          have hmn : m + (k + 1) = n := by omega
          have R0 := Lib.hid (show (l.take (k + 1)).length = k + 1 by rw [List.length_take]; have := HN.out; omega)
          clear hm HST HCK hxy HS c0 c1 c2 c3
          go_wp2_with fail
          go_loopw [5, 7] (fun K' q' wr => ∃ (K q : Nat) (e : List Sp), K' = .int .i64 (K : Int) ∧ q' = .int .i64 ((q : Int) + 1) ∧ q + 1 ≤ m ∧ K ≤ k + 1 + q ∧ Hid (e.take K = compS (l.take (k + 1 + q + 1))) ∧ Hid (e.length = n) ∧ Hid (∀ j, k + 1 + q ≤ j → e[j]? = l[j]?) ∧ Sl wr base 2 (.slice (some ⟨g, off, none⟩) n cap) n (spc e) ∧ Below base w wr) (fun _ q' _ => m - (RowKit.intOf q').toNat)
          case atStart => exact ⟨k + 1, 0, l, by simp, rfl, by omega, by omega, HST2.out.symm, HN.out.symm, fun _ _ => rfl, S2.out, HB2.out⟩
          case round =>
            clear S2 HB HST2 HB2
            obtain ⟨W1, rfl⟩ : ∃ W1, W1 = wr := ⟨_, rfl⟩
            obtain ⟨K, q, e, rfl, rfl, hq, hK, htk, hel, hof, hs, hb⟩ := hrel
            have HS := Lib.hid hs; have HB := Lib.hid hb; have HTK := Lib.hid htk.out; have HEL := Lib.hid hel.out; have HOF := Lib.hid hof.out
            clear hb htk hel hof
            by_cases hqt : q + 1 < m
            · obtain ⟨x', hx'⟩ : ∃ x, l[k + 1 + q + 1]? = some x := ⟨l[k + 1 + q + 1]'(by have := HN.out; omega), List.getElem?_eq_getElem (by have := HN.out; omega)⟩
              obtain ⟨y', hy'⟩ : ∃ y, l[k + 1 + q]? = some y := ⟨l[k + 1 + q]'(by have := HN.out; omega), List.getElem?_eq_getElem (by have := HN.out; omega)⟩
              have HST := Lib.hid (compS_succ l (k + 1 + q) x' y' hx' hy')
              have j1 : (q : Int) + 1 < m := by omega
              have j2 : (0 : Int) ≤ (q : Int) + 1 := by omega
              have j3 : (q : Int) < m := by omega
              have j4 : (0 : Int) ≤ q := by omega
              have j5 : ((q : Int) + 1).toNat = q + 1 := by omega
              have wq : IntKind.i64.wrap ((q : Int) + 1 - 1) = (q : Int) := by rw [show (q : Int) + 1 - 1 = q by omega]; exact IntWalk.i64_in _ (by omega)
              have wq2 : IntKind.i64.wrap (q : Int) = (q : Int) := IntWalk.i64_in _ (by omega)
              have CB := Lib.hid (fun W => samet_any x' y' W)
              have FX := Lib.hid (fun W (bb : Below W1.heap.size W1 W) => show W.cell? ⟨g, off + (k + 1) * 2 + (q + 1) * 2, none⟩ = some (.int .i64 x'.t) ∧ W.cell? ⟨g, off + (k + 1) * 2 + (q + 1) * 2 + 1, none⟩ = some (.int .u64 x'.v) ∧ W.cell? ⟨g, off + (k + 1) * 2 + q * 2, none⟩ = some (.int .i64 y'.t) ∧ W.cell? ⟨g, off + (k + 1) * 2 + q * 2 + 1, none⟩ = some (.int .u64 y'.v) from by
                have a := sl_cellS (HS.out.on bb) (k + 1 + q + 1) x' ((HOF.out _ (by omega)).trans hx')
                have b := sl_cellS (HS.out.on bb) (k + 1 + q) y' ((HOF.out _ (by omega)).trans hy')
                rw [show off + (k + 1 + q + 1) * 2 = off + (k + 1) * 2 + (q + 1) * 2 by omega] at a
                rw [show off + (k + 1 + q) * 2 = off + (k + 1) * 2 + q * 2 by omega] at b
                exact ⟨a.1, a.2, b.1, b.2⟩)
              obtain ⟨xt', hxt⟩ : ∃ xt, xt = x'.t := ⟨_, rfl⟩
              obtain ⟨xv', hxv⟩ : ∃ xv, xv = x'.v := ⟨_, rfl⟩
              obtain ⟨yt', hyt⟩ : ∃ yt, yt = y'.t := ⟨_, rfl⟩
              obtain ⟨yv', hyv⟩ : ∃ yv, yv = y'.v := ⟨_, rfl⟩
              rw [← hxt, ← hxv, ← hyt, ← hyv] at FX CB
              rw [← hxt, ← hyt] at HST
              obtain ⟨cb, hcb⟩ : ∃ cb, cb = (xt' == yt') := ⟨_, rfl⟩
              rw [← hcb] at CB
              have HCB := Lib.hid hcb
              clear hcb
              have HXT := Lib.hid hxt; have HXV := Lib.hid hxv
              have B0 := Below.refl W1.heap.size W1
              obtain ⟨c0, c1, c2, c3⟩ := FX.out _ B0
              clear hs hx' hy' hxt hxv hyt hyv
              go_upto_region 11 with fail
              have BQ := B0.drew
              go_region_held3 (fun W => W.cell? ⟨g, off + (k + 1) * 2 + (q + 1) * 2, none⟩ = some (.int .i64 xt') ∧ W.cell? ⟨g, off + (k + 1) * 2 + (q + 1) * 2 + 1, none⟩ = some (.int .u64 xv') ∧ W.cell? ⟨g, off + (k + 1) * 2 + q * 2, none⟩ = some (.int .i64 yt') ∧ W.cell? ⟨g, off + (k + 1) * 2 + q * 2 + 1, none⟩ = some (.int .u64 yv'))
                (first | (refine FX.out _ ?_; assumption) | assumption | fail)
                (first | (go_at_call 78; ((with_reducible refine (CB.out _).mono ?_)); rintro e w2 ⟨rfl, b2⟩; have B2 : Below W1.heap.size W1 w2 := BQ.trans (b2.mono BQ.size)) | fail)
              have S2 := Lib.hid (HS.out.on B2)
              have HB2 := Lib.hid (HB.out.trans (B2.mono (by have := HB.out.size; omega)))
              obtain ⟨d0, d1, _, _⟩ := FX.out _ B2
              clear B2 b2 BQ B0 CB FX c0 c1 c2 c3
              cases cb
              case true =>
                have hxy : xt' = yt' := by have := HCB.out; simpa using this.symm
                have HST2 := Lib.hid (show e.take K = compS (l.take (k + 1 + (q + 1) + 1)) by rw [show k + 1 + (q + 1) + 1 = k + 1 + q + 1 + 1 by omega, HST.out, if_pos hxy]; exact HTK.out)
                clear HST hxy HTK
                go_wp2
                exact ⟨⟨K, q + 1, e, rfl, by simp, by omega, by omega, HST2.out, HEL.out, fun j hj => HOF.out j (by omega), S2.out, HB2.out⟩, by simp [RowKit.intOf]; omega⟩
              case false =>
                have hxy : ¬ xt' = yt' := by have := HCB.out; simpa using this.symm
                have hKn : K < n := by omega
                have HST2 := Lib.hid (show (e.set K x').take (K + 1) = compS (l.take (k + 1 + (q + 1) + 1)) by rw [show k + 1 + (q + 1) + 1 = k + 1 + q + 1 + 1 by omega, HST.out, if_neg hxy, ← HTK.out]; exact take_setS e K x' (by have := HEL.out; omega))
                have HOF2 := Lib.hid (show ∀ j, k + 1 + (q + 1) ≤ j → (e.set K x')[j]? = l[j]? from fun j hj => by rw [List.getElem?_set_ne (by omega)]; exact HOF.out j (by omega))
                have HEL2 := Lib.hid (show (e.set K x').length = n by rw [List.length_set]; exact HEL.out)
                have S3 := Lib.hid (sl_setS S2.out K x' hKn)
                rw [← HXT.out, ← HXV.out] at S3
                obtain ⟨z, hz⟩ : ∃ z, e[K]? = some z := ⟨e[K]'(by have := HEL.out; omega), List.getElem?_eq_getElem (by have := HEL.out; omega)⟩
                obtain ⟨cK, cK1⟩ := sl_cellS S2.out K z hz
                have fK := sl_froz14 S2.out (K * 2) (by omega)
                have fK1 := sl_froz14 S2.out (K * 2 + 1) (by omega)
                rw [← Nat.add_assoc] at fK1
                have k1 : (K : Int) < n := by omega
                have k2 : (0 : Int) ≤ K := by omega
                clear HST hxy HTK hz
                go_wp2
                exact ⟨⟨K + 1, q + 1, e.set K x', by simp, by simp, by omega, by omega, HST2.out, HEL2.out, HOF2.out, S3.out, (HB2.out.setCell HBG.out _).setCell HBG.out _⟩, by simp [RowKit.intOf]; omega⟩
            · have hil2 : ¬ (q : Int) + 1 < m := by omega
              have hKn : K < n := by omega
              have hp : k + 1 + q + 1 = l.length := by have := HN.out; omega
              have HCL := Lib.hid (show e.take K = compS l by rw [HTK.out, hp, List.take_length])
              have hlen : (compS l).length = K := by rw [← HCL.out, List.length_take, HEL.out]; omega
              have HLEN := Lib.hid hlen
              have hs2 := run_tailS g off n cap K hKn hnc
              have hcut := sl_cutS hs (Nat.le_of_lt hKn)
              obtain ⟨zl, zo⟩ := zero_cellsS (n - K)
              have hst := Ext.stored (m := n - K) hcut zl (by omega)
              have HOLD := Lib.hid hst.old
              have HBE := Lib.hid (hst.below (B := base) (Nat.le_refl _) (by have := HB.out.size; omega))
              have hcl : ∀ ty, (Builtin.clear_ #[41] ty #[.slice (some ⟨g, off + K * 2, none⟩) (n - K) (cap - K)]).run Tryz.prog W1 = .ok (.tuple #[]) (W1.setCells g (off + K * 2) (Builtin.zeroCells (Value.agg #[.int .i64 0, .int .u64 0]).cells (n - K)).toList) := fun ty =>
                run_clear2 W1 41 34 ty Tryz.underlying41 zv g (off + K * 2) (n - K) (cap - K) (by omega) (fun j hj => by
                  rw [Nat.add_assoc]
                  rcases hs.2 with ⟨h0, _⟩ | ⟨g', off', cap', he, _, _, h3, _, hfree, _⟩
                  · cases h0
                  · cases he; exact (hfree (K * 2 + j) (by omega)).1) (fun j hj => by rw [Nat.add_assoc]; exact sl_froz14 hs (K * 2 + j) (by omega))
              have d1 : (K : Int) ≤ n := by omega
              have d2 : (0 : Int) ≤ K := by omega
              have d3 : (K : Int) ≤ cap := by omega
              clear hs hp hlen hcut hst zl zo
              go_wp2
              go_ret
              refine ⟨_, rfl, ?_, HB.out.trans HBE.out⟩
              have := HOLD.out
              rw [HCL.out] at this
              rw [HLEN.out]
              exact this
        case false =>
          have hxy : ¬ xt = yt := by have := HCA.out; simpa using this.symm
          have HST2 := Lib.hid (show compS (l.take (k + 1 + 1)) = l.take (k + 1 + 1) by rw [HST.out, if_neg hxy, HCK.out, List.take_add_one (i := k + 1), HX.out]; rfl)
          clear HST hxy HCK
          go_wp2
          exact ⟨⟨k + 1, by simp, by omega, HST2.out, S2.out, HB2.out⟩, by simp [RowKit.intOf]; omega⟩
      · have hil : ¬ (k : Int) + 1 < n := by omega
        have HF := Lib.hid (show compS l = l by
          have h1 := HN.out
          have h2 := HCK.out
          rw [show k + 1 = l.length by omega, List.take_length] at h2
          exact h2)
        clear hs
        go_wp2
        go_ret
        exact ⟨_, rfl, by rw [HF.out, ← HN.out]; exact HS.out, HB.out⟩
end Go.Proofs.YtfckgcckpfklaaaGreatDoor
