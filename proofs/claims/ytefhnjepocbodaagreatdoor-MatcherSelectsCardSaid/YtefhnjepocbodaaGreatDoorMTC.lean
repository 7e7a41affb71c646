/- Layer 12: slices.Compact over one's own list; Any, walked. -/
import Derived.Test.YtefhnjepocbodaaGreatDoorMTA
import Derived.Lib.SliceRun
import Derived.Lib.RowBridge
namespace Go.Proofs.YtefhnjepocbodaaGreatDoor
open Go.RowKit Go.Lib Go.Shelf Go.Proofs

theorem sl_cellI {w : World} {base g off n cap : Nat} {l : List Int} (h : Sl w base 1 (.slice (some ⟨g, off, none⟩) n cap) n (ic l)) (j : Nat) (x : Int) (hj : l[j]? = some x) : w.cell? ⟨g, off + j, none⟩ = some (.int .i64 x) := by
  have hl : l.length = n := by have := h.1; rw [ic_length] at this; omega
  have hjl := (List.getElem?_eq_some_iff.1 hj).1
  rcases h.2 with ⟨h0, _⟩ | ⟨g', off', cap', he, _, _, _, _, _, hcell⟩
  · cases h0
  · cases he
    rw [hcell j (by omega)]
    exact ic_at l j x hj
theorem sl_frozI {w : World} {base g off n cap : Nat} {xs : List Value} (h : Sl w base 1 (.slice (some ⟨g, off, none⟩) n cap) n xs) (j : Nat) (hj : j < n) : w.frozen? ⟨g, off + j, none⟩ = false := by
  rcases h.2 with ⟨h0, _⟩ | ⟨g', off', cap', he, _, _, hnc, _, hfree, _⟩
  · cases h0
  · cases he
    exact (hfree j (by omega)).2
theorem sl_setI {w : World} {base g off n cap : Nat} {l : List Int} (h : Sl w base 1 (.slice (some ⟨g, off, none⟩) n cap) n (ic l)) (k : Nat) (x : Int) : Sl (w.setCell ⟨g, off + k, none⟩ (.int .i64 x)) base 1 (.slice (some ⟨g, off, none⟩) n cap) n (ic (l.set k x)) := by
  have hl : l.length = n := by have := h.1; rw [ic_length] at this; omega
  rcases h.2 with ⟨h0, _⟩ | ⟨g', off', cap', he, hb, hg, hnc, hcm, hfree, hcell⟩
  · cases h0
  · cases he
    refine ⟨by rw [ic_length, List.length_set]; omega, .inr ⟨g, off, cap, rfl, hb, by simpa [World.setCell] using hg, hnc, hcm, fun j hj => ⟨?_, ?_⟩, fun j hj => ?_⟩⟩
    · by_cases hjk : j = k
      · subst hjk
        rw [cell_setCell_same _ _ _ _ (hfree j hj).1]; rfl
      · rw [cell_setCell_other _ _ _ _ _ (.inr (by simp only; omega))]; exact (hfree j hj).1
    · rw [frozen_setCell]; exact (hfree j hj).2
    · have hjl : j < (l.set k x).length := by rw [List.length_set]; omega
      rw [ic_at _ j _ (List.getElem?_eq_getElem hjl), List.getElem_set]
      by_cases hjk : k = j
      · subst hjk
        rw [if_pos rfl, cell_setCell_same _ _ _ _ (hfree k (by omega)).1]
      · rw [if_neg hjk, cell_setCell_other _ _ _ _ _ (.inr (by simp only; omega)), hcell j (by omega)]
        exact ic_at l j _ (List.getElem?_eq_getElem (by omega))
theorem sl_cutI {w : World} {base g off n cap m : Nat} {l : List Int} (h : Sl w base 1 (.slice (some ⟨g, off, none⟩) n cap) n (ic l)) (hm : m ≤ n) : Sl w base 1 (.slice (some ⟨g, off, none⟩) m cap) m (ic (l.take m)) := by
  have hl : l.length = n := by have := h.1; rw [ic_length] at this; omega
  rcases h.2 with ⟨h0, _⟩ | ⟨g', off', cap', he, hb, hg, hnc, hcm, hfree, hcell⟩
  · cases h0
  · cases he
    refine ⟨by rw [ic_length, List.length_take]; omega, .inr ⟨g, off, cap, rfl, hb, hg, by omega, hcm, hfree, fun j hj => ?_⟩⟩
    rw [hcell j (by omega), ic_at l j l[j] (List.getElem?_eq_getElem (by omega)), ic_at (l.take m) j l[j] (by rw [List.getElem?_take, if_pos (by omega)]; exact List.getElem?_eq_getElem (by omega))]
theorem keep_eq (l : List Int) (k : Nat) (x y : Int) (hx : l[k + 1]? = some x) (hy : l[k]? = some y) : Lib.keeps l.toArray (k + 1) = !decide (x = y) := by
  obtain ⟨h1, rfl⟩ := List.getElem?_eq_some_iff.1 hx
  obtain ⟨h2, rfl⟩ := List.getElem?_eq_some_iff.1 hy
  unfold Lib.keeps
  rw [get_arr l (k + 1) h1, Nat.add_sub_cancel, get_arr l k h2]
  by_cases h : l[k + 1] = l[k] <;> simp [h]
theorem comp_succ (l : List Int) (k : Nat) (x y : Int) (hx : l[k + 1]? = some x) (hy : l[k]? = some y) : Lib.compactUpTo l.toArray (k + 1 + 1) = if x = y then Lib.compactUpTo l.toArray (k + 1) else Lib.compactUpTo l.toArray (k + 1) ++ [x] := by
  rw [Lib.compactUpTo_succ, keep_eq l k x y hx hy]
  obtain ⟨h1, rfl⟩ := List.getElem?_eq_some_iff.1 hx
  rw [get_arr l (k + 1) h1]
  by_cases h : l[k + 1] = y <;> simp [h]
theorem comp_one (l : List Int) (h : 0 < l.length) : Lib.compactUpTo l.toArray 1 = l.take 1 := by
  obtain ⟨x, m, rfl⟩ : ∃ x m, l = x :: m := by
    cases l with
    | nil => simp at h
    | cons x m => exact ⟨x, m, rfl⟩
  rw [Lib.compactUpTo_succ]
  simp [Lib.compactUpTo, Lib.keeps]

theorem run_tailI (g off n cap k : Nat) (hk : k < n) (hn : n ≤ cap) (W : World) : (Instr.slice 39 (.slice (some ⟨g, off, none⟩) n cap) (some (.int .i64 (k : Int))) none none).run Tryz.prog W = .ok (.slice (some ⟨g, off + k, none⟩) (n - k) (cap - k)) W := by
  have hu := run_underlying Tryz.underlying39
  have hz := Tryz.sizeOf3
  have h1 : (k : Int) ≤ n := by omega
  have h4 : ¬ cap = k := by omega
  simp [Instr.slice, Instr.sliceBounds, go_sem, hu, hz, Addr.add, h1, h4]
  all_goals omega
theorem take_set_succ (e : List Int) (K : Nat) (x : Int) (h : K < e.length) : (e.set K x).take (K + 1) = e.take K ++ [x] := by
  rw [List.take_add_one, List.getElem?_set_self h, List.take_set_of_le (Nat.le_refl _)]; rfl

set_option maxHeartbeats 4000000 in
set_option maxRecDepth 100000 in
theorem compz_any (v : Value) (l : List Int) (base : Nat) (w : World) (h : Sl w base 1 v l.length (ic l)) (hl : l.length ≤ 1000000) (hB : base ≤ w.heap.size) :
    Calls Tryz.prog 97 #[v] w fun e w' => ∃ v', e = .returned v' ∧ Sl w' base 1 v' (Lib.compact l).length (ic (Lib.compact l)) ∧ Below base w w' := by
  have zv := Tryz.zeroValue3
  have zs := Tryz.sizeOf3
  obtain ⟨va, cap, rfl⟩ := h.slice
  obtain ⟨n, hn⟩ : ∃ n, n = l.length := ⟨_, rfl⟩
  rw [← hn] at h hl ⊢
  have HN := Lib.hid hn
  have HH := Lib.hid h
  by_cases h2 : n < 2
  · have h2' : (n : Int) < 2 := by omega
    have HF := Lib.hid (show Lib.compact l = l by
      unfold Lib.compact
      rw [← hn]
      rcases (show n = 0 ∨ n = 1 by omega) with h0 | h0
      · have : l = [] := List.eq_nil_of_length_eq_zero (by omega)
        subst this; rw [h0]; rfl
      · rw [h0, comp_one l (by omega), List.take_of_length_le (by omega)])
    clear h hn h2
    go_enter Tryz.func97, Tryz.ntmps97
    go_wp2
    go_ret
    exact ⟨_, rfl, by rw [HF.out, ← HN.out]; exact HH.out, Below.refl _ _⟩
  · have h2' : ¬ (n : Int) < 2 := by omega
    obtain ⟨g, off, he, hbg, hgw, hnc, hcm⟩ : ∃ g off, va = some ⟨g, off, none⟩ ∧ base ≤ g ∧ g < w.heap.size ∧ n ≤ cap ∧ cap ≤ maxLen := by
      rcases h.2 with ⟨_, h0⟩ | ⟨g, off, cap', he, hb, hg, hnc, hcm, _, _⟩
      · omega
      · cases he; exact ⟨g, off, rfl, hb, hg, hnc, hcm⟩
    subst he
    have hcm63 : cap ≤ 9223372036854775807 := by unfold maxLen at hcm; exact hcm
    have HG := Lib.hid hgw
    have HBG := Lib.hid hbg
    clear h hn h2 hgw hbg hcm
    go_enter Tryz.func97, Tryz.ntmps97
    go_wp2_with fail
    go_loopw [3] (fun k' wr => ∃ (k : Nat), k' = .int .i64 ((k : Int) + 1) ∧ k + 1 ≤ n ∧ Hid (Lib.compactUpTo l.toArray (k + 1) = l.take (k + 1)) ∧ Sl wr base 1 (.slice (some ⟨g, off, none⟩) n cap) n (ic l) ∧ Below base w wr) (fun k' _ => n - (RowKit.intOf k').toNat)
    case atStart => exact ⟨0, rfl, by omega, comp_one l (by have := HN.out; omega), HH.out, Below.refl _ _⟩
    case round =>
      obtain ⟨W0, rfl⟩ : ∃ W0, W0 = wr := ⟨_, rfl⟩
      obtain ⟨k, rfl, hk, hc, hs, hb⟩ := hrel
      have HS := Lib.hid hs; have HB := Lib.hid hb; have HCK := Lib.hid hc.out
      clear hb hc
      by_cases hlt : k + 1 < n
      · obtain ⟨x, hx⟩ : ∃ x, l[k + 1]? = some x := ⟨l[k + 1]'(by have := HN.out; omega), List.getElem?_eq_getElem (by have := HN.out; omega)⟩
        obtain ⟨y, hy⟩ : ∃ y, l[k]? = some y := ⟨l[k]'(by have := HN.out; omega), List.getElem?_eq_getElem (by have := HN.out; omega)⟩
        have c1 := sl_cellI hs (k + 1) x hx
        have c0 := sl_cellI hs k y hy
        have HST := Lib.hid (comp_succ l k x y hx hy)
        have i1 : (k : Int) + 1 < n := by omega
        have i2 : (0 : Int) ≤ (k : Int) + 1 := by omega
        have i3 : (k : Int) < n := by omega
        have i4 : (0 : Int) ≤ k := by omega
        have i5 : ((k : Int) + 1).toNat = k + 1 := by omega
        have HX := Lib.hid hx
        clear hs hx hy
        by_cases hxy : x = y
        · have e1 : (x == y) = true := by simpa using hxy
          have HST2 := Lib.hid (show Lib.compactUpTo l.toArray (k + 1 + 1) = l.take (k + 1) by rw [HST.out, if_pos hxy]; exact HCK.out)
          clear HST hxy HCK
          have hsl := run_tailI g off n cap (k + 1) hlt hnc
          rw [show ((k + 1 : Nat) : Int) = (k : Int) + 1 by omega] at hsl
          obtain ⟨m, hm⟩ : ∃ m, m = n - (k + 1) := ⟨_, rfl⟩
          rw [← hm] at hsl
          have hmn : m + (k + 1) = n := by omega
          have R0 := Lib.hid (show (l.take (k + 1)).length = k + 1 by rw [List.length_take]; have := HN.out; omega)
          clear hm
          go_wp2
          go_quiet (fail)
          go_wp2_with fail
          go_loopw [3, 5] (fun K' q' wr => ∃ (K q : Nat) (e : List Int), K' = .int .i64 (K : Int) ∧ q' = .int .i64 ((q : Int) + 1) ∧ q + 1 ≤ m ∧ K ≤ k + 1 + q ∧ Hid (e.take K = Lib.compactUpTo l.toArray (k + 1 + q + 1)) ∧ Hid (e.length = n) ∧ Hid (∀ j, k + 1 + q ≤ j → e[j]? = l[j]?) ∧ Sl wr base 1 (.slice (some ⟨g, off, none⟩) n cap) n (ic e) ∧ Below base w wr) (fun _ q' _ => m - (RowKit.intOf q').toNat)
          case atStart => exact ⟨k + 1, 0, l, by simp, rfl, by omega, by omega, HST2.out.symm, HN.out.symm, fun _ _ => rfl, HS.out, below_draw HB.out _⟩
          case round =>
            clear HS HB HST2 c0 c1
            obtain ⟨W1, rfl⟩ : ∃ W1, W1 = wr := ⟨_, rfl⟩
            obtain ⟨K, q, e, rfl, rfl, hq, hK, htk, hel, hof, hs, hb⟩ := hrel
            have HS := Lib.hid hs; have HB := Lib.hid hb; have HTK := Lib.hid htk.out; have HEL := Lib.hid hel.out; have HOF := Lib.hid hof.out
            clear hb htk hel hof
            by_cases hqt : q + 1 < m
            · obtain ⟨x', hx'⟩ : ∃ x, l[k + 1 + q + 1]? = some x := ⟨l[k + 1 + q + 1]'(by have := HN.out; omega), List.getElem?_eq_getElem (by have := HN.out; omega)⟩
              obtain ⟨y', hy'⟩ : ∃ y, l[k + 1 + q]? = some y := ⟨l[k + 1 + q]'(by have := HN.out; omega), List.getElem?_eq_getElem (by have := HN.out; omega)⟩
              have c1 := sl_cellI hs (k + 1 + q + 1) x' ((HOF.out _ (by omega)).trans hx')
              have c0 := sl_cellI hs (k + 1 + q) y' ((HOF.out _ (by omega)).trans hy')
              rw [show off + (k + 1 + q + 1) = off + (k + 1) + (q + 1) by omega] at c1
              rw [show off + (k + 1 + q) = off + (k + 1) + q by omega] at c0
              have HST := Lib.hid (comp_succ l (k + 1 + q) x' y' hx' hy')
              have j1 : (q : Int) + 1 < m := by omega
              have j2 : (0 : Int) ≤ (q : Int) + 1 := by omega
              have j3 : (q : Int) < m := by omega
              have j4 : (0 : Int) ≤ q := by omega
              have j5 : ((q : Int) + 1).toNat = q + 1 := by omega
              clear hx' hy'
              by_cases hxy : x' = y'
              · have e2 : (x' != y') = false := by simpa using hxy
                have HST2 := Lib.hid (show e.take K = Lib.compactUpTo l.toArray (k + 1 + (q + 1) + 1) by rw [show k + 1 + (q + 1) + 1 = k + 1 + q + 1 + 1 by omega, HST.out, if_pos hxy]; exact HTK.out)
                clear HST hxy HTK hs
                go_wp2
                go_quiet (fail)
                go_wp2
                exact ⟨⟨K, q + 1, e, rfl, by simp, by omega, by omega, HST2.out, HEL.out, fun j hj => HOF.out j (by omega), HS.out, below_draw HB.out _⟩, by simp [RowKit.intOf]; omega⟩
              · have e2 : (x' != y') = true := by simpa using hxy
                have hKn : K < n := by omega
                obtain ⟨z, hz⟩ : ∃ z, e[K]? = some z := ⟨e[K]'(by have := HEL.out; omega), List.getElem?_eq_getElem (by have := HEL.out; omega)⟩
                have cK := sl_cellI hs K z hz
                have fK := sl_frozI hs K hKn
                have HST2 := Lib.hid (show (e.set K x').take (K + 1) = Lib.compactUpTo l.toArray (k + 1 + (q + 1) + 1) by rw [show k + 1 + (q + 1) + 1 = k + 1 + q + 1 + 1 by omega, HST.out, if_neg hxy, ← HTK.out]; exact take_set_succ e K x' (by have := HEL.out; omega))
                have HOF2 := Lib.hid (show ∀ j, k + 1 + (q + 1) ≤ j → (e.set K x')[j]? = l[j]? from fun j hj => by rw [List.getElem?_set_ne (by omega)]; exact HOF.out j (by omega))
                have HEL2 := Lib.hid (show (e.set K x').length = n by rw [List.length_set]; exact HEL.out)
                have d1 : (K : Int) < n := by omega
                have d2 : (0 : Int) ≤ K := by omega
                clear HST hxy HTK hs hz
                go_wp2
                go_quiet (fail)
                go_wp2
                exact ⟨⟨K + 1, q + 1, e.set K x', by simp, by simp, by omega, by omega, HST2.out, HEL2.out, HOF2.out, sl_setI HS.out K x', (below_draw HB.out _).setCell HBG.out _⟩, by simp [RowKit.intOf]; omega⟩
            · have hil2 : ¬ (q : Int) + 1 < m := by omega
              have hKn : K < n := by omega
              have hp : k + 1 + q + 1 = l.length := by have := HN.out; omega
              have HCL := Lib.hid (show e.take K = Lib.compact l by rw [HTK.out, hp]; rfl)
              have hlen : (Lib.compact l).length = K := by rw [← HCL.out, List.length_take, HEL.out]; omega
              have HLEN := Lib.hid hlen
              have hs2 := run_tailI g off n cap K hKn hnc
              have hcut := sl_cutI hs (Nat.le_of_lt hKn)
              have hst := Ext.stored (m := n - K) (news := List.replicate (n - K) (.int .i64 0)) hcut (by simp) (by omega)
              rw [Nat.mul_one] at hst
              have HOLD := Lib.hid hst.old
              have HBE := Lib.hid (hst.below (B := base) (Nat.le_refl _) (by have := HB.out.size; omega))
              have hcl : ∀ ty, (Builtin.clear_ #[39] ty #[.slice (some ⟨g, off + K, none⟩) (n - K) (cap - K)]).run Tryz.prog W1 = .ok (.tuple #[]) (W1.setCells g (off + K) (List.replicate (n - K) (.int .i64 0))) := fun ty =>
                run_clear_slice W1 39 3 ty (.int .i64 0) Tryz.underlying39 zv rfl rfl g (off + K) (n - K) (cap - K) (by omega) (fun j hj => by
                  have hel := HEL.out
                  rw [Nat.add_assoc, sl_cellI hs (K + j) (e[K + j]'(by omega)) (List.getElem?_eq_getElem (by omega))]; rfl) (fun j hj => by rw [Nat.add_assoc]; exact sl_frozI hs (K + j) (by omega))
              have d1 : (K : Int) ≤ n := by omega
              have d2 : (0 : Int) ≤ K := by omega
              have d3 : (K : Int) ≤ cap := by omega
              clear hs hp hlen hcut hst
              go_wp2
              go_ret
              refine ⟨_, rfl, ?_, HB.out.trans HBE.out⟩
              have := HOLD.out
              rw [HCL.out] at this
              rw [HLEN.out]
              exact this
        · have e1 : (x == y) = false := by simpa using hxy
          have HST2 := Lib.hid (show Lib.compactUpTo l.toArray (k + 1 + 1) = l.take (k + 1 + 1) by rw [HST.out, if_neg hxy, HCK.out, List.take_add_one (i := k + 1), HX.out]; rfl)
          clear HST hxy HCK
          go_wp2
          go_quiet (fail)
          go_wp2
          exact ⟨⟨k + 1, by simp, by omega, HST2.out, HS.out, below_draw HB.out _⟩, by simp [RowKit.intOf]; omega⟩
      · have hil : ¬ (k : Int) + 1 < n := by omega
        have HF := Lib.hid (show Lib.compact l = l by
          unfold Lib.compact
          have h1 := HN.out
          have h2 := HCK.out
          rw [show k + 1 = l.length by omega, List.take_length] at h2
          exact h2)
        clear hs
        go_wp2
        go_ret
        exact ⟨_, rfl, by rw [HF.out, ← HN.out]; exact HS.out, HB.out⟩

/-- Lists in a slice, as slices in a slice. -/
theorem rds_of_ncs {w : World} {v : Value} {ls : List (List Int)} (h : Ncs w v ls) : Rds w v (ls.map ic) := by
  obtain ⟨_, a, cap, g, off, rfl, _, h1, h2⟩ := h
  refine ⟨a, cap, g, off, by rw [List.length_map], fun hn => h1 (by simpa using hn), fun j l hl => ?_⟩
  rw [List.getElem?_map] at hl
  cases hj : ls[j]? with
  | none => rw [hj] at hl; cases hl
  | some x =>
    rw [hj] at hl
    obtain rfl := Option.some.inj hl
    obtain ⟨y, hy, hy2⟩ := h2 j x hj
    refine ⟨y, hy, ?_⟩
    rw [ic_length]
    obtain ⟨_, a', cap', g', off', hv, _, h3, h4⟩ := hy2
    refine ⟨by rw [ic_length]; omega, a', cap', g', off', hv, h3, fun k hk => ?_⟩
    have hk' : k < x.length := by omega
    rw [h4 k x[k] (List.getElem?_eq_getElem hk'), ic_at x k x[k] (List.getElem?_eq_getElem hk')]
theorem flat_ic (ls : List (List Int)) : (ls.map ic).flatten = ic ls.flatten := by
  induction ls with
  | nil => rfl
  | cons l ls ih => rw [List.map_cons, List.flatten_cons, ih, List.flatten_cons, ic_append]

set_option maxHeartbeats 2000000 in
set_option maxRecDepth 100000 in
theorem any_any (v : Value) (ls : List (List Int)) (w : World) (h : Ncs w v ls) (hm : ls.flatten.length ≤ 100000) :
    Calls Tryz.prog 72 #[v] w (NewN w (anyZ ls)) := by
  have C := Lib.hid (concati_any v (ls.map ic) w (rds_of_ncs h) (fun l hl => by
    obtain ⟨x, _, rfl⟩ := List.mem_map.1 hl
    exact ic_one x) (by rw [List.length_map]; exact h.1) (by rw [flat_ic, ic_length]; omega))
  rw [flat_ic, ic_length] at C
  obtain ⟨F, hF⟩ : ∃ F, F = ls.flatten := ⟨_, rfl⟩
  rw [← hF] at C hm
  have HF := Lib.hid hF
  obtain ⟨_, a, cap, _, _, rfl, _⟩ := h
  clear hF
  go_enter Tryz.func72, Tryz.ntmps72
  go_wp2_with fail
  refine C.out.mono ?_
  rintro e w1 ⟨a1, c1, rfl, s1, b1⟩
  have hz1 := b1.size
  have S := Lib.hid (sortz_any _ F w.heap.size w1 s1 (by omega) hz1)
  clear s1
  go_wp2_with fail
  refine S.out.mono ?_
  rintro e w2 ⟨rfl, l', hp, hso, s2, b2⟩
  have hz2 := b2.size
  have hll : l'.length = F.length := hp.length_eq
  have K := Lib.hid (show Calls Tryz.prog 97 #[.slice a1 F.length c1] w2 _ from compz_any _ l' w.heap.size w2 (by rw [hll]; exact s2) (by omega) (by omega))
  have HC := Lib.hid (compact_is ls l' (by rw [← HF.out]; exact hp) hso)
  clear s2 hp hso hll
  go_wp2_with fail
  refine K.out.mono ?_
  rintro e w3 ⟨v3, rfl, s3, b3⟩
  rw [HC.out] at s3
  obtain ⟨a3, c3, rfl⟩ := s3.slice
  go_wp2
  go_ret
  exact ⟨_, rfl, s3, (b1.trans b2).trans b3⟩
end Go.Proofs.YtefhnjepocbodaaGreatDoor
