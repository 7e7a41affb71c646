/- Layer 20: the library's DeleteFunc over blocks, walked. -/
import Derived.Test.YtkialkjhjenkhaaMPLI
import Derived.Lib.SliceRun
namespace Go.Proofs.Ytkialkjhjenkhaa
open Go.RowKit Go.Lib
set_option linter.unusedVariables false

theorem sl_put20 {w : World} {base size g off n cap c : Nat} {xs : List Value} (h : Sl w base size (.slice (some ⟨g, off, none⟩) n cap) n xs) (u : Value) (hc : c < n * size) :
    Sl (w.setCell ⟨g, off + c, none⟩ u) base size (.slice (some ⟨g, off, none⟩) n cap) n (xs.set c u) := by
  obtain ⟨h1, h2⟩ := h
  refine ⟨by rw [List.length_set]; exact h1, ?_⟩
  rcases h2 with ⟨e, _⟩ | ⟨g', off', cap', e, a1, a2, a3, a4, a5, a6⟩
  · cases e
  · cases e
    have hcc : c < cap * size := Nat.lt_of_lt_of_le hc (Nat.mul_le_mul_right _ a3)
    refine .inr ⟨g, off, cap, rfl, a1, by simpa [World.setCell] using a2, a3, a4, fun j hj => ⟨?_, ?_⟩, fun j hj => ?_⟩
    · by_cases hj' : j = c
      · subst hj'
        rw [cell_setCell_same _ _ _ _ (a5 j hj).1]; rfl
      · rw [cell_setCell_other _ _ _ _ _ (.inr (by simp only; omega))]
        exact (a5 j hj).1
    · rw [frozen_setCell]
      exact (a5 j hj).2
    · by_cases hj' : j = c
      · subst hj'
        rw [cell_setCell_same _ _ _ _ (a5 j hcc).1, List.getElem?_set_self (by omega)]
      · rw [cell_setCell_other _ _ _ _ _ (.inr (by simp only; omega)), List.getElem?_set_ne (fun e => hj' e.symm)]
        exact a6 j hj
theorem sl_froz20 {w : World} {base size g off n cap : Nat} {xs : List Value} (h : Sl w base size (.slice (some ⟨g, off, none⟩) n cap) n xs) (j : Nat) (hj : j < n * size) : w.frozen? ⟨g, off + j, none⟩ = false := by
  obtain ⟨h1, h2⟩ := h
  rcases h2 with ⟨e, _⟩ | ⟨g', off', cap', e, a1, a2, a3, a4, a5, a6⟩
  · cases e
  · cases e
    exact (a5 j (Nat.lt_of_lt_of_le hj (Nat.mul_le_mul_right _ a3))).2
theorem msc_setAt : ∀ (l : List Mq) (k : Nat) (x : Mq), k < l.length → ((((((((msc l).set (k * 8) (.string (bs x.m.id))).set (k * 8 + 1) (.int .i64 x.m.mn)).set (k * 8 + 2) (.int .i64 x.m.mx)).set (k * 8 + 3) (.int .i64 x.m.lv)).set (k * 8 + 4) (.int .i64 x.m.se)).set (k * 8 + 5) (.int .i64 x.m.sa)).set (k * 8 + 6) x.vf).set (k * 8 + 7) x.vs = msc (l.set k x)
  | [], k, x, h => by simp at h
  | y :: l, 0, x, _ => rfl
  | y :: l, k + 1, x, h => by
    have ih := msc_setAt l k x (by simpa using h)
    rw [show (k + 1) * 8 = k * 8 + 1 + 1 + 1 + 1 + 1 + 1 + 1 + 1 by omega]
    have e : ∀ (j : Nat), k * 8 + 1 + 1 + 1 + 1 + 1 + 1 + 1 + 1 + j = (k * 8 + j) + 1 + 1 + 1 + 1 + 1 + 1 + 1 + 1 := by intro j; omega
    simp only [e]
    show (((((((((mqc y ++ msc l).set (k * 8 + 1 + 1 + 1 + 1 + 1 + 1 + 1 + 1) _).set _ _).set _ _).set _ _).set _ _).set _ _).set _ _).set _ _) = mqc y ++ msc (l.set k x)
    rw [← ih]
    unfold mqc
    simp only [List.cons_append, List.nil_append, List.set_cons_succ]
theorem sl_setM {w : World} {base g off n cap : Nat} {l : List Mq} (h : Sl w base 8 (.slice (some ⟨g, off, none⟩) n cap) n (msc l)) (k : Nat) (x : Mq) (hk : k < n) : Sl ((((((((w.setCell ⟨g, off + k * 8, none⟩ (.string (bs x.m.id))).setCell ⟨g, off + k * 8 + 1, none⟩ (.int .i64 x.m.mn)).setCell ⟨g, off + k * 8 + 2, none⟩ (.int .i64 x.m.mx)).setCell ⟨g, off + k * 8 + 3, none⟩ (.int .i64 x.m.lv)).setCell ⟨g, off + k * 8 + 4, none⟩ (.int .i64 x.m.se)).setCell ⟨g, off + k * 8 + 5, none⟩ (.int .i64 x.m.sa)).setCell ⟨g, off + k * 8 + 6, none⟩ (x.vf)).setCell ⟨g, off + k * 8 + 7, none⟩ (x.vs)) base 8 (.slice (some ⟨g, off, none⟩) n cap) n (msc (l.set k x)) := by
  have hl : l.length = n := by have := h.1; rw [msc_length] at this; omega
  have h0 := sl_put20 h (.string (bs x.m.id)) (show k * 8 < n * 8 by omega)
  have h1 := sl_put20 h0 (.int .i64 x.m.mn) (show k * 8 + 1 < n * 8 by omega)
  have h2 := sl_put20 h1 (.int .i64 x.m.mx) (show k * 8 + 2 < n * 8 by omega)
  have h3 := sl_put20 h2 (.int .i64 x.m.lv) (show k * 8 + 3 < n * 8 by omega)
  have h4 := sl_put20 h3 (.int .i64 x.m.se) (show k * 8 + 4 < n * 8 by omega)
  have h5 := sl_put20 h4 (.int .i64 x.m.sa) (show k * 8 + 5 < n * 8 by omega)
  have h6 := sl_put20 h5 x.vf (show k * 8 + 6 < n * 8 by omega)
  have h7 := sl_put20 h6 x.vs (show k * 8 + 7 < n * 8 by omega)
  rw [msc_setAt l k x (by omega)] at h7
  simp only [← Nat.add_assoc] at h7
  exact h7
theorem turn_set8g {S : Nat → Prop} {w W : World} (t : Turn S w W) (g o : Nat) (x : Mq) (hS : S g) : Turn S w ((((((((W.setCell ⟨g, o, none⟩ (.string (bs x.m.id))).setCell ⟨g, o + 1, none⟩ (.int .i64 x.m.mn)).setCell ⟨g, o + 2, none⟩ (.int .i64 x.m.mx)).setCell ⟨g, o + 3, none⟩ (.int .i64 x.m.lv)).setCell ⟨g, o + 4, none⟩ (.int .i64 x.m.se)).setCell ⟨g, o + 5, none⟩ (.int .i64 x.m.sa)).setCell ⟨g, o + 6, none⟩ (x.vf)).setCell ⟨g, o + 7, none⟩ (x.vs)) :=
  ((((((((t.setCell ⟨g, o, none⟩ _ hS).setCell ⟨g, o + 1, none⟩ _ hS).setCell ⟨g, o + 2, none⟩ _ hS).setCell ⟨g, o + 3, none⟩ _ hS).setCell ⟨g, o + 4, none⟩ _ hS).setCell ⟨g, o + 5, none⟩ _ hS).setCell ⟨g, o + 6, none⟩ _ hS).setCell ⟨g, o + 7, none⟩ _ hS)
theorem sl_cutM {w : World} {base g off n cap m : Nat} {l : List Mq} (h : Sl w base 8 (.slice (some ⟨g, off, none⟩) n cap) n (msc l)) (hm : m ≤ n) : Sl w base 8 (.slice (some ⟨g, off, none⟩) m cap) m (msc (l.take m)) := by
  have hl : l.length = n := by have := h.1; rw [msc_length] at this; omega
  rcases h.2 with ⟨h0, _⟩ | ⟨g', off', cap', he, hb, hg, hnc, hcm, hfree, hcell⟩
  · cases h0
  · cases he
    refine ⟨by rw [msc_length, List.length_take]; omega, .inr ⟨g, off, cap, rfl, hb, hg, by omega, hcm, hfree, fun j hj => ?_⟩⟩
    rw [hcell j (by omega)]
    have e : msc l = msc (l.take m) ++ msc (l.drop m) := by rw [← msc_append, List.take_append_drop]
    rw [e, List.getElem?_append_left (by rw [msc_length, List.length_take]; omega)]
theorem take_setM (e : List Mq) (K : Nat) (x : Mq) (h : K < e.length) : (e.set K x).take (K + 1) = e.take K ++ [x] := by
  rw [List.take_add_one, List.getElem?_set_self h, List.take_set_of_le (Nat.le_refl _)]; rfl
theorem run_tailM (g off n cap k : Nat) (hk : k < n) (hn : n ≤ cap) (W : World) : (Instr.slice 23 (.slice (some ⟨g, off, none⟩) n cap) (some (.int .i64 (k : Int))) none none).run Try.prog W = .ok (.slice (some ⟨g, off + k * 8, none⟩) (n - k) (cap - k)) W := by
  have hu := run_underlying Try.underlying23
  have hz := Try.sizeOf53
  have h1 : (k : Int) ≤ n := by omega
  have h4 : ¬ cap = k := by omega
  simp [Instr.slice, Instr.sliceBounds, go_sem, hu, hz, Addr.add, h1, h4]
  all_goals omega
theorem zero_cellsM (n : Nat) : ((Builtin.zeroCells (Value.agg #[.string ⟨#[]⟩, .int .i64 0, .int .i64 0, .int .i64 0, .int .i64 0, .int .i64 0, .slice none 0 0, .slice none 0 0]).cells n).toList).length = n * 8 ∧ ∀ v ∈ (Builtin.zeroCells (Value.agg #[.string ⟨#[]⟩, .int .i64 0, .int .i64 0, .int .i64 0, .int .i64 0, .int .i64 0, .slice none 0 0, .slice none 0 0]).cells n).toList, v.oneCell' = true := by
  have hc : (Value.agg #[.string ⟨#[]⟩, .int .i64 0, .int .i64 0, .int .i64 0, .int .i64 0, .int .i64 0, .slice none 0 0, .slice none 0 0]).cells = #[.string ⟨#[]⟩, .int .i64 0, .int .i64 0, .int .i64 0, .int .i64 0, .int .i64 0, .slice none 0 0, .slice none 0 0] := rfl
  rw [hc]
  refine ⟨by rw [Array.length_toList, size_zeroCells]; rfl, fun v hv => ?_⟩
  simp only [Builtin.zeroCells, Array.toList_map, List.mem_map] at hv
  obtain ⟨i, _, rfl⟩ := hv
  have h2 : i % 8 < 8 := Nat.mod_lt _ (by decide)
  show (#[Value.string ⟨#[]⟩, .int .i64 0, .int .i64 0, .int .i64 0, .int .i64 0, .int .i64 0, .slice none 0 0, .slice none 0 0][i % 8]!).oneCell' = true
  rcases (show i % 8 = 0 ∨ i % 8 = 1 ∨ i % 8 = 2 ∨ i % 8 = 3 ∨ i % 8 = 4 ∨ i % 8 = 5 ∨ i % 8 = 6 ∨ i % 8 = 7 by omega) with h | h | h | h | h | h | h | h <;> rw [h] <;> rfl
theorem run_clearM {P : Program} (w : World) (t e ty : TypeId) (ht : P.underlying t = some (.slice e)) (hv : ∀ w, (zeroValue e).run P w = .ok (Value.agg #[.string ⟨#[]⟩, .int .i64 0, .int .i64 0, .int .i64 0, .int .i64 0, .int .i64 0, .slice none 0 0, .slice none 0 0]) w) (b o n c : Nat) (hn : 0 < n)
    (hc : ∀ j, j < n * 8 → (w.cell? ⟨b, o + j, none⟩).isSome = true) (hf : ∀ j, j < n * 8 → w.frozen? ⟨b, o + j, none⟩ = false) :
    (Builtin.clear_ #[t] ty #[.slice (some ⟨b, o, none⟩) n c]).run P w = .ok (.tuple #[]) (w.setCells b o (Builtin.zeroCells (Value.agg #[.string ⟨#[]⟩, .int .i64 0, .int .i64 0, .int .i64 0, .int .i64 0, .int .i64 0, .slice none 0 0, .slice none 0 0]).cells n).toList) := by
  obtain ⟨z1, z2⟩ := zero_cellsM n
  obtain ⟨Z, hZ⟩ : ∃ Z, Z = (Builtin.zeroCells (Value.agg #[.string ⟨#[]⟩, .int .i64 0, .int .i64 0, .int .i64 0, .int .i64 0, .int .i64 0, .slice none 0 0, .slice none 0 0]).cells n).toList := ⟨_, rfl⟩
  rw [← hZ] at z1 z2 ⊢
  have hst := run_storeCells_cells (P := P) b o Z 0 w (by rw [z1]; simpa using hc) (by rw [z1]; simpa using hf) z2
  simp only [Nat.add_zero] at hst
  obtain ⟨m, rfl⟩ : ∃ m, n = m + 1 := ⟨n - 1, by omega⟩
  simp [Builtin.clear_, run_underlying ht, hv, ← hZ, hst]
theorem filter_take_le (d : Mt.Me → Bool) (l : List Mq) (i : Nat) (q : Mq) (hq : l[i]? = some q) (hd : d q.m = true) : (l.filter (fun q => !d q.m)).length < l.length := by
  have hi := (List.getElem?_eq_some_iff.1 hq).1
  rw [List.length_filter_lt_length_iff_exists]
  exact ⟨q, List.mem_of_getElem? hq, by simp [hd]⟩
theorem filter_none (d : Mt.Me → Bool) (l : List Mq) (h : ∀ q ∈ l, d q.m = false) : l.filter (fun q => !d q.m) = l := by
  rw [List.filter_eq_self]
  intro q hq
  simp [h q hq]

set_option maxHeartbeats 4000000 in
set_option maxRecDepth 100000 in
theorem delf_any (v fv : Value) (d : Mt.Me → Bool) (l : List Mq) (base : Nat) (w : World) (P : World → Prop) (h : Sl w base 8 v l.length (msc l)) (hl : l.length ≤ 1000) (hd : Del fv d P) (hfm : ∀ q ∈ l, (∃ a n c, q.vf = .slice a n c) ∧ ∃ a n c, q.vs = .slice a n c) (hP : ∀ W, Turn (fun k => v.ownBlock = some k) w W → P W) :
    Calls Try.prog 28 #[v, fv] w fun e w' => ∃ v', e = .returned v' ∧ Sl w' base 8 v' (l.filter (fun q => !d q.m)).length (msc (l.filter (fun q => !d q.m))) ∧ Turn (fun k => v.ownBlock = some k) w w' := by
  have zv := Try.zeroValue53
  have zs := Try.sizeOf53
  have IX := Lib.hid (indexd_any v fv d l w P (Rd.of_sl h) hl hd (fun W b => hP W (Turn.of_below b)))
  obtain ⟨va, cap, rfl⟩ := h.slice
  obtain ⟨cb, rfl, hdc⟩ := hd
  have HH := Lib.hid h
  have HP := Lib.hid hP
  have HFM := Lib.hid hfm
  have HD := Lib.hid hdc
  obtain ⟨n, hn⟩ : ∃ n, n = l.length := ⟨_, rfl⟩
  have HN := Lib.hid hn
  rw [← hn] at h hl IX HH HP ⊢
  clear hn hP hdc hfm
  go_enter Try.func28, Try.ntmps28
  go_wp2_with (first
    | (go_at_call 46; (with_reducible refine IX.out.mono ?_); rintro e w1 ⟨hix, b1⟩; have B1 := Lib.hid b1; clear b1; rcases hix with ⟨I0, i0, rfl, hI, hni, hiw, hi0, hno, q0, hq0, hdq⟩ | ⟨rfl, hno⟩)
    | fail)
  · have S1 := Lib.hid (HH.out.on B1.out)
    obtain ⟨g, off, he, hbg, hgw, hnc, hcm⟩ : ∃ g off, va = some ⟨g, off, none⟩ ∧ base ≤ g ∧ g < w.heap.size ∧ n ≤ cap ∧ cap ≤ maxLen := by
      rcases h.2 with ⟨_, h0⟩ | ⟨g, off, cap', he, hb, hg, hnc, hcm, _, _⟩
      · omega
      · cases he; exact ⟨g, off, rfl, hb, hg, hnc, hcm⟩
    subst he
    have hcm63 : cap ≤ 9223372036854775807 := by unfold maxLen at hcm; exact hcm
    have HG := Lib.hid hgw
    have HBG := Lib.hid hbg
    have START := Lib.hid (show (l.take i0) = (l.take (i0 + 1)).filter (fun q => !d q.m) from by
      rw [List.take_add_one, hq0, List.filter_append, filter_none d _ hno]
      simp [hdq])
    have HLT := Lib.hid (show (l.filter (fun q => !d q.m)).length < n from by have h9 := filter_take_le d l i0 q0 hq0 hdq; rw [← HN.out] at h9; exact h9)
    clear hno hq0 hdq h hgw hbg hcm
    clear hni
    (try (rename (I0 == -1) = false => hx; clear hx))
    go_loopw [5, 6] (fun K' J' wr => ∃ (K J : Nat) (e : List Mq), K' = .int .i64 K ∧ J' = .int .i64 J ∧ K < J ∧ J ≤ n ∧ Hid (e.take K = (l.take J).filter (fun q => !d q.m)) ∧ Hid (e.length = n) ∧ Hid (∀ j, J ≤ j → e[j]? = l[j]?) ∧ Sl wr base 8 (.slice (some ⟨g, off, none⟩) n cap) n (msc e) ∧ Turn (fun k => k = g) w wr) (fun _ J' _ => n - (RowKit.intOf J').toNat)
    case atStart => exact ⟨i0, i0 + 1, l, by rw [hI.out], by rw [hI.out]; simp, by omega, by omega, START, HN.out.symm, fun _ _ => rfl, S1.out, Turn.of_below B1.out⟩
    case round =>
      clear S1 START
      obtain ⟨W1, rfl⟩ : ∃ W1, W1 = wr := ⟨_, rfl⟩
      obtain ⟨K, J, e, rfl, rfl, hKJ, hJ, htk, hel, hof, hs, hb⟩ := hrel
      have HS := Lib.hid hs; have HB := Lib.hid hb; have HTK := Lib.hid htk.out; have HEL := Lib.hid hel.out; have HOF := Lib.hid hof.out
      clear hb htk hel hof
      by_cases hlt : J < n
      · obtain ⟨x, hx⟩ : ∃ x, l[J]? = some x := ⟨l[J]'(by have := HN.out; omega), List.getElem?_eq_getElem (by have := HN.out; omega)⟩
        have HST := Lib.hid (show (l.take (J + 1)).filter (fun q => !d q.m) = (l.take J).filter (fun q => !d q.m) ++ (if d x.m then [] else [x]) by rw [List.take_add_one, hx, List.filter_append]; cases hdx : d x.m <;> simp [hdx])
        have j1 : (J : Int) < n := by omega
        have j2 : (0 : Int) ≤ J := by omega
        have jw : IntKind.i64.wrap ((J : Int) + 1) = (J : Int) + 1 := IntWalk.i64_in _ (by omega)
        have kw : IntKind.i64.wrap ((K : Int) + 1) = (K : Int) + 1 := IntWalk.i64_in _ (by omega)
        have FX := Lib.hid (fun W (bb : Below W1.heap.size W1 W) => show MqAt W g (off + J * 8) x from by
          have hx2 : e[J]? = some x := (HOF.out _ (Nat.le_refl _)).trans hx
          rcases hs.2 with ⟨h0, _⟩ | ⟨g', off', cap', he, _, hg, _, _, _, hcell⟩
          · cases h0
          · cases he
            exact mq_at (qs := e) (fun j hj => hcell j (by have := HEL.out; omega)) bb hg J x hx2)
        have hgw1 : g < W1.heap.size := by have := HG.out; have := HB.out.size; omega
        have CB := Lib.hid (fun W (t : Turn (fun k => k = g) w W) => HD.out x W (HP.out W ⟨t.os, t.tape, t.output, t.size, fun k hk hne => t.block k hk (fun e => hne (by rw [e]; rfl))⟩))
        have hfx := HFM.out x (List.mem_of_getElem? hx)
        obtain ⟨m, vf, vs⟩ := x
        obtain ⟨⟨af, nf, kf, rfl⟩, a3, ns, ks, rfl⟩ : (∃ a n c, vf = .slice a n c) ∧ ∃ a n c, vs = .slice a n c := hfx
        simp only at FX CB HST
        obtain ⟨q0, q1, q2, q3, q4, q5, q6, q7⟩ := FX.out W1 (Below.refl _ _)
        simp only at q0 q1 q2 q3 q4 q5 q6 q7
        obtain ⟨b, hbd⟩ : ∃ b, b = d m := ⟨_, rfl⟩
        have HBD := Lib.hid hbd
        rw [← hbd] at CB HST
        have HX := Lib.hid (show (W1.alloc (.cells #[.string (bs m.id), .int .i64 m.mn, .int .i64 m.mx, .int .i64 m.lv, .int .i64 m.se, .int .i64 m.sa, .slice af nf kf, .slice a3 ns ks] 53)).heap[W1.heap.size]? = some (.cells #[.string (bs m.id), .int .i64 m.mn, .int .i64 m.mx, .int .i64 m.lv, .int .i64 m.se, .int .i64 m.sa, .slice af nf kf, .slice a3 ns ks] 53) from heap_alloc_new _ _)
        have SZ := Lib.hid (show (W1.alloc (.cells #[.string (bs m.id), .int .i64 m.mn, .int .i64 m.mx, .int .i64 m.lv, .int .i64 m.se, .int .i64 m.sa, .slice af nf kf, .slice a3 ns ks] 53)).heap.size = W1.heap.size + 1 by simp)
        have hngx : ¬ (g = W1.heap.size) := by omega
        have hngx2 : ¬ (W1.heap.size = g) := by omega
        clear hs hx hbd
        cases b
        · have HST2 := Lib.hid (show (e.set K ⟨m, .slice af nf kf, .slice a3 ns ks⟩).take (K + 1) = (l.take (J + 1)).filter (fun q => !d q.m) by rw [HST.out, ← HTK.out]; exact take_setM e K _ (by have := HEL.out; omega))
          have HOF2 := Lib.hid (show ∀ j, J + 1 ≤ j → (e.set K ⟨m, .slice af nf kf, .slice a3 ns ks⟩)[j]? = l[j]? from fun j hj => by rw [List.getElem?_set_ne (by omega)]; exact HOF.out j (by omega))
          have HEL2 := Lib.hid (show (e.set K ⟨m, .slice af nf kf, .slice a3 ns ks⟩).length = n by rw [List.length_set]; exact HEL.out)
          have k1 : (K : Int) < n := by omega
          have k2 : (0 : Int) ≤ K := by omega
          obtain ⟨z, hz⟩ : ∃ z, e[K]? = some z := ⟨e[K]'(by have := HEL.out; omega), List.getElem?_eq_getElem (by have := HEL.out; omega)⟩
          have HZ := Lib.hid hz
          clear hz HST
          obtain ⟨e0, e1, e2, e3, e4, e5, e6, e7⟩ := cells8 HX.out
          go_wp2_with (first
            | (go_at_call 29; (with_reducible refine (CB.out _ (HB.out.alloc _)).mono ?_); rintro e' w2 ⟨rfl, b2⟩; clear e0 e1 e2 e3 e4 e5 e6 e7; obtain ⟨e0, e1, e2, e3, e4, e5, e6, e7⟩ := cells8 ((b2.block W1.heap.size (by simp)).trans HX.out); have S2 := Lib.hid ((HS.out.alloc (.cells #[.string (bs m.id), .int .i64 m.mn, .int .i64 m.mx, .int .i64 m.lv, .int .i64 m.se, .int .i64 m.sa, .slice af nf kf, .slice a3 ns ks] 53)).on b2); have T2 := Lib.hid ((HB.out.alloc (.cells #[.string (bs m.id), .int .i64 m.mn, .int .i64 m.mx, .int .i64 m.lv, .int .i64 m.se, .int .i64 m.sa, .slice af nf kf, .slice a3 ns ks] 53)).trans (Turn.of_below b2)); have C2 := Lib.hid (show MqAt w2 g (off + K * 8) z from by
                rcases S2.out.2 with ⟨h0, _⟩ | ⟨g', off', cap', he, _, hg, _, _, _, hcell⟩
                · cases h0
                · cases he
                  exact mq_at (qs := e) (fun j hj => hcell j (by have := HEL.out; omega)) (Below.refl _ _) hg K z HZ.out); obtain ⟨c0, c1, c2, c3, c4, c5, c6, c7⟩ := C2.out; have f0 := sl_froz20 S2.out (K * 8) (by omega); have f1 := sl_froz20 S2.out (K * 8 + 1) (by omega); have f2 := sl_froz20 S2.out (K * 8 + 2) (by omega); have f3 := sl_froz20 S2.out (K * 8 + 3) (by omega); have f4 := sl_froz20 S2.out (K * 8 + 4) (by omega); have f5 := sl_froz20 S2.out (K * 8 + 5) (by omega); have f6 := sl_froz20 S2.out (K * 8 + 6) (by omega); have f7 := sl_froz20 S2.out (K * 8 + 7) (by omega); rw [← Nat.add_assoc] at f1 f2 f3 f4 f5 f6 f7; clear b2)
            | fail)
          exact ⟨⟨K + 1, J + 1, e.set K ⟨m, .slice af nf kf, .slice a3 ns ks⟩, by simp, by simp, by omega, by omega, HST2.out, HEL2.out, HOF2.out, sl_setM S2.out K ⟨m, .slice af nf kf, .slice a3 ns ks⟩ (by omega), turn_set8g T2.out g (off + K * 8) ⟨m, .slice af nf kf, .slice a3 ns ks⟩ rfl⟩, by simp [RowKit.intOf]; omega⟩
        · have HST2 := Lib.hid (show e.take K = (l.take (J + 1)).filter (fun q => !d q.m) by rw [HST.out, HTK.out]; simp)
          clear HST
          obtain ⟨e0, e1, e2, e3, e4, e5, e6, e7⟩ := cells8 HX.out
          go_wp2_with (first
            | (go_at_call 29; (with_reducible refine (CB.out _ (HB.out.alloc _)).mono ?_); rintro e' w2 ⟨rfl, b2⟩; have S2 := Lib.hid ((HS.out.alloc (.cells #[.string (bs m.id), .int .i64 m.mn, .int .i64 m.mx, .int .i64 m.lv, .int .i64 m.se, .int .i64 m.sa, .slice af nf kf, .slice a3 ns ks] 53)).on b2); have T2 := Lib.hid ((HB.out.alloc (.cells #[.string (bs m.id), .int .i64 m.mn, .int .i64 m.mx, .int .i64 m.lv, .int .i64 m.se, .int .i64 m.sa, .slice af nf kf, .slice a3 ns ks] 53)).trans (Turn.of_below b2)); clear b2)
            | fail)
          exact ⟨⟨K, J + 1, e, rfl, by simp, by omega, by omega, HST2.out, HEL.out, fun j hj => HOF.out j (by omega), S2.out, T2.out⟩, by simp [RowKit.intOf]; omega⟩
      · have hil2 : ¬ (J : Int) < n := by omega
        have hJn : J = l.length := by have := HN.out; omega
        have HCL := Lib.hid (show e.take K = l.filter (fun q => !d q.m) by rw [HTK.out, hJn, List.take_length])
        have hlen : (l.filter (fun q => !d q.m)).length = K := by rw [← HCL.out, List.length_take, HEL.out]; omega
        have HLEN := Lib.hid hlen
        have hKn : K < n := by have := HLT.out; omega
        have hs2 := run_tailM g off n cap K hKn hnc
        have hcut := sl_cutM hs (Nat.le_of_lt hKn)
        obtain ⟨zl, zo⟩ := zero_cellsM (n - K)
        have hst := Ext.stored (m := n - K) hcut zl (by omega)
        have HOLD := Lib.hid hst.old
        have HBE := Lib.hid (hst.below (B := base) (Nat.le_refl _) (by have := HB.out.size; have := HG.out; have := HBG.out; omega))
        have HGR := Lib.hid hst.grown
        have hcl : ∀ ty, (Builtin.clear_ #[23] ty #[.slice (some ⟨g, off + K * 8, none⟩) (n - K) (cap - K)]).run Try.prog W1 = .ok (.tuple #[]) (W1.setCells g (off + K * 8) (Builtin.zeroCells (Value.agg #[.string ⟨#[]⟩, .int .i64 0, .int .i64 0, .int .i64 0, .int .i64 0, .int .i64 0, .slice none 0 0, .slice none 0 0]).cells (n - K)).toList) := fun ty =>
          run_clearM W1 23 53 ty Try.underlying23 zv g (off + K * 8) (n - K) (cap - K) (by omega) (fun j hj => by
            rw [Nat.add_assoc]
            rcases hs.2 with ⟨h0, _⟩ | ⟨g', off', cap', he, _, _, h3, _, hfree, _⟩
            · cases h0
            · cases he; exact (hfree (K * 8 + j) (by omega)).1) (fun j hj => by rw [Nat.add_assoc]; exact sl_froz20 hs (K * 8 + j) (by omega))
        have d1 : (K : Int) ≤ n := by omega
        have d2 : (0 : Int) ≤ K := by omega
        have d3 : (K : Int) ≤ cap := by omega
        clear hs hJn hlen hcut hst zl zo
        go_wp2
        go_ret
        refine ⟨_, rfl, ?_, ⟨HBE.out.os.trans HB.out.os, HBE.out.tape.trans HB.out.tape, HBE.out.output.trans HB.out.output, Nat.le_trans HB.out.size HBE.out.size, fun k hk hne => ?_⟩⟩
        · have := HOLD.out
          rw [HCL.out] at this
          rw [HLEN.out]
          exact this
        · have hkg : k ≠ g := fun e => hne (by rw [e]; rfl)
          exact (HGR.out.block k (Nat.lt_of_lt_of_le hk HB.out.size) (fun e => hne e.symm)).trans (HB.out.block k hk hkg)
  · have HF := Lib.hid (filter_none d l hno)
    have S1 := Lib.hid (HH.out.on B1.out)
    clear hno h
    go_wp2_with fail
    go_ret
    rw [HF.out]
    exact ⟨_, rfl, by rw [← HN.out]; exact S1.out, Turn.of_below B1.out⟩
end Go.Proofs.Ytkialkjhjenkhaa
