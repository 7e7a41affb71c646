/- Layer 15: a trial: the last time of a series, a point taken. -/
import Derived.Test.YthgpnjkabpfccaaDoorMHD
namespace Go.Proofs.YthgpnjkabpfccaaDoor
open Go.RowKit Go.Lib

/-- A trial's box. -/
def TrB (t b lm : Nat) (ns nsm : Int) (w : World) : Prop := w.heap[t]? = some (.cells #[.pointer (some ⟨b, 0, none⟩), .map (some lm), .int .i64 ns, .int .i64 nsm] 69)
theorem trB_lt {t b lm : Nat} {ns nsm : Int} {w : World} (h : TrB t b lm ns nsm w) : t < w.heap.size := (Array.getElem?_eq_some_iff.1 h).1
theorem zv_i64 (w : World) : (zeroValue 2).run Tryd.prog w = .ok (.int .i64 0) w := Tryd.zeroValue2 w
theorem zv_sr (w : World) : (zeroValue 72).run Tryd.prog w = .ok (.pointer none) w := Tryd.zeroValue72 w

set_option maxRecDepth 100000 in
theorem lastOf_taken (t b lm c : Nat) (es : List En) (ns nsm L : Int) (key : ByteArray) (w : World) (h : TrB t b lm ns nsm w) (hm : MapIs lm es c w) (hk : (lookE key es).map (·.val) = some (.int .i64 L)) :
    Calls Tryd.prog 27 #[.pointer (some ⟨t, 0, none⟩), .string key] w fun e w' => e = .returned (.int .i64 L) ∧ w = w' := by
  have c1 : w.cell? ⟨t, 1, none⟩ = some (.map (some lm)) := Lib.cell_of_heap h 1
  have hl := run_look (P := Tryd.prog) Tryd.underlying67 Tryd.underlying9 (.int .i64 0) zv_i64 hm key true
  have hs : (lookE key es).isSome = true := by cases hq : lookE key es with | none => rw [hq] at hk; cases hk | some x => rfl
  rw [hk, hs] at hl
  simp only [if_true, Option.getD_some] at hl
  clear hk hs hm
  go_enter Tryd.func27, Tryd.ntmps27
  go_wp2
  go_ret
  exact ⟨rfl, rfl⟩

set_option maxRecDepth 100000 in
theorem lastOf_head (t b lm c ms mi mp cs : Nat) (es ss : List En) (ns nsm L : Int) (se sa wd fl tp sm nu pl : Int) (key : ByteArray) (pv : Value) (w : World) (h : TrB t b lm ns nsm w) (hh : HdB b ms mi mp se sa wd fl tp sm nu pl w) (hm : MapIs lm es c w) (hms : MapIs ms ss cs w) (hk : lookE key es = none)
    (hp : ((lookE key ss).map (·.val)).getD (.pointer none) = pv) (hL : Calls Tryd.prog 41 #[pv] w fun e w' => e = .returned (.int .i64 L) ∧ ∃ q, w' = w.drewN q) :
    Calls Tryd.prog 27 #[.pointer (some ⟨t, 0, none⟩), .string key] w fun e w' => e = .returned (.int .i64 L) ∧ ∃ q, w' = w.drewN q := by
  have c0 : w.cell? ⟨t, 0, none⟩ = some (.pointer (some ⟨b, 0, none⟩)) := Lib.cell_of_heap h 0
  have c1 : w.cell? ⟨t, 1, none⟩ = some (.map (some lm)) := Lib.cell_of_heap h 1
  have d7 : w.cell? ⟨b, 7, none⟩ = some (.map (some ms)) := Lib.cell_of_heap hh 7
  have hl := run_look (P := Tryd.prog) Tryd.underlying67 Tryd.underlying9 (.int .i64 0) zv_i64 hm key true
  rw [hk] at hl
  simp only [if_true, Option.map_none, Option.getD_none, Option.isSome_none] at hl
  have hl2 := run_look (P := Tryd.prog) Tryd.underlying31 Tryd.underlying9 (.pointer none) zv_sr hms key false
  rw [hp] at hl2
  simp only [Bool.false_eq_true, if_false] at hl2
  have HL := Lib.hid hL
  clear hk hm hms hp hL h hh
  go_enter Tryd.func27, Tryd.ntmps27
  go_wp2_with fail
  refine HL.out.mono ?_
  rintro e w1 ⟨rfl, q, rfl⟩
  go_wp2
  go_ret
  exact ⟨rfl, q, rfl⟩

theorem tr_set3 {t b lm : Nat} {ns nsm : Int} {W : World} (h : TrB t b lm ns nsm W) (x : Int) : TrB t b lm ns x (W.setCell ⟨t, 3, none⟩ (.int .i64 x)) := by
  have := heap_setCell_same W t 3 _ _ (.int .i64 x) h
  rw [TrB, this]; rfl
theorem tr_set2 {t b lm : Nat} {ns nsm : Int} {W : World} (h : TrB t b lm ns nsm W) (x : Int) : TrB t b lm x nsm (W.setCell ⟨t, 2, none⟩ (.int .i64 x)) := by
  have := heap_setCell_same W t 2 _ _ (.int .i64 x) h
  rw [TrB, this]; rfl
theorem st_last (w : World) (lm c : Nat) (es : List En) (k : ByteArray) (v : Value) (h : MapIs lm es c w) : (Instr.mapUpdate 67 (.map (some lm)) (.string k) v).run Tryd.prog w = .ok () (World.putMap w lm (setE k v c es) (if (lookE k es).isSome then c else c + 1)) :=
  run_store (P := Tryd.prog) Tryd.underlying67 Tryd.underlying9 h k v
/-- What is there behind the stores of a point taken. -/
theorem taken_w (t b lm c ms mi mp p : Nat) (es : List En) (ns' nsm' T : Int) (se sa wd fl tp sm nu pl : Int) (K : ByteArray) (w w3 W5 : World) (hT : TrB t b lm ns' nsm' W5) (t5 : Turn (fun k => k = t) w3 W5) (b03 : Below w.heap.size w w3) (hh : HdB b ms mi mp se sa wd fl tp sm nu pl w3) (hm : MapIs lm es c w3) (htw : t < w.heap.size) (hbw : b < w.heap.size) (hlw : lm < w.heap.size) (hp : p = w.heap.size) (hpw : p < w3.heap.size) (x1 : w3.cell? ⟨p, 1, none⟩ = some (.int .i64 T))
    (htb : t ≠ b) (htl : t ≠ lm) (hlb : lm ≠ b) :
    (W5.cell? ⟨t, 1, none⟩ = some (.map (some lm)) ∧ W5.cell? ⟨p, 1, none⟩ = some (.int .i64 T)) ∧ ∃ W6 c', (Instr.mapUpdate 67 (.map (some lm)) (.string K) (.int .i64 T)).run Tryd.prog W5.drew = .ok () W6 ∧
      (W6.cell? ⟨t, 0, none⟩ = some (.pointer (some ⟨b, 0, none⟩)) ∧ W6.cell? ⟨t, 2, none⟩ = some (.int .i64 ns') ∧ W6.cell? ⟨t, 3, none⟩ = some (.int .i64 nsm') ∧ W6.cell? ⟨b, 0, none⟩ = some (.int .i64 se) ∧ W6.cell? ⟨b, 1, none⟩ = some (.int .i64 sa)) ∧
      TrB t b lm ns' nsm' W6 ∧ MapIs lm (setE K (.int .i64 T) c es) c' W6 ∧ Turn (fun k => k = t ∨ k = lm) w W6 := by
  have z3 := b03.size
  have hp5 := (t5.cell (p := ⟨p, 1, none⟩) hpw (by show ¬ p = t; omega)).trans x1
  have m5 : MapIs lm es c W5.drew := (t5.block lm (by omega) (fun e => htl e.symm)).trans hm
  have hst := st_last W5.drew lm c es K (.int .i64 T) m5
  obtain ⟨cc, hcc⟩ : ∃ cc, cc = if (lookE K es).isSome then c else c + 1 := ⟨_, rfl⟩
  rw [← hcc] at hst
  have t6 : Turn (fun k => k = lm) W5 (World.putMap W5.drew lm (setE K (.int .i64 T) c es) cc) := (Turn.refl _ W5).drew.trans (turn_put (S := fun i => i = lm) rfl _ _)
  have T6 : TrB t b lm ns' nsm' (World.putMap W5.drew lm (setE K (.int .i64 T) c es) cc) := (t6.block t (trB_lt hT) htl).trans hT
  have H6 : HdB b ms mi mp se sa wd fl tp sm nu pl (World.putMap W5.drew lm (setE K (.int .i64 T) c es) cc) := (t6.block b (by have := t5.size; omega) (fun e => hlb e.symm)).trans ((t5.block b (by omega) (fun e => htb e.symm)).trans hh)
  refine ⟨⟨Lib.cell_of_heap hT 1, hp5⟩, _, cc, hst, ⟨Lib.cell_of_heap T6 0, Lib.cell_of_heap T6 2, Lib.cell_of_heap T6 3, Lib.cell_of_heap H6 0, Lib.cell_of_heap H6 1⟩, T6, mapIs_put (w := W5.drew) (mapIs_lt m5) _ _, ?_⟩
  exact (Turn.of_below b03).trans ((t5.mono (fun k hk => .inl hk)).trans (t6.mono (fun k hk => .inr hk)))

/-- What a point's labels answer. -/
structure PtK (lv : Value) (K : ByteArray) (w : World) : Prop where
  ck : ∀ W, Below w.heap.size w W → Calls Tryd.prog 25 #[lv] W fun e w' => e = .returned (.int .i64 0) ∧ Below W.heap.size W w'
  ky : ∀ W, Below w.heap.size w W → Calls Tryd.prog 26 #[lv] W fun e w' => e = .returned (.string K) ∧ Below W.heap.size W w'

set_option maxHeartbeats 4000000 in
set_option maxRecDepth 100000 in
theorem take_ok (t b lm c ms mi mp : Nat) (es : List En) (ns nsm T V L : Int) (se sa wd fl tp sm nu pl : Int) (lv : Value) (K : ByteArray) (nw : Bool) (ns' : Int) (w : World) (h : TrB t b lm ns nsm w) (hh : HdB b ms mi mp se sa wd fl tp sm nu pl w) (hm : MapIs lm es c w) (hk : PtK lv K w)
    (htb : t ≠ b) (htl : t ≠ lm) (hlb : lm ≠ b) (hlo : ∀ W, Below w.heap.size w W → Calls Tryd.prog 27 #[.pointer (some ⟨t, 0, none⟩), .string K] W fun e w' => e = .returned (.int .i64 L) ∧ Below W.heap.size W w')
    (hnw : (L == -1) = nw) (hns : ns' = if nw then ns + 1 else ns) (h0 : 0 ≤ T) (h1 : T ≤ 1099511627775) (h2 : T ≠ L) (h3 : fl ≤ T) (h4 : L ≤ T) (h5 : ns' ≤ se) (h6 : nsm + 1 ≤ sa) (h7 : 0 ≤ ns ∧ 0 ≤ nsm) (h8 : se ≤ 10000 ∧ sa ≤ 1048576) :
    Calls Tryd.prog 17 #[.pointer (some ⟨t, 0, none⟩), .agg #[lv, .int .i64 T, .int .u64 V]] w fun e w' => e = .returned (.int .i64 0) ∧ ∃ c', TrB t b lm ns' (nsm + 1) w' ∧ MapIs lm (setE K (.int .i64 T) c es) c' w' ∧ Turn (fun k => k = t ∨ k = lm) w w' := by
  obtain ⟨h7a, h7b⟩ := h7
  obtain ⟨h8a, h8b⟩ := h8
  have nb1 : ns ≤ 10000 := by rw [hns] at h5; split at h5 <;> omega
  have nb2 : nsm ≤ 1048576 := by omega
  have htw := trB_lt h
  have hbw := hdB_lt hh
  have hlw := mapIs_lt hm
  have b0 : Below w.heap.size w (w.alloc (.cells #[lv, .int .i64 T, .int .u64 V] 45)) := (Below.refl _ _).alloc (Nat.le_refl _) _
  have P := heap_alloc_new w (.cells #[lv, .int .i64 T, .int .u64 V] 45)
  have hsz : w.heap.size < (w.alloc (.cells #[lv, .int .i64 T, .int .u64 V] 45)).heap.size := by simp
  obtain ⟨p, hp⟩ : ∃ p, p = w.heap.size := ⟨_, rfl⟩
  have CK := Lib.hid (hk.ck _ b0)
  have KY := Lib.hid hk.ky
  have LO := Lib.hid hlo
  have p0 : (w.alloc (.cells #[lv, .int .i64 T, .int .u64 V] 45)).cell? ⟨p, 0, none⟩ = some lv := by rw [hp]; exact Lib.cell_of_heap P 0
  have p1 : (w.alloc (.cells #[lv, .int .i64 T, .int .u64 V] 45)).cell? ⟨p, 1, none⟩ = some (.int .i64 T) := by rw [hp]; exact Lib.cell_of_heap P 1
  have F := Lib.hid (fun W (b : Below (w.alloc (.cells #[lv, .int .i64 T, .int .u64 V] 45)).heap.size (w.alloc (.cells #[lv, .int .i64 T, .int .u64 V] 45)) W) => (show W.cell? ⟨p, 0, none⟩ = some lv ∧ W.cell? ⟨p, 1, none⟩ = some (.int .i64 T) from ⟨(b.cell (p := ⟨p, 0, none⟩) (by rw [hp]; exact hsz)).trans p0, (b.cell (p := ⟨p, 1, none⟩) (by rw [hp]; exact hsz)).trans p1⟩))
  have B0 := Lib.hid b0
  clear hk hlo P b0 p0 p1 hsz
  go_enter Tryd.func17, Tryd.ntmps17
  go_wp2_with fail
  refine CK.out.mono ?_
  rintro e w1 ⟨rfl, b1⟩
  obtain ⟨f0, f1⟩ := F.out _ b1
  rw [hp] at f0 f1
  have b01 := B0.out.trans (b1.mono B0.out.size)
  have i1 : ¬ T < 0 := by omega
  have i2 : ¬ 1099511627775 < T := by omega
  go_wp2_with fail
  refine (KY.out _ b01).mono ?_
  rintro e w2 ⟨rfl, b2⟩
  have b12 := b1.trans (b2.mono b1.size)
  have b02 := B0.out.trans (b12.mono B0.out.size)
  go_wp2_with fail
  refine (LO.out _ b02).mono ?_
  rintro e w3 ⟨rfl, b3⟩
  have b13 := b12.trans (b3.mono b12.size)
  have b03 := Lib.hid (B0.out.trans (b13.mono B0.out.size))
  have hp3 : p < w3.heap.size := by have h1 := b13.size; have h2 : w.heap.size < (w.alloc (.cells #[lv, .int .i64 T, .int .u64 V] 45)).heap.size := by simp
                                    omega
  obtain ⟨x0, x1⟩ := F.out _ b13
  rw [hp] at x0 x1
  have H3 : HdB b ms mi mp se sa wd fl tp sm nu pl w3 := (b03.out.block b hbw).trans hh
  have T3 : TrB t b lm ns nsm w3 := (b03.out.block t htw).trans h
  have M3 : MapIs lm es c w3 := Below.mapIs b03.out hm
  have u0 : w3.cell? ⟨t, 0, none⟩ = some (.pointer (some ⟨b, 0, none⟩)) := Lib.cell_of_heap T3 0
  have u1 : w3.cell? ⟨t, 1, none⟩ = some (.map (some lm)) := Lib.cell_of_heap T3 1
  have u2 : w3.cell? ⟨t, 2, none⟩ = some (.int .i64 ns) := Lib.cell_of_heap T3 2
  have u3 : w3.cell? ⟨t, 3, none⟩ = some (.int .i64 nsm) := Lib.cell_of_heap T3 3
  have g0 : w3.cell? ⟨b, 0, none⟩ = some (.int .i64 se) := Lib.cell_of_heap H3 0
  have g1 : w3.cell? ⟨b, 1, none⟩ = some (.int .i64 sa) := Lib.cell_of_heap H3 1
  have g3 : w3.cell? ⟨b, 3, none⟩ = some (.int .i64 fl) := Lib.cell_of_heap H3 3
  have j1 : (T == L) = false := by simp; omega
  have j2 : ¬ T < fl := by omega
  have j3 : ¬ T < L := by omega
  clear f0 f1 b1 b2 b3 b01 b12 b02 CK KY LO F b13
  have fz2 := Lib.frozen_of_heap T3 2
  have fz3 := Lib.frozen_of_heap T3 3
  go_wp2_with fail
  go_quiet (fail)
  have bq := below_draw (Below.refl w3.heap.size w3) nq
  have Tq : TrB t b lm ns nsm (w3.drewN nq) := (bq.block t (trB_lt T3)).trans T3
  have tq : Turn (fun k => k = t) w3 (w3.drewN nq) := Turn.of_below bq
  have HTW := Lib.hid (fun W5 (ns' nsm' : Int) (hT : TrB t b lm ns' nsm' W5) (t5 : Turn (fun k => k = t) w3 W5) => taken_w t b lm c ms mi mp p es ns' nsm' T se sa wd fl tp sm nu pl K w w3 W5 hT t5 b03.out H3 M3 htw hbw hlw hp hp3 (by rw [hp]; exact x1) htb htl hlb)
  cases nw
  · obtain rfl : ns' = ns := by simpa using hns
    clear hns
    have A5 := Lib.hid (HTW.out ((w3.drewN nq).setCell ⟨t, 3, none⟩ (.int .i64 (nsm + 1))) ns' (nsm + 1) (tr_set3 Tq (nsm + 1)) (tq.setCell _ _ rfl))
    clear HTW T3 M3 Tq tq bq
    go_wp2_with fail
    obtain ⟨⟨y0, y1⟩, W6, c', hst, ⟨z0, z2, z3, z4, z5⟩, T6, M6, t6⟩ := A5.out
    obtain ⟨W5, hW5⟩ : ∃ W5, W5 = (w3.drewN nq).setCell ⟨t, 3, none⟩ (.int .i64 (nsm + 1)) := ⟨_, rfl⟩
    rw [← hW5] at y0 y1 hst ⊢
    rw [hp] at y1
    have k1 : ¬ se < ns' := by omega
    have k2 : ¬ sa < nsm + 1 := by omega
    have T6 := Lib.hid T6; have M6 := Lib.hid M6; have t6 := Lib.hid t6
    clear A5 hW5 x0 x1 u0 u1 u2 u3 g0 g1 g3 fz2 fz3 hp hp3
    go_region
    go_wp2_with fail
    go_quiet (fail)
    go_wp2
    go_ret
    have bz := below_draw (Below.refl W6.heap.size W6) nq
    exact ⟨rfl, c', (bz.block t (trB_lt T6.out)).trans T6.out, Below.mapIs bz M6.out, t6.out.trans (Turn.of_below bz)⟩
  · obtain rfl : ns' = ns + 1 := by simpa using hns
    clear hns
    have A5 := Lib.hid (HTW.out (((w3.drewN nq).setCell ⟨t, 2, none⟩ (.int .i64 (ns + 1))).setCell ⟨t, 3, none⟩ (.int .i64 (nsm + 1))) (ns + 1) (nsm + 1) (tr_set3 (tr_set2 Tq (ns + 1)) (nsm + 1)) ((tq.setCell _ _ rfl).setCell _ _ rfl))
    clear HTW T3 M3 Tq tq bq
    go_wp2_with fail
    obtain ⟨⟨y0, y1⟩, W6, c', hst, ⟨z0, z2, z3, z4, z5⟩, T6, M6, t6⟩ := A5.out
    obtain ⟨W5, hW5⟩ : ∃ W5, W5 = ((w3.drewN nq).setCell ⟨t, 2, none⟩ (.int .i64 (ns + 1))).setCell ⟨t, 3, none⟩ (.int .i64 (nsm + 1)) := ⟨_, rfl⟩
    rw [← hW5] at y0 y1 hst ⊢
    rw [hp] at y1
    have k1 : ¬ se < ns + 1 := by omega
    have k2 : ¬ sa < nsm + 1 := by omega
    have T6 := Lib.hid T6; have M6 := Lib.hid M6; have t6 := Lib.hid t6
    clear A5 hW5 x0 x1 u0 u1 u2 u3 g0 g1 g3 fz2 fz3 hp hp3
    go_region
    go_wp2_with fail
    go_quiet (fail)
    go_wp2
    go_ret
    have bz := below_draw (Below.refl W6.heap.size W6) nq
    exact ⟨rfl, c', (bz.block t (trB_lt T6.out)).trans T6.out, Below.mapIs bz M6.out, t6.out.trans (Turn.of_below bz)⟩

set_option maxHeartbeats 1000000 in
set_option maxRecDepth 100000 in
theorem take_twice (T V : Int) (tr : Nat) (lv : Value) (K : ByteArray) (w : World) (hk : PtK lv K w) (h0 : 0 ≤ T) (h1 : T ≤ 1099511627775) (hlo : ∀ W, Below w.heap.size w W → Calls Tryd.prog 27 #[.pointer (some ⟨tr, 0, none⟩), .string K] W fun e w' => e = .returned (.int .i64 T) ∧ Below W.heap.size W w') :
    Calls Tryd.prog 17 #[.pointer (some ⟨tr, 0, none⟩), .agg #[lv, .int .i64 T, .int .u64 V]] w fun e w' => e = .returned (.int .i64 11) ∧ Below w.heap.size w w' := by
  have b0 : Below w.heap.size w (w.alloc (.cells #[lv, .int .i64 T, .int .u64 V] 45)) := (Below.refl _ _).alloc (Nat.le_refl _) _
  have P := heap_alloc_new w (.cells #[lv, .int .i64 T, .int .u64 V] 45)
  have hsz : w.heap.size < (w.alloc (.cells #[lv, .int .i64 T, .int .u64 V] 45)).heap.size := by simp
  have CK := Lib.hid (hk.ck _ b0)
  have KY := Lib.hid hk.ky
  have LO := Lib.hid hlo
  have F := Lib.hid (fun W (b : Below (w.alloc (.cells #[lv, .int .i64 T, .int .u64 V] 45)).heap.size (w.alloc (.cells #[lv, .int .i64 T, .int .u64 V] 45)) W) => (show W.cell? ⟨w.heap.size, 0, none⟩ = some lv ∧ W.cell? ⟨w.heap.size, 1, none⟩ = some (.int .i64 T) from ⟨(b.cell (p := ⟨w.heap.size, 0, none⟩) hsz).trans (Lib.cell_of_heap P 0), (b.cell (p := ⟨w.heap.size, 1, none⟩) hsz).trans (Lib.cell_of_heap P 1)⟩))
  have B0 := Lib.hid b0
  clear hk hlo P b0 hsz
  go_enter Tryd.func17, Tryd.ntmps17
  go_wp2_with fail
  refine CK.out.mono ?_
  rintro e w1 ⟨rfl, b1⟩
  obtain ⟨f0, f1⟩ := F.out _ b1
  have b01 := B0.out.trans (b1.mono B0.out.size)
  have i1 : ¬ T < 0 := by omega
  have i2 : ¬ 1099511627775 < T := by omega
  go_wp2_with fail
  refine (KY.out _ b01).mono ?_
  rintro e w2 ⟨rfl, b2⟩
  have b12 := b1.trans (b2.mono b1.size)
  have b02 := B0.out.trans (b12.mono B0.out.size)
  go_wp2_with fail
  refine (LO.out _ b02).mono ?_
  rintro e w3 ⟨rfl, b3⟩
  have b13 := b12.trans (b3.mono b12.size)
  obtain ⟨x0, x1⟩ := F.out _ b13
  have b03 := Lib.hid (B0.out.trans (b13.mono B0.out.size))
  clear f0 f1 b1 b2 b3 b01 b12 b02 CK KY LO F b13
  go_wp2_with fail
  go_ret
  exact ⟨rfl, b03.out⟩
end Go.Proofs.YthgpnjkabpfccaaDoor
