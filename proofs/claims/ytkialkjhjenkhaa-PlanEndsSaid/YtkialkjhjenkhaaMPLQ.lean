/- Layer 20: PlanMore. Layer 20: PlanSound: the calls as the law needs them. -/
import Derived.Test.YtkialkjhjenkhaaMPLN
import Derived.Test.YtkialkjhjenkhaaMPLS
namespace Go.Proofs.Ytkialkjhjenkhaa
open Go.RowKit Go.Lib
set_option linter.unusedVariables false

theorem lst20_any (v : Value) (l : List Og) (wd : Int) (w : World) (h : Rd w 5 v l.length (ogc l)) (hw : 1 ≤ wd ∧ wd ≤ 1000) :
    Calls Try.prog 7 #[v, .int .i64 wd] w fun e w' => ∃ a9 k9 n mp a8 k8 n8 rs, e = .returned (.tuple #[.agg #[.int .i64 5, .slice a9 n k9, .map (some mp)], .agg #[.int .i64 5, .slice a8 n8 k8]]) ∧ LstR w' (.agg #[.int .i64 5, .slice a9 n k9, .map (some mp)]) 5 rs (ksO l (min l.length 12)) ∧ UpQ rs ∧ n ≤ 12 ∧ Hid (n = rs.length) ∧ (∀ q ∈ rs, OkB q.m) ∧ Below w.heap.size w w' := by
  refine (listing20_any v l wd w h hw).mono ?_
  rintro e w1 ⟨⟨lv, v8, rs, ts, rfl, hl, hrm, hv8, -, -, -⟩, b1⟩
  obtain ⟨ms, mp, rfl, hm1, hm2⟩ := hl
  obtain ⟨a9, k9, rfl⟩ := rd_form hm1.rd
  obtain ⟨a8, k8, rfl⟩ := rd_form hv8
  have hlen : rs.length ≤ 12 := by
    have := congrArg List.length hrm
    rw [List.length_map, msO_len wd l _ (Nat.min_le_left _ _)] at this
    omega
  exact ⟨a9, k9, _, mp, a8, k8, _, rs, rfl, ⟨_, mp, rfl, hm1, hm2⟩, msO_up wd l _ (Nat.min_le_left _ _) (by omega) rs hrm, hlen, rfl, okO_all wd hw l _ rs hrm, b1⟩
theorem width_is (x : Int) : ∃ A B : Int, x.tmod 1000 = A ∧ IntKind.i64.wrap (A + 1000) = A + 1000 ∧ (A + 1000).tmod 1000 = B ∧ IntKind.i64.wrap (1 + B) = 1 + B ∧ 1 ≤ 1 + B ∧ 1 + B ≤ 1000 := by
  have h1 := Int.tmod_lt_of_pos x (show (0 : Int) < 1000 by decide)
  have h2 : -1000 < x.tmod 1000 := by
    have h3 := Int.tmod_lt_of_pos (-x) (show (0 : Int) < 1000 by decide)
    rw [Int.neg_tmod] at h3
    omega
  have h4 : 0 ≤ (x.tmod 1000 + 1000).tmod 1000 := Int.tmod_nonneg _ (by omega)
  have h5 := Int.tmod_lt_of_pos (x.tmod 1000 + 1000) (show (0 : Int) < 1000 by decide)
  exact ⟨_, _, rfl, IntWalk.i64_in _ (by omega), rfl, IntWalk.i64_in _ (by omega), by omega, by omega⟩
theorem turn_bel {A a W : World} {o : Obj} (b : Below A.heap.size A a) (t : Turn (fun k => k = a.heap.size) (a.alloc o) W) : Below A.heap.size A W := by
  have z := b.size
  exact (b.alloc z o).trans (t.below (by simp; omega) (fun k hk => by omega))
theorem turn_bel2 {A a c W : World} {d : Nat} (b : Below A.heap.size A c) (hd : A.heap.size ≤ d) (t : Turn (fun k => k = d) c W) : Below A.heap.size A W := by
  have z := b.size
  exact b.trans (t.below z (fun k hk => by omega))
theorem LstR.ms {w : World} {t : Int} {ms : Value} {mp : Nat} {qs : List Mq} {K : List (List UInt8)} (h : LstR w (.agg #[.int .i64 t, ms, .map (some mp)]) t qs K) : MsR w ms qs := by
  obtain ⟨ms', mp', e, h1, h2⟩ := h
  injection e with e
  injection e with e
  simp only [List.cons.injEq, Value.map.injEq, Option.some.injEq, and_true] at e
  rw [e.2.1]; exact h1
theorem msc_oneCell {w : World} {v : Value} {qs : List Mq} (h : MsR w v qs) : ∀ u ∈ msc qs, u.oneCell' = true := by
  intro u hu
  unfold msc at hu
  obtain ⟨q, hq, h1⟩ := List.mem_flatMap.1 hu
  exact mqc_oneCell (h.ok q hq) u h1
theorem more_app {A W7 w9 : World} {E : Obj} {a9 a10 lit : Option Addr} {n k9 k10 c0 mp d : Nat} {rs : List Mq} {K K' : List (List UInt8)} (h : LstR A (.agg #[.int .i64 5, .slice a9 n k9, .map (some mp)]) 5 rs K) (hn : n = rs.length) (b7 : Below A.heap.size A W7) (m7 : MarkM d K' W7) (hd : A.heap.size ≤ d) (x : Ext W7.heap.size 8 (W7.alloc E) (.slice lit 0 c0) 0 [] w9 (.slice a10 n k10) n (msc rs)) :
    MsR w9 (.slice a10 n k10) rs ∧ MarkM d K' w9 ∧ Below A.heap.size A w9 := by
  have z7 := b7.size
  have bb := x.below (B := W7.heap.size) (Nat.le_refl _) (by simp)
  have b9 : Below A.heap.size A w9 := (b7.alloc z7 E).trans (bb.mono z7)
  refine ⟨⟨?_, fun q hq => (h.ms.ok q hq).on b9⟩, ?_, b9⟩
  · have h9 := Rd.of_sl x.now
    subst hn; exact h9
  · have hl := m7.lt
    exact (m7.turn ((Turn.refl (fun _ => False) _).alloc E) id).same (bb.block d hl)
/-- What is known of the listing with more marks. -/
structure MoY (w : World) (v : Value) (n : Nat) (rs rs2 : List Mq) (K K' : List (List UInt8)) : Prop where
  l : LstR w v 6 rs2 K'
  up : UpQ rs2
  ok : ∀ q ∈ rs2, OkB q.m
  len : rs2.length ≤ 20
  tom : tomQ K' rs2 = []
  fr : ∀ F, FreeIs (rs2.map Mq.m) K' F → FreeIs (rs.map Mq.m) K F
theorem more_y {w10 : World} {n : Nat} {rs rs2 : List Mq} {K K' : List (List UInt8)} {lv2 : Value} (hn : n = rs.length) (hup : UpQ rs) (hok : ∀ q ∈ rs, OkB q.m) (hl : rs.length ≤ 20) (hK : ∀ x, x ∈ K' ↔ x ∈ K ∨ x ∈ ids (tomQ K rs)) (hrm : rs2.map Mq.m = rs.map Mq.m) (h : LstR w10 lv2 6 rs2 K') :
    ∃ a11 k11 mp2, lv2 = .agg #[.int .i64 6, .slice a11 n k11, .map (some mp2)] ∧ MoY w10 lv2 n rs rs2 K K' := by
  have hlen : rs2.length = rs.length := by
    have := congrArg List.length hrm
    simpa using this
  have hK2 : ∀ x, x ∈ K' ↔ x ∈ K ∨ x ∈ ids (tomQ K rs2) := fun x => by rw [hK, tom_same K rs2 rs hrm]
  obtain ⟨ms2, mp2, rfl, hm1, hm2⟩ := h
  obtain ⟨a11, k11, rfl⟩ := rd_form hm1.rd
  rw [hn, ← hlen]
  refine ⟨a11, k11, mp2, rfl, ⟨⟨_, mp2, rfl, hm1, hm2⟩, hup.of hrm, fun q hq => ?_, by omega, more_tom hK2, fun F hF => ?_⟩⟩
  · have h8 : q.m ∈ rs2.map Mq.m := List.mem_map_of_mem hq
    rw [hrm] at h8
    obtain ⟨q', h9, h10⟩ := List.mem_map.1 h8
    rw [← h10]; exact hok q' h9
  · rw [← hrm]
    exact more_free hK2 hF
theorem y_box {w10 w12 : World} {YO : Obj} (b : Below (w10.alloc YO).heap.size (w10.alloc YO) w12) (PO : Obj) : (w12.alloc PO).heap[w10.heap.size]? = some YO ∧ Below w10.heap.size w10 (w12.alloc PO) := by
  have s : (w10.alloc YO).heap.size = w10.heap.size + 1 := by simp
  have z := b.size
  exact ⟨(Below.heap_alloc w12 PO _ (by omega)).trans ((b.block _ (by omega)).trans (heap_alloc_new w10 YO)), (((Below.refl _ _).alloc (Nat.le_refl _) YO).trans (b.mono (by omega))).alloc (by omega) PO⟩
theorem pair_same {a c : Bool} {b d : Nat} {wd : Int} {F F2 : List Mt.Me} (h : (a, b) = nlM wd F) (k : (c, d) = nlM wd F2) (e : F2 = F) : a = c ∧ b = d := by
  subst e
  rw [← h] at k
  injection k with k1 k2
  exact ⟨k1.symm, k2.symm⟩
theorem more_boxes {A w10 w12 w14 : World} {b : Nat} {LO YO PO QO : Obj} (hl : A.heap[b]? = some LO) (hb : b < A.heap.size) (b10 : Below A.heap.size A w10) (b12 : Below (w10.alloc YO).heap.size (w10.alloc YO) w12) (b14 : Below (w12.alloc PO).heap.size (w12.alloc PO) w14) :
    ∀ W, Below (w14.alloc QO).heap.size (w14.alloc QO) W → W.heap[b]? = some LO ∧ W.heap[w10.heap.size]? = some YO ∧ W.heap[w12.heap.size]? = some PO ∧ W.heap[w14.heap.size]? = some QO ∧ Below A.heap.size A W ∧ Below w10.heap.size w10 W := by
  intro W bb
  have s1 : (w10.alloc YO).heap.size = w10.heap.size + 1 := by simp
  have s2 : (w12.alloc PO).heap.size = w12.heap.size + 1 := by simp
  have s3 : (w14.alloc QO).heap.size = w14.heap.size + 1 := by simp
  have z0 := b10.size
  have z1 := b12.size
  have z2 := b14.size
  have c1 : Below w10.heap.size w10 (w12.alloc PO) := (((Below.refl _ _).alloc (Nat.le_refl _) YO).trans (b12.mono (by omega))).alloc (by omega) PO
  have c2 : Below w10.heap.size w10 W := ((c1.trans (b14.mono (by omega))).alloc (by omega) QO).trans (bb.mono (by omega))
  have d1 : Below (w10.alloc YO).heap.size (w10.alloc YO) W := (((b12.alloc z1 PO).trans (b14.mono (by omega))).alloc (by omega) QO).trans (bb.mono (by omega))
  have d2 : Below (w12.alloc PO).heap.size (w12.alloc PO) W := (b14.alloc z2 QO).trans (bb.mono (by omega))
  have a1 : Below A.heap.size A W := b10.trans (c2.mono z0)
  exact ⟨(a1.block b hb).trans hl, (d1.block _ (by omega)).trans (heap_alloc_new w10 YO), (d2.block _ (by omega)).trans (heap_alloc_new w12 PO), (bb.block _ (by omega)).trans (heap_alloc_new w14 QO), a1, c2⟩
theorem more_cells {W : World} {b1 b2 b3 b4 : Nat} {x0 x1 x2 y0 y1 y2 p0 p1 p2 p3 q0 q1 q2 q3 : Value} {T1 T2 T3 T4 : TypeId} {f1 f2 f3 f4 : Nat × Nat} {P Q : Prop} (h : W.heap[b1]? = some (.cells #[x0, x1, x2] T1 f1) ∧ W.heap[b2]? = some (.cells #[y0, y1, y2] T2 f2) ∧ W.heap[b3]? = some (.cells #[p0, p1, p2, p3] T3 f3) ∧ W.heap[b4]? = some (.cells #[q0, q1, q2, q3] T4 f4) ∧ P ∧ Q) :
    W.cell? ⟨b1, 0, none⟩ = some x0 ∧ W.cell? ⟨b1, 1, none⟩ = some x1 ∧ W.cell? ⟨b1, 2, none⟩ = some x2 ∧ W.cell? ⟨b2, 0, none⟩ = some y0 ∧ W.cell? ⟨b2, 1, none⟩ = some y1 ∧ W.cell? ⟨b2, 2, none⟩ = some y2 ∧ W.cell? ⟨b3, 3, none⟩ = some p3 ∧ W.cell? ⟨b4, 3, none⟩ = some q3 :=
  ⟨Lib.cell_of_heap h.1 0, Lib.cell_of_heap h.1 1, Lib.cell_of_heap h.1 2, Lib.cell_of_heap h.2.1 0, Lib.cell_of_heap h.2.1 1, Lib.cell_of_heap h.2.1 2, Lib.cell_of_heap h.2.2.1 3, Lib.cell_of_heap h.2.2.2.1 3⟩
theorem more_rank {W : World} {v : Value} {t r : Int} {qs : List Mq} {K K' : List (List UInt8)} {ms : List Mt.Me} {F : List Mt.Me} (hF : FreeIs ms K F) (hr : r = max ((F.length : Int) - 1) 0) (hfr : ∀ G, FreeIs (qs.map Mq.m) K' G → FreeIs ms K G) (h : LstR W v t qs K') (hup : UpQ qs) (hm : qs.length ≤ 1000) :
    Calls Try.prog 14 #[v] W fun e w' => e = .returned (.int .i64 r) ∧ Below W.heap.size W w' := by
  refine (rank_any v t qs K' W h hup hm).mono ?_
  rintro e w' ⟨G, hG, rfl, b⟩
  rw [(hfr G hG).one hF, hr]
  exact ⟨rfl, b⟩
theorem more_tomark {W : World} {v : Value} {t : Int} {qs : List Mq} {K : List (List UInt8)} (ht : tomQ K qs = []) (h : LstR W v t qs K) (hup : UpQ qs) (hm : qs.length ≤ 20) :
    Calls Try.prog 12 #[v] W fun e w' => ∃ a k, e = .returned (.slice a 0 k) ∧ Below W.heap.size W w' := by
  refine (tomark_any v t qs K W h hup hm).mono ?_
  rintro e w' ⟨v', rfl, hs, b⟩
  rw [ht] at hs
  obtain ⟨a, k, rfl⟩ := hs.slice
  exact ⟨a, k, rfl, b⟩
theorem more_end {w w1 A W : World} (b1 : Below w.heap.size w w1) (b2 : Below w1.heap.size w1 A) (b3 : Below A.heap.size A W) : Below w.heap.size w W :=
  (b1.trans (b2.mono b1.size)).trans (b3.mono (Nat.le_trans b1.size b2.size))
set_option maxHeartbeats 20000000 in
set_option maxRecDepth 100000 in
theorem planmore_any (v : Value) (l : List Og) (width : Int) (w : World) (h : Rd w 5 v l.length (ogc l)) :
    Calls Try.prog 6 #[v, .int .i64 width] w fun e w' => e = .returned (.bool true) ∧ Below w.heap.size w w' := by
  obtain ⟨i0, hi, hz0, hz1, hz2⟩ := info_parts zc_met
  have Hz := Lib.hid hz0; have Hs := Lib.hid hz1; have Hb := Lib.hid hz2; have Hi := Lib.hid hi
  clear hz0 hz1 hz2 hi
  have hmm := @run_makeMap Try.prog
  obtain ⟨av, kv, rfl⟩ := rd_form h
  obtain ⟨A, B, d1, d2, d3, d4, d5, d6⟩ := width_is width
  obtain ⟨wd, hwd⟩ : ∃ wd, wd = 1 + B := ⟨_, rfl⟩
  rw [← hwd] at d4 d5 d6
  have LS := Lib.hid (lst20_any (.slice av l.length kv) l wd w h ⟨d5, d6⟩)
  obtain ⟨K, hK⟩ : ∃ K, K = ksO l (min l.length 12) := ⟨_, rfl⟩
  rw [← hK] at LS
  have WB := Lib.hid (And.intro d5 d6)
  have d4' : IntKind.i64.wrap (1 + B) = wd := by rw [← hwd] ; exact d4
  clear h hK hwd d4
  go_enter Try.func6, Try.ntmps6
  go_wp2_with (first
    | (go_at_call 7; (with_reducible refine LS.out.mono ?_); rintro e w1 ⟨a9, k9, n, mp, a8, k8, n8, rs, rfl, hl, hup, hn12, hn, hok, b1⟩; have HL := Lib.hid hl; have HUP := Lib.hid hup; have HOK := Lib.hid hok; have B1 := Lib.hid b1; have BB := Lib.hid (box_two w1 (.cells #[.int .i64 5, .slice a9 n k9, .map (some mp)] 26) (.cells #[.int .i64 5, .slice a8 n8 k8] 29)); have AW := Lib.hid (awake20_any ((w1.alloc (.cells #[.int .i64 5, .slice a9 n k9, .map (some mp)] 26)).alloc (.cells #[.int .i64 5, .slice a8 n8 k8] 29))); clear hl hup hok b1 d1 d2 d3 d4')
    | (go_at_call 10; (with_reducible refine AW.out.mono ?_); rintro e w3 ⟨rfl, b3⟩; have B3 := Lib.hid b3; obtain ⟨_, mp', hmp, hL1, es, ck, hes, hKe⟩ := HL.out; obtain rfl : mp = mp' := (by injection hmp with e1; injection e1 with e1; simp only [List.cons.injEq, Value.map.injEq, Option.some.injEq, and_true] at e1; exact e1.2.2); have HES := Lib.hid ((hes.turn (S := fun _ => False) (Turn.of_below BB.out.2) id).turn (S := fun _ => False) (Turn.of_below b3) id); have HKE := Lib.hid hKe; have hq1 := ((b3.block w1.heap.size (by simp; omega)).trans BB.out.1); have hq2 := (Below.heap_alloc w3 (.map #[] 0) w1.heap.size (by have := b3.size; simp at this; omega)).trans hq1; have c2 := Lib.cell_of_heap hq2 2; have hrg := run_range_map (P := Try.prog) (w3.alloc (.map #[] 0)) 24 9 3 mp (kents es) ck Try.underlying24 ((HES.out.turn ((Turn.refl (fun _ => False) _).alloc _) id).heap); clear b3 hmp hL1 hes hKe hq1 hq2)
    | fail)
  have hz3 := B3.out.size
  have hzW : ((w1.alloc (.cells #[.int .i64 5, .slice a9 n k9, .map (some mp)] 26)).alloc (.cells #[.int .i64 5, .slice a8 n8 k8] 29)).heap.size = w1.heap.size + 1 + 1 := by simp
  rw [hzW] at hz3
  have hmpl := HES.out.lt
  have hdm : mp ≠ w3.heap.size := by omega
  have M0 := Lib.hid (show MarkM w3.heap.size [] (w3.alloc (.map #[] 0)) from MarkM.new (heap_alloc_new w3 (.map #[] 0)))
  have S4 := Lib.hid (show (w3.alloc (.map #[] 0)).heap.size = w3.heap.size + 1 by simp)
  clear c2 hrg
  go_loopw [8] (fun _ wr => Hid (∃ seen c9 D, wr.heap[w3.heap.size + 1]? = some (.mapIter (some mp) ck seen c9) ∧ ck ≤ c9 ∧ Turn (fun k => k = w3.heap.size) (w3.alloc (.map #[] 0)) wr ∧ MarkM w3.heap.size D wr ∧ (∀ x ∈ D, x ∈ K) ∧ ∀ e ∈ es, seen.contains e.born = true → e.x ∈ D)) (fun _ wr => leftAt (kents es) (w3.heap.size + 1) wr)
  case atStart => exact Lib.hid ⟨#[], ck, [], by have h9 := heap_alloc_new (w3.alloc (.map #[] 0)) (.mapIter (some mp) ck #[] ck); rw [S4.out] at h9; exact h9, Nat.le_refl _, (Turn.refl _ _).alloc _, M0.out.turn ((Turn.refl (fun _ => False) _).alloc _) id, by simp, by simp⟩
  case round =>
    obtain ⟨W5, rfl⟩ : ∃ W, W = wr := ⟨_, rfl⟩
    obtain ⟨seen, c9, D, hit, hck, ht, hD, hDK, hse⟩ := hrel.out
    have hL := (HES.out.turn ((Turn.refl (fun _ => False) _).alloc _) id).turn ht hdm
    rcases hL.step hit hck 0 (by omega) with ⟨hall, hnx⟩ | ⟨e, W, he, hnx, t2, hit2, hen, hlf⟩
    · have MD := Lib.hid (show MarkM w3.heap.size K W5 from by
        obtain ⟨es', ck', h1, h2⟩ := hD
        refine ⟨es', ck', h1, fun y => (h2 y).trans ⟨hDK y, fun hy => ?_⟩⟩
        obtain ⟨e, he, rfl⟩ := List.mem_map.1 ((HKE.out y).2 hy)
        exact hse e he (hall e he))
      have BW := Lib.hid (turn_bel B3.out ht)
      have hq := (BW.out.block w1.heap.size (by rw [hzW]; omega)).trans BB.out.1
      have c0 := Lib.cell_of_heap hq 0; have c1 := Lib.cell_of_heap hq 1; have c2 := Lib.cell_of_heap hq 2
      have hn20 : rs.length ≤ 20 := by have := hn.out; omega
      have hn1000 : rs.length ≤ 1000 := by omega
      have HLW := Lib.hid ((HL.out.on BB.out.2).on BW.out)
      have TM := Lib.hid (tomark_any (.agg #[.int .i64 5, .slice a9 n k9, .map (some mp)]) 5 rs K W5 HLW.out HUP.out hn20)
      clear hrel hit hck ht hD hDK hse hall hL hq
      go_wp2_with (first
        | (go_at_call 12; (with_reducible refine TM.out.mono ?_); rintro e w6 ⟨v6, rfl, sl6, b6⟩; obtain ⟨a6, k6, rfl⟩ := sl6.slice; obtain ⟨T, hT⟩ : ∃ T, T = ids (tomQ K rs) := (⟨_, rfl⟩); have HT := Lib.hid hT; obtain ⟨N1, hN1⟩ : ∃ N1, N1 = (tomQ K rs).length := (⟨_, rfl⟩); have HTL := Lib.hid (show N1 = T.length by rw [hT, hN1]; simp [ids]); rw [← hT, ← hN1] at sl6; rw [← hN1]; have SL6 := Lib.hid sl6; have B6 := Lib.hid b6; clear sl6 b6 hT hN1)
        | fail)
      have M6 := Lib.hid (MD.out.turn (S := fun _ => False) (Turn.of_below B6.out) id)
      have hz5 := BW.out.size
      have hz6 := B6.out.size
      have hd5 := MD.out.lt
      rw [hzW] at hz5
      clear MD c0 c1 c2
      go_loopw [45] (fun j' W => ∃ i : Nat, j' = .int .i64 i ∧ i ≤ N1 ∧ Hid (MarkM w3.heap.size (K ++ T.take i) W ∧ Turn (fun k => k = w3.heap.size) w6 W)) (fun j' _ => N1 - (RowKit.intOf j').toNat)
      case atStart => exact ⟨0, rfl, Nat.zero_le _, Lib.hid ⟨by rw [List.take_zero, List.append_nil]; exact M6.out, Turn.refl _ _⟩⟩
      case round =>
        clear M6
        obtain ⟨W7, rfl⟩ : ∃ W, W = wr := ⟨_, rfl⟩
        obtain ⟨i, rfl, hi, hmt⟩ := hrel
        by_cases hlt : i < N1
        · have hil : (i : Int) < N1 := by omega
          have hiw : IntKind.i64.wrap ((i : Int) + 1) = (i : Int) + 1 := IntWalk.i64_in _ (by have : N1 ≤ 1000 := (by
            have h9 := SL6.out.1; have h8 : T.length ≤ rs.length := (by rw [HT.out]; unfold ids tomQ unmQ; rw [List.length_map]; exact Nat.le_trans (List.length_filter_le _ _) (List.length_filter_le _ _)); have := HTL.out; omega); omega)
          obtain ⟨g6, o6, c6, hv6, hb6, hnc6, hmc6⟩ := SL6.out.somewhere (by omega)
          injection hv6 with hv7 _ hv8
          subst hv7
          clear hv8
          obtain ⟨x, hx⟩ : ∃ x, T[i]? = some x := ⟨_, List.getElem?_eq_getElem (by have := HTL.out; omega)⟩
          have hxc : W7.cell? ⟨g6, o6 + i, none⟩ = some (.string (bs x)) := by
            have h1 := SL6.out.cells (i * 1) _ (sc_at1 T i x hx)
            rw [Addr.add_lit, Nat.mul_one] at h1
            have h6 := SL6.out.lt g6 rfl
            exact (hmt.out.2.cell (p := ⟨g6, o6 + i, none⟩) h6.2 (by simp only; omega)).trans h1
          obtain ⟨W8, hst, t8, m8⟩ := hmt.out.1.store x 7
          have DONE := Lib.hid (show MarkM w3.heap.size (K ++ T.take (i + 1)) W8 ∧ Turn (fun k => k = w3.heap.size) w6 W8 from ⟨by rw [List.take_add_one, hx, ← List.append_assoc]; exact m8, hmt.out.2.trans t8⟩)
          clear hx hmt t8 m8
          go_wp2_with fail
          exact ⟨⟨i + 1, by simp, by omega, DONE⟩, by simp [RowKit.intOf]; omega⟩
        · have hil : ¬ (i : Int) < N1 := by omega
          have hiN : i = N1 := by omega
          have M7 := Lib.hid (show MarkM w3.heap.size (K ++ T) W7 from by have h9 := hmt.out.1; rw [hiN, HTL.out, List.take_length] at h9; exact h9)
          have B7 := Lib.hid (turn_bel2 (a := W7) (BW.out.trans (B6.out.mono (by rw [hzW]; omega))) (by rw [hzW]; omega : ((w1.alloc (.cells #[.int .i64 5, .slice a9 n k9, .map (some mp)] 26)).alloc (.cells #[.int .i64 5, .slice a8 n8 k8] 29)).heap.size ≤ w3.heap.size) hmt.out.2)
          clear hmt hiN
          have HL2 := Lib.hid (HL.out.on BB.out.2)
          have QL := Lib.hid (fun W (bb : Below ((w1.alloc (.cells #[.int .i64 5, .slice a9 n k9, .map (some mp)] 26)).alloc (.cells #[.int .i64 5, .slice a8 n8 k8] 29)).heap.size ((w1.alloc (.cells #[.int .i64 5, .slice a9 n k9, .map (some mp)] 26)).alloc (.cells #[.int .i64 5, .slice a8 n8 k8] 29)) W) => (bb.block w1.heap.size (by rw [hzW]; omega)).trans BB.out.1)
          have hz7 := B7.out.size
          rw [hzW] at hz7
          have c1 := Lib.cell_of_heap (QL.out (W7.alloc (.cells #[] 53)) (B7.out.alloc (by rw [hzW]; omega) _)) 1
          have SLE := Lib.hid (show Sl (W7.alloc (.cells #[] 53)) W7.heap.size 8 (.slice (some ⟨W7.heap.size, 0, none⟩) 0 0) 0 [] from Sl.litAt W7 W7.heap.size rfl W7.heap.size 8 0 #[] 53 (Nat.le_refl _) (by decide) rfl)
          have RDX := Lib.hid (show Rd (W7.alloc (.cells #[] 53)) 8 (.slice a9 n k9) n (msc rs) from by have h9 := ((HL2.out.on (B7.out.alloc (by rw [hzW]; omega) (.cells #[] 53))).ms).rd; rw [← hn.out] at h9; exact h9)
          have ONEC := Lib.hid (msc_oneCell (HL2.out.ms))
          have h63 : 0 + n ≤ maxLen := by unfold maxLen; omega
          have h64 : (0 + n) * 104 ≤ 140737488355328 := by omega
          have hdd : ((w1.alloc (.cells #[.int .i64 5, .slice a9 n k9, .map (some mp)] 26)).alloc (.cells #[.int .i64 5, .slice a8 n8 k8] 29)).heap.size ≤ w3.heap.size := by rw [hzW]; omega
          have KT := Lib.hid (show ∀ x, x ∈ K ++ T ↔ x ∈ K ∨ x ∈ ids (tomQ K rs) from fun x => by rw [List.mem_append, HT.out])
          go_upto_region 18 with (first
            | (at_builtin; go_loud (refine wpList_append_rd _ rfl _ _ 23 rfl W7.heap.size 53 i0 (.agg #[.string ⟨#[]⟩, .int .i64 0, .int .i64 0, .int .i64 0, .int .i64 0, .int .i64 0, .slice none 0 0, .slice none 0 0]) 8 104 Try.underlying23 Hi.out Hz.out Hs.out Hb.out rfl (by decide) _ 0 [] rfl SLE.out _ n (msc rs) rfl RDX.out ONEC.out h63 h64 (by simp) ?_; intro v9 w9 x9; rw [Nat.zero_add, List.nil_append] at x9; obtain ⟨a10, k10, rfl⟩ := x9.now.slice; have AP := Lib.hid (more_app HL2.out hn.out B7.out M7.out hdd x9); have LN := Lib.hid (lnew_any 6 (.slice a10 n k10) rs (.map (some w3.heap.size)) (K ++ T) w9 AP.out.1 HUP.out hn20 (.inr ⟨_, rfl, AP.out.2.1⟩)); clear x9 c1))
            | (go_at_call 19; (with_reducible refine LN.out.mono ?_); rintro e w10 ⟨lv2, rs2, rfl, hrm2, hl2, b10, -⟩; obtain ⟨a11, k11, mp2, rfl, Y⟩ := more_y hn.out HUP.out HOK.out hn20 KT.out hrm2 hl2; have HY := Lib.hid Y; have B11 := Lib.hid (AP.out.2.2.trans (b10.mono AP.out.2.2.size)); have HRM2 := Lib.hid hrm2; have c := QL.out (w10.alloc (.cells #[.int .i64 6, .slice a11 n k11, .map (some mp2)] 26)) (B11.out.alloc B11.out.size _); have c0 := Lib.cell_of_heap c 0; have c1 := Lib.cell_of_heap c 1; have c2 := Lib.cell_of_heap c 2; have NX := Lib.hid (next_len (.agg #[.int .i64 5, .slice a9 n k9, .map (some mp)]) 5 wd rs K (w10.alloc (.cells #[.int .i64 6, .slice a11 n k11, .map (some mp2)] 26)) (HL2.out.on (B11.out.alloc B11.out.size _)) HUP.out hn1000 HOK.out WB.out); clear b10 hl2 hrm2 Y c)
            | (go_at_call 8; (with_reducible refine NX.out.mono ?_); rintro e w12 ⟨F, pa, pb, pc, pad, n1, pk, ok, hF, rfl, hnl, b12⟩; have B12 := Lib.hid b12; have HF := Lib.hid hF; have HNL := Lib.hid hnl; have QY := Lib.hid (y_box b12 (.cells #[.int .i64 pa, .int .i64 pb, .int .i64 pc, .slice pad n1 pk] 33)); clear c0 c1 c2; have c0 := Lib.cell_of_heap QY.out.1 0; have c1 := Lib.cell_of_heap QY.out.1 1; have c2 := Lib.cell_of_heap QY.out.1 2; have NY := Lib.hid (next_len (.agg #[.int .i64 6, .slice a11 n k11, .map (some mp2)]) 6 wd rs2 (K ++ T) (w12.alloc (.cells #[.int .i64 pa, .int .i64 pb, .int .i64 pc, .slice pad n1 pk] 33)) (HY.out.l.on QY.out.2) HY.out.up (Nat.le_trans HY.out.len (by decide)) HY.out.ok WB.out); clear hF hnl b12)
            | (go_at_call 8; (with_reducible refine NY.out.mono ?_); rintro e w14 ⟨F2, qa, qb, qc, qad, n2, qk, ok2, hF2, rfl, hnl2, b14⟩; obtain ⟨rfl, rfl⟩ := pair_same HNL.out hnl2 ((HY.out.fr F2 hF2).one HF.out); have B14 := Lib.hid b14; clear hF2 hnl2 b14 c0 c1 c2)
            | fail)
          have FX0 := Lib.hid (more_boxes (A := ((w1.alloc (.cells #[.int .i64 5, .slice a9 n k9, .map (some mp)] 26)).alloc (.cells #[.int .i64 5, .slice a8 n8 k8] 29))) (LO := (.cells #[.int .i64 5, .slice a9 n k9, .map (some mp)] 26)) (YO := (.cells #[.int .i64 6, .slice a11 n k11, .map (some mp2)] 26)) (PO := (.cells #[.int .i64 pa, .int .i64 pb, .int .i64 pc, .slice pad n1 pk] 33)) (QO := (.cells #[.int .i64 qa, .int .i64 qb, .int .i64 qc, .slice qad n1 qk] 33)) BB.out.1 (by rw [hzW]; omega) B11.out B12.out B14.out)
          have FX := Lib.hid (fun W (bb : Below (w14.alloc (.cells #[.int .i64 qa, .int .i64 qb, .int .i64 qc, .slice qad n1 qk] 33)).heap.size (w14.alloc (.cells #[.int .i64 qa, .int .i64 qb, .int .i64 qc, .slice qad n1 qk] 33)) W) => more_cells (FX0.out W bb))
          obtain ⟨r, hr⟩ : ∃ r : Int, r = max ((F.length : Int) - 1) 0 := ⟨_, rfl⟩
          have RX := Lib.hid (fun W (bb : Below (w14.alloc (.cells #[.int .i64 qa, .int .i64 qb, .int .i64 qc, .slice qad n1 qk] 33)).heap.size (w14.alloc (.cells #[.int .i64 qa, .int .i64 qb, .int .i64 qc, .slice qad n1 qk] 33)) W) => more_rank HF.out hr (fun F h => h) (HL2.out.on (FX0.out W bb).2.2.2.2.1) HUP.out hn1000)
          have RY := Lib.hid (fun W (bb : Below (w14.alloc (.cells #[.int .i64 qa, .int .i64 qb, .int .i64 qc, .slice qad n1 qk] 33)).heap.size (w14.alloc (.cells #[.int .i64 qa, .int .i64 qb, .int .i64 qc, .slice qad n1 qk] 33)) W) => more_rank HF.out hr HY.out.fr (HY.out.l.on (FX0.out W bb).2.2.2.2.2) HY.out.up (Nat.le_trans HY.out.len (by decide)))
          have TY := Lib.hid (fun W (bb : Below (w14.alloc (.cells #[.int .i64 qa, .int .i64 qb, .int .i64 qc, .slice qad n1 qk] 33)).heap.size (w14.alloc (.cells #[.int .i64 qa, .int .i64 qb, .int .i64 qc, .slice qad n1 qk] 33)) W) => more_tomark HY.out.tom (HY.out.l.on (FX0.out W bb).2.2.2.2.2) HY.out.up HY.out.len)
          have B0 := Below.refl (w14.alloc (.cells #[.int .i64 qa, .int .i64 qb, .int .i64 qc, .slice qad n1 qk] 33)).heap.size (w14.alloc (.cells #[.int .i64 qa, .int .i64 qb, .int .i64 qc, .slice qad n1 qk] 33))
          obtain ⟨x0, x1, x2, x3, x4, x5, x6, x7⟩ := FX.out _ B0
          clear hr
          have BQ := B0.drew
          go_region_held3 (fun W => W.cell? ⟨w1.heap.size, 0, none⟩ = some (.int .i64 5) ∧ W.cell? ⟨w1.heap.size, 1, none⟩ = some (.slice a9 n k9) ∧ W.cell? ⟨w1.heap.size, 2, none⟩ = some (.map (some mp)) ∧ W.cell? ⟨w10.heap.size, 0, none⟩ = some (.int .i64 6) ∧ W.cell? ⟨w10.heap.size, 1, none⟩ = some (.slice a11 n k11) ∧ W.cell? ⟨w10.heap.size, 2, none⟩ = some (.map (some mp2)) ∧ W.cell? ⟨w12.heap.size, 3, none⟩ = some (.slice pad n1 pk) ∧ W.cell? ⟨w14.heap.size, 3, none⟩ = some (.slice qad n1 qk))
            (first | assumption | (refine FX.out _ ?_; with_reducible repeat (first | exact Below.refl _ _ | assumption | apply Below.drew)) | fail)
            (first
              | (go_at_call 12; (with_reducible refine (TY.out _ BQ).mono ?_); rintro e w15 ⟨ta, tk, rfl, b15⟩; have B15 : Below (w14.alloc (.cells #[.int .i64 qa, .int .i64 qb, .int .i64 qc, .slice qad n1 qk] 33)).heap.size (w14.alloc (.cells #[.int .i64 qa, .int .i64 qb, .int .i64 qc, .slice qad n1 qk] 33)) w15 := BQ.trans (b15.mono BQ.size))
              | (go_at_call 14; (with_reducible refine (RX.out _ B15).mono ?_); rintro e w16 ⟨rfl, b16⟩; have B16 : Below (w14.alloc (.cells #[.int .i64 qa, .int .i64 qb, .int .i64 qc, .slice qad n1 qk] 33)).heap.size (w14.alloc (.cells #[.int .i64 qa, .int .i64 qb, .int .i64 qc, .slice qad n1 qk] 33)) w16 := B15.trans (b16.mono B15.size))
              | (go_at_call 14; (with_reducible refine (RY.out _ B16).mono ?_); rintro e w17 ⟨rfl, b17⟩; have B17 : Below (w14.alloc (.cells #[.int .i64 qa, .int .i64 qb, .int .i64 qc, .slice qad n1 qk] 33)).heap.size (w14.alloc (.cells #[.int .i64 qa, .int .i64 qb, .int .i64 qc, .slice qad n1 qk] 33)) w17 := B16.trans (b17.mono B16.size))
              | fail)
          all_goals
            go_wp2_with fail
            go_ret
            refine ⟨by simp, ?_⟩
            exact more_end B1.out BB.out.2 ((FX0.out _ B17).2.2.2.2.1)
    · have hrd : w3.heap.size ≠ w3.heap.size + 1 := by omega
      obtain ⟨W2', hst, t3, hD3⟩ := (hD.turn t2 hrd).store e.x e.v
      have HR := Lib.hid (show ∃ seen c9 D, W2'.heap[w3.heap.size + 1]? = some (.mapIter (some mp) ck seen c9) ∧ ck ≤ c9 ∧ Turn (fun k => k = w3.heap.size) (w3.alloc (.map #[] 0)) W2' ∧ MarkM w3.heap.size D W2' ∧ (∀ x ∈ D, x ∈ K) ∧ ∀ e ∈ es, seen.contains e.born = true → e.x ∈ D from by
        have hz : w3.heap.size + 1 < W.heap.size := (Array.getElem?_eq_some_iff.1 hit2).1
        have hs4 := S4.out
        refine ⟨seen.push e.born, ck, D ++ [e.x], (t3.block _ hz (by omega)).trans hit2, Nat.le_refl _, ?_, hD3, ?_, ?_⟩
        · refine ⟨(t3.os.trans t2.os).trans ht.os, (t3.tape.trans t2.tape).trans ht.tape, (t3.output.trans t2.output).trans ht.output, Nat.le_trans ht.size (Nat.le_trans t2.size t3.size), fun k hk hkd => ?_⟩
          have h1 := t2.size; have h2 := ht.size
          exact (t3.block k (by omega) hkd).trans ((t2.block k (by omega) (by omega)).trans (ht.block k hk hkd))
        · intro x hx
          rcases List.mem_append.1 hx with hx | hx
          · exact hDK x hx
          · rw [List.mem_singleton.1 hx]; exact (HKE.out _).1 (List.mem_map_of_mem he)
        · intro e' he' hs
          rw [contains_push] at hs
          rw [List.mem_append, List.mem_singleton]
          cases hs1 : seen.contains e'.born with
          | true => exact .inl (hse e' he' hs1)
          | false =>
            rw [hs1, Bool.false_or] at hs
            have hb : e'.born = e.born := by simpa using hs
            right
            rw [born_inj es HES.out.bn e' he' e he hb])
      have HLF := Lib.hid (show leftAt (kents es) (w3.heap.size + 1) W2' < leftAt (kents es) (w3.heap.size + 1) W5 from by
        have hz : w3.heap.size + 1 < W.heap.size := (Array.getElem?_eq_some_iff.1 hit2).1
        have e9 : leftAt (kents es) (w3.heap.size + 1) W2' = leftAt (kents es) (w3.heap.size + 1) W := by unfold leftAt; rw [t3.block _ hz (by omega)]
        rw [e9]; exact hlf)
      clear hrel hit hck ht hD hDK hse hL he t2 hit2 hlf t3 hD3
      go_wp2_with fail
      exact ⟨HR, HLF.out⟩
end Go.Proofs.Ytkialkjhjenkhaa

namespace Go.Proofs.Ytkialkjhjenkhaa
open Go.RowKit Go.Lib
set_option linter.unusedVariables false

/-- A plan that was answered: its blocks, where they lie. -/
structure SndP (w : World) (wd : Int) (qs : List Mq) (K : List (List UInt8)) (s : List Mq) (p0 : Mq) (a b c : Int) (v : Value) : Prop where
  ha : a = p0.m.mn
  hb : b = toQ s
  hc : c = min (lvQ s + 1) 9
  ms : MsR w v s
  hd : s[0]? = some p0
  more : 1 < s.length
  most : s.length ≤ 20
  bytes : (s.map fun q => sumF q.m.files).sum ≤ 262144
  lo : ∀ q ∈ s, a ≤ q.m.mn
  hi : ∀ q ∈ s, q.m.mx ≤ b
  range : a / (9 * wd) = (b - 1) / (9 * wd)
  pos : 0 ≤ a ∧ 1 ≤ b ∧ b ≤ 1000000
  lv : 2 ≤ c ∧ c ≤ 9
  free : ∀ q ∈ s, q.m.id ∉ K ∧ srcs qs q.m.id = false ∧ q.m ∈ qs.map Mq.m
  ids : (ids s).Pairwise (fun x y => x ≠ y)
theorem sound_next (v : Value) (t wd : Int) (qs : List Mq) (K : List (List UInt8)) (w : World) (h : LstR w v t qs K) (hup : UpQ qs) (hm : qs.length ≤ 1000) (hk : ∀ q ∈ qs, OkP q.m) (hw : 1 ≤ wd ∧ wd ≤ 1000) :
    Calls Try.prog 8 #[v, .int .i64 wd] w fun e w' => ∃ a b c ad n k ok, e = .returned (.tuple #[.agg #[.int .i64 a, .int .i64 b, .int .i64 c, .slice ad n k], .bool ok]) ∧ (ok = true → ∃ s p0, Hid (n = s.length) ∧ SndP w' wd qs K s p0 a b c (.slice ad n k)) ∧ Below w.heap.size w w' := by
  refine (plnext_any v t wd qs K w h hup hm (fun q hq => (hk q hq).1) (by omega)).mono ?_
  rintro e w' ⟨rs, hf, ho, b⟩
  rcases ho with ⟨s, p0, v', h2, h3, rfl, h4⟩ | ⟨h2, rfl⟩
  · obtain ⟨ad, k, rfl⟩ := rd_form h4.rd
    have hin : ∀ q ∈ rs, q.m ∈ qs.map Mq.m ∧ (¬ ∃ p ∈ qs.map Mq.m, q.m.id ∈ p.src) ∧ q.m.id ∉ K := fun q hq => (hf.2 q.m).1 (List.mem_map_of_mem hq)
    have hok : ∀ q ∈ rs, OkP q.m := by
      intro q hq
      obtain ⟨q', h5, h6⟩ := List.mem_map.1 (hin q hq).1
      rw [← h6]; exact hk q' h5
    have hmax : max wd 1 = wd := by omega
    rw [hmax] at h2
    have P : PlanOk wd rs s p0 := by
      cases h3' : scanQ (3 * wd) rs with
      | some s' =>
        rw [h3', Option.some_or] at h2
        obtain rfl := Option.some.inj h2
        exact plan_ok wd (3 * wd) hw (.inl rfl) rs s' p0 h3' h3 hf.1 hok
      | none =>
        rw [h3', Option.none_or] at h2
        exact plan_ok wd (9 * wd) hw (.inr rfl) rs s p0 h2 h3 hf.1 hok
    refine ⟨_, _, _, ad, s.length, k, true, rfl, fun _ => ⟨s, p0, rfl, rfl, rfl, rfl, h4, h3, P.more, P.most, P.bytes, P.lo, P.hi, P.range, P.pos, P.lv, fun q hq => ?_, ?_⟩, b⟩
    · have h5 := hin q (P.sub.subset hq)
      exact ⟨h5.2.2, (srcs_map qs q.m.id).2 h5.2.1, h5.1⟩
    · have pw : (s.map Mq.m).Pairwise ltM := hf.1.sublist (P.sub.map Mq.m)
      have hnd : ∀ x ∈ qs.map Mq.m, ∀ y ∈ qs.map Mq.m, x.id = y.id → x = y := by
        have h6 := hup.nodup
        have h7 : (qs.map Mq.m).Pairwise (fun x y => x.id < y.id) := by
          rw [List.pairwise_map] at h6 ⊢; exact h6
        intro x hx y hy e
        obtain ⟨i, hi, rfl⟩ := List.getElem_of_mem hx
        obtain ⟨j, hj, rfl⟩ := List.getElem_of_mem hy
        rcases Nat.lt_trichotomy i j with h8 | h8 | h8
        · exact absurd (e ▸ (List.pairwise_iff_getElem.1 h7 i j hi hj h8)) (bytes_lt_irrefl _)
        · subst h8; rfl
        · exact absurd (e ▸ (List.pairwise_iff_getElem.1 h7 j i hj hi h8)) (bytes_lt_irrefl _)
      have pw2 : (s.map Mq.m).Pairwise (fun x y => x.id ≠ y.id) := by
        rw [List.pairwise_iff_getElem] at pw ⊢
        intro i j hi hj hij e
        have mem : ∀ x ∈ s.map Mq.m, x ∈ qs.map Mq.m := fun x hx => by
          obtain ⟨q, hq, rfl⟩ := List.mem_map.1 hx
          exact (hin q (P.sub.subset hq)).1
        have e2 := hnd _ (mem _ (List.getElem_mem hi)) _ (mem _ (List.getElem_mem hj)) e
        have := pw i j hi hj hij
        rw [e2] at this
        exact ltM_irrefl _ this
      unfold ids
      rw [List.pairwise_map] at pw2 ⊢
      exact pw2
  · exact ⟨_, _, _, none, 0, 0, false, rfl, (fun h => by cases h), b⟩
theorem okP_all (wd : Int) (hw : 1 ≤ wd ∧ wd ≤ 1000) (l : List Og) (i : Nat) (qs : List Mq) (h : qs.map Mq.m = msO wd l i) : ∀ q ∈ qs, OkP q.m ∧ ∃ f g, q.m.files = [f, g] := by
  intro q hq
  have hm : q.m ∈ msO wd l i := by rw [← h]; exact List.mem_map_of_mem hq
  unfold msO at hm
  obtain ⟨k, _, hk⟩ := List.mem_filterMap.1 hm
  obtain ⟨x, _, e⟩ := Option.map_eq_some_iff.1 hk
  rw [← e]
  have hB : 0 ≤ x.wi % 4 ∧ x.wi % 4 < 4 := by omega
  have h2 : 1 * wd ≤ (1 + x.wi % 4) * wd := Int.mul_le_mul_of_nonneg_right (by omega) (by omega)
  exact ⟨⟨okO wd hw k x, by unfold meO; simp only; omega, by unfold meO; simp only; omega⟩, _, _, rfl⟩
theorem lst20s_any (v : Value) (l : List Og) (wd : Int) (w : World) (h : Rd w 5 v l.length (ogc l)) (hw : 1 ≤ wd ∧ wd ≤ 1000) :
    Calls Try.prog 7 #[v, .int .i64 wd] w fun e w' => ∃ a9 k9 n mp a8 k8 n8 rs, e = .returned (.tuple #[.agg #[.int .i64 5, .slice a9 n k9, .map (some mp)], .agg #[.int .i64 5, .slice a8 n8 k8]]) ∧ LstR w' (.agg #[.int .i64 5, .slice a9 n k9, .map (some mp)]) 5 rs (ksO l (min l.length 12)) ∧ UpQ rs ∧ n ≤ 12 ∧ Hid (n = rs.length) ∧ (∀ q ∈ rs, OkP q.m ∧ ∃ f g, q.m.files = [f, g]) ∧ Below w.heap.size w w' := by
  refine (listing20_any v l wd w h hw).mono ?_
  rintro e w1 ⟨⟨lv, v8, rs, ts, rfl, hl, hrm, hv8, -, -, -⟩, b1⟩
  obtain ⟨ms, mp, rfl, hm1, hm2⟩ := hl
  obtain ⟨a9, k9, rfl⟩ := rd_form hm1.rd
  obtain ⟨a8, k8, rfl⟩ := rd_form hv8
  have hlen : rs.length ≤ 12 := by
    have := congrArg List.length hrm
    rw [List.length_map, msO_len wd l _ (Nat.min_le_left _ _)] at this
    omega
  exact ⟨a9, k9, _, mp, a8, k8, _, rs, rfl, ⟨_, mp, rfl, hm1, hm2⟩, msO_up wd l _ (Nat.min_le_left _ _) (by omega) rs hrm, hlen, rfl, okP_all wd hw l _ rs hrm, b1⟩
end Go.Proofs.Ytkialkjhjenkhaa
