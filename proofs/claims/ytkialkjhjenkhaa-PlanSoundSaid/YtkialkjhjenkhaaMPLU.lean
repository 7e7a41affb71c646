/- Layer 20: PlanSound. -/
import Derived.Test.YtkialkjhjenkhaaMPLT
namespace Go.Proofs.Ytkialkjhjenkhaa
open Go.RowKit Go.Lib
set_option linter.unusedVariables false

theorem less20 : ∀ (a b : List UInt8), Op.bytesLess a b = true ↔ a < b
  | [], [] => by simp [Op.bytesLess]
  | [], _ :: _ => by simp [Op.bytesLess]
  | _ :: _, [] => by simp [Op.bytesLess]
  | x :: a, y :: b => by
    rw [Op.bytesLess, List.cons_lt_cons_iff]
    simp [less20 a b]
theorem bel_drewN {B : Nat} {a w : World} (h : Below B a w) (n : Nat) : Below B a (w.drewN n) := ⟨h.os, h.tape, h.output, h.size, h.block⟩
theorem turn_drewN (w : World) (n : Nat) : Turn (fun _ => False) w (w.drewN n) := ⟨rfl, rfl, rfl, Nat.le_refl _, fun _ _ _ => rfl⟩
theorem LstR.mks {w : World} {t : Int} {ms : Value} {mp : Nat} {qs : List Mq} {K : List (List UInt8)} (h : LstR w (.agg #[.int .i64 t, ms, .map (some mp)]) t qs K) : MarkM mp K w := by
  obtain ⟨ms', mp', e, h1, h2⟩ := h
  injection e with e
  injection e with e
  simp only [List.cons.injEq, Value.map.injEq, Option.some.injEq, and_true] at e
  rw [e.2.2]; exact h2
theorem sum_take (s : List Mq) (i : Nat) (q : Mq) (h : s[i]? = some q) : ((s.take (i + 1)).map fun q => sumF q.m.files).sum = ((s.take i).map fun q => sumF q.m.files).sum + sumF q.m.files := by
  rw [List.take_add_one, h, List.map_append, List.sum_append]; simp
theorem sum_bound (s : List Mq) (h : ∀ q ∈ s, OkB q.m) : 0 ≤ (s.map fun q => sumF q.m.files).sum ∧ (s.map fun q => sumF q.m.files).sum ≤ s.length * 10000000 := by
  induction s with
  | nil => simp
  | cons x s ih =>
    have h1 := ih (fun q hq => h q (List.mem_cons_of_mem _ hq))
    have h2 := (h x (List.mem_cons_self ..)).2.2.2.2.2 x.m.files.length
    rw [List.take_length] at h2
    simp only [List.map_cons, List.sum_cons, List.length_cons]
    omega
set_option maxHeartbeats 20000000 in
set_option maxRecDepth 100000 in
theorem plansound_any (v : Value) (l : List Og) (width : Int) (w : World) (h : Rd w 5 v l.length (ogc l)) :
    Calls Try.prog 4 #[v, .int .i64 width] w fun e w' => e = .returned (.bool true) ∧ Below w.heap.size w w' := by
  obtain ⟨av, kv, rfl⟩ := rd_form h
  obtain ⟨A, B, d1, d2, d3, d4, d5, d6⟩ := width_is width
  obtain ⟨wd, hwd⟩ : ∃ wd, wd = 1 + B := ⟨_, rfl⟩
  rw [← hwd] at d4 d5 d6
  have LS := Lib.hid (lst20s_any (.slice av l.length kv) l wd w h ⟨d5, d6⟩)
  obtain ⟨K, hK⟩ : ∃ K, K = ksO l (min l.length 12) := ⟨_, rfl⟩
  rw [← hK] at LS
  have WB := Lib.hid (And.intro d5 d6)
  have d4' : IntKind.i64.wrap (1 + B) = wd := by rw [← hwd] ; exact d4
  have w9 : IntKind.i64.wrap (9 * wd) = 9 * wd := IntWalk.i64_in _ (by omega)
  clear h hK hwd d4
  go_enter Try.func4, Try.ntmps4
  go_upto_region 4 with (first
    | (go_at_call 7; (with_reducible refine LS.out.mono ?_); rintro e w1 ⟨a9, k9, n9, mp, a8, k8, n8, rs, rfl, hl, hup, hn12, hn, hok, b1⟩; have HL := Lib.hid hl; have HUP := Lib.hid hup; have HOK := Lib.hid hok; have B1 := Lib.hid b1; have BB := Lib.hid (box_two w1 (.cells #[.int .i64 5, .slice a9 n9 k9, .map (some mp)] 26) (.cells #[.int .i64 5, .slice a8 n8 k8] 29)); have c0 := Lib.cell_of_heap BB.out.1 0; have c1 := Lib.cell_of_heap BB.out.1 1; have c2 := Lib.cell_of_heap BB.out.1 2; have hn1000 : rs.length ≤ 1000 := (by have := hn.out; omega); have NX := Lib.hid (sound_next (.agg #[.int .i64 5, .slice a9 n9 k9, .map (some mp)]) 5 wd rs K ((w1.alloc (.cells #[.int .i64 5, .slice a9 n9 k9, .map (some mp)] 26)).alloc (.cells #[.int .i64 5, .slice a8 n8 k8] 29)) (hl.on BB.out.2) hup hn1000 (fun q hq => (hok q hq).1) WB.out); clear hl hup hok b1 d1 d2 d3 d4')
    | (go_at_call 8; (with_reducible refine NX.out.mono ?_); rintro e w3 ⟨pa, pb, pc, pad, n, pk, ok, rfl, hs, b3⟩; have B3 := Lib.hid b3; have HS := Lib.hid hs; have AW := Lib.hid (fun W => awake20_any W); clear b3 hs c0 c1 c2)
    | fail)
  have hzW : ((w1.alloc (.cells #[.int .i64 5, .slice a9 n9 k9, .map (some mp)] 26)).alloc (.cells #[.int .i64 5, .slice a8 n8 k8] 29)).heap.size = w1.heap.size + 1 + 1 := by simp
  have hz3 := B3.out.size
  rw [hzW] at hz3
  have B04 := Lib.hid (show Below w.heap.size w (w3.alloc (.cells #[.int .i64 pa, .int .i64 pb, .int .i64 pc, .slice pad n pk] 33)) from ((more_end B1.out BB.out.2 B3.out).alloc (by have := B1.out.size; omega) _))
  cases ok
  · go_wp2_with (first
      | (go_at_call 10; (with_reducible refine (AW.out _).mono ?_); (try (have BP := B5)); rintro e w5 ⟨rfl, b5⟩; have B5 := Lib.hid b5; clear b5)
      | fail)
    go_ret
    exact ⟨rfl, (B04.out.trans (BP.out.mono B04.out.size)).trans (B5.out.mono (Nat.le_trans B04.out.size BP.out.size))⟩
  · obtain ⟨s, p0, hns, P⟩ := HS.out rfl
    have HP := Lib.hid P
    obtain ⟨_, pad', pk', g, o, e9, hg9, hc9⟩ := P.ms.rd
    have hspos : 0 < s.length := by have := P.more; omega
    obtain ⟨e10, hgl⟩ := hg9 hspos
    have e11 : pad = pad' := by injection e9
    rw [e10] at e11
    clear e9 e10 hg9
    subst e11
    have HQ := Lib.hid (fun W (bb : Below (w3.alloc (.cells #[.int .i64 pa, .int .i64 pb, .int .i64 pc, .slice (some ⟨g, o, none⟩) n pk] 33)).heap.size (w3.alloc (.cells #[.int .i64 pa, .int .i64 pb, .int .i64 pc, .slice (some ⟨g, o, none⟩) n pk] 33)) W) i q (hq : s[i]? = some q) => mq_at hc9 ((((Below.refl _ _).alloc (Nat.le_refl _) _).trans (bb.mono (by simp))) : Below w3.heap.size w3 W) hgl i q hq)
    have HSP := Lib.hid hspos
    clear hc9 hspos
    have H4 := Lib.hid (heap_alloc_new w3 (.cells #[.int .i64 pa, .int .i64 pb, .int .i64 pc, .slice (some ⟨g, o, none⟩) n pk] 33))
    have B24 := Lib.hid (show Below ((w1.alloc (.cells #[.int .i64 5, .slice a9 n9 k9, .map (some mp)] 26)).alloc (.cells #[.int .i64 5, .slice a8 n8 k8] 29)).heap.size ((w1.alloc (.cells #[.int .i64 5, .slice a9 n9 k9, .map (some mp)] 26)).alloc (.cells #[.int .i64 5, .slice a8 n8 k8] 29)) (w3.alloc (.cells #[.int .i64 pa, .int .i64 pb, .int .i64 pc, .slice (some ⟨g, o, none⟩) n pk] 33)) from B3.out.alloc B3.out.size _)
    have PX := Lib.hid (fun W (bb : Below (w3.alloc (.cells #[.int .i64 pa, .int .i64 pb, .int .i64 pc, .slice (some ⟨g, o, none⟩) n pk] 33)).heap.size (w3.alloc (.cells #[.int .i64 pa, .int .i64 pb, .int .i64 pc, .slice (some ⟨g, o, none⟩) n pk] 33)) W) => show W.heap[w3.heap.size]? = some (.cells #[.int .i64 pa, .int .i64 pb, .int .i64 pc, .slice (some ⟨g, o, none⟩) n pk] 33) from (bb.block _ (by simp)).trans H4.out)
    have LX := Lib.hid (fun W (bb : Below (w3.alloc (.cells #[.int .i64 pa, .int .i64 pb, .int .i64 pc, .slice (some ⟨g, o, none⟩) n pk] 33)).heap.size (w3.alloc (.cells #[.int .i64 pa, .int .i64 pb, .int .i64 pc, .slice (some ⟨g, o, none⟩) n pk] 33)) W) => show W.heap[w1.heap.size]? = some (.cells #[.int .i64 5, .slice a9 n9 k9, .map (some mp)] 26) from (bb.block _ (by simp; omega)).trans ((B24.out.block _ (by rw [hzW]; omega)).trans BB.out.1))
    have hsl : s.length ≤ 1000 := by have := P.most; omega
    have MS4 := Lib.hid (fun W (bb : Below (w3.alloc (.cells #[.int .i64 pa, .int .i64 pb, .int .i64 pc, .slice (some ⟨g, o, none⟩) n pk] 33)).heap.size (w3.alloc (.cells #[.int .i64 pa, .int .i64 pb, .int .i64 pc, .slice (some ⟨g, o, none⟩) n pk] 33)) W) => show MsR W (.slice (some ⟨g, o, none⟩) n pk) s from (P.ms.on ((Below.refl _ _).alloc (Nat.le_refl _) _)).on bb)
    have LR4 := Lib.hid (fun W (bb : Below (w3.alloc (.cells #[.int .i64 pa, .int .i64 pb, .int .i64 pc, .slice (some ⟨g, o, none⟩) n pk] 33)).heap.size (w3.alloc (.cells #[.int .i64 pa, .int .i64 pb, .int .i64 pc, .slice (some ⟨g, o, none⟩) n pk] 33)) W) => show LstR W (.agg #[.int .i64 5, .slice a9 n9 k9, .map (some mp)]) 5 rs K from ((HL.out.on BB.out.2).on B24.out).on bb)
    have PN := Lib.hid (fun W (bb : Below (w3.alloc (.cells #[.int .i64 pa, .int .i64 pb, .int .i64 pc, .slice (some ⟨g, o, none⟩) n pk] 33)).heap.size (w3.alloc (.cells #[.int .i64 pa, .int .i64 pb, .int .i64 pc, .slice (some ⟨g, o, none⟩) n pk] 33)) W) => show Calls Try.prog 16 #[(.agg #[.int .i64 pa, .int .i64 pb, .int .i64 pc, .slice (some ⟨g, o, none⟩) n pk])] W (fun e w' => ∃ v', e = .returned v' ∧ Sl w' W.heap.size 1 v' s.length (sc (sortN (ids s))) ∧ Below W.heap.size W w') from pnames_any pa pb pc (.slice (some ⟨g, o, none⟩) n pk) s W (MS4.out W bb) hsl)
    have SH := Lib.hid (fun W (bb : Below (w3.alloc (.cells #[.int .i64 pa, .int .i64 pb, .int .i64 pc, .slice (some ⟨g, o, none⟩) n pk] 33)).heap.size (w3.alloc (.cells #[.int .i64 pa, .int .i64 pb, .int .i64 pc, .slice (some ⟨g, o, none⟩) n pk] 33)) W) => shad_any (.int .i64 5) (.slice a9 n9 k9) (.map (some mp)) rs W (LR4.out W bb).ms (by omega))
    clear P
    go_wp2_with (first
      | (go_at_call 10; (with_reducible refine (AW.out _).mono ?_); rintro e w5 ⟨rfl, b5⟩; have B5 := Lib.hid b5; have p0' := Lib.cell_of_heap (PX.out _ b5) 0; have p1' := Lib.cell_of_heap (PX.out _ b5) 1; have p2' := Lib.cell_of_heap (PX.out _ b5) 2; have p3' := Lib.cell_of_heap (PX.out _ b5) 3; clear b5)
      | (go_at_call 16; (with_reducible refine (PN.out _ B5.out).mono ?_); rintro e w6 ⟨v6, rfl, sl6, b6⟩; have B6 := Lib.hid (bel_monoP B5.out b6); have SL6 := Lib.hid sl6; obtain ⟨a6, k6, rfl⟩ := sl6.slice; have c0 := Lib.cell_of_heap (LX.out _ B6.out) 0; have c1 := Lib.cell_of_heap (LX.out _ B6.out) 1; have c2 := Lib.cell_of_heap (LX.out _ B6.out) 2; clear sl6 b6 p0' p1' p2' p3')
      | (go_at_call 17; (with_reducible refine (SH.out _ B6.out).mono ?_); rintro e w7 ⟨rfl, sh7, b7⟩; have B7 := Lib.hid (bel_monoP B6.out b7); have SH7 := Lib.hid sh7; have B67 := Lib.hid b7; have p3' := Lib.cell_of_heap (PX.out _ B7.out) 3; clear sh7 b7 c0 c1 c2)
      | fail)
    have SUMS := Lib.hid (show ∀ i, 0 ≤ ((s.take i).map fun q => sumF q.m.files).sum ∧ ((s.take i).map fun q => sumF q.m.files).sum ≤ 200000000 from by
      intro i
      have h1 := sum_bound (s.take i) (fun q hq => by
        have h2 := (HP.out.free q (List.mem_of_mem_take hq)).2.2
        obtain ⟨q', h3, h4⟩ := List.mem_map.1 h2
        rw [← h4]; exact (HOK.out q' h3).1.1)
      have h5 : (s.take i).length ≤ 20 := by rw [List.length_take]; have := HP.out.most; omega
      omega)
    have HOKS := Lib.hid (show ∀ (i : Nat) (q : Mq), s[i]? = some q → OkB q.m from fun i q hq => by
      have h2 := (HP.out.free q (List.mem_of_getElem? hq)).2.2
      obtain ⟨q', h3, h4⟩ := List.mem_map.1 h2
      rw [← h4]; exact (HOK.out q' h3).1.1)
    have hz7 := B7.out.size
    have SL7 := Lib.hid (SL6.out.on B67.out)
    have BW7 := Lib.hid B7.out
    have hz67 := B67.out.size
    have hz6 := B6.out.size
    go_loopw [11, 48] (fun y' i' wr => ∃ i : Nat, i' = .int .i64 i ∧ i ≤ n ∧ y' = .int .i64 ((s.take i).map fun q => sumF q.m.files).sum ∧ Below w7.heap.size w7 wr) (fun _ i' _ => n - (RowKit.intOf i').toNat)
    case atStart => exact ⟨0, rfl, Nat.zero_le _, by simp, Below.refl _ _⟩
    case round =>
      obtain ⟨W9, rfl⟩ : ∃ W, W = wr := ⟨_, rfl⟩
      obtain ⟨i, rfl, hi, rfl, hb9⟩ := hrel
      have B9 := Lib.hid hb9
      have B49 := Lib.hid (bel_monoP B7.out hb9)
      by_cases hlt : i < n
      · have hil : (i : Int) < n := by omega
        have hil0 : (0 : Int) ≤ i := by omega
        have hiw : IntKind.i64.wrap ((i : Int) + 1) = (i : Int) + 1 := IntWalk.i64_in _ (by have := hns.out; have := HP.out.most; omega)
        obtain ⟨q, hq⟩ : ∃ q, s[i]? = some q := ⟨_, List.getElem?_eq_getElem (by have := hns.out; omega)⟩
        have hmem := List.mem_of_getElem? hq
        have hqq := HQ.out W9 B49.out i q hq
        have mq := (MS4.out W9 B49.out).ok q hmem
        obtain ⟨hnK, hnS, hin⟩ := HP.out.free q hmem
        have hlo := HP.out.lo q hmem
        have hhi := HP.out.hi q hmem
        obtain ⟨fA, fB, hfl⟩ : ∃ f g, q.m.files = [f, g] := by
          obtain ⟨q', h3, h4⟩ := List.mem_map.1 hin
          rw [← h4]; exact (HOK.out q' h3).2
        have HSU := Lib.hid (sum_take s i q hq)
        obtain ⟨m, vf, vs⟩ := q
        simp only at hnK hnS hlo hhi hfl
        replace mq : MeR W9 m vf vs := mq
        have mf := mq.1
        rw [hfl] at mf
        obtain ⟨_, af', kf', gf, of', e9, hgf, hcf⟩ := mf
        subst e9
        obtain ⟨rfl, hgf1⟩ := hgf (by simp)
        obtain ⟨a3, ks, rfl⟩ := rd_form mq.2.1
        have hs0 : W9.cell? ⟨gf, of' + 1, none⟩ = some (.int .i64 fA.size) := hcf 1 (by simp)
        have hs1 : W9.cell? ⟨gf, of' + 3 + 1, none⟩ = some (.int .i64 fB.size) := hcf 4 (by simp)
        have hsumf : sumF m.files = fA.size + fB.size := by rw [hfl]; simp [sumF]
        have hbA := SUMS.out i
        have hbB := SUMS.out (i + 1)
        obtain ⟨ns, hns'⟩ : ∃ ns, ns = m.src.length := ⟨_, rfl⟩
        rw [← hns'] at hqq
        obtain ⟨q0, q1, q2, q3, q4, q5, q6, q7⟩ := hqq
        simp only at q0 q1 q2 q3 q4 q5 q6 q7 HSU
        obtain ⟨TS, hTS⟩ : ∃ TS, TS = ((s.take i).map fun q => sumF q.m.files).sum := ⟨_, rfl⟩
        have HTS := Lib.hid hTS
        have hb2 := HSU.out
        rw [hb2, hsumf, ← hTS] at hbB
        have hokA := (HOKS.out i _ hq).2.2.2.2.2 1
        rw [hfl] at hokA
        simp only [List.take_succ_cons, List.take_zero, sumF] at hokA
        have hokB := (HOKS.out i _ hq).2.2.2.2.2 2
        rw [hfl] at hokB
        simp only [List.take_succ_cons, List.take_zero, sumF] at hokB
        have ws1 : IntKind.i64.wrap (fA.size + fB.size) = fA.size + fB.size := IntWalk.i64_in _ (by omega)
        have ws2 : IntKind.i64.wrap (TS + (fA.size + fB.size)) = TS + (fA.size + fB.size) := IntWalk.i64_in _ (by rw [← hTS] at hbA; omega)
        have HSUM := Lib.hid (show ((s.take (i + 1)).map fun q => sumF q.m.files).sum = TS + (fA.size + fB.size) by rw [hb2, hsumf, ← hTS])
        rw [← hTS]
        have HX := Lib.hid (heap_alloc_new W9 (.cells #[.string (bs m.id), .int .i64 m.mn, .int .i64 m.mx, .int .i64 m.lv, .int .i64 m.se, .int .i64 m.sa, .slice (some ⟨gf, of', none⟩) 2 kf', .slice a3 ns ks] 53))
        have hs0' := ((Below.refl W9.heap.size W9).alloc (Nat.le_refl _) (.cells #[.string (bs m.id), .int .i64 m.mn, .int .i64 m.mx, .int .i64 m.lv, .int .i64 m.se, .int .i64 m.sa, .slice (some ⟨gf, of', none⟩) 2 kf', .slice a3 ns ks] 53)).cell (p := ⟨gf, of' + 1, none⟩) hgf1
        have hs1' := ((Below.refl W9.heap.size W9).alloc (Nat.le_refl _) (.cells #[.string (bs m.id), .int .i64 m.mn, .int .i64 m.mx, .int .i64 m.lv, .int .i64 m.se, .int .i64 m.sa, .slice (some ⟨gf, of', none⟩) 2 kf', .slice a3 ns ks] 53)).cell (p := ⟨gf, of' + 3 + 1, none⟩) hgf1
        rw [hs0] at hs0'
        rw [hs1] at hs1'
        obtain ⟨e0, e1, e2, e3, e4, e5, e6, e7⟩ := cells8 HX.out
        have B4A := Lib.hid (bel_allocP (o := (.cells #[.string (bs m.id), .int .i64 m.mn, .int .i64 m.mx, .int .i64 m.lv, .int .i64 m.se, .int .i64 m.sa, .slice (some ⟨gf, of', none⟩) 2 kf', .slice a3 ns ks] 53)) B49.out)
        have B9A := Lib.hid (bel_allocP (o := (.cells #[.string (bs m.id), .int .i64 m.mn, .int .i64 m.mx, .int .i64 m.lv, .int .i64 m.se, .int .i64 m.sa, .slice (some ⟨gf, of', none⟩) 2 kf', .slice a3 ns ks] 53)) B9.out)
        have lx := LX.out _ B4A.out
        have l2 := Lib.cell_of_heap lx 2
        have px := PX.out _ B4A.out
        have pp0 := Lib.cell_of_heap px 0; have pp1 := Lib.cell_of_heap px 1
        obtain ⟨vm, hlk⟩ := (LR4.out _ B4A.out).mks.look m.id
        rw [decide_eq_false hnK] at hlk
        have hlk2 : ∀ nq, (Instr.lookup 24 (.map (some (w6.heap.size + 1))) (.string (bs m.id)) false).run Try.prog ((W9.alloc (.cells #[.string (bs m.id), .int .i64 m.mn, .int .i64 m.mx, .int .i64 m.lv, .int .i64 m.se, .int .i64 m.sa, .slice (some ⟨gf, of', none⟩) 2 kf', .slice a3 ns ks] 53)).drewN nq) = .ok (.int .i64 0) ((W9.alloc (.cells #[.string (bs m.id), .int .i64 m.mn, .int .i64 m.mx, .int .i64 m.lv, .int .i64 m.se, .int .i64 m.sa, .slice (some ⟨gf, of', none⟩) 2 kf', .slice a3 ns ks] 53)).drewN nq) := by
          intro nq
          have sh9 := (SH7.out.turn (S := fun _ => False) (Turn.of_below B9.out) id).turn ((Turn.refl (fun _ => False) _).alloc (.cells #[.string (bs m.id), .int .i64 m.mn, .int .i64 m.mx, .int .i64 m.lv, .int .i64 m.se, .int .i64 m.sa, .slice (some ⟨gf, of', none⟩) 2 kf', .slice a3 ns ks] 53)) id
          obtain ⟨c, hc0, hl⟩ := (sh9.turn (S := fun _ => False) (w' := (W9.alloc (.cells #[.string (bs m.id), .int .i64 m.mn, .int .i64 m.mx, .int .i64 m.lv, .int .i64 m.se, .int .i64 m.sa, .slice (some ⟨gf, of', none⟩) 2 kf', .slice a3 ns ks] 53)).drewN nq) (turn_drewN _ nq) id).look m.id
          obtain rfl : c = 0 := hc0.2 hnS
          exact hl
        have hl1 : ¬ m.mn < pa := by omega
        have hl2 : ¬ pb < m.mx := by omega
        clear hb9 hq mq hns' hmem lx px hnK hnS hin hTS hb2 hbA hbB hokA hokB hsumf hs0 hs1 hcf hfl hgf
        by_cases hi0 : i = 0
        · have hi0' : ¬ ((0 : Int) < (i : Int)) := by omega
          have HI0 := Lib.hid hi0
          have hi0n : decide (0 < i) = false := decide_eq_false (by omega)
          have hi0m : decide ((0 : Int) < (i : Int)) = false := decide_eq_false hi0'
          clear hi0 hi0'
          go_upto_region 13 with fail
          go_quiet (fail)
          go_upto_region 15 with fail
          go_quiet (fail)
          go_wp2_with fail
          exact ⟨⟨i + 1, by simp, by omega, by rw [HSUM.out], bel_drewN B9A.out _⟩, by simp [RowKit.intOf]; omega⟩
        · obtain ⟨J, hJ⟩ : ∃ J, i = J + 1 := ⟨i - 1, by omega⟩
          have HJ := Lib.hid hJ
          have hi0n : decide (0 < i) = true := decide_eq_true (by omega)
          have hi0m : decide ((0 : Int) < (i : Int)) = true := decide_eq_true (by omega)
          have hsz : s.length = n := hns.out.symm
          have wJ : IntKind.i64.wrap ((i : Int) - 1) = (J : Int) := by rw [show (i : Int) - 1 = J by omega]; exact IntWalk.i64_in _ (by have := HP.out.most; omega)
          have hJ0 : (0 : Int) ≤ J := by omega
          have hJ1 : (J : Int) < s.length := by omega
          have hi1 : (i : Int) < s.length := by omega
          obtain ⟨g6, o6, c6, hv6, hb6, hnc6, hmc6⟩ := SL7.out.somewhere HSP.out
          have hv7 : a6 = some ⟨g6, o6, none⟩ := by injection hv6
          clear hv6
          subst hv7
          have hls : (sortN (ids s)).length = s.length := by unfold sortN; rw [List.length_mergeSort]; simp [ids]
          obtain ⟨xJ, hxJ⟩ : ∃ x, (sortN (ids s))[J]? = some x := ⟨_, List.getElem?_eq_getElem (by omega)⟩
          obtain ⟨xi, hxi⟩ : ∃ x, (sortN (ids s))[i]? = some x := ⟨_, List.getElem?_eq_getElem (by omega)⟩
          have hlt9 : xJ < xi := by
            have h1 := sortN_up (ids s) HP.out.ids
            obtain ⟨hJ', rfl⟩ := List.getElem?_eq_some_iff.1 hxJ
            obtain ⟨hi', rfl⟩ := List.getElem?_eq_some_iff.1 hxi
            exact List.pairwise_iff_getElem.1 h1 J i hJ' hi' (by omega)
          have cell9 : ∀ (j : Nat) x, (sortN (ids s))[j]? = some x → (W9.alloc (.cells #[.string (bs m.id), .int .i64 m.mn, .int .i64 m.mx, .int .i64 m.lv, .int .i64 m.se, .int .i64 m.sa, .slice (some ⟨gf, of', none⟩) 2 kf', .slice a3 ns ks] 53)).cell? ⟨g6, o6 + j, none⟩ = some (.string (bs x)) := by
            intro j x hx
            have h1 := SL7.out.cells (j * 1) _ (sc_at1 _ j x hx)
            rw [Addr.add_lit, Nat.mul_one] at h1
            have h6 := SL7.out.lt g6 rfl
            exact (B9A.out.cell (p := ⟨g6, o6 + j, none⟩) h6.2).trans h1
          have xc0 := cell9 J xJ hxJ
          have xc1 := cell9 i xi hxi
          have hless := (less20 xJ xi).2 hlt9
          have hless2 : Op.bytesLess (bs xJ).toList (bs xi).toList = true := by rw [show (bs xJ).toList = xJ by simp [bs], show (bs xi).toList = xi by simp [bs]]; exact hless
          clear hJ hi0 cell9 hxJ hxi hls hlt9 hsz
          go_upto_region 13 with fail
          go_quiet (fail)
          go_upto_region 15 with fail
          go_quiet (fail)
          go_wp2_with fail
          exact ⟨⟨i + 1, by simp, by omega, by rw [HSUM.out], bel_drewN B9A.out _⟩, by simp [RowKit.intOf]; omega⟩
      · have hil : ¬ (i : Int) < n := by omega
        have hin : i = n := by omega
        have hsn : ((s.take i).map fun q => sumF q.m.files).sum = (s.map fun q => sumF q.m.files).sum := by rw [hin, hns.out, List.take_length]
        obtain ⟨TS, hTS⟩ : ∃ TS, TS = ((s.take i).map fun q => sumF q.m.files).sum := ⟨_, rfl⟩
        have hby : TS ≤ 262144 := by rw [hTS, hsn]; exact HP.out.bytes
        rw [← hTS]
        have px := PX.out _ B49.out
        have pp0 := Lib.cell_of_heap px 0; have pp1 := Lib.cell_of_heap px 1; have pp2 := Lib.cell_of_heap px 2; have pp3 := Lib.cell_of_heap px 3
        have hmore := HP.out.more
        have hmost := HP.out.most
        have hlv := HP.out.lv
        have hpos := HP.out.pos
        have hrng := HP.out.range
        have hsz : s.length = n := hns.out.symm
        rw [hsz] at hmore hmost
        have t1 : pa.tdiv (9 * wd) = pa / (9 * wd) := Int.tdiv_eq_ediv_of_nonneg hpos.1
        have t2 : (pb - 1).tdiv (9 * wd) = pa / (9 * wd) := by rw [Int.tdiv_eq_ediv_of_nonneg (by omega), hrng]
        have wpb : IntKind.i64.wrap (pb - 1) = pb - 1 := IntWalk.i64_in _ (by omega)
        obtain ⟨Q, hQ⟩ : ∃ Q, Q = pa / (9 * wd) := ⟨_, rfl⟩
        rw [← hQ] at t1 t2
        have wq : IntKind.i64.wrap Q = Q := IntWalk.i64_in _ (by
          have h1 : 0 ≤ pa / (9 * wd) := Int.ediv_nonneg hpos.1 (by omega)
          have h2 : pa / (9 * wd) ≤ pa := Int.ediv_le_self _ hpos.1
          have h3 := HP.out.lo p0 (List.mem_of_getElem? HP.out.hd)
          have h4 := (HOKS.out 0 p0 HP.out.hd).1.2
          omega)
        have hne9 : ¬ (9 * wd = 0) := by omega
        have hn1 : (1 : Int) < n := by omega
        have hn2 : (n : Int) ≤ 20 := by omega
        have hl2 := hlv.1
        have hl9 := hlv.2
        rw [show (Value.slice a6 s.length k6) = Value.slice a6 n k6 by rw [hsz]]
        clear hb9 hin hsn hTS px hmore hmost hrng hQ hpos hlv
        go_upto_region 18 with fail
        go_quiet (fail)
        go_wp2_with fail
        go_ret
        exact ⟨rfl, bel_drewN (B04.out.trans (B49.out.mono B04.out.size)) _⟩
end Go.Proofs.Ytkialkjhjenkhaa
