/- Layer 20: first: as many of a group as may be made one. -/
import Derived.Test.YtkialkjhjenkhaaMPLD
import Derived.Test.YtkialkjhjenkhaaMPLE
namespace Go.Proofs.Ytkialkjhjenkhaa
open Go.RowKit Go.Lib
set_option linter.unusedVariables false

def fstG (wd frm : Int) : List Mq → Tot → List Mq → List Mq
  | [], _, acc => acc
  | q :: r, t, acc => if wd ≤ q.m.mn - frm then acc else if wd < q.m.mx - frm then fstG wd frm r t acc else if (t.with q.m).fits then fstG wd frm r (t.with q.m) (acc ++ [q]) else acc
def frmOf (wd : Int) (x : Int) : Int := x - x % wd
/-- As many of the first one's group as may be made one. -/
def fstQ (wd : Int) (qs : List Mq) : List Mq := match qs with
  | [] => []
  | q :: r => fstG wd (frmOf wd q.m.mn) (q :: r) ⟨0, 0, 0, 0⟩ []
theorem box4 (w2 : World) (a : Nat) (x0 x1 x2 x3 y0 y1 y2 y3 : Value) (T : TypeId) (h : w2.heap[a]? = some (.cells #[x0, x1, x2, x3] T (0, 0))) : ((((w2.setCell ⟨a, 0, none⟩ y0).setCell ⟨a, 1, none⟩ y1).setCell ⟨a, 2, none⟩ y2).setCell ⟨a, 3, none⟩ y3).heap[a]? = some (.cells #[y0, y1, y2, y3] T (0, 0)) := by
  have h0 := heap_setCell_same w2 a 0 _ _ y0 h
  have h1 := heap_setCell_same _ a 1 _ _ y1 h0
  have h2 := heap_setCell_same _ a 2 _ _ y2 h1
  have h3 := heap_setCell_same _ a 3 _ _ y3 h2
  exact h3
theorem turn4 (w2 : World) (a : Nat) (y0 y1 y2 y3 : Value) : Turn (fun k => k = a) w2 ((((w2.setCell ⟨a, 0, none⟩ y0).setCell ⟨a, 1, none⟩ y1).setCell ⟨a, 2, none⟩ y2).setCell ⟨a, 3, none⟩ y3) :=
  (((((Turn.refl (fun k => k = a) w2).setCell ⟨a, 0, none⟩ _ rfl).setCell ⟨a, 1, none⟩ _ rfl).setCell ⟨a, 2, none⟩ _ rfl).setCell ⟨a, 3, none⟩ _ rfl)
structure FsL (w wr : World) (t : Tot) (v2 : Value) (acc : List Mq) : Prop where
  box : wr.heap[w.heap.size]? = some (.cells #[.int .i64 t.b, .int .i64 t.y, .int .i64 t.s, .int .i64 t.a] 95 (0, 0))
  sl : Sl wr (w.heap.size + 1) 8 v2 acc.length (msc acc)
  below : Below w.heap.size w wr
  big : w.heap.size + 1 ≤ wr.heap.size
theorem FsL.alloc {w wr : World} {t : Tot} {v2 : Value} {acc : List Mq} (h : FsL w wr t v2 acc) (o : Obj) : FsL w (wr.alloc o) t v2 acc := ⟨(Below.heap_alloc wr o w.heap.size (by have := h.big; omega)).trans h.box, h.sl.alloc o, h.below.alloc h.below.size o, by have := h.big; simp; omega⟩
set_option maxHeartbeats 2000000 in
set_option maxRecDepth 100000 in
theorem first_any (v : Value) (qs : List Mq) (wd : Int) (w : World) (h : MsR w v qs) (h0 : qs ≠ []) (hm : qs.length ≤ 1000) (hw : 1 ≤ wd ∧ wd ≤ 1000000) (hk : ∀ q ∈ qs, OkB q.m) :
    Calls Try.prog 22 #[v, .int .i64 wd] w fun e w' => ∃ v', e = .returned v' ∧ Sl w' w.heap.size 8 v' (fstQ wd qs).length (msc (fstQ wd qs)) ∧ Below w.heap.size w w' := by
  obtain ⟨i0, hi, hz0, hz1, hz2⟩ := info_parts zc_met
  have Hz := Lib.hid hz0; have Hs := Lib.hid hz1; have Hb := Lib.hid hz2; have Hi := Lib.hid hi
  clear hz0 hz1 hz2 hi
  have HH := Lib.hid h
  have HK := Lib.hid hk
  obtain ⟨_, ad, cap, g, off, rfl, hg, hc⟩ := h.rd
  have HQ := Lib.hid (fun W (bb : Below w.heap.size w W) i q (hq : qs[i]? = some q) (h0 : 0 < qs.length) => mq_at hc bb (hg h0).2 i q hq)
  have hpos : 0 < qs.length := List.length_pos_iff.2 h0
  obtain ⟨rfl, hgl⟩ := hg hpos
  clear h hg hc hk
  obtain ⟨p0, hp0⟩ : ∃ p, qs[0]? = some p := ⟨_, List.getElem?_eq_getElem hpos⟩
  obtain ⟨frm, hfrm⟩ : ∃ frm, frm = frmOf wd p0.m.mn := ⟨_, rfl⟩
  have HF := Lib.hid (show fstQ wd qs = fstG wd frm qs ⟨0, 0, 0, 0⟩ [] from by
    cases qs with
    | nil => exact absurd rfl h0
    | cons x r =>
      simp only [List.getElem?_cons_zero, Option.some.injEq] at hp0
      subst hp0
      rw [hfrm]; rfl)
  rw [HF.out]
  obtain ⟨R, hR⟩ : ∃ R, R = fstG wd frm qs ⟨0, 0, 0, 0⟩ [] := ⟨_, rfl⟩
  rw [← hR]
  have HR := Lib.hid hR
  have hp1 := (HK.out p0 (List.mem_of_getElem? hp0)).1
  have hmod0 : 0 ≤ p0.m.mn % wd := Int.emod_nonneg _ (by omega)
  have hmod1 : p0.m.mn % wd < wd := Int.emod_lt_of_pos _ (by omega)
  have hmod2 : p0.m.mn % wd ≤ p0.m.mn := by
    have := Int.emod_add_mul_ediv p0.m.mn wd
    have h9 : 0 ≤ p0.m.mn / wd := Int.ediv_nonneg hp1.1 (by omega)
    have h8 : 0 ≤ wd * (p0.m.mn / wd) := Int.mul_nonneg (by omega) h9
    omega
  have hfb : 0 ≤ frm ∧ frm ≤ 1000000 := by rw [hfrm]; unfold frmOf; omega
  have hfm : IntKind.i64.wrap (p0.m.mn - p0.m.mn.tmod wd) = frm := by rw [hfrm, Int.tmod_eq_emod_of_nonneg hp1.1]; unfold frmOf; exact IntWalk.i64_in _ (by omega)
  obtain ⟨-, z1, -⟩ := HQ.out w (Below.refl _ _) 0 p0 hp0 hpos
  rw [Nat.zero_mul, Nat.add_zero] at z1
  have HP := Lib.hid hpos
  obtain ⟨N, hN⟩ : ∃ N, N = qs.length := ⟨_, rfl⟩
  have HN := Lib.hid hN
  rw [← hN] at hm hpos ⊢
  clear hN hR HF hmod0 hmod1 hmod2 hp0 h0 hfrm hp1
  have hposi : (0 : Int) < N := by omega
  have T0 := Lib.hid (show FsL w (w.drew.alloc (.cells #[.int .i64 0, .int .i64 0, .int .i64 0, .int .i64 0] 95)) ⟨0, 0, 0, 0⟩ (.slice none 0 0) [] from ⟨heap_alloc_new w.drew _, Sl.nil _ _ _, (Below.refl _ _).drew.alloc (Nat.le_refl _) _, by simp⟩)
  go_enter Try.func22, Try.ntmps22
  go_upto_region 1 with fail
  go_region
  go_wp2_with fail
  go_loopw [6, 23] (fun v2 i' wr => ∃ (i : Nat) (t : Tot) (acc : List Mq), i' = .int .i64 i ∧ i ≤ N ∧ Hid (t.Lo ∧ acc.length ≤ i) ∧ Hid (fstG wd frm (qs.drop i) t acc = R) ∧ FsL w wr t v2 acc) (fun _ i' _ => N - (RowKit.intOf i').toNat)
  case atStart => exact ⟨0, ⟨0, 0, 0, 0⟩, [], rfl, Nat.zero_le _, ⟨by unfold Tot.Lo; simp, Nat.le_refl _⟩, HR.out.symm, T0.out⟩
  case round =>
    clear T0
    obtain ⟨W0, rfl⟩ : ∃ W0, W0 = wr := ⟨_, rfl⟩
    obtain ⟨i, t, acc, rfl, hi, htl, hres, td⟩ := hrel
    by_cases hlt : i < N
    · have hil : (i : Int) < N := by omega
      have hiw : IntKind.i64.wrap ((i : Int) + 1) = (i : Int) + 1 := IntWalk.i64_in _ (by omega)
      obtain ⟨q, hq⟩ : ∃ q, qs[i]? = some q := ⟨_, List.getElem?_eq_getElem (by have := HN.out; omega)⟩
      have mq := (HH.out.ok q (List.mem_of_getElem? hq)).on td.below
      have hok := HK.out q (List.mem_of_getElem? hq)
      have hqq := HQ.out W0 td.below i q hq HP.out
      have hdr : qs.drop i = q :: qs.drop (i + 1) := by
        obtain ⟨hlt', he⟩ := List.getElem?_eq_some_iff.1 hq
        rw [List.drop_eq_getElem_cons hlt', he]
      have HRES := Lib.hid (show (if wd ≤ q.m.mn - frm then acc else if wd < q.m.mx - frm then fstG wd frm (qs.drop (i + 1)) t acc else if (t.with q.m).fits then fstG wd frm (qs.drop (i + 1)) (t.with q.m) (acc ++ [q]) else acc) = R from by
        rw [← hres.out, hdr]; rfl)
      obtain ⟨m, vf, vs⟩ := q
      replace mq : MeR W0 m vf vs := mq
      have one1 := mqc_oneCell (q := ⟨m, vf, vs⟩) mq
      obtain ⟨af, kf, rfl⟩ := rd_form mq.1
      obtain ⟨a3, ks, rfl⟩ := rd_form mq.2.1
      have HONE := Lib.hid one1
      have HOK := Lib.hid hok
      simp only at hok
      obtain ⟨nf, hnf⟩ : ∃ nf, nf = m.files.length := ⟨_, rfl⟩
      obtain ⟨ns, hns⟩ : ∃ ns, ns = m.src.length := ⟨_, rfl⟩
      rw [← hnf, ← hns] at hqq HRES HONE mq
      obtain ⟨q0, q1, q2, q3, q4, q5, q6, q7⟩ := hqq
      simp only at q0 q1 q2 q3 q4 q5 q6 q7 HRES
      have TD1 := Lib.hid (td.alloc (.cells #[.string (bs m.id), .int .i64 m.mn, .int .i64 m.mx, .int .i64 m.lv, .int .i64 m.se, .int .i64 m.sa, .slice af nf kf, .slice a3 ns ks] 53))
      have MQ1 := Lib.hid (mq.on (b := (Below.refl _ _).alloc (Nat.le_refl _) (.cells #[.string (bs m.id), .int .i64 m.mn, .int .i64 m.mx, .int .i64 m.lv, .int .i64 m.se, .int .i64 m.sa, .slice af nf kf, .slice a3 ns ks] 53)))
      have hmn := hok.1; have hmx := hok.2.1
      have wn : IntKind.i64.wrap (m.mn - frm) = m.mn - frm := IntWalk.i64_in _ (by omega)
      have wx : IntKind.i64.wrap (m.mx - frm) = m.mx - frm := IntWalk.i64_in _ (by omega)
      by_cases c1 : wd ≤ m.mn - frm
      · have RES := HRES.out
        rw [if_pos c1] at RES
        have HRS := Lib.hid RES
        clear td mq hok hnf hns one1 hq hdr hres RES hmn hmx
        go_wp2_with fail
        go_ret
        rw [← HRS.out]
        exact ⟨_, rfl, TD1.out.sl.mono (by omega), TD1.out.below⟩
      · have d1 : ¬ (m.mn - frm ≥ wd) := c1
        by_cases c2 : wd < m.mx - frm
        · have d2 : m.mx - frm > wd := c2
          have RES := HRES.out
          rw [if_neg c1, if_pos c2] at RES
          have HRS := Lib.hid RES
          clear td mq hok hnf hns one1 hq hdr hres RES hmn hmx c2
          go_wp2_with fail
          exact ⟨⟨i + 1, t, acc, by simp, by omega, Lib.hid ⟨htl.out.1, by have := htl.out.2; omega⟩, HRS, TD1.out⟩, by simp [RowKit.intOf]; omega⟩
        · have d2 : ¬ (m.mx - frm > wd) := c2
          have RES := HRES.out
          rw [if_neg c1, if_neg c2] at RES
          have HRS := Lib.hid RES
          have hbig1 := TD1.out.big
          have hbig := td.big
          have s1 : (W0.alloc (.cells #[.string (bs m.id), .int .i64 m.mn, .int .i64 m.mx, .int .i64 m.lv, .int .i64 m.se, .int .i64 m.sa, .slice af nf kf, .slice a3 ns ks] 53)).heap.size = W0.heap.size + 1 := by simp
          have HX := Lib.hid (show (W0.alloc (.cells #[.string (bs m.id), .int .i64 m.mn, .int .i64 m.mx, .int .i64 m.lv, .int .i64 m.se, .int .i64 m.sa, .slice af nf kf, .slice a3 ns ks] 53)).heap[W0.heap.size]? = some (.cells #[.string (bs m.id), .int .i64 m.mn, .int .i64 m.mx, .int .i64 m.lv, .int .i64 m.se, .int .i64 m.sa, .slice af nf kf, .slice a3 ns ks] 53) from heap_alloc_new _ _)
          have t0 := Lib.cell_of_heap TD1.out.box 0; have t1 := Lib.cell_of_heap TD1.out.box 1; have t2 := Lib.cell_of_heap TD1.out.box 2; have t3 := Lib.cell_of_heap TD1.out.box 3
          have WT0 := with_any t m (.slice af nf kf) (.slice a3 ns ks) (W0.alloc (.cells #[.string (bs m.id), .int .i64 m.mn, .int .i64 m.mx, .int .i64 m.lv, .int .i64 m.se, .int .i64 m.sa, .slice af nf kf, .slice a3 ns ks] 53)) MQ1.out htl.out.1 HOK.out
          unfold totV meV at WT0
          obtain ⟨t', ht'⟩ : ∃ t', t' = t.with m := ⟨_, rfl⟩
          rw [← ht'] at WT0 HRS
          have FT0 := fun W => fits_any t' W
          unfold totV at FT0
          have HT' := Lib.hid ht'
          have HLO := Lib.hid (fun hf => htl.out.1.with HOK.out (by rw [← ht']; exact hf))
          rw [← ht'] at HLO
          have WT := Lib.hid WT0
          have FT := Lib.hid FT0
          obtain ⟨n, hn⟩ : ∃ n, n = acc.length := ⟨_, rfl⟩
          have HNL := Lib.hid hn
          have hn1 : n ≤ i := by rw [hn]; exact htl.out.2
          have hn4 : n + 1 ≤ maxLen := by unfold maxLen; omega
          have hn5 : (n + 1) * 104 ≤ 140737488355328 := by omega
          obtain ⟨a2, k2, rfl⟩ := td.sl.slice
          have hsl1 := TD1.out.sl
          rw [← hn] at hsl1
          have SL1 := Lib.hid hsl1
          clear td mq hok hnf hns one1 hq hdr hres RES hmn hmx c2 WT0 FT0 ht' hsl1 hn1
          rw [← hn]
          clear hn
          obtain ⟨fl, hfl⟩ : ∃ fl, fl = t'.fits := ⟨_, rfl⟩
          rw [← hfl] at HRS FT HLO
          clear hfl
          have STEP : Hid (∀ w2 W3 w4, Below (W0.alloc (.cells #[.string (bs m.id), .int .i64 m.mn, .int .i64 m.mx, .int .i64 m.lv, .int .i64 m.se, .int .i64 m.sa, .slice af nf kf, .slice a3 ns ks] 53)).heap.size (W0.alloc (.cells #[.string (bs m.id), .int .i64 m.mn, .int .i64 m.mx, .int .i64 m.lv, .int .i64 m.se, .int .i64 m.sa, .slice af nf kf, .slice a3 ns ks] 53)) w2 → W3 = ((((w2.setCell ⟨w.heap.size, 0, none⟩ (.int .i64 t'.b)).setCell ⟨w.heap.size, 1, none⟩ (.int .i64 t'.y)).setCell ⟨w.heap.size, 2, none⟩ (.int .i64 t'.s)).setCell ⟨w.heap.size, 3, none⟩ (.int .i64 t'.a)) → Below W3.heap.size W3 w4 → FsL w w4 t' (.slice a2 n k2) acc ∧ w4.heap[W0.heap.size]? = some (.cells #[.string (bs m.id), .int .i64 m.mn, .int .i64 m.mx, .int .i64 m.lv, .int .i64 m.se, .int .i64 m.sa, .slice af nf kf, .slice a3 ns ks] 53) ∧ W0.heap.size + 1 ≤ w4.heap.size) := Lib.hid (by
            rintro w2 W3 w4 b2 hW b4
            have h2 := (b2.block w.heap.size (by omega)).trans TD1.out.box
            have h3 := box4 w2 w.heap.size _ _ _ _ (.int .i64 t'.b) (.int .i64 t'.y) (.int .i64 t'.s) (.int .i64 t'.a) _ h2
            have h4 := turn4 w2 w.heap.size (.int .i64 t'.b) (.int .i64 t'.y) (.int .i64 t'.s) (.int .i64 t'.a)
            rw [← hW] at h3 h4
            have z2 := b2.size
            have z3 := h4.size
            have z4 := b4.size
            have hx := (b2.block W0.heap.size (by omega)).trans HX.out
            refine ⟨⟨(b4.block w.heap.size (by omega)).trans h3, ?_, ?_, by omega⟩, (b4.block W0.heap.size (by omega)).trans ((h4.block W0.heap.size (by omega) (by omega)).trans hx), by omega⟩
            · rw [← HNL.out]
              exact (((SL1.out.on b2).turn h4 (fun k hk e => by have := (SL1.out.lt k hk).1; omega)).on b4)
            · exact ((TD1.out.below.trans (b2.mono (by omega))).trans (h4.below (by omega) (fun k hk => by omega))).trans (b4.mono (by omega)))
          clear s1
          have hne : ¬ (w.heap.size = W0.heap.size) := by omega
          cases fl
          · have HRS2 := Lib.hid (show acc = R from by have := HRS.out; simpa using this)
            clear HRS
            obtain ⟨e0, e1, e2, e3, e4, e5, e6, e7⟩ := cells8 HX.out
            go_wp2_with (first
              | (go_at_call 44; (with_reducible refine WT.out.mono ?_); rintro e w2 ⟨rfl, b2⟩; have B2 := Lib.hid b2; have h2 := (b2.block w.heap.size (by simp; omega)).trans TD1.out.box; have x0 := Lib.cell_of_heap h2 0; have x1 := Lib.cell_of_heap h2 1; have x2 := Lib.cell_of_heap h2 2; have x3 := Lib.cell_of_heap h2 3; have y0 := Lib.frozen_of_heap h2 0; have y1 := Lib.frozen_of_heap h2 1; have y2 := Lib.frozen_of_heap h2 2; have y3 := Lib.frozen_of_heap h2 3; clear b2 h2 e0 e1 e2 e3 e4 e5 e6 e7 t0 t1 t2 t3)
              | (go_at_call 45; (with_reducible refine (FT.out _).mono ?_); rintro e w4 ⟨rfl, b4⟩; have ST4 := Lib.hid (STEP.out _ _ w4 B2.out rfl b4); clear b4 x0 x1 x2 x3 y0 y1 y2 y3)
              | fail)
            go_ret
            rw [← HRS2.out]
            exact ⟨_, rfl, ST4.out.1.sl.mono (by omega), ST4.out.1.below⟩
          · have HRS2 := Lib.hid (show fstG wd frm (qs.drop (i + 1)) t' (acc ++ [⟨m, .slice af nf kf, .slice a3 ns ks⟩]) = R from by have := HRS.out; simpa using this)
            clear HRS
            have HLO2 := Lib.hid (HLO.out rfl)
            clear HLO
            obtain ⟨e0, e1, e2, e3, e4, e5, e6, e7⟩ := cells8 HX.out
            go_wp2_with (first
              | (go_at_call 44; (with_reducible refine WT.out.mono ?_); rintro e w2 ⟨rfl, b2⟩; have B2 := Lib.hid b2; have h2 := (b2.block w.heap.size (by simp; omega)).trans TD1.out.box; have x0 := Lib.cell_of_heap h2 0; have x1 := Lib.cell_of_heap h2 1; have x2 := Lib.cell_of_heap h2 2; have x3 := Lib.cell_of_heap h2 3; have y0 := Lib.frozen_of_heap h2 0; have y1 := Lib.frozen_of_heap h2 1; have y2 := Lib.frozen_of_heap h2 2; have y3 := Lib.frozen_of_heap h2 3; clear b2 h2 e0 e1 e2 e3 e4 e5 e6 e7 t0 t1 t2 t3)
              | (go_at_call 45; (with_reducible refine (FT.out _).mono ?_); rintro e w4 ⟨rfl, b4⟩; have ST4 := Lib.hid (STEP.out _ _ w4 B2.out rfl b4); clear b4 x0 x1 x2 x3 y0 y1 y2 y3; obtain ⟨e0, e1, e2, e3, e4, e5, e6, e7⟩ := cells8 ST4.out.2.1; have ZW := Lib.hid ST4.out.2.2; have SL4 := Lib.hid (show Sl w4 (w.heap.size + 1) 8 (.slice a2 n k2) n (msc acc) from by have h9 := ST4.out.1.sl; rw [← HNL.out] at h9; exact h9))
              | (at_builtin; go_loud (refine wpList_append_sl2 _ rfl _ _ 23 rfl (w.heap.size + 1) 53 i0 (.agg #[.string ⟨#[]⟩, .int .i64 0, .int .i64 0, .int .i64 0, .int .i64 0, .int .i64 0, .slice none 0 0, .slice none 0 0]) 8 104 Try.underlying23 Hi.out Hz.out Hs.out Hb.out rfl (by decide) _ n _ rfl (SL4.out.alloc _) _ _ 1 _ rfl (Sl.lit w4 (w.heap.size + 1) 8 1 #[.string (bs m.id), .int .i64 m.mn, .int .i64 m.mx, .int .i64 m.lv, .int .i64 m.se, .int .i64 m.sa, .slice af nf kf, .slice a3 ns ks] 53 (by have := ZW.out; omega) (by decide) rfl) HONE.out hn4 hn5 (by simp; have := ZW.out; omega) ?_; intro v5 w5 x5; obtain ⟨a6, k6, rfl⟩ := x5.now.slice))
              | fail)
            have DONE := Lib.hid (show FsL w w5 t' (.slice a6 (n + 1) k6) (acc ++ [⟨m, .slice af nf kf, .slice a3 ns ks⟩]) from by
              have hz := ZW.out
              have bb := x5.below (B := w.heap.size + 1) (Nat.le_refl _) (by simp; omega)
              have TD2 := ST4.out.1.alloc (.cells #[.string (bs m.id), .int .i64 m.mn, .int .i64 m.mx, .int .i64 m.lv, .int .i64 m.se, .int .i64 m.sa, .slice af nf kf, .slice a3 ns ks] 53)
              refine ⟨(bb.block w.heap.size (by omega)).trans TD2.box, ?_, TD2.below.trans (bb.mono (by omega)), Nat.le_trans TD2.big bb.size⟩
              rw [List.length_append, ← HNL.out, msc_append, show msc [⟨m, .slice af nf kf, .slice a3 ns ks⟩] = mqc ⟨m, .slice af nf kf, .slice a3 ns ks⟩ by simp [msc]]
              exact x5.now)
            clear x5
            go_wp2_with fail
            exact ⟨⟨i + 1, t', _, by simp, by omega, Lib.hid ⟨HLO2.out, by rw [List.length_append, ← HNL.out]; have := htl.out.2; have := HNL.out; simp; omega⟩, HRS2, DONE.out⟩, by simp [RowKit.intOf]; omega⟩
    · have hil : ¬ (i : Int) < N := by omega
      have hiN : i = N := by omega
      have RES := hres.out
      rw [hiN, HN.out, List.drop_of_length_le (Nat.le_refl _)] at RES
      have HRS := Lib.hid (show acc = R from RES)
      have TD := Lib.hid td
      clear td RES hres htl hiN
      go_wp2_with fail
      go_ret
      rw [← HRS.out]
      exact ⟨_, rfl, TD.out.sl.mono (by omega), TD.out.below⟩
end Go.Proofs.Ytkialkjhjenkhaa
