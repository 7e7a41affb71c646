/- Layer 20: ToMark, Rank. -/
import Derived.Test.YtkialkjhjenkhaaMPLJ
namespace Go.Proofs.Ytkialkjhjenkhaa
open Go.RowKit Go.Lib
set_option linter.unusedVariables false

/-- What is to be marked. -/
def tomQ (K : List (List UInt8)) (qs : List Mq) : List Mq := (unmQ K qs).filter (fun q => srcs (unmQ K qs) q.m.id)
theorem UpQ.filter {qs : List Mq} (h : UpQ qs) (p : Mq → Bool) : UpQ (qs.filter p) := by
  have h1 := h.nodup
  rw [List.pairwise_map] at h1
  have h2 := List.Pairwise.filter p h1
  intro i x y hx hy
  obtain ⟨hi, rfl⟩ := List.getElem?_eq_some_iff.1 hx
  obtain ⟨hj, rfl⟩ := List.getElem?_eq_some_iff.1 hy
  exact List.pairwise_iff_getElem.1 h2 i (i + 1) hi hj (by omega)
theorem ShadM.of {m : Nat} {qs rs : List Mq} {w : World} (h : ShadM m rs w) (e : rs.map Mq.m = qs.map Mq.m) : ShadM m qs w := by
  obtain ⟨N, j, h1, h2⟩ := h
  refine ⟨N, j, h1, fun x => (h2 x).trans ?_⟩
  have key : ∀ l : List Mq, (∃ q ∈ l, x ∈ q.m.src) ↔ ∃ p ∈ l.map Mq.m, x ∈ p.src := by
    intro l
    constructor
    · rintro ⟨q, hq, hx⟩; exact ⟨q.m, List.mem_map_of_mem hq, hx⟩
    · rintro ⟨p, hp, hx⟩; obtain ⟨q, hq, rfl⟩ := List.mem_map.1 hp; exact ⟨q, hq, hx⟩
  rw [key, key, e]
theorem tomark_del {w1 w2 w3 : World} {base : Nat} {v1 : Value} {us : List Mq} (s1 : Sl w1 base 8 v1 us.length (msc us)) (m1 : MsR w1 v1 us) (b2 : Below w1.heap.size w1 w2) (b3 : Below w2.heap.size w2 w3) (sh3 : ShadM (w2.heap.size + 1) us w3) (hl : us.length ≤ 1000) :
    Calls Try.prog 28 #[v1, .func (.func 29) #[] #[.pointer (some ⟨w3.heap.size, 0, none⟩)]] (w3.alloc (.cells #[.map (some (w2.heap.size + 1))] 24)) fun e w' => ∃ v', e = .returned v' ∧ Sl w' base 8 v' (us.filter (fun q => !!srcs us q.m.id)).length (msc (us.filter (fun q => !!srcs us q.m.id))) ∧ Turn (fun k => v1.ownBlock = some k) (w3.alloc (.cells #[.map (some (w2.heap.size + 1))] 24)) w' := by
  have c4 := heap_alloc_new w3 (.cells #[.map (some (w2.heap.size + 1))] 24)
  have z2 := b2.size
  have z3 := b3.size
  have hz4 : (w3.alloc (.cells #[.map (some (w2.heap.size + 1))] 24)).heap.size = w3.heap.size + 1 := by simp
  have hlt := sh3.lt
  have hown : ∀ k, v1.ownBlock = some k → k < w1.heap.size := fun k hk => (s1.lt k hk).2
  refine delf_any v1 (.func (.func 29) #[] #[.pointer (some ⟨w3.heap.size, 0, none⟩)]) (fun m => !srcs us m.id) us base (w3.alloc (.cells #[.map (some (w2.heap.size + 1))] 24)) (fun W => W.cell? ⟨w3.heap.size, 0, none⟩ = some (.map (some (w2.heap.size + 1))) ∧ w3.heap.size < W.heap.size ∧ ShadM (w2.heap.size + 1) us W) (((s1.on b2).on b3).alloc _) hl ⟨w3.heap.size, rfl, fun q W hP => gone_any q w3.heap.size (w2.heap.size + 1) us W hP.1 hP.2.1 hP.2.2⟩ (fun q hq => ?_) (fun W ht => ?_)
  · have hm := m1.ok q hq
    obtain ⟨a, c, e⟩ := rd_form hm.1
    obtain ⟨a', c', e'⟩ := rd_form hm.2.1
    exact ⟨⟨a, _, c, e⟩, a', _, c', e'⟩
  · refine ⟨Lib.cell_of_heap ((ht.block w3.heap.size (by omega) (fun e => by have := hown _ e; omega)).trans c4) 0, by have := ht.size; omega, ?_⟩
    exact (sh3.turn ((Turn.refl (fun _ => False) _).alloc _) id).turn ht (fun e => by have := hown _ e; omega)
theorem tomark_bel {w w0 w1 w2 w3 w5 : World} {o : Obj} {v1 : Value} {us : List Mq} (b0 : Below w.heap.size w w0) (hz : w.heap.size ≤ w0.heap.size) (s1 : Sl w1 w0.heap.size 8 v1 us.length (msc us)) (b1 : Below w0.heap.size w0 w1) (b2 : Below w1.heap.size w1 w2) (b3 : Below w2.heap.size w2 w3) (t5 : Turn (fun k => v1.ownBlock = some k) (w3.alloc o) w5) : Below w.heap.size w w5 := by
  have z1 := b1.size
  have z2 := b2.size
  have z3 := b3.size
  have b4 : Below w.heap.size w (w3.alloc o) := (((b0.trans (b1.mono (by omega))).trans (b2.mono (by omega))).trans (b3.mono (by omega))).alloc (by omega) _
  exact b4.trans (t5.below (by simp; omega) (fun k hk => by have := (s1.lt k hk).1; omega))
set_option maxHeartbeats 2000000 in
set_option maxRecDepth 100000 in
theorem tomarkg_any (v : Value) (t : Int) (qs : List Mq) (K : List (List UInt8)) (w : World) (h : LstR w v t qs K) (hup : UpQ qs) (hm : qs.length ≤ 1000) :
    Calls Try.prog 12 #[v] w fun e w' => ∃ v', e = .returned v' ∧ Sl w' w.heap.size 1 v' (tomQ K qs).length (sc (ids (tomQ K qs))) ∧ Below w.heap.size w w' := by
  obtain ⟨ms, mp, rfl, h1, h2⟩ := h
  obtain ⟨a0, k0, rfl⟩ := rd_form h1.rd
  have H1 := Lib.hid h1
  have UN := Lib.hid (fun W (bb : Below w.heap.size w W) => unm_any (.int .i64 t) (.slice a0 qs.length k0) (.slice a0 qs.length k0) mp K qs W (h1.on bb) (h2.turn (S := fun _ => False) (Turn.of_below bb) id) (by omega))
  obtain ⟨us, hus⟩ : ∃ us, us = unmQ K qs := ⟨_, rfl⟩
  have HUS := Lib.hid hus
  have hul : us.length ≤ qs.length := by rw [hus]; exact List.length_filter_le _ _
  have hup2 : UpQ us := by rw [hus]; exact hup.filter _
  have HUP := Lib.hid hup2
  rw [← hus] at UN
  have HOK := Lib.hid (fun W (bb : Below w.heap.size w W) => show ∀ q ∈ us, MeR W q.m q.vf q.vs from fun q hq => (h1.on bb).ok q (by rw [hus] at hq; exact (List.mem_filter.1 hq).1))
  have HT := Lib.hid (show tomQ K qs = us.filter (fun q => srcs us q.m.id) by rw [hus]; rfl)
  rw [HT.out]
  clear h1 h2 hus hup hup2
  have BA := Lib.hid (show Below w.heap.size w (w.alloc (.cells #[.int .i64 t, .slice a0 qs.length k0, .map (some mp)] 26)) from (Below.refl _ _).alloc (Nat.le_refl _) _)
  have SA := Lib.hid (show (w.alloc (.cells #[.int .i64 t, .slice a0 qs.length k0, .map (some mp)] 26)).heap.size = w.heap.size + 1 by simp)
  have BX := Lib.hid (fun W' (bb : Below (w.alloc (.cells #[.int .i64 t, .slice a0 qs.length k0, .map (some mp)] 26)).heap.size (w.alloc (.cells #[.int .i64 t, .slice a0 qs.length k0, .map (some mp)] 26)) W') => show W'.cell? ⟨w.heap.size, 0, none⟩ = some (.int .i64 t) ∧ W'.cell? ⟨w.heap.size, 1, none⟩ = some (.slice a0 qs.length k0) ∧ W'.cell? ⟨w.heap.size, 2, none⟩ = some (.map (some mp)) from by
    have h1 := (bb.block w.heap.size (by simp)).trans (heap_alloc_new w (.cells #[.int .i64 t, .slice a0 qs.length k0, .map (some mp)] 26))
    exact ⟨Lib.cell_of_heap h1 0, Lib.cell_of_heap h1 1, Lib.cell_of_heap h1 2⟩)
  obtain ⟨f0, f1, f2⟩ := BX.out _ (Below.refl _ _)
  go_enter Try.func12, Try.ntmps12
  go_wp2_with (first
    | (go_at_call 26; (with_reducible refine (UN.out _ BA.out).mono ?_); rintro e w1 ⟨v1, rfl, sl1, b1⟩; clear f0 f1 f2; obtain ⟨f0, f1, f2⟩ := BX.out _ b1; have SL1 := Lib.hid sl1; have B1 := Lib.hid b1; have M1 := Lib.hid (show MsR w1 v1 us from ⟨Rd.of_sl sl1, HOK.out w1 (BA.out.trans (b1.mono (by rw [SA.out]; omega)))⟩); have LN := Lib.hid (lnewg_any t v1 us (.map none) [] w1 M1.out HUP.out (by omega) (.inl ⟨rfl, rfl⟩)); clear sl1 b1)
    | (go_at_call 19; (with_reducible refine LN.out.mono ?_); rintro e w2 ⟨v2, rs, rfl, hrm, ⟨ms2, mp2, rfl, hms2, hmk2⟩, b2, -⟩; obtain ⟨a2, k2, rfl⟩ := rd_form hms2.rd; have B2 := Lib.hid b2; have HRM := Lib.hid hrm; have hrl : rs.length ≤ 1000 := (by have := congrArg List.length hrm; rw [List.length_map, List.length_map] at this; omega); have SH := Lib.hid (shad_any (.int .i64 t) _ (.map (some mp2)) rs w2 hms2 (by omega)); clear f0 f1 f2 hrm hms2 hmk2 b2)
    | (go_at_call 17; (with_reducible refine SH.out.mono ?_); rintro e w3 ⟨rfl, sh3, b3⟩; have B3 := Lib.hid b3; have DF := Lib.hid (tomark_del SL1.out M1.out B2.out b3 (sh3.of HRM.out) (by omega)); clear sh3 b3)
    | (go_at_call 28; (with_reducible refine DF.out.mono ?_); rintro e w5 ⟨v5, rfl, sl5, t5⟩; have B5 := Lib.hid (tomark_bel BA.out (by rw [SA.out]; omega) SL1.out B1.out B2.out B3.out t5); have M5 := Lib.hid (show MsR w5 v5 (us.filter (fun q => !!srcs us q.m.id)) from ⟨Rd.of_sl sl5, fun q hq => HOK.out w5 B5.out q (List.mem_filter.1 hq).1⟩); have hl5 : (us.filter (fun q => !!srcs us q.m.id)).length ≤ us.length := List.length_filter_le _ _; have NM := Lib.hid (names_any v5 _ w5 M5.out (by omega)); clear sl5 t5)
    | (go_at_call 27; (with_reducible refine NM.out.mono ?_); rintro e w6 ⟨v6, rfl, sl6, b6⟩)
    | fail)
  go_ret
  simp only [Bool.not_not] at sl6
  have z5 := B5.out.size
  exact ⟨_, rfl, sl6.mono z5, B5.out.trans (b6.mono z5)⟩
theorem tomark_any (v : Value) (t : Int) (qs : List Mq) (K : List (List UInt8)) (w : World) (h : LstR w v t qs K) (hup : UpQ qs) (hm : qs.length ≤ 20) :
    Calls Try.prog 12 #[v] w fun e w' => ∃ v', e = .returned v' ∧ Sl w' w.heap.size 1 v' (tomQ K qs).length (sc (ids (tomQ K qs))) ∧ Below w.heap.size w w' := tomarkg_any v t qs K w h hup (by omega)
set_option maxHeartbeats 2000000 in
set_option maxRecDepth 100000 in
theorem rank_any (v : Value) (t : Int) (qs : List Mq) (K : List (List UInt8)) (w : World) (h : LstR w v t qs K) (hup : UpQ qs) (hm : qs.length ≤ 1000) :
    Calls Try.prog 14 #[v] w fun e w' => ∃ F, FreeIs (qs.map Mq.m) K F ∧ e = .returned (.int .i64 (max ((F.length : Int) - 1) 0)) ∧ Below w.heap.size w w' := by
  have FR := Lib.hid (fun W (bb : Below w.heap.size w W) => free_any v t qs K W (show LstR W v t qs K from by
    obtain ⟨ms, mp, e, h1, h2⟩ := h
    exact ⟨ms, mp, e, h1.on bb, h2.turn (S := fun _ => False) (Turn.of_below bb) id⟩) hup hm)
  obtain ⟨ms, mp, rfl, h1, h2⟩ := h
  obtain ⟨a0, k0, rfl⟩ := rd_form h1.rd
  clear h1 h2
  have BA := Lib.hid (show Below w.heap.size w (w.alloc (.cells #[.int .i64 t, .slice a0 qs.length k0, .map (some mp)] 26)) from (Below.refl _ _).alloc (Nat.le_refl _) _)
  go_enter Try.func14, Try.ntmps14
  go_wp2_with (first
    | (go_at_call 21; (with_reducible refine (FR.out _ BA.out).mono ?_); rintro e w1 ⟨bv, rs, rfl, hfr, hrl, hms, hsl, hlo, b1⟩; obtain ⟨ab, kb, rfl⟩ := hsl.slice; obtain ⟨N, hN⟩ : ∃ N, N = rs.length := ⟨_, rfl⟩; have HN := Lib.hid hN; rw [← hN] at hrl ⊢; have HFR := Lib.hid hfr; have HB := Lib.hid (BA.out.trans (b1.mono (by simp))); have hw : IntKind.i64.wrap ((N : Int) - 1) = (N : Int) - 1 := IntWalk.i64_in _ (by omega); clear hN hfr hms hsl hlo b1)
    | fail)
  go_ret
  exact ⟨_, HFR.out, by rw [List.length_map, ← HN.out]; rfl, HB.out⟩
end Go.Proofs.Ytkialkjhjenkhaa
