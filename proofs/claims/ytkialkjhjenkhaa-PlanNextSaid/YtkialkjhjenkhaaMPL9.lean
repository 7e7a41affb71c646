/- Layer 20: unmarked. -/
import Derived.Test.YtkialkjhjenkhaaMPL8
namespace Go.Proofs.Ytkialkjhjenkhaa
open Go.RowKit Go.Lib
set_option linter.unusedVariables false

/-- What isn't marked. -/
def unmQ (K : List (List UInt8)) (l : List Mq) : List Mq := l.filter (fun q => decide (q.m.id ∉ K))
structure UmL (w wr : World) (t ms : Value) (mp : Nat) (v2 : Value) (rs : List Mq) : Prop where
  sl : Sl wr (w.heap.size + 1) 8 v2 rs.length (msc rs)
  box : wr.heap[w.heap.size]? = some (.cells #[t, ms, .map (some mp)] 26)
  below : Below w.heap.size w wr
  big : w.heap.size + 1 ≤ wr.heap.size
theorem UmL.alloc {w wr : World} {t ms : Value} {mp : Nat} {rs : List Mq} {v2 : Value} (h : UmL w wr t ms mp v2 rs) (o : Obj) : UmL w (wr.alloc o) t ms mp v2 rs := ⟨h.sl.alloc o, (Below.heap_alloc wr o w.heap.size (by have := h.big; omega)).trans h.box, h.below.alloc h.below.size o, by have := h.big; simp; omega⟩
set_option maxHeartbeats 2000000 in
set_option maxRecDepth 100000 in
theorem unm_any (t ms v : Value) (mp : Nat) (K : List (List UInt8)) (qs : List Mq) (w : World) (h : MsR w v qs) (hk : MarkM mp K w) (hm : qs.length ≤ 1000000) :
    Calls Try.prog 26 #[.agg #[t, ms, .map (some mp)], v] w fun e w' => ∃ v', e = .returned v' ∧ Sl w' w.heap.size 8 v' (unmQ K qs).length (msc (unmQ K qs)) ∧ Below w.heap.size w w' := by
  obtain ⟨i0, hi, hz0, hz1, hz2⟩ := info_parts zc_met
  have Hz := Lib.hid hz0; have Hs := Lib.hid hz1; have Hb := Lib.hid hz2; have Hi := Lib.hid hi
  clear hz0 hz1 hz2 hi
  have HH := Lib.hid h
  have HK := Lib.hid hk
  have hml := hk.lt
  obtain ⟨_, ad, cap, g, off, rfl, hg, hc⟩ := h.rd
  have HQ := Lib.hid (fun W (bb : Below w.heap.size w W) i q (hq : qs[i]? = some q) (h0 : 0 < qs.length) => mq_at hc bb (hg h0).2 i q hq)
  have HG := Lib.hid hg
  clear h hg hc hk
  obtain ⟨N, hN⟩ : ∃ N, N = qs.length := ⟨_, rfl⟩
  have HN := Lib.hid hN
  rw [← hN] at hm HG ⊢
  clear hN
  have HX := Lib.hid (show UmL w (w.alloc (.cells #[t, ms, .map (some mp)] 26)) t ms mp (.slice none 0 0) [] from ⟨Sl.nil _ _ _, heap_alloc_new _ _, (Below.refl _ _).alloc (Nat.le_refl _) _, by simp⟩)
  go_enter Try.func26, Try.ntmps26
  go_wp2_with fail
  go_loopw [5, 12] (fun v2 i' wr => ∃ (i : Nat) (rs : List Mq), i' = .int .i64 i ∧ i ≤ N ∧ Hid (rs = unmQ K (qs.take i)) ∧ UmL w wr t ms mp v2 rs) (fun _ i' _ => N - (RowKit.intOf i').toNat)
  case atStart => exact ⟨0, [], rfl, Nat.zero_le _, rfl, HX.out⟩
  case round =>
    clear HX
    obtain ⟨W0, rfl⟩ : ∃ W0, W0 = wr := ⟨_, rfl⟩
    obtain ⟨i, rs, rfl, hi, hrm, td⟩ := hrel
    by_cases hlt : i < N
    · obtain ⟨rfl, hgl⟩ := HG.out (by omega)
      have hil : (i : Int) < N := by omega
      obtain ⟨q, hq⟩ : ∃ q, qs[i]? = some q := ⟨_, List.getElem?_eq_getElem (by have := HN.out; omega)⟩
      have mq := (HH.out.ok q (List.mem_of_getElem? hq)).on td.below
      have hqq := HQ.out W0 td.below i q hq (by have := HN.out; omega)
      have HTK := Lib.hid (show qs.take (i + 1) = qs.take i ++ [q] by rw [List.take_add_one, hq]; rfl)
      have HRM := Lib.hid hrm.out
      obtain ⟨m, vf, vs⟩ := q
      replace mq : MeR W0 m vf vs := mq
      have one1 := mqc_oneCell (q := ⟨m, vf, vs⟩) mq
      obtain ⟨af, kf, rfl⟩ := rd_form mq.1
      obtain ⟨a3, ks, rfl⟩ := rd_form mq.2.1
      have HONE := Lib.hid one1
      have hms : mqc ⟨m, .slice af m.files.length kf, .slice a3 m.src.length ks⟩ = #[.string (bs m.id), .int .i64 m.mn, .int .i64 m.mx, .int .i64 m.lv, .int .i64 m.se, .int .i64 m.sa, .slice af m.files.length kf, .slice a3 m.src.length ks].toList := rfl
      obtain ⟨nf, hnf⟩ : ∃ nf, nf = m.files.length := ⟨_, rfl⟩
      obtain ⟨ns, hns⟩ : ∃ ns, ns = m.src.length := ⟨_, rfl⟩
      rw [← hnf, ← hns] at hqq HTK HONE
      obtain ⟨q0, q1, q2, q3, q4, q5, q6, q7⟩ := hqq
      simp only at q0 q1 q2 q3 q4 q5 q6 q7
      have TD1 := Lib.hid (td.alloc (.cells #[.string (bs m.id), .int .i64 m.mn, .int .i64 m.mx, .int .i64 m.lv, .int .i64 m.se, .int .i64 m.sa, .slice af nf kf, .slice a3 ns ks] 53))
      obtain ⟨u, hlk⟩ := ((HK.out.turn (S := fun _ => False) (Turn.of_below td.below) id).turn ((Turn.refl (fun _ => False) _).alloc (.cells #[.string (bs m.id), .int .i64 m.mn, .int .i64 m.mx, .int .i64 m.lv, .int .i64 m.se, .int .i64 m.sa, .slice af nf kf, .slice a3 ns ks] 53)) id).look m.id
      have y0 := Lib.cell_of_heap TD1.out.box 2
      obtain ⟨e0, e1, e2, e3, e4, e5, e6, e7⟩ := cells8 (heap_alloc_new W0 (.cells #[.string (bs m.id), .int .i64 m.mn, .int .i64 m.mx, .int .i64 m.lv, .int .i64 m.se, .int .i64 m.sa, .slice af nf kf, .slice a3 ns ks] 53))
      have ZW := Lib.hid (show w.heap.size + 1 ≤ (W0.alloc (.cells #[.string (bs m.id), .int .i64 m.mn, .int .i64 m.mx, .int .i64 m.lv, .int .i64 m.se, .int .i64 m.sa, .slice af nf kf, .slice a3 ns ks] 53)).heap.size from TD1.out.big)
      have LIT := Lib.hid (show Sl ((W0.alloc (.cells #[.string (bs m.id), .int .i64 m.mn, .int .i64 m.mx, .int .i64 m.lv, .int .i64 m.se, .int .i64 m.sa, .slice af nf kf, .slice a3 ns ks] 53)).alloc (.cells #[.string (bs m.id), .int .i64 m.mn, .int .i64 m.mx, .int .i64 m.lv, .int .i64 m.se, .int .i64 m.sa, .slice af nf kf, .slice a3 ns ks] 53)) (w.heap.size + 1) 8 (.slice (some ⟨W0.heap.size + 1, 0, none⟩) 1 1) 1 (mqc ⟨m, .slice af nf kf, .slice a3 ns ks⟩) from by
        have h9 := Sl.lit (W0.alloc (.cells #[.string (bs m.id), .int .i64 m.mn, .int .i64 m.mx, .int .i64 m.lv, .int .i64 m.se, .int .i64 m.sa, .slice af nf kf, .slice a3 ns ks] 53)) (w.heap.size + 1) 8 1 #[.string (bs m.id), .int .i64 m.mn, .int .i64 m.mx, .int .i64 m.lv, .int .i64 m.se, .int .i64 m.sa, .slice af nf kf, .slice a3 ns ks] 53 ZW.out (by decide) rfl
        rw [show (W0.alloc (.cells #[.string (bs m.id), .int .i64 m.mn, .int .i64 m.mx, .int .i64 m.lv, .int .i64 m.se, .int .i64 m.sa, .slice af nf kf, .slice a3 ns ks] 53)).heap.size = W0.heap.size + 1 by simp] at h9
        exact h9)
      have ZV := Lib.hid (show w.heap.size + 1 ≤ W0.heap.size from td.big)
      by_cases hs : m.id ∈ K
      · have hd : decide (m.id ∈ K) = true := decide_eq_true hs
        rw [hd] at hlk
        have LQ := Lib.hid (show unmQ K (qs.take (i + 1)) = unmQ K (qs.take i) by rw [HTK.out]; unfold unmQ; rw [List.filter_append]; simp [hs])
        clear td hrm hq mq hnf hns hms one1
        go_wp2_with fail
        exact ⟨⟨i + 1, rs, by simp, by omega, Lib.hid (by rw [LQ.out]; exact HRM.out), TD1.out⟩, by simp [RowKit.intOf]; omega⟩
      · have hd : decide (m.id ∈ K) = false := decide_eq_false hs
        rw [hd] at hlk
        have LQ := Lib.hid (show unmQ K (qs.take (i + 1)) = unmQ K (qs.take i) ++ [⟨m, .slice af nf kf, .slice a3 ns ks⟩] by rw [HTK.out]; unfold unmQ; rw [List.filter_append]; simp [hs])
        obtain ⟨a2, k2, rfl⟩ := td.sl.slice
        obtain ⟨n, hn⟩ : ∃ n, n = rs.length := ⟨_, rfl⟩
        have HNL := Lib.hid hn
        have hsl1 := TD1.out.sl
        rw [← hn] at hsl1
        have SL1 := Lib.hid hsl1
        have hn2 : rs.length ≤ i := by
          rw [HRM.out]
          exact Nat.le_trans (List.length_filter_le _ _) (by rw [List.length_take]; omega)
        have hn3 : n ≤ 1000000 := by omega
        have hn4 : n + 1 ≤ maxLen := by unfold maxLen; omega
        have hn5 : (n + 1) * 104 ≤ 140737488355328 := by omega
        clear td hrm hq mq hnf hns hms one1 hsl1 hn2 hn3
        rw [← hn]
        clear hn
        go_wp2_with (first
          | (at_builtin; go_loud (refine wpList_append_sl2 _ rfl _ _ 23 rfl (w.heap.size + 1) 53 i0 (.agg #[.string ⟨#[]⟩, .int .i64 0, .int .i64 0, .int .i64 0, .int .i64 0, .int .i64 0, .slice none 0 0, .slice none 0 0]) 8 104 Try.underlying23 Hi.out Hz.out Hs.out Hb.out rfl (by decide) _ n _ rfl (SL1.out.alloc _) _ _ 1 _ rfl LIT.out HONE.out hn4 hn5 (by simp; have := ZV.out; omega) ?_; intro v5 w5 x5; obtain ⟨a6, k6, rfl⟩ := x5.now.slice))
          | fail)
        have DONE := Lib.hid (show UmL w w5 t ms mp (.slice a6 (n + 1) k6) (rs ++ [⟨m, .slice af nf kf, .slice a3 ns ks⟩]) from by
          have hz := ZV.out
          have bb := x5.below (B := w.heap.size + 1) (Nat.le_refl _) (by simp; omega)
          have TD2 := TD1.out.alloc (.cells #[.string (bs m.id), .int .i64 m.mn, .int .i64 m.mx, .int .i64 m.lv, .int .i64 m.se, .int .i64 m.sa, .slice af nf kf, .slice a3 ns ks] 53)
          refine ⟨?_, (bb.block w.heap.size (by omega)).trans TD2.box, TD2.below.trans (bb.mono (by omega)), Nat.le_trans TD2.big bb.size⟩
          rw [List.length_append, ← HNL.out, msc_append, show msc [⟨m, .slice af nf kf, .slice a3 ns ks⟩] = mqc ⟨m, .slice af nf kf, .slice a3 ns ks⟩ by simp [msc]]
          exact x5.now)
        clear x5
        go_wp2_with fail
        exact ⟨⟨i + 1, _, by simp, by omega, Lib.hid (by rw [LQ.out, HRM.out]), DONE.out⟩, by simp [RowKit.intOf]; omega⟩
    · have hil : ¬ (i : Int) < N := by omega
      have hall : rs = unmQ K qs := by rw [hrm.out, List.take_of_length_le (by have := HN.out; omega)]
      have TD := Lib.hid td
      have HALL := Lib.hid hall
      clear td hrm hall
      go_wp2_with fail
      go_ret
      exact ⟨_, rfl, by rw [← HALL.out]; exact TD.out.sl.mono (by omega), TD.out.below⟩
end Go.Proofs.Ytkialkjhjenkhaa
