/- Layer 10: Live. -/
import Derived.Test.YtkialkjhjenkhaaMPL7
namespace Go.Proofs.Ytkialkjhjenkhaa
open Go.RowKit Go.Lib
set_option linter.unusedVariables false

/-- What is live. -/
def liveQ (qs : List Mq) (l : List Mq) : List Mq := l.filter (fun q => !srcs qs q.m.id)
structure LvL (w wr : World) (qs : List Mq) (v2 : Value) (rs : List Mq) : Prop where
  ms : MsN wr (w.heap.size + 3) v2 rs
  sh : ShadM (w.heap.size + 1 + 1) qs wr
  below : Below w.heap.size w wr
  big : w.heap.size + 3 ≤ wr.heap.size
theorem MsN.mono {w : World} {b b' : Nat} {v : Value} {qs : List Mq} (h : MsN w b v qs) (hb : b' ≤ b) : MsN w b' v qs :=
  ⟨h.sl.mono hb, h.ok, fun q hq => ⟨fun k hk => Nat.le_trans hb ((h.lo q hq).1 k hk), fun k hk => Nat.le_trans hb ((h.lo q hq).2 k hk)⟩⟩
theorem LvL.alloc {w wr : World} {qs rs : List Mq} {v2 : Value} (h : LvL w wr qs v2 rs) (o : Obj) : LvL w (wr.alloc o) qs v2 rs :=
  ⟨h.ms.on ((Below.refl _ _).alloc (Nat.le_refl _) _), h.sh.turn ((Turn.refl (fun _ => False) _).alloc o) id, h.below.alloc h.below.size o, by have := h.big; simp; omega⟩
set_option maxHeartbeats 2000000 in
set_option maxRecDepth 100000 in
theorem live_any (t v mv : Value) (qs : List Mq) (w : World) (h : MsR w v qs) (hm : qs.length ≤ 1000000) :
    Calls Try.prog 39 #[.agg #[t, v, mv]] w fun e w' => ∃ v' rs, e = .returned v' ∧ rs.map Mq.m = (liveQ qs qs).map Mq.m ∧ MsN w' w.heap.size v' rs ∧ Below w.heap.size w w' := by
  obtain ⟨i0, hi, hz0, hz1, hz2⟩ := info_parts zc_met
  have Hz := Lib.hid hz0; have Hs := Lib.hid hz1; have Hb := Lib.hid hz2; have Hi := Lib.hid hi
  clear hz0 hz1 hz2 hi
  have SH := Lib.hid (fun W (bb : Below w.heap.size w W) => shad_any t v mv qs W (h.on bb) hm)
  have HH := Lib.hid h
  obtain ⟨_, ad, cap, g, off, rfl, hg, hc⟩ := h.rd
  have HQ := Lib.hid (fun W (bb : Below w.heap.size w W) i q (hq : qs[i]? = some q) (h0 : 0 < qs.length) => mq_at hc bb (hg h0).2 i q hq)
  have HG := Lib.hid hg
  clear h hg hc
  obtain ⟨N, hN⟩ : ∃ N, N = qs.length := ⟨_, rfl⟩
  have HN := Lib.hid hN
  rw [← hN] at hm HG SH ⊢
  clear hN
  go_enter Try.func39, Try.ntmps39
  go_wp2_with (first
    | (go_at_call 17; (with_reducible refine (SH.out _ ((Below.refl _ _).alloc (Nat.le_refl _) _)).mono ?_); rintro e w1 ⟨rfl, sh1, b1⟩; have hz0 : (w.alloc (.cells #[t, .slice ad N cap, mv] 26)).heap.size = w.heap.size + 1 := (by simp); rw [hz0] at sh1 b1; have c1 := Lib.cell_of_heap ((b1.block w.heap.size (by omega)).trans (heap_alloc_new w (.cells #[t, .slice ad N cap, mv] 26))) 1; have T0 := Lib.hid (show LvL w w1 qs (.slice none 0 0) [] from ⟨MsN.nil _ _, sh1, ((Below.refl _ _).alloc (Nat.le_refl _) _).trans (b1.mono (by omega)), sh1.lt⟩); clear sh1 b1 hz0)
    | fail)
  go_loopw [4, 12] (fun v2 i' wr => ∃ (i : Nat) (rs : List Mq), i' = .int .i64 i ∧ i ≤ N ∧ Hid (rs.map Mq.m = (liveQ qs (qs.take i)).map Mq.m) ∧ LvL w wr qs v2 rs) (fun _ i' _ => N - (RowKit.intOf i').toNat)
  case atStart => exact ⟨0, [], rfl, Nat.zero_le _, rfl, T0.out⟩
  case round =>
    clear T0
    obtain ⟨W0, rfl⟩ : ∃ W0, W0 = wr := ⟨_, rfl⟩
    obtain ⟨i, rs, rfl, hi, hrm, td⟩ := hrel
    by_cases hlt : i < N
    · obtain ⟨rfl, hgl⟩ := HG.out (by omega)
      have hil : (i : Int) < N := by omega
      obtain ⟨q, hq⟩ : ∃ q, qs[i]? = some q := ⟨_, List.getElem?_eq_getElem (by have := HN.out; omega)⟩
      have mq := (HH.out.ok q (List.mem_of_getElem? hq)).on td.below
      have hqq := HQ.out W0 td.below i q hq (by have := HN.out; omega)
      have HTK := Lib.hid (show qs.take (i + 1) = qs.take i ++ [q] by rw [List.take_add_one, hq]; rfl)
      have HRM := Lib.hid hrm.out
      obtain ⟨m, vf, vs⟩ := q
      replace mq : MeR W0 m vf vs := mq
      obtain ⟨af, kf, rfl⟩ := rd_form mq.1
      obtain ⟨a3, ks, rfl⟩ := rd_form mq.2.1
      obtain ⟨nf, hnf⟩ : ∃ nf, nf = m.files.length := ⟨_, rfl⟩
      obtain ⟨ns, hns⟩ : ∃ ns, ns = m.src.length := ⟨_, rfl⟩
      rw [← hnf, ← hns] at mq hqq HTK
      obtain ⟨q0, q1, q2, q3, q4, q5, q6, q7⟩ := hqq
      simp only at q0 q1 q2 q3 q4 q5 q6 q7
      obtain ⟨cc, hc0, hlk⟩ := (td.alloc (.cells #[.string (bs m.id), .int .i64 m.mn, .int .i64 m.mx, .int .i64 m.lv, .int .i64 m.se, .int .i64 m.sa, .slice af nf kf, .slice a3 ns ks] 53)).sh.look m.id
      have TD1 := Lib.hid (td.alloc (.cells #[.string (bs m.id), .int .i64 m.mn, .int .i64 m.mx, .int .i64 m.lv, .int .i64 m.se, .int .i64 m.sa, .slice af nf kf, .slice a3 ns ks] 53))
      have MQ := Lib.hid (mq.on ((Below.refl _ _).alloc (Nat.le_refl _) (.cells #[.string (bs m.id), .int .i64 m.mn, .int .i64 m.mx, .int .i64 m.lv, .int .i64 m.se, .int .i64 m.sa, .slice af nf kf, .slice a3 ns ks] 53)))
      have y0 := Lib.cell_of_heap (heap_alloc_new W0 (.cells #[.string (bs m.id), .int .i64 m.mn, .int .i64 m.mx, .int .i64 m.lv, .int .i64 m.se, .int .i64 m.sa, .slice af nf kf, .slice a3 ns ks] 53))
      by_cases hs : srcs qs m.id = true
      · have hcn : ¬ cc = 0 := fun e => by rw [hc0.1 e] at hs; cases hs
        have hcn2 : ¬ ((cc : Int) = 0) := by omega
        have LQ := Lib.hid (show liveQ qs (qs.take (i + 1)) = liveQ qs (qs.take i) by rw [HTK.out]; unfold liveQ; rw [List.filter_append]; simp [hs])
        clear td hrm hq mq hnf hns hc0
        go_wp2_with fail
        exact ⟨⟨i + 1, rs, by simp, by omega, Lib.hid (by rw [LQ.out]; exact HRM.out), TD1.out⟩, by simp [RowKit.intOf]; omega⟩
      · have hs' : srcs qs m.id = false := by simpa using hs
        obtain rfl : cc = 0 := hc0.2 hs'
        have LQ := Lib.hid (show (liveQ qs (qs.take (i + 1))).map Mq.m = (liveQ qs (qs.take i)).map Mq.m ++ [m] by rw [HTK.out]; unfold liveQ; rw [List.filter_append]; simp [hs'])
        obtain ⟨a2, k2, rfl⟩ := td.ms.sl.slice
        obtain ⟨n, hn⟩ : ∃ n, n = rs.length := ⟨_, rfl⟩
        have HNL := Lib.hid hn
        rw [← hn] at TD1
        have hsl1 := TD1.out.ms.sl
        rw [← hn] at hsl1
        have SL1 := Lib.hid hsl1
        have hn2 : rs.length ≤ i := by
          have := congrArg List.length HRM.out
          rw [List.length_map, List.length_map] at this
          rw [this]
          exact Nat.le_trans (List.length_filter_le _ _) (by rw [List.length_take]; omega)
        have hn3 : n ≤ 1000000 := by omega
        have hn4 : n + 1 ≤ maxLen := by unfold maxLen; omega
        have hn5 : (n + 1) * 104 ≤ 140737488355328 := by omega
        have Z1 := Lib.hid (show w.heap.size + 3 ≤ (W0.alloc (.cells #[.string (bs m.id), .int .i64 m.mn, .int .i64 m.mx, .int .i64 m.lv, .int .i64 m.se, .int .i64 m.sa, .slice af nf kf, .slice a3 ns ks] 53)).heap.size from TD1.out.big)
        have CP0 := copyOf_any m (.slice af nf kf) (.slice a3 ns ks) _ MQ.out
        unfold meV at CP0
        have CP := Lib.hid CP0
        clear td hrm hq mq hnf hns hc0 CP0 hsl1 hn2 hn3
        rw [← hn]
        clear hn
        go_wp2_with (first
          | (go_at_call 34; (with_reducible refine CP.out.mono ?_); rintro e w2 ⟨vf2, vs2, rfl, mr2, o1, o2, b2⟩; obtain ⟨a4, k4, rfl⟩ := rd_form mr2.1; obtain ⟨a5, k5, rfl⟩ := rd_form mr2.2.1; have ZW := Lib.hid (Nat.le_trans Z1.out b2.size))
          | (at_builtin; go_loud (refine wpList_append_sl2 _ rfl _ _ 23 rfl (w.heap.size + 3) 53 i0 (.agg #[.string ⟨#[]⟩, .int .i64 0, .int .i64 0, .int .i64 0, .int .i64 0, .int .i64 0, .slice none 0 0, .slice none 0 0]) 8 104 Try.underlying23 Hi.out Hz.out Hs.out Hb.out rfl (by decide) _ n _ rfl ((SL1.out.on b2).alloc _) _ _ 1 _ rfl (Sl.lit w2 (w.heap.size + 3) 8 1 #[.string (bs m.id), .int .i64 m.mn, .int .i64 m.mx, .int .i64 m.lv, .int .i64 m.se, .int .i64 m.sa, .slice a4 m.files.length k4, .slice a5 m.src.length k5] 53 ZW.out (by decide) rfl) (mqc_oneCell (q := ⟨m, .slice a4 m.files.length k4, .slice a5 m.src.length k5⟩) mr2) hn4 hn5 (by simp; have := ZW.out; omega) ?_; intro v5 w5 x5; obtain ⟨a6, k6, rfl⟩ := x5.now.slice))
          | fail)
        have DONE := Lib.hid (show LvL w w5 qs (.slice a6 (n + 1) k6) (rs ++ [⟨m, .slice a4 m.files.length k4, .slice a5 m.src.length k5⟩]) from by
          have hz := ZW.out
          have bb := x5.below (B := w.heap.size + 3) (Nat.le_refl _) (by simp; omega)
          have ba : Below w2.heap.size w2 (w2.alloc (.cells #[.string (bs m.id), .int .i64 m.mn, .int .i64 m.mx, .int .i64 m.lv, .int .i64 m.se, .int .i64 m.sa, .slice a4 m.files.length k4, .slice a5 m.src.length k5] 53)) := (Below.refl _ _).alloc (Nat.le_refl _) _
          refine ⟨((TD1.out.ms.on b2).on ba).push HNL.out.symm x5 (mr2.on ba) (fun _ k hk e => by have h8 := o1 k hk; have h9 := (SL1.out.lt k e).2; omega) (fun _ k hk e => by have h8 := o2 k hk; have h9 := (SL1.out.lt k e).2; omega) ⟨fun k hk => by have h8 := o1 k hk; have h9 := Z1.out; omega, fun k hk => by have h8 := o2 k hk; have h9 := Z1.out; omega⟩, ?_, (TD1.out.below.trans (b2.mono (by have := TD1.out.below.size; omega))).trans ((ba.mono (by omega)).trans (bb.mono (by omega))), ?_⟩
          · exact (((TD1.out.sh.turn (S := fun _ => False) (Turn.of_below b2) id).turn (S := fun _ => False) (Turn.of_below ba) id)).turn (S := fun k => w.heap.size + 3 ≤ k) ⟨bb.os, bb.tape, bb.output, bb.size, fun k _ hk => bb.block k (by omega)⟩ (by omega)
          · have := bb.size; simp at this; omega)
        clear x5 o1 o2 b2 mr2
        go_wp2_with fail
        exact ⟨⟨i + 1, _, by simp, by omega, Lib.hid (by rw [List.map_append, LQ.out, HRM.out]; rfl), DONE.out⟩, by simp [RowKit.intOf]; omega⟩
    · have hil : ¬ (i : Int) < N := by omega
      have hall : rs.map Mq.m = (liveQ qs qs).map Mq.m := by rw [hrm.out, List.take_of_length_le (by have := HN.out; omega)]
      have HALL := Lib.hid hall
      have TD := Lib.hid td
      clear td hrm hall
      go_wp2_with fail
      go_ret
      exact ⟨_, rfl, rs, HALL.out, TD.out.ms.mono (by omega), TD.out.below⟩
end Go.Proofs.Ytkialkjhjenkhaa
