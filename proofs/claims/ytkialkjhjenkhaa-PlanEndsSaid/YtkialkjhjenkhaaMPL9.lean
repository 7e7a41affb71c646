/- Layer 20: unmarked. Layer 20: free blocks compared. -/
import Derived.Test.YtkialkjhjenkhaaMPL8
import Derived.Deep.RegionHeld3
import Derived.Shelf.SlSortCmp.InsertionK
namespace Go.Proofs.Ytkialkjhjenkhaa
open Go.RowKit Go.Lib
set_option linter.unusedVariables false

/-- What isn't marked. -/
def unmQ (K : List (List UInt8)) (l : List Mq) : List Mq := l.filter (fun q => decide (q.m.id ∉ K))
structure UmL (w wr : World) (t ms : Value) (mp : Nat) (v2 : Value) (rs : List Mq) : Prop where
  sl : Sl wr (w.heap.size + 1) 8 v2 rs.length (msc rs)
  box : wr.heap[w.heap.size]? = some (.cells #[t, ms, .map (some mp)] 26)
  below : Below w.heap.size w wr
  big : w.heap.size + 1 ≤ wr.heap.size
theorem UmL.alloc {w wr : World} {t ms : Value} {mp : Nat} {rs : List Mq} {v2 : Value} (h : UmL w wr t ms mp v2 rs) (o : Obj) : UmL w (wr.alloc o) t ms mp v2 rs := ⟨h.sl.alloc o, (Below.heap_alloc wr o w.heap.size (by have := h.big; omega)).trans h.box, h.below.alloc h.below.size o, by have := h.big; simp; omega⟩
set_option maxHeartbeats 2000000 in
set_option maxRecDepth 100000 in
theorem unm_any (t ms v : Value) (mp : Nat) (K : List (List UInt8)) (qs : List Mq) (w : World) (h : MsR w v qs) (hk : MarkM mp K w) (hm : qs.length ≤ 1000000) :
    Calls Try.prog 26 #[.agg #[t, ms, .map (some mp)], v] w fun e w' => ∃ v', e = .returned v' ∧ Sl w' w.heap.size 8 v' (unmQ K qs).length (msc (unmQ K qs)) ∧ Below w.heap.size w w' := by
  obtain ⟨i0, hi, hz0, hz1, hz2⟩ := info_parts zc_met
  have Hz := Lib.hid hz0; have Hs := Lib.hid hz1; have Hb := Lib.hid hz2; have Hi := Lib.hid hi
  clear hz0 hz1 hz2 hi
  have HH := Lib.hid h
  have HK := Lib.hid hk
  have hml := hk.lt
  obtain ⟨_, ad, cap, g, off, rfl, hg, hc⟩ := h.rd
  have HQ := Lib.hid (fun W (bb : Below w.heap.size w W) i q (hq : qs[i]? = some q) (h0 : 0 < qs.length) => mq_at hc bb (hg h0).2 i q hq)
  have HG := Lib.hid hg
  clear h hg hc hk
  obtain ⟨N, hN⟩ : ∃ N, N = qs.length := ⟨_, rfl⟩
  have HN := Lib.hid hN
  rw [← hN] at hm HG ⊢
  clear hN
  have HX := Lib.hid (show UmL w (w.alloc (.cells #[t, ms, .map (some mp)] 26)) t ms mp (.slice none 0 0) [] from ⟨Sl.nil _ _ _, heap_alloc_new _ _, (Below.refl _ _).alloc (Nat.le_refl _) _, by simp⟩)
  go_enter Try.func26, Try.ntmps26
  go_wp2_with fail
  go_loopw [5, 12] (fun v2 i' wr => ∃ (i : Nat) (rs : List Mq), i' = .int .i64 i ∧ i ≤ N ∧ Hid (rs = unmQ K (qs.take i)) ∧ UmL w wr t ms mp v2 rs) (fun _ i' _ => N - (RowKit.intOf i').toNat)
  case atStart => exact ⟨0, [], rfl, Nat.zero_le _, rfl, HX.out⟩
  case round =>
    clear HX
    obtain ⟨W0, rfl⟩ : ∃ W0, W0 = wr := ⟨_, rfl⟩
    obtain ⟨i, rs, rfl, hi, hrm, td⟩ := hrel
    by_cases hlt : i < N
    · obtain ⟨rfl, hgl⟩ := HG.out (by omega)
      have hil : (i : Int) < N := by omega
      obtain ⟨q, hq⟩ : ∃ q, qs[i]? = some q := ⟨_, List.getElem?_eq_getElem (by have := HN.out; omega)⟩
      have mq := (HH.out.ok q (List.mem_of_getElem? hq)).on td.below
      have hqq := HQ.out W0 td.below i q hq (by have := HN.out; omega)
      have HTK := Lib.hid (show qs.take (i + 1) = qs.take i ++ [q] by rw [List.take_add_one, hq]; rfl)
      have HRM := Lib.hid hrm.out
      obtain ⟨m, vf, vs⟩ := q
      replace mq : MeR W0 m vf vs := mq
      have one1 := mqc_oneCell (q := ⟨m, vf, vs⟩) mq
      obtain ⟨af, kf, rfl⟩ := rd_form mq.1
      obtain ⟨a3, ks, rfl⟩ := rd_form mq.2.1
      have HONE := Lib.hid one1
      have hms : mqc ⟨m, .slice af m.files.length kf, .slice a3 m.src.length ks⟩ = #[.string (bs m.id), .int .i64 m.mn, .int .i64 m.mx, .int .i64 m.lv, .int .i64 m.se, .int .i64 m.sa, .slice af m.files.length kf, .slice a3 m.src.length ks].toList := rfl
      obtain ⟨nf, hnf⟩ : ∃ nf, nf = m.files.length := ⟨_, rfl⟩
      obtain ⟨ns, hns⟩ : ∃ ns, ns = m.src.length := ⟨_, rfl⟩
      rw [← hnf, ← hns] at hqq HTK HONE
      obtain ⟨q0, q1, q2, q3, q4, q5, q6, q7⟩ := hqq
      simp only at q0 q1 q2 q3 q4 q5 q6 q7
      have TD1 := Lib.hid (td.alloc (.cells #[.string (bs m.id), .int .i64 m.mn, .int .i64 m.mx, .int .i64 m.lv, .int .i64 m.se, .int .i64 m.sa, .slice af nf kf, .slice a3 ns ks] 53))
      obtain ⟨u, hlk⟩ := ((HK.out.turn (S := fun _ => False) (Turn.of_below td.below) id).turn ((Turn.refl (fun _ => False) _).alloc (.cells #[.string (bs m.id), .int .i64 m.mn, .int .i64 m.mx, .int .i64 m.lv, .int .i64 m.se, .int .i64 m.sa, .slice af nf kf, .slice a3 ns ks] 53)) id).look m.id
      have y0 := Lib.cell_of_heap TD1.out.box 2
      obtain ⟨e0, e1, e2, e3, e4, e5, e6, e7⟩ := cells8 (heap_alloc_new W0 (.cells #[.string (bs m.id), .int .i64 m.mn, .int .i64 m.mx, .int .i64 m.lv, .int .i64 m.se, .int .i64 m.sa, .slice af nf kf, .slice a3 ns ks] 53))
      have ZW := Lib.hid (show w.heap.size + 1 ≤ (W0.alloc (.cells #[.string (bs m.id), .int .i64 m.mn, .int .i64 m.mx, .int .i64 m.lv, .int .i64 m.se, .int .i64 m.sa, .slice af nf kf, .slice a3 ns ks] 53)).heap.size from TD1.out.big)
      have LIT := Lib.hid (show Sl ((W0.alloc (.cells #[.string (bs m.id), .int .i64 m.mn, .int .i64 m.mx, .int .i64 m.lv, .int .i64 m.se, .int .i64 m.sa, .slice af nf kf, .slice a3 ns ks] 53)).alloc (.cells #[.string (bs m.id), .int .i64 m.mn, .int .i64 m.mx, .int .i64 m.lv, .int .i64 m.se, .int .i64 m.sa, .slice af nf kf, .slice a3 ns ks] 53)) (w.heap.size + 1) 8 (.slice (some ⟨W0.heap.size + 1, 0, none⟩) 1 1) 1 (mqc ⟨m, .slice af nf kf, .slice a3 ns ks⟩) from by
        have h9 := Sl.lit (W0.alloc (.cells #[.string (bs m.id), .int .i64 m.mn, .int .i64 m.mx, .int .i64 m.lv, .int .i64 m.se, .int .i64 m.sa, .slice af nf kf, .slice a3 ns ks] 53)) (w.heap.size + 1) 8 1 #[.string (bs m.id), .int .i64 m.mn, .int .i64 m.mx, .int .i64 m.lv, .int .i64 m.se, .int .i64 m.sa, .slice af nf kf, .slice a3 ns ks] 53 ZW.out (by decide) rfl
        rw [show (W0.alloc (.cells #[.string (bs m.id), .int .i64 m.mn, .int .i64 m.mx, .int .i64 m.lv, .int .i64 m.se, .int .i64 m.sa, .slice af nf kf, .slice a3 ns ks] 53)).heap.size = W0.heap.size + 1 by simp] at h9
        exact h9)
      have ZV := Lib.hid (show w.heap.size + 1 ≤ W0.heap.size from td.big)
      by_cases hs : m.id ∈ K
      · have hd : decide (m.id ∈ K) = true := decide_eq_true hs
        rw [hd] at hlk
        have LQ := Lib.hid (show unmQ K (qs.take (i + 1)) = unmQ K (qs.take i) by rw [HTK.out]; unfold unmQ; rw [List.filter_append]; simp [hs])
        clear td hrm hq mq hnf hns hms one1
        go_wp2_with fail
        exact ⟨⟨i + 1, rs, by simp, by omega, Lib.hid (by rw [LQ.out]; exact HRM.out), TD1.out⟩, by simp [RowKit.intOf]; omega⟩
      · have hd : decide (m.id ∈ K) = false := decide_eq_false hs
        rw [hd] at hlk
        have LQ := Lib.hid (show unmQ K (qs.take (i + 1)) = unmQ K (qs.take i) ++ [⟨m, .slice af nf kf, .slice a3 ns ks⟩] by rw [HTK.out]; unfold unmQ; rw [List.filter_append]; simp [hs])
        obtain ⟨a2, k2, rfl⟩ := td.sl.slice
        obtain ⟨n, hn⟩ : ∃ n, n = rs.length := ⟨_, rfl⟩
        have HNL := Lib.hid hn
        have hsl1 := TD1.out.sl
        rw [← hn] at hsl1
        have SL1 := Lib.hid hsl1
        have hn2 : rs.length ≤ i := by
          rw [HRM.out]
          exact Nat.le_trans (List.length_filter_le _ _) (by rw [List.length_take]; omega)
        have hn3 : n ≤ 1000000 := by omega
        have hn4 : n + 1 ≤ maxLen := by unfold maxLen; omega
        have hn5 : (n + 1) * 104 ≤ 140737488355328 := by omega
        clear td hrm hq mq hnf hns hms one1 hsl1 hn2 hn3
        rw [← hn]
        clear hn
        go_wp2_with (first
          | (at_builtin; go_loud (refine wpList_append_sl2 _ rfl _ _ 23 rfl (w.heap.size + 1) 53 i0 (.agg #[.string ⟨#[]⟩, .int .i64 0, .int .i64 0, .int .i64 0, .int .i64 0, .int .i64 0, .slice none 0 0, .slice none 0 0]) 8 104 Try.underlying23 Hi.out Hz.out Hs.out Hb.out rfl (by decide) _ n _ rfl (SL1.out.alloc _) _ _ 1 _ rfl LIT.out HONE.out hn4 hn5 (by simp; have := ZV.out; omega) ?_; intro v5 w5 x5; obtain ⟨a6, k6, rfl⟩ := x5.now.slice))
          | fail)
        have DONE := Lib.hid (show UmL w w5 t ms mp (.slice a6 (n + 1) k6) (rs ++ [⟨m, .slice af nf kf, .slice a3 ns ks⟩]) from by
          have hz := ZV.out
          have bb := x5.below (B := w.heap.size + 1) (Nat.le_refl _) (by simp; omega)
          have TD2 := TD1.out.alloc (.cells #[.string (bs m.id), .int .i64 m.mn, .int .i64 m.mx, .int .i64 m.lv, .int .i64 m.se, .int .i64 m.sa, .slice af nf kf, .slice a3 ns ks] 53)
          refine ⟨?_, (bb.block w.heap.size (by omega)).trans TD2.box, TD2.below.trans (bb.mono (by omega)), Nat.le_trans TD2.big bb.size⟩
          rw [List.length_append, ← HNL.out, msc_append, show msc [⟨m, .slice af nf kf, .slice a3 ns ks⟩] = mqc ⟨m, .slice af nf kf, .slice a3 ns ks⟩ by simp [msc]]
          exact x5.now)
        clear x5
        go_wp2_with fail
        exact ⟨⟨i + 1, _, by simp, by omega, Lib.hid (by rw [LQ.out, HRM.out]), DONE.out⟩, by simp [RowKit.intOf]; omega⟩
    · have hil : ¬ (i : Int) < N := by omega
      have hall : rs = unmQ K qs := by rw [hrm.out, List.take_of_length_le (by have := HN.out; omega)]
      have TD := Lib.hid td
      have HALL := Lib.hid hall
      clear td hrm hall
      go_wp2_with fail
      go_ret
      exact ⟨_, rfl, by rw [← HALL.out]; exact TD.out.sl.mono (by omega), TD.out.below⟩
end Go.Proofs.Ytkialkjhjenkhaa

namespace Go.Proofs.Ytkialkjhjenkhaa
open Go.RowKit Go.Lib
set_option linter.unusedVariables false

def cmpI (a b : Int) : Int := if a < b then -1 else if b < a then 1 else 0

theorem isnan_j (a : Int) (w : World) : Calls Try.prog 54 #[.int .i64 a] w fun e w' => e = .returned (.bool false) ∧ w = w' := by
  go_enter Try.func54, Try.ntmps54
  go_wp2
  go_ret
  exact ⟨by simp, rfl⟩
set_option maxRecDepth 100000 in
theorem compare_j (a b : Int) (w : World) : Calls Try.prog 43 #[.int .i64 a, .int .i64 b] w fun e w' => e = .returned (.int .i64 (cmpI a b)) ∧ w = w' := by
  have C0 := Lib.hid (fun W => isnan_j a W)
  have C1 := Lib.hid (fun W => isnan_j b W)
  by_cases h : a < b
  · have h1 : decide (a < b) = true := decide_eq_true h
    have HR := Lib.hid (show cmpI a b = -1 by simp [cmpI, h])
    clear h
    go_enter Try.func43, Try.ntmps43
    go_wp2_with fail
    refine (C0.out _).mono ?_
    rintro e w1 ⟨rfl, rfl⟩
    go_wp2_with fail
    refine (C1.out _).mono ?_
    rintro e w1 ⟨rfl, rfl⟩
    go_wp2
    go_ret
    exact ⟨by rw [HR.out]; rfl, rfl⟩
  · by_cases h2 : b < a
    · have h1 : decide (a < b) = false := decide_eq_false h
      have h3 : decide (b < a) = true := decide_eq_true h2
      have HR := Lib.hid (show cmpI a b = 1 by simp [cmpI, h, h2])
      clear h h2
      go_enter Try.func43, Try.ntmps43
      go_wp2_with fail
      refine (C0.out _).mono ?_
      rintro e w1 ⟨rfl, rfl⟩
      go_wp2_with fail
      refine (C1.out _).mono ?_
      rintro e w1 ⟨rfl, rfl⟩
      go_wp2
      go_ret
      exact ⟨by rw [HR.out]; rfl, rfl⟩
    · have h1 : decide (a < b) = false := decide_eq_false h
      have h3 : decide (b < a) = false := decide_eq_false h2
      have HR := Lib.hid (show cmpI a b = 0 by simp [cmpI, h, h2])
      clear h h2
      go_enter Try.func43, Try.ntmps43
      go_wp2_with fail
      refine (C0.out _).mono ?_
      rintro e w1 ⟨rfl, rfl⟩
      go_wp2_with fail
      refine (C1.out _).mono ?_
      rintro e w1 ⟨rfl, rfl⟩
      go_wp2
      go_ret
      exact ⟨by rw [HR.out]; rfl, rfl⟩

/-- Of two the first that isn't nought. -/
def orI (x y : Int) : Int := if x = 0 then y else x
set_option maxHeartbeats 1000000 in
set_option maxRecDepth 100000 in
theorem or2_any (x y : Int) (g off : Nat) (w : World) (h0 : w.cell? ⟨g, off, none⟩ = some (.int .i64 x)) (h1 : w.cell? ⟨g, off + 1, none⟩ = some (.int .i64 y)) :
    Calls Try.prog 42 #[.slice (some ⟨g, off, none⟩) 2 2] w fun e w' => e = .returned (.int .i64 (orI x y)) ∧ w = w' := by
  by_cases hx : x = 0
  · by_cases hy : y = 0
    · have HR := Lib.hid (show orI x y = 0 by simp [orI, hx, hy])
      subst hx hy
      go_enter Try.func42, Try.ntmps42
      go_wp2_with fail
      go_loopw [5, 8] (fun _ i' wr => (i' = .int .i64 0 ∨ i' = .int .i64 1 ∨ i' = .int .i64 2) ∧ w = wr) (fun _ i' _ => 2 - (RowKit.intOf i').toNat)
      case atStart => exact ⟨.inl rfl, rfl⟩
      case round =>
        obtain ⟨hi, rfl⟩ := hrel
        rcases hi with rfl | rfl | rfl
        · go_wp2
          exact ⟨⟨by simp, by trivial⟩, by simp [RowKit.intOf]⟩
        · go_wp2
          exact ⟨⟨by simp, by trivial⟩, by simp [RowKit.intOf]⟩
        · go_wp2
          go_ret
          exact ⟨by rw [HR.out]; rfl, rfl⟩
    · have HR := Lib.hid (show orI x y = y by simp [orI, hx])
      have hyb : (y == 0) = false := beq_eq_false_iff_ne.2 hy
      have hyb2 : (y != 0) = true := by simp [bne, hyb]
      subst hx
      clear hy
      go_enter Try.func42, Try.ntmps42
      go_wp2_with fail
      go_loopw [5, 8] (fun _ i' wr => (i' = .int .i64 0 ∨ i' = .int .i64 1) ∧ w = wr) (fun _ i' _ => 2 - (RowKit.intOf i').toNat)
      case atStart => exact ⟨.inl rfl, rfl⟩
      case round =>
        obtain ⟨hi, rfl⟩ := hrel
        rcases hi with rfl | rfl
        · go_wp2
          exact ⟨⟨by simp, by trivial⟩, by simp [RowKit.intOf]⟩
        · go_wp2
          go_ret
          exact ⟨by rw [HR.out]; rfl, rfl⟩
  · have HR := Lib.hid (show orI x y = x by simp [orI, hx])
    have hxb : (x == 0) = false := beq_eq_false_iff_ne.2 hx
    have hxb2 : (x != 0) = true := by simp [bne, hxb]
    clear hx
    go_enter Try.func42, Try.ntmps42
    go_wp2_with fail
    go_loopw [5, 8] (fun _ i' wr => i' = .int .i64 0 ∧ w = wr) (fun _ i' _ => 2 - (RowKit.intOf i').toNat)
    case atStart => exact ⟨rfl, rfl⟩
    case round =>
      obtain ⟨rfl, rfl⟩ := hrel
      go_wp2
      go_ret
      exact ⟨by rw [HR.out]; rfl, rfl⟩

/-- By Min, then by names. -/
def cfM (x y : Mq) : Int := orI (cmpI x.m.mn y.m.mn) (Lib.compareBytes x.m.id y.m.id)
set_option maxHeartbeats 1000000 in
set_option maxRecDepth 100000 in
theorem free1_any (x y : Mq) (W : World) : Calls Try.prog 41 #[.agg #[.string (bs x.m.id), .int .i64 x.m.mn, .int .i64 x.m.mx, .int .i64 x.m.lv, .int .i64 x.m.se, .int .i64 x.m.sa, x.vf, x.vs], .agg #[.string (bs y.m.id), .int .i64 y.m.mn, .int .i64 y.m.mx, .int .i64 y.m.lv, .int .i64 y.m.se, .int .i64 y.m.sa, y.vf, y.vs]] W fun e w' => e = .returned (.int .i64 (cfM x y)) ∧ ∃ q os', w' = Sort.grow (W.drewN q) os' := by
  have hcon := fun W' => Any.strings_Compare cmpStr (bs x.m.id) (bs y.m.id) W'
  change ∀ W', Calls Try.prog 37 _ _ _ at hcon
  have e1 : (bs x.m.id).data.toList = x.m.id := by simp [bs]
  have e2 : (bs y.m.id).data.toList = y.m.id := by simp [bs]
  rw [e1, e2] at hcon
  have CJ := Lib.hid (fun W' => compare_j x.m.mn y.m.mn W')
  unfold cfM
  generalize Lib.compareBytes x.m.id y.m.id = r at hcon ⊢
  generalize cmpI x.m.mn y.m.mn = p at CJ ⊢
  have HC := Lib.hid hcon
  have OR := Lib.hid (fun g W' h0 h1 => or2_any p r g 0 W' h0 h1)
  clear hcon e1 e2
  have FX := Lib.hid (fun W' (bb : Below ((W.alloc (.cells #[.string (bs x.m.id), .int .i64 x.m.mn, .int .i64 x.m.mx, .int .i64 x.m.lv, .int .i64 x.m.se, .int .i64 x.m.sa, x.vf, x.vs] 53)).alloc (.cells #[.string (bs y.m.id), .int .i64 y.m.mn, .int .i64 y.m.mx, .int .i64 y.m.lv, .int .i64 y.m.se, .int .i64 y.m.sa, y.vf, y.vs] 53)).heap.size ((W.alloc (.cells #[.string (bs x.m.id), .int .i64 x.m.mn, .int .i64 x.m.mx, .int .i64 x.m.lv, .int .i64 x.m.se, .int .i64 x.m.sa, x.vf, x.vs] 53)).alloc (.cells #[.string (bs y.m.id), .int .i64 y.m.mn, .int .i64 y.m.mx, .int .i64 y.m.lv, .int .i64 y.m.se, .int .i64 y.m.sa, y.vf, y.vs] 53)) W') => show W'.cell? ⟨W.heap.size, 0, none⟩ = some (.string (bs x.m.id)) ∧ W'.cell? ⟨W.heap.size, 1, none⟩ = some (.int .i64 x.m.mn) ∧ W'.cell? ⟨W.heap.size + 1, 0, none⟩ = some (.string (bs y.m.id)) ∧ W'.cell? ⟨W.heap.size + 1, 1, none⟩ = some (.int .i64 y.m.mn) from by
    have s1 : (W.alloc (.cells #[.string (bs x.m.id), .int .i64 x.m.mn, .int .i64 x.m.mx, .int .i64 x.m.lv, .int .i64 x.m.se, .int .i64 x.m.sa, x.vf, x.vs] 53)).heap.size = W.heap.size + 1 := by simp
    have s2 : ((W.alloc (.cells #[.string (bs x.m.id), .int .i64 x.m.mn, .int .i64 x.m.mx, .int .i64 x.m.lv, .int .i64 x.m.se, .int .i64 x.m.sa, x.vf, x.vs] 53)).alloc (.cells #[.string (bs y.m.id), .int .i64 y.m.mn, .int .i64 y.m.mx, .int .i64 y.m.lv, .int .i64 y.m.se, .int .i64 y.m.sa, y.vf, y.vs] 53)).heap.size = W.heap.size + 1 + 1 := by simp
    have h1 := (bb.block W.heap.size (by omega)).trans ((Below.heap_alloc (W.alloc (.cells #[.string (bs x.m.id), .int .i64 x.m.mn, .int .i64 x.m.mx, .int .i64 x.m.lv, .int .i64 x.m.se, .int .i64 x.m.sa, x.vf, x.vs] 53)) (.cells #[.string (bs y.m.id), .int .i64 y.m.mn, .int .i64 y.m.mx, .int .i64 y.m.lv, .int .i64 y.m.se, .int .i64 y.m.sa, y.vf, y.vs] 53) W.heap.size (by omega)).trans (heap_alloc_new W (.cells #[.string (bs x.m.id), .int .i64 x.m.mn, .int .i64 x.m.mx, .int .i64 x.m.lv, .int .i64 x.m.se, .int .i64 x.m.sa, x.vf, x.vs] 53)))
    have h3 : ((W.alloc (.cells #[.string (bs x.m.id), .int .i64 x.m.mn, .int .i64 x.m.mx, .int .i64 x.m.lv, .int .i64 x.m.se, .int .i64 x.m.sa, x.vf, x.vs] 53)).alloc (.cells #[.string (bs y.m.id), .int .i64 y.m.mn, .int .i64 y.m.mx, .int .i64 y.m.lv, .int .i64 y.m.se, .int .i64 y.m.sa, y.vf, y.vs] 53)).heap[W.heap.size + 1]? = some (.cells #[.string (bs y.m.id), .int .i64 y.m.mn, .int .i64 y.m.mx, .int .i64 y.m.lv, .int .i64 y.m.se, .int .i64 y.m.sa, y.vf, y.vs] 53) := by
      have h4 := heap_alloc_new (W.alloc (.cells #[.string (bs x.m.id), .int .i64 x.m.mn, .int .i64 x.m.mx, .int .i64 x.m.lv, .int .i64 x.m.se, .int .i64 x.m.sa, x.vf, x.vs] 53)) (.cells #[.string (bs y.m.id), .int .i64 y.m.mn, .int .i64 y.m.mx, .int .i64 y.m.lv, .int .i64 y.m.se, .int .i64 y.m.sa, y.vf, y.vs] 53)
      rwa [s1] at h4
    have h2 := (bb.block (W.heap.size + 1) (by omega)).trans h3
    exact ⟨Lib.cell_of_heap h1 0, Lib.cell_of_heap h1 1, Lib.cell_of_heap h2 0, Lib.cell_of_heap h2 1⟩)
  have LC := Lib.hid (show (((W.alloc (.cells #[.string (bs x.m.id), .int .i64 x.m.mn, .int .i64 x.m.mx, .int .i64 x.m.lv, .int .i64 x.m.se, .int .i64 x.m.sa, x.vf, x.vs] 53)).alloc (.cells #[.string (bs y.m.id), .int .i64 y.m.mn, .int .i64 y.m.mx, .int .i64 y.m.lv, .int .i64 y.m.se, .int .i64 y.m.sa, y.vf, y.vs] 53)).alloc (.cells #[.int .i64 p, .int .i64 r] 3)).heap[W.heap.size + 1 + 1]? = some (.cells #[.int .i64 p, .int .i64 r] 3) from by
    have h4 := heap_alloc_new ((W.alloc (.cells #[.string (bs x.m.id), .int .i64 x.m.mn, .int .i64 x.m.mx, .int .i64 x.m.lv, .int .i64 x.m.se, .int .i64 x.m.sa, x.vf, x.vs] 53)).alloc (.cells #[.string (bs y.m.id), .int .i64 y.m.mn, .int .i64 y.m.mx, .int .i64 y.m.lv, .int .i64 y.m.se, .int .i64 y.m.sa, y.vf, y.vs] 53)) (.cells #[.int .i64 p, .int .i64 r] 3)
    rwa [show ((W.alloc (.cells #[.string (bs x.m.id), .int .i64 x.m.mn, .int .i64 x.m.mx, .int .i64 x.m.lv, .int .i64 x.m.se, .int .i64 x.m.sa, x.vf, x.vs] 53)).alloc (.cells #[.string (bs y.m.id), .int .i64 y.m.mn, .int .i64 y.m.mx, .int .i64 y.m.lv, .int .i64 y.m.se, .int .i64 y.m.sa, y.vf, y.vs] 53)).heap.size = W.heap.size + 1 + 1 by simp] at h4)
  have ORD := Lib.hid (or2_any p r (W.heap.size + 1 + 1) 0 (((W.alloc (.cells #[.string (bs x.m.id), .int .i64 x.m.mn, .int .i64 x.m.mx, .int .i64 x.m.lv, .int .i64 x.m.se, .int .i64 x.m.sa, x.vf, x.vs] 53)).alloc (.cells #[.string (bs y.m.id), .int .i64 y.m.mn, .int .i64 y.m.mx, .int .i64 y.m.lv, .int .i64 y.m.se, .int .i64 y.m.sa, y.vf, y.vs] 53)).alloc (.cells #[.int .i64 p, .int .i64 r] 3)).drew (Lib.cell_of_heap (w := (((W.alloc (.cells #[.string (bs x.m.id), .int .i64 x.m.mn, .int .i64 x.m.mx, .int .i64 x.m.lv, .int .i64 x.m.se, .int .i64 x.m.sa, x.vf, x.vs] 53)).alloc (.cells #[.string (bs y.m.id), .int .i64 y.m.mn, .int .i64 y.m.mx, .int .i64 y.m.lv, .int .i64 y.m.se, .int .i64 y.m.sa, y.vf, y.vs] 53)).alloc (.cells #[.int .i64 p, .int .i64 r] 3)).drew) LC.out 0) (Lib.cell_of_heap (w := (((W.alloc (.cells #[.string (bs x.m.id), .int .i64 x.m.mn, .int .i64 x.m.mx, .int .i64 x.m.lv, .int .i64 x.m.se, .int .i64 x.m.sa, x.vf, x.vs] 53)).alloc (.cells #[.string (bs y.m.id), .int .i64 y.m.mn, .int .i64 y.m.mx, .int .i64 y.m.lv, .int .i64 y.m.se, .int .i64 y.m.sa, y.vf, y.vs] 53)).alloc (.cells #[.int .i64 p, .int .i64 r] 3)).drew) LC.out 1))
  have B0 := Below.refl ((W.alloc (.cells #[.string (bs x.m.id), .int .i64 x.m.mn, .int .i64 x.m.mx, .int .i64 x.m.lv, .int .i64 x.m.se, .int .i64 x.m.sa, x.vf, x.vs] 53)).alloc (.cells #[.string (bs y.m.id), .int .i64 y.m.mn, .int .i64 y.m.mx, .int .i64 y.m.lv, .int .i64 y.m.se, .int .i64 y.m.sa, y.vf, y.vs] 53)).heap.size ((W.alloc (.cells #[.string (bs x.m.id), .int .i64 x.m.mn, .int .i64 x.m.mx, .int .i64 x.m.lv, .int .i64 x.m.se, .int .i64 x.m.sa, x.vf, x.vs] 53)).alloc (.cells #[.string (bs y.m.id), .int .i64 y.m.mn, .int .i64 y.m.mx, .int .i64 y.m.lv, .int .i64 y.m.se, .int .i64 y.m.sa, y.vf, y.vs] 53))
  obtain ⟨f0, f1, f2, f3⟩ := FX.out _ B0
  go_enter Try.func41, Try.ntmps41
  go_upto_region 1 with fail
  go_region_held3 (fun W' => W'.cell? ⟨W.heap.size, 0, none⟩ = some (.string (bs x.m.id)) ∧ W'.cell? ⟨W.heap.size, 1, none⟩ = some (.int .i64 x.m.mn) ∧ W'.cell? ⟨W.heap.size + 1, 0, none⟩ = some (.string (bs y.m.id)) ∧ W'.cell? ⟨W.heap.size + 1, 1, none⟩ = some (.int .i64 y.m.mn))
    (first | assumption | (refine FX.out _ ?_; with_reducible repeat (first | exact Below.refl _ _ | assumption | apply Below.drew | apply bel_allocP)))
    (first
      | (go_at_call 37; (with_reducible refine (HC.out _).mono ?_); rintro e w' ⟨rfl, rfl⟩)
      | (go_at_call 43; (with_reducible refine (CJ.out _).mono ?_); rintro e w' ⟨rfl, rfl⟩)
      | (go_at_call 42; (with_reducible refine ORD.out.mono ?_); rintro e w' ⟨rfl, rfl⟩)
      | fail)
  all_goals (go_wp2_with fail)
  all_goals go_ret
  all_goals exact ⟨rfl, 1, _, by rw [Sort.alloc_eq_grow, Sort.alloc_eq_grow, Sort.alloc_eq_grow, Sort.grow_grow, Sort.grow_grow]; rfl⟩
end Go.Proofs.Ytkialkjhjenkhaa
