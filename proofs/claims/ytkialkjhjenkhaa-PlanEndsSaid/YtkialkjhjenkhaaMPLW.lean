/- Layer 20, the document's own: what is to be marked. Layer 20, the document's own: the free blocks, inserted one by one. -/
import Derived.Test.YtkialkjhjenkhaaMPLV
namespace Go.Proofs.Ytkialkjhjenkhaa
open Go.RowKit Go.Lib
set_option linter.unusedVariables false

/-- What isn't marked; of it what is to be marked. -/
def restT (ts : List (Mq × Int)) : List (Mq × Int) := ts.filter (fun p => decide (p.2 < 0))
def idT (ts : List (Mq × Int)) : List (List UInt8) := ts.map fun p => p.1.m.id
def rtomT (ts l : List (Mq × Int)) : List (List UInt8) := idT (l.filter (fun p => decide (0 < madeN p.1.m.id ts)))
structure RtL (w wr : World) (vL : Value) (n : Nat) (rs : List (Mq × Int)) : Prop where
  box : wr.heap[w.heap.size + 1]? = some (.cells #[.int .i64 0, vL] 29 (0, 0))
  sl : Sl wr (w.heap.size + 2) 9 vL n (tcs rs)
  below : Below w.heap.size w wr
  big : w.heap.size + 2 ≤ wr.heap.size
theorem RtL.alloc {w wr : World} {vL : Value} {n : Nat} {rs : List (Mq × Int)} (h : RtL w wr vL n rs) (o : Obj) : RtL w (wr.alloc o) vL n rs := by
  have hb := h.big
  exact ⟨(Below.heap_alloc wr o _ (by omega)).trans h.box, h.sl.alloc o, h.below.alloc h.below.size o, by simp; omega⟩
theorem rt_push {w W1 w5 : World} {vL v5 : Value} {n : Nat} {rs : List (Mq × Int)} {p : Mq × Int} {o : Obj} (h : RtL w W1 vL n rs) (x : Ext (w.heap.size + 2) 9 (W1.alloc o) vL n (tcs rs) w5 v5 (n + 1) (tcs rs ++ tcl p)) :
    w5.heap[w.heap.size + 1]? = some (.cells #[.int .i64 0, vL] 29 (0, 0)) ∧ RtL w (w5.setCell ⟨w.heap.size + 1, 1, none⟩ v5) v5 (n + 1) (rs ++ [p]) := by
  have hb := h.big
  have h1 := h.alloc o
  have bb := x.below (B := w.heap.size + 2) (Nat.le_refl _) (by simp; omega)
  have e1 := (bb.block (w.heap.size + 1) (by omega)).trans h1.box
  refine ⟨e1, heap_setCell_same w5 (w.heap.size + 1) 1 _ _ v5 e1, ?_, (h1.below.trans (bb.mono (by omega))).setCell (p := ⟨w.heap.size + 1, 1, none⟩) (by simp only; omega) _, by simp only [World.size_setCell]; have := bb.size; simp at this; omega⟩
  rw [tcs_append, show tcs [p] = tcl p by simp [tcs, tcl]]
  exact sl_else x.now ⟨w.heap.size + 1, 1, none⟩ v5 (by simp only; omega)
set_option maxHeartbeats 4000000 in
set_option maxRecDepth 100000 in
theorem rtomark_any (at' : Int) (v : Value) (ts : List (Mq × Int)) (w : World) (h : TsR w v ts) (hm : ts.length ≤ 1000) :
    Calls Try.prog 13 #[.agg #[.int .i64 at', v]] w fun e w' => ∃ v', e = .returned v' ∧ Sl w' w.heap.size 1 v' (rtomT (restT ts) (restT ts)).length (sc (rtomT (restT ts) (restT ts))) ∧ Below w.heap.size w w' := by
  obtain ⟨i1, hi, hz0, hz1, hz2⟩ := info_parts zc_strq
  have Jz := Lib.hid hz0; have Js := Lib.hid hz1; have Jb := Lib.hid hz2; have Ji := Lib.hid hi
  clear hz0 hz1 hz2 hi
  obtain ⟨i2, hi, hz0, hz1, hz2⟩ := info_parts zc_blk
  have Kz := Lib.hid hz0; have Ks := Lib.hid hz1; have Kb := Lib.hid hz2; have Ki := Lib.hid hi
  clear hz0 hz1 hz2 hi
  have HH := Lib.hid h
  obtain ⟨_, ad, cap, g, off, rfl, hg, hc⟩ := h.rd
  have HQ := Lib.hid (fun W (bb : Below w.heap.size w W) i p (hp : ts[i]? = some p) (h0 : 0 < ts.length) => tq_at hc bb (hg h0).2 i p hp)
  have HG := Lib.hid hg
  clear h hg hc
  obtain ⟨N, hN⟩ : ∃ N, N = ts.length := ⟨_, rfl⟩
  have HN := Lib.hid hN
  rw [← hN] at hm HG ⊢
  clear hN
  have T0 := Lib.hid (show RtL w ((w.alloc (.cells #[.int .i64 at', .slice ad N cap] 29)).alloc (.cells #[.int .i64 0, .slice none 0 0] 29)) (.slice none 0 0) 0 [] from by
    have s1 : (w.alloc (.cells #[.int .i64 at', .slice ad N cap] 29)).heap.size = w.heap.size + 1 := by simp
    have b0 := heap_alloc_new (w.alloc (.cells #[.int .i64 at', .slice ad N cap] 29)) (.cells #[.int .i64 0, .slice none 0 0] 29)
    rw [s1] at b0
    exact ⟨b0, Sl.nil _ _ _, ((Below.refl _ _).alloc (Nat.le_refl _) _).alloc (by omega) _, by simp⟩)
  go_enter Try.func13, Try.ntmps13
  go_wp2_with fail
  go_loopw [13] (fun i' wr => ∃ (i n : Nat) (vL : Value), i' = .int .i64 i ∧ i ≤ N ∧ Hid (n = (restT (ts.take i)).length) ∧ RtL w wr vL n (restT (ts.take i))) (fun i' _ => N - (RowKit.intOf i').toNat)
  case atStart => exact ⟨0, 0, _, rfl, Nat.zero_le _, rfl, T0.out⟩
  case round =>
    clear T0
    obtain ⟨W0, rfl⟩ : ∃ W0, W0 = wr := ⟨_, rfl⟩
    obtain ⟨i, n, vL, rfl, hi, hn, td⟩ := hrel
    by_cases hlt : i < N
    · obtain ⟨rfl, hgl⟩ := HG.out (by omega)
      have hil : (i : Int) < N := by omega
      have hiw : IntKind.i64.wrap ((i : Int) + 1) = (i : Int) + 1 := IntWalk.i64_in _ (by omega)
      obtain ⟨p, hp⟩ : ∃ p, ts[i]? = some p := ⟨_, List.getElem?_eq_getElem (by have := HN.out; omega)⟩
      have mq := (HH.out.ok p (List.mem_of_getElem? hp)).on td.below
      have hqq := HQ.out W0 td.below i p hp (by have := HN.out; omega)
      have HTK := Lib.hid (show restT (ts.take (i + 1)) = restT (ts.take i) ++ (if p.2 < 0 then [p] else []) by
        unfold restT
        rw [List.take_add_one, hp, List.filter_append]
        by_cases e : p.2 < 0 <;> simp [e])
      obtain ⟨⟨m, vf, vs⟩, mk⟩ := p
      replace mq : MeR W0 m vf vs := mq
      obtain ⟨af, kf, rfl⟩ := rd_form mq.1
      obtain ⟨a3, ks, rfl⟩ := rd_form mq.2.1
      obtain ⟨nf, hnf⟩ : ∃ nf, nf = m.files.length := ⟨_, rfl⟩
      obtain ⟨ns, hns⟩ : ∃ ns, ns = m.src.length := ⟨_, rfl⟩
      rw [← hnf, ← hns] at hqq HTK
      obtain ⟨⟨q0, q1, q2, q3, q4, q5, q6, q7⟩, q8⟩ := hqq
      simp only at q0 q1 q2 q3 q4 q5 q6 q7 q8 HTK
      have hni : n ≤ i := by rw [hn.out]; exact Nat.le_trans (List.length_filter_le _ _) (by rw [List.length_take]; omega)
      obtain ⟨aL, kL, rfl⟩ := td.sl.slice
      have TD1 := Lib.hid (td.alloc (.cells #[.string (bs m.id), .int .i64 m.mn, .int .i64 m.mx, .int .i64 m.lv, .int .i64 m.se, .int .i64 m.sa, .slice af nf kf, .slice a3 ns ks, .int .i64 mk] 70))
      have HX := Lib.hid (heap_alloc_new W0 (.cells #[.string (bs m.id), .int .i64 m.mn, .int .i64 m.mx, .int .i64 m.lv, .int .i64 m.se, .int .i64 m.sa, .slice af nf kf, .slice a3 ns ks, .int .i64 mk] 70))
      obtain ⟨e0, e1, e2, e3, e4, e5, e6, e7, e8⟩ := cells9 HX.out
      have c1 := Lib.cell_of_heap TD1.out.box 1
      have hbig := td.big
      have hn4 : n + 1 ≤ maxLen := by unfold maxLen; omega
      have hn5 : (n + 1) * 112 ≤ 140737488355328 := by omega
      clear td mq hp hnf hns
      by_cases hk : mk < 0
      · rw [if_pos hk] at HTK
        go_wp2_with (first
          | (at_builtin; go_loud (refine wpList_append_sl2 _ rfl _ _ 27 rfl (w.heap.size + 2) 70 i2 (.agg #[.string ⟨#[]⟩, .int .i64 0, .int .i64 0, .int .i64 0, .int .i64 0, .int .i64 0, .slice none 0 0, .slice none 0 0, .int .i64 0]) 9 112 Try.underlying27 Ki.out Kz.out Ks.out Kb.out rfl (by decide) _ n _ rfl (TD1.out.sl.alloc _) _ _ 1 _ rfl (Sl.litAt (W0.alloc (.cells #[.string (bs m.id), .int .i64 m.mn, .int .i64 m.mx, .int .i64 m.lv, .int .i64 m.se, .int .i64 m.sa, .slice af nf kf, .slice a3 ns ks, .int .i64 mk] 70)) (W0.heap.size + 1) (by simp) (w.heap.size + 2) 9 1 #[.string (bs m.id), .int .i64 m.mn, .int .i64 m.mx, .int .i64 m.lv, .int .i64 m.se, .int .i64 m.sa, .slice af nf kf, .slice a3 ns ks, .int .i64 mk] 70 (by simp; omega) (by decide) rfl) (told_oneCell _ _ _ _ _ _ _ _ _ _ _ _ _) hn4 hn5 (by simp; omega) ?_; intro v5 w5 x5; obtain ⟨a5, k5, rfl⟩ := x5.now.slice; have H5 := Lib.hid (rt_push (p := (⟨m, .slice af nf kf, .slice a3 ns ks⟩, mk)) TD1.out x5); have c5 := Lib.cell_of_heap H5.out.1 1; have f5 := Lib.frozen_of_heap H5.out.1 1; clear x5))
          | fail)
        exact ⟨⟨i + 1, n + 1, _, by simp, by omega, Lib.hid (by rw [HTK.out, List.length_append, ← hn.out]; rfl), by rw [HTK.out]; exact H5.out.2⟩, by simp [RowKit.intOf]; omega⟩
      · rw [if_neg hk, List.append_nil] at HTK
        go_wp2_with fail
        exact ⟨⟨i + 1, n, _, by simp, by omega, Lib.hid (by rw [HTK.out]; exact hn.out), by rw [HTK.out]; exact TD1.out⟩, by simp [RowKit.intOf]; omega⟩
    · have hil : ¬ (i : Int) < N := by omega
      have hiN : i = N := by omega
      have hall : restT (ts.take i) = restT ts := by rw [hiN, HN.out, List.take_length]
      rw [hall] at td hn
      obtain ⟨rs, hrs⟩ : ∃ rs, rs = restT ts := ⟨_, rfl⟩
      have HRS := Lib.hid hrs
      rw [← hrs] at td hn
      have hrn : rs.length ≤ 1000 := by rw [hrs]; exact Nat.le_trans (List.length_filter_le _ _) (by have := HN.out; omega)
      have hmem : ∀ p ∈ rs, p ∈ ts := fun p hp => by rw [hrs] at hp; exact (List.mem_filter.1 hp).1
      obtain ⟨aL, kL, rfl⟩ := td.sl.slice
      have TR := Lib.hid (show TsR W0 (.slice aL n kL) rs from ⟨by have h9 := Rd.of_sl td.sl; rw [hn.out] at h9 ⊢; exact h9, fun p hp => (HH.out.ok p (hmem p hp)).on td.below⟩)
      have TD := Lib.hid td
      have hbig := td.big
      have c1 := Lib.cell_of_heap td.box 1
      have c1a := Lib.cell_of_heap ((Below.heap_alloc W0 (.cells #[] 9) (w.heap.size + 1) (by omega)).trans td.box) 1
      have MD := Lib.hid (fun W (bb : Below W0.heap.size W0 W) y => made10_any 0 (.slice aL n kL) y rs W (TR.out.on bb) hrn)
      have HQ2 := Lib.hid (fun W (bb : Below W0.heap.size W0 W) i p (hp : rs[i]? = some p) => show ∃ g off, aL = some ⟨g, off, none⟩ ∧ TqAt W g (off + i * 9) p from by
        obtain ⟨_, ad', cap', g', off', e, hg', hc'⟩ := TR.out.rd
        have h0 : 0 < rs.length := by have := (List.getElem?_eq_some_iff.1 hp).1; omega
        obtain ⟨e1, hlt'⟩ := hg' h0
        have e2 : aL = ad' := by injection e
        exact ⟨g', off', e2.trans e1, tq_at hc' bb hlt' i p hp⟩)
      have S0 := Lib.hid (show Sl (W0.alloc (.cells #[] 9)) W0.heap.size 1 (.slice (some ⟨W0.heap.size, 0, none⟩) 0 0) 0 [] from Sl.litAt W0 W0.heap.size rfl W0.heap.size 1 0 #[] 9 (Nat.le_refl _) (by decide) rfl)
      have hRN := Lib.hid hn.out
      clear td hiN hall hrs hmem hn
      go_wp2_with fail
      go_loopw [6, 31] (fun v6 i' wr => ∃ (i nn : Nat), i' = .int .i64 i ∧ i ≤ n ∧ Hid (nn = (rtomT rs (rs.take i)).length) ∧ Sl wr W0.heap.size 1 v6 nn (sc (rtomT rs (rs.take i))) ∧ Below W0.heap.size W0 wr) (fun _ i' _ => n - (RowKit.intOf i').toNat)
      case atStart => exact ⟨0, 0, rfl, Nat.zero_le _, rfl, S0.out, (Below.refl _ _).alloc (Nat.le_refl _) _⟩
      case round =>
        clear S0
        obtain ⟨W1, rfl⟩ : ∃ W1, W1 = wr := ⟨_, rfl⟩
        obtain ⟨k, nn, rfl, hk, hnn, hs, hb⟩ := hrel
        by_cases hkl : k < n
        · have hkil : (k : Int) < n := by omega
          have hkw : IntKind.i64.wrap ((k : Int) + 1) = (k : Int) + 1 := IntWalk.i64_in _ (by have := hRN.out; omega)
          obtain ⟨p, hp⟩ : ∃ p, rs[k]? = some p := ⟨_, List.getElem?_eq_getElem (by have := hRN.out; omega)⟩
          have mq := (TR.out.on hb).ok p (List.mem_of_getElem? hp)
          obtain ⟨g, off, rfl, hqq⟩ := HQ2.out W1 hb k p hp
          have HTK := Lib.hid (show rtomT rs (rs.take (k + 1)) = rtomT rs (rs.take k) ++ (if 0 < madeN p.1.m.id rs then [p.1.m.id] else []) by
            unfold rtomT idT
            rw [List.take_add_one, hp, List.filter_append, List.map_append]
            by_cases e : 0 < madeN p.1.m.id rs <;> simp [e])
          obtain ⟨⟨m, vf, vs⟩, mk⟩ := p
          replace mq : MeR W1 m vf vs := mq
          obtain ⟨af, kf, rfl⟩ := rd_form mq.1
          obtain ⟨a3, ks, rfl⟩ := rd_form mq.2.1
          obtain ⟨nf, hnf⟩ : ∃ nf, nf = m.files.length := ⟨_, rfl⟩
          obtain ⟨ns, hns⟩ : ∃ ns, ns = m.src.length := ⟨_, rfl⟩
          rw [← hnf, ← hns] at hqq
          obtain ⟨⟨q0, q1, q2, q3, q4, q5, q6, q7⟩, q8⟩ := hqq
          simp only at q0 q1 q2 q3 q4 q5 q6 q7 q8 HTK
          have hni : nn ≤ k := by rw [hnn.out]; unfold rtomT idT; rw [List.length_map]; exact Nat.le_trans (List.length_filter_le _ _) (by rw [List.length_take]; omega)
          obtain ⟨a6, k6, rfl⟩ := hs.slice
          have BA := Lib.hid (show Below W0.heap.size W0 (W1.alloc (.cells #[.string (bs m.id), .int .i64 m.mn, .int .i64 m.mx, .int .i64 m.lv, .int .i64 m.se, .int .i64 m.sa, .slice af nf kf, .slice a3 ns ks, .int .i64 mk] 70)) from hb.alloc hb.size _)
          have HX := Lib.hid (heap_alloc_new W1 (.cells #[.string (bs m.id), .int .i64 m.mn, .int .i64 m.mx, .int .i64 m.lv, .int .i64 m.se, .int .i64 m.sa, .slice af nf kf, .slice a3 ns ks, .int .i64 mk] 70))
          have e0 := Lib.cell_of_heap HX.out 0
          have bx := (BA.out.block (w.heap.size + 1) (by omega)).trans TD.out.box
          have c0 := Lib.cell_of_heap bx 0
          have c1 := Lib.cell_of_heap bx 1
          have MC1 := Lib.hid (MD.out _ BA.out m.id)
          obtain ⟨M, hM⟩ : ∃ M, M = madeN m.id rs := ⟨_, rfl⟩
          rw [← hM] at MC1 HTK
          have SL1 := Lib.hid (hs.alloc (.cells #[.string (bs m.id), .int .i64 m.mn, .int .i64 m.mx, .int .i64 m.lv, .int .i64 m.se, .int .i64 m.sa, .slice af nf kf, .slice a3 ns ks, .int .i64 mk] 70))
          have hz := hb.size
          have hn4 : nn + 1 ≤ maxLen := by have := hRN.out; unfold maxLen; omega
          have hn5 : (nn + 1) * 16 ≤ 140737488355328 := by have := hRN.out; omega
          clear hs hb mq hp hnf hns bx hM c1a
          by_cases hk0 : 0 < M
          · have hk1 : (0 : Int) < (M : Int) := by omega
            rw [if_pos hk0] at HTK
            go_wp2_with (first
              | (go_at_call 30; (with_reducible refine MC1.out.mono ?_); rintro e w3 ⟨rfl, b3⟩; have z3 := b3.size; have B3 := Lib.hid (BA.out.trans (b3.mono BA.out.size)); have SL3 := Lib.hid (SL1.out.on b3); have x0 := Lib.cell_of_heap ((b3.block W1.heap.size (by simp)).trans HX.out) 0; clear b3 e0 c0 c1)
              | (at_builtin; go_loud (refine wpList_append_sl2 _ rfl _ _ 43 rfl W0.heap.size 9 i1 (.string ⟨#[]⟩) 1 16 Try.underlying43 Ji.out Jz.out Js.out Jb.out rfl (by decide) _ nn _ rfl (SL3.out.alloc _) _ _ 1 _ rfl (Sl.litAt w3 w3.heap.size rfl W0.heap.size 1 1 #[.string (bs m.id)] 9 (by simp at z3; omega) (by decide) rfl) (by simp [Value.oneCell']) hn4 hn5 (by simp; simp at z3; omega) ?_; intro v5 w5 x5; obtain ⟨a5, k5, rfl⟩ := x5.now.slice; have X5 := Lib.hid x5; clear x5))
              | fail)
            have zB := B3.out.size
            have bb := X5.out.below (B := W0.heap.size) (Nat.le_refl _) (by simp; omega)
            exact ⟨⟨k + 1, nn + 1, by simp, by omega, Lib.hid (by rw [HTK.out, List.length_append, ← hnn.out]; rfl), by rw [HTK.out, sc_append]; exact X5.out.now, (B3.out.alloc zB _).trans bb⟩, by simp [RowKit.intOf]; omega⟩
          · have hk1 : ¬ (0 : Int) < (M : Int) := by omega
            rw [if_neg hk0, List.append_nil] at HTK
            go_wp2_with (first
              | (go_at_call 30; (with_reducible refine MC1.out.mono ?_); rintro e w3 ⟨rfl, b3⟩; have B3 := Lib.hid (BA.out.trans (b3.mono BA.out.size)); have SL3 := Lib.hid (SL1.out.on b3); clear b3 e0 c0 c1)
              | fail)
            exact ⟨⟨k + 1, nn, by simp, by omega, Lib.hid (by rw [HTK.out]; exact hnn.out), by rw [HTK.out]; exact SL3.out, B3.out⟩, by simp [RowKit.intOf]; omega⟩
        · have hkil : ¬ (k : Int) < n := by omega
          have hkn : k = n := by omega
          have hall : rtomT rs (rs.take k) = rtomT rs rs := by rw [hkn, hRN.out, List.take_length]
          rw [hall] at hs hnn
          have HS := Lib.hid hs; have HB := Lib.hid hb
          clear hs hb hkn hall
          go_wp2_with fail
          go_ret
          rw [← HRS.out]
          exact ⟨_, rfl, by rw [← hnn.out]; exact HS.out.mono TD.out.below.size, TD.out.below.trans (HB.out.mono TD.out.below.size)⟩
end Go.Proofs.Ytkialkjhjenkhaa

namespace Go.Proofs.Ytkialkjhjenkhaa
open Go.RowKit Go.Lib
set_option linter.unusedVariables false

theorem zc_rmet : (Try.prog.info? 67).map (fun i => (i.zero, i.size, i.bytes)) = some (some (.agg #[.string ⟨#[]⟩, .int .i64 0, .int .i64 0, .int .i64 0, .int .i64 0, .int .i64 0, .slice none 0 0, .slice none 0 0]), 8, 104) := by kernel_rfl
instance decLt (x y : Mt.Me) : Decidable (ltM x y) := by unfold ltM; exact inferInstance
/-- A block put ahead of the first one that it's less than. -/
def insQ (b : Mq) : List Mq → List Mq
  | [] => [b]
  | m :: r => if ltM b.m m.m then b :: m :: r else m :: insQ b r
/-- .. while it is done: what is there yet, and what comes. -/
def insJ (b : Mq) (nx : List Mq) (done : Bool) (rest : List Mq) : List Mq := nx ++ (if done then rest else insQ b rest)
theorem insJ_done (b : Mq) (nx : List Mq) (m : Mq) (r : List Mq) : insJ b nx true (m :: r) = insJ b (nx ++ [m]) true r := by simp [insJ]
theorem insJ_yes (b : Mq) (nx : List Mq) (m : Mq) (r : List Mq) (h : ltM b.m m.m) : insJ b nx false (m :: r) = insJ b (nx ++ [b] ++ [m]) true r := by simp [insJ, insQ, h]
theorem insJ_no (b : Mq) (nx : List Mq) (m : Mq) (r : List Mq) (h : ¬ ltM b.m m.m) : insJ b nx false (m :: r) = insJ b (nx ++ [m]) false r := by simp [insJ, insQ, h]
theorem insQ_len (b : Mq) (l : List Mq) : (insQ b l).length = l.length + 1 := by
  induction l with
  | nil => rfl
  | cons m r ih => unfold insQ; split <;> simp [ih]
theorem insQ_mem (b : Mq) (l : List Mq) (q : Mq) : q ∈ insQ b l ↔ q = b ∨ q ∈ l := by
  induction l with
  | nil => simp [insQ]
  | cons m r ih =>
    unfold insQ
    split
    · simp
    · simp only [List.mem_cons, ih]
      constructor
      · rintro (h | h | h)
        · exact .inr (.inl h)
        · exact .inl h
        · exact .inr (.inr h)
      · rintro (h | h | h)
        · exact .inr (.inl h)
        · exact .inl h
        · exact .inr (.inr h)
/-- Inserted where the names differ: it stays sorted. -/
theorem insQ_sorted (b : Mq) (l : List Mq) (h : (l.map Mq.m).Pairwise ltM) (hd : ∀ q ∈ l, q.m.id ≠ b.m.id) : ((insQ b l).map Mq.m).Pairwise ltM := by
  induction l with
  | nil => simp [insQ]
  | cons m r ih =>
    rw [List.map_cons, List.pairwise_cons] at h
    unfold insQ
    split
    · rename_i hlt
      rw [List.map_cons, List.map_cons, List.pairwise_cons, List.pairwise_cons]
      refine ⟨fun x hx => ?_, h.1, h.2⟩
      rcases List.mem_cons.1 hx with rfl | hx
      · exact hlt
      · exact ltM_trans hlt (h.1 x hx)
    · rename_i hn
      rw [List.map_cons, List.pairwise_cons]
      refine ⟨fun x hx => ?_, ih h.2 (fun q hq => hd q (List.mem_cons_of_mem _ hq))⟩
      obtain ⟨q, hq, rfl⟩ := List.mem_map.1 hx
      rcases (insQ_mem b r q).1 hq with rfl | hq
      · exact ltM_tri _ _ (hd m (List.mem_cons_self ..)) hn
      · exact h.1 q.m (List.mem_map_of_mem hq)
/-- The document's free blocks. -/
def liveT (ts : List (Mq × Int)) (p : Mq × Int) : Bool := decide (p.2 < 0) && decide (madeN p.1.m.id ts = 0)
def freeT (ts l : List (Mq × Int)) : List Mq := (l.filter (liveT ts)).foldl (fun out p => insQ p.1 out) []
theorem freeT_snoc (ts l : List (Mq × Int)) (p : Mq × Int) : freeT ts (l ++ [p]) = if liveT ts p then insQ p.1 (freeT ts l) else freeT ts l := by
  unfold freeT
  rw [List.filter_append, List.foldl_append]
  cases h : liveT ts p <;> simp [h]
theorem freeT_len (ts l : List (Mq × Int)) : (freeT ts l).length ≤ l.length := by
  have key : ∀ (l : List (Mq × Int)) (o : List Mq), (l.foldl (fun out p => insQ p.1 out) o).length = o.length + l.length := by
    intro l
    induction l with
    | nil => intro o; rfl
    | cons p l ih => intro o; rw [List.foldl_cons, ih, insQ_len, List.length_cons]; omega
  unfold freeT
  rw [key]
  have := List.length_filter_le (liveT ts) l
  simp; omega
theorem freeT_in (ts : List (Mq × Int)) : ∀ (l : List (Mq × Int)) (q : Mq), q ∈ freeT ts l ↔ ∃ p ∈ l, liveT ts p = true ∧ p.1 = q := by
  have key : ∀ (l : List (Mq × Int)) (o : List Mq) (q : Mq), q ∈ l.foldl (fun out p => insQ p.1 out) o ↔ q ∈ o ∨ ∃ p ∈ l, p.1 = q := by
    intro l
    induction l with
    | nil => intro o q; simp
    | cons p l ih =>
      intro o q
      rw [List.foldl_cons, ih, insQ_mem]
      simp only [List.mem_cons, exists_eq_or_imp]
      constructor
      · rintro ((rfl | h) | h)
        · exact .inr (.inl rfl)
        · exact .inl h
        · exact .inr (.inr h)
      · rintro (h | rfl | h)
        · exact .inl (.inr h)
        · exact .inl (.inl rfl)
        · exact .inr h
  intro l q
  unfold freeT
  rw [key]
  simp only [List.mem_filter, List.not_mem_nil, false_or]
  constructor
  · rintro ⟨p, ⟨h1, h2⟩, h3⟩; exact ⟨p, h1, h2, h3⟩
  · rintro ⟨p, h1, h2, h3⟩; exact ⟨p, ⟨h1, h2⟩, h3⟩
end Go.Proofs.Ytkialkjhjenkhaa
