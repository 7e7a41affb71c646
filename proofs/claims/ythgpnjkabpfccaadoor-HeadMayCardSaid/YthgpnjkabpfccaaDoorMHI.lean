/- Layer 15: the series of labels, there or new. Layer 15: a sample put. -/
import Derived.Test.YthgpnjkabpfccaaDoorMHG
namespace Go.Proofs.YthgpnjkabpfccaaDoor
open Go.RowKit Go.Lib

set_option maxHeartbeats 2000000 in
set_option maxRecDepth 100000 in
theorem numbered_old (b ms mi mp cs p : Nat) (ss : List En) (se sa wd fl tp sm nu pl nu' pl' : Int) (lv lv' sv : Value) (K : ByteArray) (w : World) (h : HdB b ms mi mp se sa wd fl tp sm nu pl w) (hs : MapIs ms ss cs w) (hK : lookE K ss = some ⟨K, .pointer (some ⟨p, 0, none⟩), 0⟩ ∨ (lookE K ss).map (·.val) = some (.pointer (some ⟨p, 0, none⟩))) (sb : SrB p lv' K nu' pl' sv w) (hk : PtK lv K w) (hnu : nu' ≠ 9223372036854775807) :
    Calls Tryd.prog 19 #[.pointer (some ⟨b, 0, none⟩), lv] w fun e w' => e = .returned (.pointer (some ⟨p, 0, none⟩)) ∧ Below w.heap.size w w' := by
  have hK : (lookE K ss).map (·.val) = some (.pointer (some ⟨p, 0, none⟩)) := by
    rcases hK with e | e
    · rw [e]; rfl
    · exact e
  have KY := Lib.hid (hk.ky w (Below.refl _ _))
  have hlt := hdB_lt h
  have FF := Lib.hid (fun W (bb : Below w.heap.size w W) => (show (W.cell? ⟨b, 7, none⟩ = some (.map (some ms)) ∧ W.cell? ⟨p, 2, none⟩ = some (.int .i64 nu')) ∧ (Instr.lookup 31 (.map (some ms)) (.string K) false).run Tryd.prog W = .ok (.pointer (some ⟨p, 0, none⟩)) W from by
    refine ⟨⟨(bb.cell (p := ⟨b, 7, none⟩) hlt).trans (Lib.cell_of_heap h 7), (bb.cell (p := ⟨p, 2, none⟩) (srB_lt sb)).trans (Lib.cell_of_heap sb 2)⟩, ?_⟩
    have hl2 := run_look (P := Tryd.prog) Tryd.underlying31 Tryd.underlying9 (.pointer none) zv_sr (Below.mapIs bb hs) K false
    rw [hK] at hl2
    simpa using hl2))
  have hne : (nu' == 9223372036854775807) = false := by simpa using hnu
  clear h hs hK sb hk hnu hlt
  go_enter Tryd.func19, Tryd.ntmps19
  go_wp2_with fail
  refine KY.out.mono ?_
  rintro e w1 ⟨rfl, b1⟩
  obtain ⟨⟨c7, c2⟩, hl⟩ := FF.out _ b1
  go_wp2_with fail
  go_ret
  exact ⟨rfl, b1⟩

set_option maxHeartbeats 2000000 in
set_option maxRecDepth 100000 in
theorem numbered_new (b ms mi mp cs : Nat) (ss : List En) (se sa wd fl tp sm nu pl : Int) (lv : Value) (ds : List Pr) (K : ByteArray) (w : World) (h : HdB b ms mi mp se sa wd fl tp sm nu pl w) (hs : MapIs ms ss cs w) (hK : lookE K ss = none) (hk : PtK lv K w) (hr : Rd w 2 lv ds.length (prc ds)) (hm : ∀ p ∈ ds, p.n.length ≤ 100000000 ∧ p.v.length ≤ 100000000) (hn0 : ds.length ≤ 1000000) (hnu : 0 ≤ nu ∧ nu ≤ 1000000) :
    Calls Tryd.prog 19 #[.pointer (some ⟨b, 0, none⟩), lv] w fun e w' => ∃ p lv', e = .returned (.pointer (some ⟨p, 0, none⟩)) ∧ w.heap.size ≤ p ∧ HdB b ms mi mp se sa wd fl tp sm (nu + 1) pl w' ∧ SrB p lv' K (nu + 1) 0 (.slice none 0 0) w' ∧ Rd w' 2 lv' ds.length (prc ds) ∧ (∀ k, lv'.ownBlock = some k → w.heap.size ≤ k ∧ k ≠ p) ∧ Turn (fun k => k = b) w w' := by
  have KY := Lib.hid (hk.ky w (Below.refl _ _))
  have hlt := hdB_lt h
  have NS := Lib.hid (fun W (bb : Below w.heap.size w W) => newSeries_any lv ds K W (hr.on bb) hm hn0)
  have FF := Lib.hid (fun W (bb : Below w.heap.size w W) => (show W.cell? ⟨b, 7, none⟩ = some (.map (some ms)) ∧ (Instr.lookup 31 (.map (some ms)) (.string K) false).run Tryd.prog W = .ok (.pointer none) W from by
    refine ⟨(bb.cell (p := ⟨b, 7, none⟩) hlt).trans (Lib.cell_of_heap h 7), ?_⟩
    have hl2 := run_look (P := Tryd.prog) Tryd.underlying31 Tryd.underlying9 (.pointer none) zv_sr (Below.mapIs bb hs) K false
    rw [hK] at hl2
    simpa using hl2))
  have HH := Lib.hid h
  obtain ⟨hnu1, hnu2⟩ := hnu
  clear h hs hK hk hr hm
  go_enter Tryd.func19, Tryd.ntmps19
  go_wp2_with fail
  refine KY.out.mono ?_
  rintro e w1 ⟨rfl, b1⟩
  obtain ⟨c7, hl⟩ := FF.out _ b1
  have NS1 := Lib.hid (NS.out _ b1)
  go_wp2_with fail
  refine NS1.out.mono ?_
  rintro e w2 ⟨p, lv', rfl, hp, s2, sl2, hlp, b2⟩
  have b02 := b1.trans (b2.mono b1.size)
  have z1 := b1.size
  have H2 : HdB b ms mi mp se sa wd fl tp sm nu pl w2 := (b02.block b hlt).trans HH.out
  have hbp : b ≠ p := by omega
  obtain ⟨W3, hW3⟩ : ∃ W3, W3 = w2.setCell ⟨b, 6, none⟩ (.int .i64 (nu + 1)) := ⟨_, rfl⟩
  have t3 : Turn (fun k => k = b) w2 W3 := by rw [hW3]; exact (Turn.refl _ w2).setCell _ _ rfl
  have H3 : HdB b ms mi mp se sa wd fl tp sm (nu + 1) pl W3 := by rw [hW3]; exact (hd_set H2 (nu + 1)).2.1
  have s3 : SrB p lv' K 9223372036854775807 0 (.slice none 0 0) W3 := (t3.block p (srB_lt s2) (fun e => hbp e.symm)).trans s2
  obtain ⟨W4, hW4⟩ : ∃ W4, W4 = W3.setCell ⟨p, 2, none⟩ (.int .i64 (nu + 1)) := ⟨_, rfl⟩
  have t4 : Turn (fun k => k = p) W3 W4 := by rw [hW4]; exact (Turn.refl _ W3).setCell _ _ rfl
  have H4 : HdB b ms mi mp se sa wd fl tp sm (nu + 1) pl W4 := (t4.block b (hdB_lt H3) hbp).trans H3
  have s4 : SrB p lv' K (nu + 1) 0 (.slice none 0 0) W4 := by rw [hW4]; exact (sr_set s3 (nu + 1) (.slice none 0 0)).2.1
  have t24 : Turn (fun k => k = b ∨ k = p) w2 W4 := (t3.mono (fun k hk => .inl hk)).trans (t4.mono (fun k hk => .inr hk))
  have FIN := Lib.hid (show w.heap.size ≤ p ∧ HdB b ms mi mp se sa wd fl tp sm (nu + 1) pl W4 ∧ SrB p lv' K (nu + 1) 0 (.slice none 0 0) W4 ∧ Rd W4 2 lv' ds.length (prc ds) ∧ (∀ k, lv'.ownBlock = some k → w.heap.size ≤ k ∧ k ≠ p) ∧ Turn (fun k => k = b) w W4 from
    ⟨by omega, H4, s4, (Rd.of_sl sl2).turnT t24 (fun k hk e => by rcases e with e | e; have := (sl2.lt k hk).1; omega; exact hlp k hk e), fun k hk => ⟨by have := (sl2.lt k hk).1; omega, hlp k hk⟩, turn_then ((Turn.of_below b02).trans (t3.mono (fun k hk => hk))) t4 (fun i hi e => by omega)⟩)
  have a2 : w2.cell? ⟨p, 2, none⟩ = some (.int .i64 9223372036854775807) := Lib.cell_of_heap s2 2
  have a6 : w2.cell? ⟨b, 6, none⟩ = some (.int .i64 nu) := Lib.cell_of_heap H2 6
  have f6 := Lib.frozen_of_heap H2 6
  have d6 : W3.cell? ⟨b, 6, none⟩ = some (.int .i64 (nu + 1)) := Lib.cell_of_heap H3 6
  have d2 : W3.cell? ⟨p, 2, none⟩ = some (.int .i64 9223372036854775807) := Lib.cell_of_heap s3 2
  have g2 := Lib.frozen_of_heap s3 2
  rw [hW3] at d6 d2 g2
  rw [hW3] at hW4
  clear c7 hl NS1 NS KY FF HH H2 H3 H4 s2 s3 s4 t3 t4 t24 hW3 b02 b1 b2 sl2 hlp
  go_wp2_with fail
  rw [← hW4]
  go_ret
  exact ⟨p, lv', rfl, FIN.out⟩
end Go.Proofs.YthgpnjkabpfccaaDoor

namespace Go.Proofs.YthgpnjkabpfccaaDoor
open Go.RowKit Go.Lib

theorem put_w (base b p bx ms mi mp n : Nat) (xs : List Value) (se sa wd fl tp sm nu pl nu' pl' T V : Int) (lv sv v' : Value) (K : ByteArray) (w0 w5 : World) (H : HdB b ms mi mp se sa wd fl tp sm nu pl w0) (S : SrB p lv K nu' pl' sv w0) (hbx : w0.heap[bx]? = some (.cells #[.int .i64 T, .int .u64 V] 43)) (hbp : b ≠ p) (hxb : bx ≠ b) (hxp : bx ≠ p) (hsv : ∀ k, sv.ownBlock = some k → k ≠ b ∧ k ≠ p ∧ k ≠ bx)
    (hx : Ext base 2 ((w0.alloc (.cells #[.int .i64 T, .int .u64 V] 43)).drew) sv n xs w5 v' (n + 1) (xs ++ [.int .i64 T, .int .u64 V])) :
    ∃ W6 W7 W8, W6 = w5.setCell ⟨p, 4, none⟩ v' ∧ W7 = W6.setCell ⟨b, 5, none⟩ (.int .i64 (sm + 1)) ∧ W8 = (W7.setCell ⟨b, 4, none⟩ (.int .i64 (max tp T))).drew ∧
      (w5.cell? ⟨p, 4, none⟩ = some sv ∧ w5.frozen? ⟨p, 4, none⟩ = false) ∧ (W6.cell? ⟨b, 5, none⟩ = some (.int .i64 sm) ∧ W6.frozen? ⟨b, 5, none⟩ = false) ∧ (W7.cell? ⟨b, 4, none⟩ = some (.int .i64 tp) ∧ W7.frozen? ⟨b, 4, none⟩ = false ∧ W7.cell? ⟨bx, 0, none⟩ = some (.int .i64 T)) ∧
      HdB b ms mi mp se sa wd fl (max tp T) (sm + 1) nu pl W8 ∧ SrB p lv K nu' pl' v' W8 ∧ Sl W8 base 2 v' (n + 1) (xs ++ [.int .i64 T, .int .u64 V]) ∧ (∀ k, v'.ownBlock = some k → sv.ownBlock = some k ∨ w0.heap.size ≤ k) ∧ Turn (fun k => k = b ∨ k = p ∨ sv.ownBlock = some k) w0 W8 := by
  have lb := hdB_lt H
  have lp := srB_lt S
  have lx : bx < w0.heap.size := (Array.getElem?_eq_some_iff.1 hbx).1
  have b0 : Below w0.heap.size w0 ((w0.alloc (.cells #[.int .i64 T, .int .u64 V] 43)).drew) := ((Below.refl _ _).alloc (Nat.le_refl _) _).drew
  have z0 := b0.size
  have t5 : Turn (fun k => sv.ownBlock = some k) w0 w5 := (Turn.of_below b0).trans ⟨hx.grown.os, hx.grown.tape, hx.grown.output, hx.grown.size, fun i hi hr => hx.grown.block i hi (fun e => hr e.symm)⟩
  have hown : ∀ k, v'.ownBlock = some k → sv.ownBlock = some k ∨ w0.heap.size ≤ k := fun k hk => by
    rcases hx.alias with ⟨a, c, e1, e2, _⟩ | h2
    · left; rw [e2] at hk; rw [e1, ownBlock_slice a n (n + 1) c c]; exact hk
    · right; have := h2 k hk; omega
  have hvb : ∀ k, v'.ownBlock = some k → k ≠ b ∧ k ≠ p := fun k hk => by
    rcases hown k hk with e | e
    · exact ⟨(hsv k e).1, (hsv k e).2.1⟩
    · exact ⟨by omega, by omega⟩
  have H5 : HdB b ms mi mp se sa wd fl tp sm nu pl w5 := (t5.block b lb (fun e => (hsv b e).1 rfl)).trans H
  have S5 : SrB p lv K nu' pl' sv w5 := (t5.block p lp (fun e => (hsv p e).2.1 rfl)).trans S
  have X5 : w5.heap[bx]? = some (.cells #[.int .i64 T, .int .u64 V] 43) := (t5.block bx lx (fun e => (hsv bx e).2.2 rfl)).trans hbx
  obtain ⟨W6, hW6⟩ : ∃ W6, W6 = w5.setCell ⟨p, 4, none⟩ v' := ⟨_, rfl⟩
  have t6 : Turn (fun k => k = p) w5 W6 := by rw [hW6]; exact (Turn.refl _ w5).setCell _ _ rfl
  have S6 : SrB p lv K nu' pl' v' W6 := by rw [hW6]; exact (sr_set S5 0 v').2.2
  have H6 : HdB b ms mi mp se sa wd fl tp sm nu pl W6 := (t6.block b (hdB_lt H5) hbp).trans H5
  have X6 : W6.heap[bx]? = some (.cells #[.int .i64 T, .int .u64 V] 43) := (t6.block bx (Array.getElem?_eq_some_iff.1 X5).1 hxp).trans X5
  obtain ⟨W7, hW7⟩ : ∃ W7, W7 = W6.setCell ⟨b, 5, none⟩ (.int .i64 (sm + 1)) := ⟨_, rfl⟩
  have t7 : Turn (fun k => k = b) W6 W7 := by rw [hW7]; exact (Turn.refl _ W6).setCell _ _ rfl
  have H7 : HdB b ms mi mp se sa wd fl tp (sm + 1) nu pl W7 := by rw [hW7]; exact (hd_set H6 (sm + 1)).2.2.1
  have S7 : SrB p lv K nu' pl' v' W7 := (t7.block p (srB_lt S6) (fun e => hbp e.symm)).trans S6
  have X7 : W7.heap[bx]? = some (.cells #[.int .i64 T, .int .u64 V] 43) := (t7.block bx (Array.getElem?_eq_some_iff.1 X6).1 hxb).trans X6
  obtain ⟨W8, hW8⟩ : ∃ W8, W8 = (W7.setCell ⟨b, 4, none⟩ (.int .i64 (max tp T))).drew := ⟨_, rfl⟩
  have t8 : Turn (fun k => k = b) W7 W8 := by rw [hW8]; exact (Turn.setCell (S := fun k => k = b) (Turn.refl _ W7) _ _ rfl).drew
  have H8 : HdB b ms mi mp se sa wd fl (max tp T) (sm + 1) nu pl W8 := by
    rw [hW8]; exact (hd_set H7 (max tp T)).2.2.2
  have S8 : SrB p lv K nu' pl' v' W8 := (t8.block p (srB_lt S7) (fun e => hbp e.symm)).trans S7
  have t58 : Turn (fun k => k = b ∨ k = p) w5 W8 := (t6.mono (fun k hk => .inr hk)).trans ((t7.mono (fun k hk => .inl hk)).trans (t8.mono (fun k hk => .inl hk)))
  refine ⟨W6, W7, W8, hW6, hW7, hW8, ⟨Lib.cell_of_heap S5 4, Lib.frozen_of_heap S5 4⟩, ⟨Lib.cell_of_heap H6 5, Lib.frozen_of_heap H6 5⟩, ⟨Lib.cell_of_heap H7 4, Lib.frozen_of_heap H7 4, Lib.cell_of_heap X7 0⟩, H8, S8, sl_turnT hx.now t58 (fun k hk e => by rcases e with e | e; exact (hvb k hk).1 e; exact (hvb k hk).2 e), hown, ?_⟩
  exact (t5.mono (fun k hk => .inr (.inr hk))).trans (t58.mono (fun k hk => by rcases hk with e | e; exact .inl e; exact .inr (.inl e)))

theorem sm_info : (Tryd.prog.info? 43).map (fun i => (i.zero, i.size, i.bytes)) = some (some (.agg #[.int .i64 0, .int .u64 0]), 2, 16) := by kernel_rfl
theorem sm_lit (w : World) (T V : Int) : ∀ j u, [Value.int .i64 T, .int .u64 V][j]? = some u → ((w.alloc (.cells #[.int .i64 T, .int .u64 V] 43)).drew).cell? ((⟨w.heap.size, 0, none⟩ : Addr).add j) = some u := by
  intro j u hu
  exact (Sl.lit w w.heap.size 2 1 #[.int .i64 T, .int .u64 V] 43 (Nat.le_refl _) (by decide) rfl).cells j u hu

set_option maxHeartbeats 2000000 in
set_option maxRecDepth 100000 in
theorem put_more (base b ms mi mp p n : Nat) (xs : List Value) (se sa wd fl tp sm nu pl nu' pl' T V : Int) (lv sv : Value) (K : ByteArray) (w : World) (h : HdB b ms mi mp se sa wd fl tp sm nu pl w) (sb : SrB p lv K nu' pl' sv w) (sl : Sl w base 2 sv n xs) (hn : 0 < n) (hn2 : n ≤ 1000000) (hbase : base ≤ w.heap.size) (hbp : b ≠ p) (hsv : ∀ k, sv.ownBlock = some k → k ≠ b ∧ k ≠ p) (hsm : 0 ≤ sm ∧ sm ≤ 10000000) :
    Calls Tryd.prog 18 #[.pointer (some ⟨b, 0, none⟩), .pointer (some ⟨p, 0, none⟩), .agg #[.int .i64 T, .int .u64 V]] w fun e w' => e = .returned (.tuple #[]) ∧ ∃ v', HdB b ms mi mp se sa wd fl (max tp T) (sm + 1) nu pl w' ∧ SrB p lv K nu' pl' v' w' ∧ Sl w' base 2 v' (n + 1) (xs ++ [.int .i64 T, .int .u64 V]) ∧ (∀ k, v'.ownBlock = some k → sv.ownBlock = some k ∨ w.heap.size ≤ k) ∧ Turn (fun k => k = b ∨ k = p ∨ sv.ownBlock = some k) w w' := by
  obtain ⟨i0, hi, hz0, hz1, hz2⟩ := info_parts sm_info
  have Hz := Lib.hid hz0; have Hs := Lib.hid hz1; have Hb := Lib.hid hz2; have Hi := Lib.hid hi
  clear hz0 hz1 hz2 hi
  obtain ⟨hsm1, hsm2⟩ := hsm
  obtain ⟨w0, hw0⟩ : ∃ w0, w0 = w.alloc (.cells #[.int .i64 T, .int .u64 V] 43) := ⟨_, rfl⟩
  have b0 : Below w.heap.size w w0 := by rw [hw0]; exact (Below.refl _ _).alloc (Nat.le_refl _) _
  have lb := hdB_lt h
  have lp := srB_lt sb
  have H0 : HdB b ms mi mp se sa wd fl tp sm nu pl w0 := (b0.block b lb).trans h
  have S0 : SrB p lv K nu' pl' sv w0 := (b0.block p lp).trans sb
  have X0 : w0.heap[w.heap.size]? = some (.cells #[.int .i64 T, .int .u64 V] 43) := by rw [hw0]; exact heap_alloc_new _ _
  have sl0 : Sl w0 base 2 sv n xs := sl.on b0
  have z0 : w.heap.size < w0.heap.size := by rw [hw0]; simp
  have PW := Lib.hid (fun v' w5 (hx : Ext base 2 ((w0.alloc (.cells #[.int .i64 T, .int .u64 V] 43)).drew) sv n xs w5 v' (n + 1) (xs ++ [.int .i64 T, .int .u64 V])) => put_w base b p w.heap.size ms mi mp n xs se sa wd fl tp sm nu pl nu' pl' T V lv sv v' K w0 w5 H0 S0 X0 hbp (by omega) (by omega) (fun k hk => ⟨(hsv k hk).1, (hsv k hk).2, by have := (sl.lt k hk).2; omega⟩) hx)
  have BT := Lib.hid (Turn.of_below (S := fun k => k = b ∨ k = p ∨ sv.ownBlock = some k) b0)
  obtain ⟨sa', sc', rfl⟩ := sl.slice
  have c4 : w0.cell? ⟨p, 4, none⟩ = some (.slice sa' n sc') := Lib.cell_of_heap S0 4
  have c4' : (w0.alloc (.cells #[.int .i64 T, .int .u64 V] 43)).cell? ⟨p, 4, none⟩ = some (.slice sa' n sc') := Lib.cell_of_heap (kept_alloc S0) 4
  have x0 : w0.cell? ⟨w.heap.size, 0, none⟩ = some (.int .i64 T) := Lib.cell_of_heap X0 0
  have x1 : w0.cell? ⟨w.heap.size, 1, none⟩ = some (.int .u64 V) := Lib.cell_of_heap X0 1
  have e0 : ((n : Int) == 0) = false := by simp; omega
  have n1 : n + 1 ≤ maxLen := by unfold maxLen; omega
  have n2 : (n + 1) * 16 ≤ 140737488355328 := by omega
  have ownY : Sl ((w0.alloc (.cells #[.int .i64 T, .int .u64 V] 43)).drew) base 2 (.slice sa' n sc') n xs := (sl0.alloc _).drew
  have n3 : base ≤ ((w0.alloc (.cells #[.int .i64 T, .int .u64 V] 43)).drew).heap.size := by
    show base ≤ (w0.alloc (.cells #[.int .i64 T, .int .u64 V] 43)).heap.size
    simp
    omega
  have HSZ := Lib.hid (show w.heap.size ≤ w0.heap.size by omega)
  clear h sb sl H0 S0 X0 sl0 hsv lb lp b0 hbase z0
  go_enter Tryd.func18, Tryd.ntmps18
  go_upto_region 1 with fail
  rw [← hw0]
  clear hw0
  go_wp2_with fail
  go_region_law (refine step_append_sl rfl _ _ 74 rfl base 43 i0 (.agg #[.int .i64 0, .int .u64 0]) 2 16 Tryd.underlying74 Hi.out Hz.out Hs.out Hb.out rfl (by decide) _ n xs rfl ownY ⟨w0.heap.size, 0, none⟩ 1 1 [.int .i64 T, .int .u64 V] rfl rfl (sm_lit w0 T V) (by simp [Value.oneCell']) n1 n2 n3 ?_; intro v' w5 hx5; obtain ⟨W6, W7, W8, hW6, hW7, hW8, ⟨p1, pf1⟩, ⟨q1, qf1⟩, ⟨r1, rf1, r2⟩, FIN⟩ := PW.out v' w5 hx5; have FIN := Lib.hid FIN; obtain ⟨a5, c5, rfl⟩ := hx5.now.slice)
  all_goals
    rw [← hW6]
    clear hW6 p1 pf1 c4 c4' x0 x1 ownY
    go_wp2_with fail
    rw [← hW7]
    clear hW7 q1 qf1
    go_region
    go_wp2_with fail
    go_end0
    rw [← hW8]
    exact ⟨rfl, _, FIN.out.1, FIN.out.2.1, FIN.out.2.2.1, fun k hk => (FIN.out.2.2.2.1 k hk).imp id (fun e => Nat.le_trans HSZ.out e), BT.out.trans FIN.out.2.2.2.2⟩

set_option maxHeartbeats 2000000 in
set_option maxRecDepth 100000 in
theorem put_first (b ms mi mp mh ml p cs cp ch cl : Nat) (x y : List UInt8) (se sa wd fl tp sm nu pl nu' pl0 T V : Int) (lv : Value) (K : ByteArray) (w : World) (h : HdB b ms mi mp se sa wd fl tp sm nu pl w) (hs : MapIs ms [] cs w) (hp : MapIsJ mp [] cp w) (hx : IxB mi mh ml (.slice none 0 0) w) (hmh : MapIs mh [] ch w) (hml : MapIsJ ml [] cl w) (sb : SrB p lv K nu' pl0 (.slice none 0 0) w) (rl : Rd w 2 lv 1 (prc [⟨x, y⟩])) (ne : HdNe b ms mi mp mh ml p) (hlv : ∀ k, lv.ownBlock = some k → ¬ HdS b ms mi mp mh ml p k) (hpl : 0 ≤ pl ∧ pl ≤ 1000000) (hsm : 0 ≤ sm ∧ sm ≤ 10000000) :
    Calls Tryd.prog 18 #[.pointer (some ⟨b, 0, none⟩), .pointer (some ⟨p, 0, none⟩), .agg #[.int .i64 T, .int .u64 V]] w fun e w' => e = .returned (.tuple #[]) ∧ ∃ v', HdB b ms mi mp se sa wd fl (max tp T) (sm + 1) nu (pl + 1) w' ∧ MapIs ms [⟨K, .pointer (some ⟨p, 0, none⟩), cs⟩] (cs + 1) w' ∧ SrB p lv K nu' (pl + 1) v' w' ∧ Sl w' w.heap.size 2 v' 1 [.int .i64 T, .int .u64 V] ∧ Turn (HdS b ms mi mp mh ml p) w w' := by
  obtain ⟨i0, hi, hz0, hz1, hz2⟩ := info_parts sm_info
  have Hz := Lib.hid hz0; have Hs := Lib.hid hz1; have Hb := Lib.hid hz2; have Hi := Lib.hid hi
  clear hz0 hz1 hz2 hi
  obtain ⟨hsm1, hsm2⟩ := hsm
  obtain ⟨w0, hw0⟩ : ∃ w0, w0 = w.alloc (.cells #[.int .i64 T, .int .u64 V] 43) := ⟨_, rfl⟩
  have b0 : Below w.heap.size w w0 := by rw [hw0]; exact (Below.refl _ _).alloc (Nat.le_refl _) _
  have lb := hdB_lt h
  have lp := srB_lt sb
  have lms := mapIs_lt hs
  have lmp := mapIsJ_lt hp
  have lmi : mi < w.heap.size := (Array.getElem?_eq_some_iff.1 hx.box).1
  have lmh := mapIs_lt hmh
  have lml := mapIsJ_lt hml
  have H0 : HdB b ms mi mp se sa wd fl tp sm nu pl w0 := (b0.block b lb).trans h
  have S0 : SrB p lv K nu' pl0 (.slice none 0 0) w0 := (b0.block p lp).trans sb
  have X0 : w0.heap[w.heap.size]? = some (.cells #[.int .i64 T, .int .u64 V] 43) := by rw [hw0]; exact heap_alloc_new _ _
  have z0 : w.heap.size < w0.heap.size := by rw [hw0]; simp
  have EN := Lib.hid (enter_first b ms mi mp mh ml p cs cp ch cl x y se sa wd fl tp sm nu pl nu' pl0 lv (.slice none 0 0) K w0 H0 (Below.mapIs b0 hs) (Below.mapIsJ b0 hp) ⟨(b0.block mi lmi).trans hx.box, hx.bh, hx.bl, hx.hl⟩ (Below.mapIs b0 hmh) (Below.mapIsJ b0 hml) S0 (rl.on b0) ne hlv hpl)
  have c4 : w0.cell? ⟨p, 4, none⟩ = some (.slice none 0 0) := Lib.cell_of_heap S0 4
  have BT := Lib.hid (Turn.of_below (S := HdS b ms mi mp mh ml p) b0)
  have hxS : ¬ HdS b ms mi mp mh ml p w.heap.size := fun e => by unfold HdS at e; omega
  have hbp := ne.bp
  have hmsS : ms ≠ b ∧ ms ≠ p := ⟨fun e => ne.bms e.symm, fun e => ne.pms e.symm⟩
  clear h hs hp hx hmh hml sb rl ne hlv H0 S0 b0 hpl
  go_enter Tryd.func18, Tryd.ntmps18
  go_upto_region 1 with fail
  rw [← hw0]
  clear hw0
  go_wp2_with fail
  refine EN.out.mono ?_
  rintro e w1 ⟨rfl, H1, M1, S1, t1⟩
  have X1 : w1.heap[w.heap.size]? = some (.cells #[.int .i64 T, .int .u64 V] 43) := (t1.block w.heap.size z0 hxS).trans X0
  have z1 := t1.size
  have PW := Lib.hid (fun v' w5 (hx : Ext w.heap.size 2 ((w1.alloc (.cells #[.int .i64 T, .int .u64 V] 43)).drew) (.slice none 0 0) 0 [] w5 v' (0 + 1) ([] ++ [.int .i64 T, .int .u64 V])) => put_w w.heap.size b p w.heap.size ms mi mp 0 [] se sa wd fl tp sm nu (pl + 1) nu' (pl + 1) T V lv (.slice none 0 0) v' K w1 w5 H1 S1 X1 hbp (by omega) (by omega) (fun k hk => by cases hk) hx)
  have MS := Lib.hid (fun W8 (t8 : Turn (fun k => k = b ∨ k = p ∨ (Value.slice none 0 0).ownBlock = some k) w1 W8) => (show MapIs ms [⟨K, .pointer (some ⟨p, 0, none⟩), cs⟩] (cs + 1) W8 ∧ Turn (HdS b ms mi mp mh ml p) w W8 from
    ⟨(t8.block ms (mapIs_lt M1) (fun e => by rcases e with e | e | e; exact hmsS.1 e; exact hmsS.2 e; cases e)).trans M1, BT.out.trans (t1.trans (t8.mono (fun k hk => by rcases hk with e | e | e; exact .inl e; exact .inr (.inl e); cases e)))⟩))
  have d4 : w1.cell? ⟨p, 4, none⟩ = some (.slice none 0 0) := Lib.cell_of_heap S1 4
  have d4' : (w1.alloc (.cells #[.int .i64 T, .int .u64 V] 43)).cell? ⟨p, 4, none⟩ = some (.slice none 0 0) := Lib.cell_of_heap (kept_alloc S1) 4
  have x0 : w1.cell? ⟨w.heap.size, 0, none⟩ = some (.int .i64 T) := Lib.cell_of_heap X1 0
  have x1 : w1.cell? ⟨w.heap.size, 1, none⟩ = some (.int .u64 V) := Lib.cell_of_heap X1 1
  have ownY : Sl ((w1.alloc (.cells #[.int .i64 T, .int .u64 V] 43)).drew) w.heap.size 2 (.slice none 0 0) 0 [] := Sl.nil _ _ _
  have n3 : w.heap.size ≤ ((w1.alloc (.cells #[.int .i64 T, .int .u64 V] 43)).drew).heap.size := by
    show w.heap.size ≤ (w1.alloc (.cells #[.int .i64 T, .int .u64 V] 43)).heap.size
    simp
    omega
  clear c4 EN X0 X1 H1 M1 S1 t1 BT
  go_wp2_with fail
  go_region_law (refine step_append_sl rfl _ _ 74 rfl w.heap.size 43 i0 (.agg #[.int .i64 0, .int .u64 0]) 2 16 Tryd.underlying74 Hi.out Hz.out Hs.out Hb.out rfl (by decide) _ 0 [] rfl ownY ⟨w1.heap.size, 0, none⟩ 1 1 [.int .i64 T, .int .u64 V] rfl rfl (sm_lit w1 T V) (by simp [Value.oneCell']) (by decide) (by decide) n3 ?_; intro v' w5 hx5; obtain ⟨W6, W7, W8, hW6, hW7, hW8, ⟨p1, pf1⟩, ⟨q1, qf1⟩, ⟨r1, rf1, r2⟩, FIN⟩ := PW.out v' w5 hx5; have FIN := Lib.hid FIN; obtain ⟨a5, c5, rfl⟩ := hx5.now.slice)
  all_goals
    rw [← hW6]
    clear hW6 p1 pf1 d4 d4' x0 x1 ownY
    go_wp2_with fail
    rw [← hW7]
    clear hW7 q1 qf1
    go_region
    go_wp2_with fail
    go_end0
    rw [← hW8]
    exact ⟨rfl, _, FIN.out.1, (MS.out _ FIN.out.2.2.2.2).1, FIN.out.2.1, FIN.out.2.2.1, (MS.out _ FIN.out.2.2.2.2).2⟩
end Go.Proofs.YthgpnjkabpfccaaDoor
