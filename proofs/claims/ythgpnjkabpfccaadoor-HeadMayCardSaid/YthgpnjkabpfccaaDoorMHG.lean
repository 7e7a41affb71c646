/- Layer 15: a series entered. -/
import Derived.Test.YthgpnjkabpfccaaDoorMHF
namespace Go.Proofs.YthgpnjkabpfccaaDoor
open Go.RowKit Go.Lib

theorem hd_set {b ms mi mp : Nat} {se sa wd fl tp sm nu pl : Int} {W : World} (h : HdB b ms mi mp se sa wd fl tp sm nu pl W) (x : Int) : HdB b ms mi mp se sa wd fl tp sm nu x (W.setCell ⟨b, 10, none⟩ (.int .i64 x)) ∧ HdB b ms mi mp se sa wd fl tp sm x pl (W.setCell ⟨b, 6, none⟩ (.int .i64 x)) ∧ HdB b ms mi mp se sa wd fl tp x nu pl (W.setCell ⟨b, 5, none⟩ (.int .i64 x)) ∧ HdB b ms mi mp se sa wd fl x sm nu pl (W.setCell ⟨b, 4, none⟩ (.int .i64 x)) := by
  have h1 := heap_setCell_same W b 10 _ _ (.int .i64 x) h
  have h2 := heap_setCell_same W b 6 _ _ (.int .i64 x) h
  have h3 := heap_setCell_same W b 5 _ _ (.int .i64 x) h
  have h4 := heap_setCell_same W b 4 _ _ (.int .i64 x) h
  refine ⟨?_, ?_, ?_, ?_⟩
  · rw [HdB, h1]; rfl
  · rw [HdB, h2]; rfl
  · rw [HdB, h3]; rfl
  · rw [HdB, h4]; rfl
theorem sr_set {p : Nat} {lv : Value} {K : ByteArray} {nu pl : Int} {sv : Value} {W : World} (h : SrB p lv K nu pl sv W) (x : Int) (v : Value) : SrB p lv K nu x sv (W.setCell ⟨p, 3, none⟩ (.int .i64 x)) ∧ SrB p lv K x pl sv (W.setCell ⟨p, 2, none⟩ (.int .i64 x)) ∧ SrB p lv K nu pl v (W.setCell ⟨p, 4, none⟩ v) := by
  have h1 := heap_setCell_same W p 3 _ _ (.int .i64 x) h
  have h2 := heap_setCell_same W p 2 _ _ (.int .i64 x) h
  have h3 := heap_setCell_same W p 4 _ _ v h
  refine ⟨?_, ?_, ?_⟩
  · rw [SrB, h1]; rfl
  · rw [SrB, h2]; rfl
  · rw [SrB, h3]; rfl
theorem st_ser (w : World) (ms cs : Nat) (k : ByteArray) (v : Value) (h : MapIs ms [] cs w) : (Instr.mapUpdate 31 (.map (some ms)) (.string k) v).run Tryd.prog w = .ok () (World.putMap w ms [⟨k, v, cs⟩] (cs + 1)) :=
  run_store (P := Tryd.prog) Tryd.underlying31 Tryd.underlying9 h k v
theorem st_pla (w : World) (mp cp : Nat) (k : Int) (v : Value) (h : MapIsJ mp [] cp w) : (Instr.mapUpdate 34 (.map (some mp)) (.int .i64 k) v).run Tryd.prog w = .ok () (World.putMapJ w mp [⟨k, v, cp⟩] (cp + 1)) :=
  run_storeJ (P := Tryd.prog) Tryd.underlying34 Tryd.underlying3 h k v

theorem Rd.turnT {S : Nat → Prop} {w w' : World} {size n : Nat} {v : Value} {xs : List Value} (h : Rd w size v n xs) (t : Turn S w w') (hv : ∀ k, v.ownBlock = some k → ¬ S k) : Rd w' size v n xs := by
  obtain ⟨h0, a, cap, g, off, rfl, h1, h2⟩ := h
  refine ⟨h0, a, cap, g, off, rfl, fun hn => ⟨(h1 hn).1, Nat.lt_of_lt_of_le (h1 hn).2 t.size⟩, fun j hj => ?_⟩
  have hn : 0 < n := by
    rcases Nat.eq_zero_or_pos n with e | e
    · subst e; omega
    · exact e
  obtain ⟨rfl, hg⟩ := h1 hn
  exact (t.cell (p := ⟨g, off + j, none⟩) hg (hv g rfl)).trans (h2 j hj)
/-- The blocks of a head. -/
def HdS (b ms mi mp mh ml p : Nat) : Nat → Prop := fun k => k = b ∨ k = p ∨ k = ms ∨ k = mp ∨ k = mi ∨ k = mh ∨ k = ml
structure HdNe (b ms mi mp mh ml p : Nat) : Prop where
  bp : b ≠ p
  bms : b ≠ ms
  bmp : b ≠ mp
  bmi : b ≠ mi
  bmh : b ≠ mh
  bml : b ≠ ml
  pms : p ≠ ms
  pmp : p ≠ mp
  pmi : p ≠ mi
  pmh : p ≠ mh
  pml : p ≠ ml
  smp : ms ≠ mp
  smi : ms ≠ mi
  smh : ms ≠ mh
  sml : ms ≠ ml
  pi : mp ≠ mi
  ph : mp ≠ mh
  pl : mp ≠ ml

/-- What is there behind the first four stores. -/
theorem entered_w (b ms mi mp mh ml p cs cp ch cl : Nat) (x y : List UInt8) (se sa wd fl tp sm nu pl nu' pl0 : Int) (lv sv : Value) (K : ByteArray) (w : World) (h : HdB b ms mi mp se sa wd fl tp sm nu pl w) (hs : MapIs ms [] cs w) (hp : MapIsJ mp [] cp w) (hx : IxB mi mh ml (.slice none 0 0) w) (hmh : MapIs mh [] ch w) (hml : MapIsJ ml [] cl w) (sb : SrB p lv K nu' pl0 sv w) (rl : Rd w 2 lv 1 (prc [⟨x, y⟩])) (ne : HdNe b ms mi mp mh ml p) (hlv : ∀ k, lv.ownBlock = some k → ¬ HdS b ms mi mp mh ml p k) :
    ∃ W2 W3 W4, W2 = (w.setCell ⟨b, 10, none⟩ (.int .i64 (pl + 1))).setCell ⟨p, 3, none⟩ (.int .i64 (pl + 1)) ∧ ((w.setCell ⟨b, 10, none⟩ (.int .i64 (pl + 1))).cell? ⟨b, 10, none⟩ = some (.int .i64 (pl + 1)) ∧ (w.setCell ⟨b, 10, none⟩ (.int .i64 (pl + 1))).frozen? ⟨p, 3, none⟩ = false ∧ (w.setCell ⟨b, 10, none⟩ (.int .i64 (pl + 1))).cell? ⟨p, 3, none⟩ = some (.int .i64 pl0)) ∧
      (W2.cell? ⟨b, 7, none⟩ = some (.map (some ms)) ∧ W2.cell? ⟨p, 1, none⟩ = some (.string K)) ∧ (Instr.mapUpdate 31 (.map (some ms)) (.string K) (.pointer (some ⟨p, 0, none⟩))).run Tryd.prog W2.drew = .ok () W3 ∧
      (W3.cell? ⟨b, 9, none⟩ = some (.map (some mp)) ∧ W3.cell? ⟨p, 3, none⟩ = some (.int .i64 (pl + 1))) ∧ (Instr.mapUpdate 34 (.map (some mp)) (.int .i64 (pl + 1)) (.pointer (some ⟨p, 0, none⟩))).run Tryd.prog W3.drew = .ok () W4 ∧
      (W4.cell? ⟨b, 8, none⟩ = some (.pointer (some ⟨mi, 0, none⟩)) ∧ W4.cell? ⟨p, 3, none⟩ = some (.int .i64 (pl + 1)) ∧ W4.cell? ⟨p, 0, none⟩ = some lv) ∧
      HdB b ms mi mp se sa wd fl tp sm nu (pl + 1) W4 ∧ MapIs ms [⟨K, .pointer (some ⟨p, 0, none⟩), cs⟩] (cs + 1) W4 ∧ IxB mi mh ml (.slice none 0 0) W4 ∧ MapIs mh [] ch W4 ∧ MapIsJ ml [] cl W4 ∧ SrB p lv K nu' (pl + 1) sv W4 ∧ Rd W4 2 lv 1 (prc [⟨x, y⟩]) ∧ Turn (HdS b ms mi mp mh ml p) w W4 := by
  have lb := hdB_lt h
  have lp := srB_lt sb
  have lms := mapIs_lt hs
  have lmp := mapIsJ_lt hp
  have lmi : mi < w.heap.size := (Array.getElem?_eq_some_iff.1 hx.box).1
  have lmh := mapIs_lt hmh
  have lml := mapIsJ_lt hml
  obtain ⟨W1, hW1⟩ : ∃ W1, W1 = w.setCell ⟨b, 10, none⟩ (.int .i64 (pl + 1)) := ⟨_, rfl⟩
  have t1 : Turn (fun k => k = b) w W1 := by rw [hW1]; exact (Turn.refl _ w).setCell _ _ rfl
  have H1 : HdB b ms mi mp se sa wd fl tp sm nu (pl + 1) W1 := by rw [hW1]; exact (hd_set h (pl + 1)).1
  have z1 := t1.size
  have sb1 : SrB p lv K nu' pl0 sv W1 := (t1.block p lp (fun e => ne.bp e.symm)).trans sb
  obtain ⟨W2, hW2⟩ : ∃ W2, W2 = W1.setCell ⟨p, 3, none⟩ (.int .i64 (pl + 1)) := ⟨_, rfl⟩
  have t2 : Turn (fun k => k = p) W1 W2 := by rw [hW2]; exact (Turn.refl _ W1).setCell _ _ rfl
  have z2 := t2.size
  have sb2 : SrB p lv K nu' (pl + 1) sv W2 := by rw [hW2]; exact (sr_set sb1 (pl + 1) sv).1
  have H2 : HdB b ms mi mp se sa wd fl tp sm nu (pl + 1) W2 := (t2.block b (by omega) ne.bp).trans H1
  have t02 : Turn (fun k => k = b ∨ k = p) w W2 := (t1.mono (fun k hk => .inl hk)).trans (t2.mono (fun k hk => .inr hk))
  have hs2 : MapIs ms [] cs W2.drew := (t02.block ms lms (fun e => by rcases e with e | e; exact ne.bms e.symm; exact ne.pms e.symm)).trans hs
  have u3 := st_ser W2.drew ms cs K (.pointer (some ⟨p, 0, none⟩)) hs2
  obtain ⟨W3, hW3⟩ : ∃ W3, W3 = World.putMap W2.drew ms [⟨K, .pointer (some ⟨p, 0, none⟩), cs⟩] (cs + 1) := ⟨_, rfl⟩
  have t3 : Turn (fun k => k = ms) W2 W3 := by rw [hW3]; exact (Turn.refl _ W2).drew.trans (turn_put (S := fun i => i = ms) rfl _ _)
  have z3 := t3.size
  have M3 : MapIs ms [⟨K, .pointer (some ⟨p, 0, none⟩), cs⟩] (cs + 1) W3 := by rw [hW3]; exact mapIs_put (w := W2.drew) (mapIs_lt hs2) _ _
  have H3 : HdB b ms mi mp se sa wd fl tp sm nu (pl + 1) W3 := (t3.block b (by omega) ne.bms).trans H2
  have sb3 : SrB p lv K nu' (pl + 1) sv W3 := (t3.block p (by omega) ne.pms).trans sb2
  have t03 : Turn (fun k => k = b ∨ k = p ∨ k = ms) w W3 := (t02.mono (fun k hk => by rcases hk with e | e; exact .inl e; exact .inr (.inl e))).trans (t3.mono (fun k hk => .inr (.inr hk)))
  have hp3 : MapIsJ mp [] cp W3.drew := (t03.block mp lmp (fun e => by rcases e with e | e | e; exact ne.bmp e.symm; exact ne.pmp e.symm; exact ne.smp e.symm)).trans hp
  have u4 := st_pla W3.drew mp cp (pl + 1) (.pointer (some ⟨p, 0, none⟩)) hp3
  obtain ⟨W4, hW4⟩ : ∃ W4, W4 = World.putMapJ W3.drew mp [⟨pl + 1, .pointer (some ⟨p, 0, none⟩), cp⟩] (cp + 1) := ⟨_, rfl⟩
  have t4 : Turn (fun k => k = mp) W3 W4 := by rw [hW4]; exact (Turn.refl _ W3).drew.trans (turn_putJ (S := fun i => i = mp) rfl _ _)
  have H4 : HdB b ms mi mp se sa wd fl tp sm nu (pl + 1) W4 := (t4.block b (by omega) ne.bmp).trans H3
  have sb4 : SrB p lv K nu' (pl + 1) sv W4 := (t4.block p (by omega) ne.pmp).trans sb3
  have M4 : MapIs ms [⟨K, .pointer (some ⟨p, 0, none⟩), cs⟩] (cs + 1) W4 := (t4.block ms (by omega) ne.smp).trans M3
  have t04 : Turn (fun k => k = b ∨ k = p ∨ k = ms ∨ k = mp) w W4 := (t03.mono (fun k hk => by rcases hk with e | e | e; exact .inl e; exact .inr (.inl e); exact .inr (.inr (.inl e)))).trans (t4.mono (fun k hk => .inr (.inr (.inr hk))))
  have T04 : Turn (HdS b ms mi mp mh ml p) w W4 := t04.mono (fun k hk => by rcases hk with e | e | e | e; exact .inl e; exact .inr (.inl e); exact .inr (.inr (.inl e)); exact .inr (.inr (.inr (.inl e))))
  have X4 : IxB mi mh ml (.slice none 0 0) W4 := ⟨(t04.block mi lmi (fun e => by rcases e with e | e | e | e; exact ne.bmi e.symm; exact ne.pmi e.symm; exact ne.smi e.symm; exact ne.pi e.symm)).trans hx.box, hx.bh, hx.bl, hx.hl⟩
  have mh4 : MapIs mh [] ch W4 := (t04.block mh lmh (fun e => by rcases e with e | e | e | e; exact ne.bmh e.symm; exact ne.pmh e.symm; exact ne.smh e.symm; exact ne.ph e.symm)).trans hmh
  have ml4 : MapIsJ ml [] cl W4 := (t04.block ml lml (fun e => by rcases e with e | e | e | e; exact ne.bml e.symm; exact ne.pml e.symm; exact ne.sml e.symm; exact ne.pl e.symm)).trans hml
  rw [← hW3] at u3
  rw [← hW4] at u4
  refine ⟨W2, W3, W4, by rw [hW2, hW1], ?_, ⟨Lib.cell_of_heap H2 7, Lib.cell_of_heap sb2 1⟩, u3, ⟨Lib.cell_of_heap H3 9, Lib.cell_of_heap sb3 3⟩, u4, ⟨Lib.cell_of_heap H4 8, Lib.cell_of_heap sb4 3, Lib.cell_of_heap sb4 0⟩, H4, M4, X4, mh4, ml4, sb4, rl.turnT T04 hlv, T04⟩
  rw [← hW1]
  exact ⟨Lib.cell_of_heap H1 10, Lib.frozen_of_heap sb1 3, Lib.cell_of_heap sb1 3⟩

set_option maxHeartbeats 2000000 in
set_option maxRecDepth 100000 in
theorem enter_first (b ms mi mp mh ml p cs cp ch cl : Nat) (x y : List UInt8) (se sa wd fl tp sm nu pl nu' pl0 : Int) (lv sv : Value) (K : ByteArray) (w : World) (h : HdB b ms mi mp se sa wd fl tp sm nu pl w) (hs : MapIs ms [] cs w) (hp : MapIsJ mp [] cp w) (hx : IxB mi mh ml (.slice none 0 0) w) (hmh : MapIs mh [] ch w) (hml : MapIsJ ml [] cl w) (sb : SrB p lv K nu' pl0 sv w) (rl : Rd w 2 lv 1 (prc [⟨x, y⟩])) (ne : HdNe b ms mi mp mh ml p) (hlv : ∀ k, lv.ownBlock = some k → ¬ HdS b ms mi mp mh ml p k) (hpl : 0 ≤ pl ∧ pl ≤ 1000000) :
    Calls Tryd.prog 28 #[.pointer (some ⟨b, 0, none⟩), .pointer (some ⟨p, 0, none⟩)] w fun e w' => e = .returned (.tuple #[]) ∧ HdB b ms mi mp se sa wd fl tp sm nu (pl + 1) w' ∧ MapIs ms [⟨K, .pointer (some ⟨p, 0, none⟩), cs⟩] (cs + 1) w' ∧ SrB p lv K nu' (pl + 1) sv w' ∧ Turn (HdS b ms mi mp mh ml p) w w' := by
  have a10 : w.cell? ⟨b, 10, none⟩ = some (.int .i64 pl) := Lib.cell_of_heap h 10
  have f10 := Lib.frozen_of_heap h 10
  obtain ⟨W2, W3, W4, hW2, ⟨d0, d1, d2⟩, ⟨e0, e1⟩, u3, ⟨g0, g1⟩, u4, ⟨k0, k1, k2⟩, H4, M4, X4, mh4, ml4, sb4, rl4, t4⟩ := entered_w b ms mi mp mh ml p cs cp ch cl x y se sa wd fl tp sm nu pl nu' pl0 lv sv K w h hs hp hx hmh hml sb rl ne hlv
  have hmiS : ∀ k, k = mi ∨ k = mh ∨ k = ml → HdS b ms mi mp mh ml p k := fun k hk => by
    rcases hk with e | e | e
    · exact .inr (.inr (.inr (.inr (.inl e))))
    · exact .inr (.inr (.inr (.inr (.inr (.inl e)))))
    · exact .inr (.inr (.inr (.inr (.inr (.inr e)))))
  have ADD := add_first mi mh ml ch cl (pl + 1) x y lv W4.drew ⟨X4.box, X4.bh, X4.bl, X4.hl⟩ mh4 ml4 rl4 (fun k hk e => hlv k hk (hmiS k (.inl e)))
  have FIN := Lib.hid (fun W5 (t5 : Turn (fun k => k = mi ∨ k = mh ∨ k = ml) W4.drew W5) => (show HdB b ms mi mp se sa wd fl tp sm nu (pl + 1) W5 ∧ MapIs ms [⟨K, .pointer (some ⟨p, 0, none⟩), cs⟩] (cs + 1) W5 ∧ SrB p lv K nu' (pl + 1) sv W5 ∧ Turn (HdS b ms mi mp mh ml p) w W5 from
    ⟨(t5.block b (hdB_lt H4) (fun e => by rcases e with e | e | e; exact ne.bmi e; exact ne.bmh e; exact ne.bml e)).trans H4, (t5.block ms (mapIs_lt M4) (fun e => by rcases e with e | e | e; exact ne.smi e; exact ne.smh e; exact ne.sml e)).trans M4, (t5.block p (srB_lt sb4) (fun e => by rcases e with e | e | e; exact ne.pmi e; exact ne.pmh e; exact ne.pml e)).trans sb4, t4.trans ((Turn.refl _ W4).drew.trans (t5.mono hmiS))⟩))
  have ADD := Lib.hid ADD
  obtain ⟨hpl1, hpl2⟩ := hpl
  clear h hs hp hx hmh hml sb rl ne hlv H4 M4 X4 mh4 ml4 sb4 rl4 t4 hmiS
  go_enter Tryd.func28, Tryd.ntmps28
  go_wp2_with fail
  rw [← hW2]
  clear hW2 a10 f10 d0 d1 d2
  go_region
  go_wp2_with fail
  go_region
  go_wp2_with fail
  go_region_law (go_simp; go_at_call 42; refine ADD.out.mono ?_; rintro e w5 ⟨rfl, va, mi', c1, c2, vl, _, _, _, _, _, _, t5⟩)
  all_goals go_wp2_with fail
  all_goals go_end0
  all_goals exact ⟨rfl, FIN.out _ t5⟩
end Go.Proofs.YthgpnjkabpfccaaDoor
