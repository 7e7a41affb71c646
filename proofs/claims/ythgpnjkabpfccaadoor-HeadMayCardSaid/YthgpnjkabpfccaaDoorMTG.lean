/- Layer 12: the first series; the first known answers. -/
import Derived.Test.YthgpnjkabpfccaaDoorMTF
namespace Go.Proofs.YthgpnjkabpfccaaDoor
open Go.RowKit Go.Lib

set_option maxHeartbeats 2000000 in
set_option maxRecDepth 100000 in
theorem add_first (b mh ml ch cl : Nat) (n : Int) (x y : List UInt8) (sv : Value) (w : World) (h : IxB b mh ml (.slice none 0 0) w) (hmh : MapIs mh [] ch w) (hml : MapIsJ ml [] cl w) (hs : Rd w 2 sv 1 (prc [⟨x, y⟩])) (hne : ∀ k, sv.ownBlock = some k → k ≠ b) :
    Calls Tryd.prog 42 #[.pointer (some ⟨b, 0, none⟩), .int .i64 n, sv] w fun e w' => e = .returned (.tuple #[]) ∧ ∃ va mi c1 c2 vl, w.heap.size ≤ mi ∧ IxB b mh ml va w' ∧ MapIs mh [⟨bs x, .map (some mi), ch⟩] c1 w' ∧ MapIs mi [⟨bs y, vl, 0⟩] c2 w' ∧ Nc w' va [n] ∧ Nc w' vl [n] ∧ Turn (fun k => k = b ∨ k = mh ∨ k = ml) w w' := by
  have hbw : b < w.heap.size := (Array.getElem?_eq_some_iff.1 h.box).1
  have hmw := mapIs_lt hmh
  have hlw := mapIsJ_lt hml
  have c0 : w.cell? ⟨b, 0, none⟩ = some (.slice none 0 0) := Lib.cell_of_heap h.box 0
  obtain ⟨_, sa, sc, sg, so, rfl, hsg, hsc⟩ := hs
  obtain ⟨rfl, hsw⟩ := hsg (by omega)
  have v0 : w.cell? ⟨sg, so, none⟩ = some (.string (bs x)) := hsc 0 (by omega)
  have v1 : w.cell? ⟨sg, so + 1, none⟩ = some (.string (bs y)) := hsc 1 (by omega)
  have hsb : sg ≠ b := hne sg rfl
  clear hsg hsc hne
  go_enter Tryd.func42, Tryd.ntmps42
  go_wp2_with fail
  refine (with_nil n _).mono ?_
  rintro e w1 ⟨va, rfl, s1, b1⟩
  obtain ⟨a1, k1, e1⟩ := s1.slice
  have e1 : va = .slice a1 1 k1 := e1
  subst e1
  have z1 := b1.size
  have c01 := (b1.cell (p := ⟨b, 0, none⟩) hbw).trans c0
  have f01 := (b1.frozen (p := ⟨b, 0, none⟩) hbw).trans (Lib.frozen_of_heap h.box 0)
  obtain ⟨W2, hW2⟩ : ∃ W2, W2 = w1.setCell ⟨b, 0, none⟩ (.slice a1 1 k1) := ⟨_, rfl⟩
  have t2 : Turn (fun k => k = b) w W2 := by rw [hW2]; exact (Turn.of_below b1).setCell _ _ rfl
  have bx : W2.heap[b]? = some (.cells #[.slice a1 1 k1, .map (some mh), .map (some ml)] 58) := by
    have := heap_setCell_same w1 b 0 _ _ (.slice a1 1 k1) ((b1.block b hbw).trans h.box)
    rw [hW2, this]; rfl
  have sa2 : Sl W2 w.heap.size 1 (.slice a1 1 k1) 1 (ic [n]) := by rw [hW2]; exact sl_else s1 _ _ (by show b < w.heap.size; exact hbw)
  have u0 := (t2.cell (p := ⟨sg, so, none⟩) hsw hsb).trans v0
  have u1 := (t2.cell (p := ⟨sg, so + 1, none⟩) hsw hsb).trans v1
  have h2 := hmh.turn t2 (fun e => h.bh e.symm)
  have l2 := hml.turn t2 (fun e => h.bl e.symm)
  have z2 := t2.size
  obtain ⟨P, hP⟩ : ∃ P : Obj, P = .cells #[.string (bs x), .string (bs y)] 65 := ⟨_, rfl⟩
  have tP : Turn (fun _ => False) W2 (W2.alloc P) := (Turn.refl _ W2).alloc P
  have zP : (W2.alloc P).heap.size = W2.heap.size + 1 := by simp
  have AP := Lib.hid (addp_first b mh ml ch cl (.slice a1 1 k1) n x y (W2.alloc P) ⟨(tP.block b (by omega) id).trans bx, h.bh, h.bl, h.hl⟩ (h2.turn tP id) (l2.turn tP id))
  rw [hP] at AP
  have HBX := Lib.hid bx
  have HSA := Lib.hid sa2
  have HT := Lib.hid t2
  have hsz2 : sg < W2.heap.size := by omega
  clear s1 b1 c0 v0 v1 h2 l2 sa2 bx
  go_wp2_with fail
  go_loopw [19] (fun i' wr => (i' = .int .i64 0 ∧ W2 = wr) ∨ (i' = .int .i64 1 ∧ Hid (∃ va mi c1 c2 vl, w.heap.size ≤ mi ∧ IxB b mh ml va wr ∧ MapIs mh [⟨bs x, .map (some mi), ch⟩] c1 wr ∧ MapIs mi [⟨bs y, vl, 0⟩] c2 wr ∧ Nc wr va [n] ∧ Nc wr vl [n] ∧ Turn (fun k => k = b ∨ k = mh ∨ k = ml) w wr))) (fun i' _ => 1 - (RowKit.intOf i').toNat)
  case atStart => exact .inl ⟨rfl, hW2⟩
  case round =>
    rcases hrel with ⟨rfl, rfl⟩ | ⟨rfl, hf⟩
    · clear hW2
      go_wp2_with fail
      refine AP.out.mono ?_
      rintro e w3 ⟨rfl, mi, c1, c2, vl, hmi, m1, m2, nl, t3⟩
      have tt : Turn (fun k => k = mh ∨ k = ml) W2 w3 := by
        rw [← hP] at t3
        exact ((Turn.refl _ W2).alloc P).trans t3
      have FF := Lib.hid (show ∃ va mi c1 c2 vl, w.heap.size ≤ mi ∧ IxB b mh ml va w3 ∧ MapIs mh [⟨bs x, .map (some mi), ch⟩] c1 w3 ∧ MapIs mi [⟨bs y, vl, 0⟩] c2 w3 ∧ Nc w3 va [n] ∧ Nc w3 vl [n] ∧ Turn (fun k => k = b ∨ k = mh ∨ k = ml) w w3 from
        ⟨.slice a1 1 k1, mi, c1, c2, vl, by rw [← hP] at hmi; omega, ⟨(tt.block b (by omega) (fun e => e.elim h.bh h.bl)).trans HBX.out, h.bh, h.bl, h.hl⟩, m1, m2, Nc.of_sl (base := w.heap.size) (sl_turnT HSA.out tt (fun k hk e => by have := (HSA.out.lt k hk).1; rcases e with e | e <;> omega)) (by simp), nl, (HT.out.mono (fun k hk => .inl hk)).trans (tt.mono (fun k hk => .inr hk))⟩)
      clear m1 m2 nl t3 tt
      go_wp2
      exact ⟨.inr ⟨rfl, FF.out⟩, by simp [RowKit.intOf]⟩
    · have HF := Lib.hid hf.out
      clear hf hW2
      go_wp2
      go_end0
      exact ⟨rfl, HF.out⟩
end Go.Proofs.YthgpnjkabpfccaaDoor
