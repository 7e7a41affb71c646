/- Layer 12: the first label of an index. -/
import Derived.Test.YtefhnjepocbodaaGreatDoorMU0
import Derived.Carry
namespace Go.Proofs.YtefhnjepocbodaaGreatDoor
open Go.RowKit Go.Lib

/-- An index: its block, and those of its two maps. -/
structure IxB (b mh ml : Nat) (va : Value) (w : World) : Prop where
  box : w.heap[b]? = some (.cells #[va, .map (some mh), .map (some ml)] 77)
  bh : b ≠ mh
  bl : b ≠ ml
  hl : mh ≠ ml
theorem zv_inner (w : World) : (zeroValue 103).run Tryz.prog w = .ok (.map none) w := Tryz.zeroValue103 w
theorem zv_list (w : World) : (zeroValue 39).run Tryz.prog w = .ok (.slice none 0 0) w := Tryz.zeroValue39 w
theorem zv_set (w : World) : (zeroValue 51).run Tryz.prog w = .ok (.slice none 0 0) w := Tryz.zeroValue51 w
theorem mapIs_lt {m clock : Nat} {es : List En} {w : World} (h : MapIs m es clock w) : m < w.heap.size := (Array.getElem?_eq_some_iff.1 h).1
theorem mapIsJ_lt {m clock : Nat} {es : List EnJ} {w : World} (h : MapIsJ m es clock w) : m < w.heap.size := (Array.getElem?_eq_some_iff.1 h).1
theorem lk_h (w : World) (mh ch : Nat) (k : ByteArray) (h : MapIs mh [] ch w) : (Instr.lookup 74 (.map (some mh)) (.string k) false).run Tryz.prog w = .ok (.map none) w :=
  run_look (P := Tryz.prog) Tryz.underlying74 Tryz.underlying9 (.map none) zv_inner h k false
theorem lk_i (w : World) (mi ci : Nat) (k : ByteArray) (h : MapIs mi [] ci w) : (Instr.lookup 103 (.map (some mi)) (.string k) false).run Tryz.prog w = .ok (.slice none 0 0) w :=
  run_look (P := Tryz.prog) Tryz.underlying103 Tryz.underlying9 (.slice none 0 0) zv_list h k false
theorem lk_l (w : World) (ml cl : Nat) (k : Int) (h : MapIsJ ml [] cl w) : (Instr.lookup 75 (.map (some ml)) (.int .i64 k) false).run Tryz.prog w = .ok (.slice none 0 0) w :=
  run_lookJ (P := Tryz.prog) Tryz.underlying75 Tryz.underlying3 (.slice none 0 0) zv_set h k false

theorem run_mapnil (w : World) : (binOp BinOp.eql 103 (.map none) (.map none)).run Tryz.prog w = .ok (.bool true) w := by
  have hu := run_underlying Tryz.underlying103
  have he : (Op.equal 103 (.map none) (.map none)).run Tryz.prog w = .ok true w := by
    show (Op.equalIn (9999 + 1) _ _ _).run _ _ = _
    unfold Op.equalIn
    simp only [Sem.run_bind, hu, Result.andThen]
    rfl
  simp [binOp, go_sem, he]

theorem st_h (w : World) (mh ch : Nat) (k : ByteArray) (v : Value) (h : MapIs mh [] ch w) : (Instr.mapUpdate 74 (.map (some mh)) (.string k) v).run Tryz.prog w = .ok () (World.putMap w mh [⟨k, v, ch⟩] (ch + 1)) :=
  run_store (P := Tryz.prog) Tryz.underlying74 Tryz.underlying9 h k v
theorem st_i (w : World) (mi ci : Nat) (k : ByteArray) (v : Value) (h : MapIs mi [] ci w) : (Instr.mapUpdate 103 (.map (some mi)) (.string k) v).run Tryz.prog w = .ok () (World.putMap w mi [⟨k, v, ci⟩] (ci + 1)) :=
  run_store (P := Tryz.prog) Tryz.underlying103 Tryz.underlying9 h k v
theorem st_l (w : World) (ml cl : Nat) (k : Int) (v : Value) (h : MapIsJ ml [] cl w) : (Instr.mapUpdate 75 (.map (some ml)) (.int .i64 k) v).run Tryz.prog w = .ok () (World.putMapJ w ml [⟨k, v, cl⟩] (cl + 1)) :=
  run_storeJ (P := Tryz.prog) Tryz.underlying75 Tryz.underlying3 h k v
/-- A map in a world whose block is as it was. -/
theorem MapIs.turn {S : Nat → Prop} {m c : Nat} {es : List En} {w w' : World} (h : MapIs m es c w) (t : Turn S w w') (hS : ¬ S m) : MapIs m es c w' := (t.block m (mapIs_lt h) hS).trans h
theorem MapIsJ.turn {S : Nat → Prop} {m c : Nat} {es : List EnJ} {w w' : World} (h : MapIsJ m es c w) (t : Turn S w w') (hS : ¬ S m) : MapIsJ m es c w' := (t.block m (mapIsJ_lt h) hS).trans h

theorem sl_turnT {S : Nat → Prop} {w w' : World} {base size n : Nat} {v : Value} {xs : List Value} (h : Sl w base size v n xs) (t : Turn S w w') (hv : ∀ k, v.ownBlock = some k → ¬ S k) : Sl w' base size v n xs :=
  h.same t.size fun k hk => t.block k (h.lt k hk).2 (hv k hk)
theorem turn_then {S S' : Nat → Prop} {a b c : World} (h : Turn S a b) (k : Turn S' b c) (hs : ∀ i, i < a.heap.size → S' i → S i) : Turn S a c :=
  ⟨k.os.trans h.os, k.tape.trans h.tape, k.output.trans h.output, Nat.le_trans h.size k.size, fun i hi hr => (k.block i (Nat.lt_of_lt_of_le hi h.size) (fun e => hr (hs i hi e))).trans (h.block i hi hr)⟩

set_option maxHeartbeats 2000000 in
set_option maxRecDepth 100000 in
theorem addp_first (b mh ml ch cl : Nat) (va : Value) (n : Int) (x y : List UInt8) (w : World) (h : IxB b mh ml va w) (hmh : MapIs mh [] ch w) (hml : MapIsJ ml [] cl w) :
    Calls Tryz.prog 30 #[.pointer (some ⟨b, 0, none⟩), .int .i64 n, .agg #[.string (bs x), .string (bs y)]] w fun e w' => e = .returned (.tuple #[]) ∧ ∃ mi c1 c2 vl, w.heap.size ≤ mi ∧ MapIs mh [⟨bs x, .map (some mi), ch⟩] c1 w' ∧ MapIs mi [⟨bs y, vl, 0⟩] c2 w' ∧ Nc w' vl [n] ∧ Turn (fun k => k = mh ∨ k = ml) w w' := by
  have hbw : b < w.heap.size := (Array.getElem?_eq_some_iff.1 h.box).1
  have c1 : w.cell? ⟨b, 1, none⟩ = some (.map (some mh)) := Lib.cell_of_heap h.box 1
  have c2 : w.cell? ⟨b, 2, none⟩ = some (.map (some ml)) := Lib.cell_of_heap h.box 2
  obtain ⟨P, hP⟩ : ∃ P : Obj, P = .cells #[.string (bs x), .string (bs y)] 53 := ⟨_, rfl⟩
  have hz1 : (w.alloc P).heap.size = w.heap.size + 1 := by simp
  have hmw := mapIs_lt hmh
  have hlw := mapIsJ_lt hml
  have m1 : MapIs mh [] ch (w.alloc P).drew := (Below.heap_alloc w P mh hmw).trans hmh
  have hl1 := lk_h _ mh ch (bs x) m1
  rw [hP] at hl1 hz1
  go_enter Tryz.func30, Tryz.ntmps30
  go_wp2_with fail
  go_region
  have e1 := fun W => run_mapnil W
  have hmm := @run_makeMap Tryz.prog
  go_wp2_with fail
  rw [← hP] at hz1
  obtain ⟨W2, hW2⟩ : ∃ W2, W2 = ((w.alloc P).alloc (.map #[] 0)).drew := ⟨_, rfl⟩
  have t2 : Turn (fun _ => False) w W2 := by rw [hW2]; exact (((Turn.refl _ w).alloc P).alloc _).drew
  have p2 : W2.heap[w.heap.size]? = some P := by rw [hW2]; exact (Below.heap_alloc _ _ _ (by omega)).trans (heap_alloc_new w P)
  have i2 : MapIs (w.heap.size + 1) [] 0 W2 := by
    have := heap_alloc_new (w.alloc P) (.map #[] 0)
    rw [hz1] at this
    rw [hW2]; exact this
  rw [hP] at hW2 p2
  have s2 : W2.heap.size = w.heap.size + 2 := by rw [hW2, ← hP]; show ((w.alloc P).alloc (.map #[] 0)).heap.size = _; simp
  have h2 := hmh.turn t2 id
  have l2 := hml.turn t2 id
  have b1 := (t2.cell (p := ⟨b, 1, none⟩) hbw id).trans c1
  have b2 := (t2.cell (p := ⟨b, 2, none⟩) hbw id).trans c2
  have p0 : W2.cell? ⟨w.heap.size, 0, none⟩ = some (.string (bs x)) := Lib.cell_of_heap p2 0
  have p1 : W2.cell? ⟨w.heap.size, 1, none⟩ = some (.string (bs y)) := Lib.cell_of_heap p2 1
  rw [← hW2]
  have hst := st_h W2.drew mh ch (bs x) (.map (some (w.heap.size + 1))) h2
  obtain ⟨W3, hW3⟩ : ∃ W3, W3 = World.putMap W2.drew mh [⟨bs x, .map (some (w.heap.size + 1)), ch⟩] (ch + 1) := ⟨_, rfl⟩
  have t3 : Turn (fun k => k = mh) W2 W3 := by rw [hW3]; exact (Turn.refl _ W2).drew.trans (turn_put (S := fun i => i = mh) rfl _ _)
  have h3 : MapIs mh [⟨bs x, .map (some (w.heap.size + 1)), ch⟩] (ch + 1) W3 := by rw [hW3]; exact mapIs_put (w := W2.drew) (mapIs_lt h2) _ _
  rw [← hW3] at hst
  clear hW2 hW3 hP P hl1 m1 hz1 e1 hmm c1 c2
  go_region
  clear hst
  have i3 := i2.turn t3 (by show ¬ w.heap.size + 1 = mh; omega)
  have l3 := l2.turn t3 (fun e => h.hl e.symm)
  have d2 := (t3.cell (p := ⟨b, 2, none⟩) (by show b < W2.heap.size; omega) h.bh).trans b2
  have q0 := (t3.cell (p := ⟨w.heap.size, 0, none⟩) (by show w.heap.size < W2.heap.size; omega) (by show ¬ w.heap.size = mh; omega)).trans p0
  have q1 := (t3.cell (p := ⟨w.heap.size, 1, none⟩) (by show w.heap.size < W2.heap.size; omega) (by show ¬ w.heap.size = mh; omega)).trans p1
  have s3 := t3.size
  have hl3 := lk_i W3 _ _ (bs y) i3
  have T3 := Lib.hid ((t2.mono (S' := fun k => k = mh ∨ k = ml) (fun k hk => hk.elim)).trans (t3.mono (fun k hk => .inl hk)))
  clear b1 b2 p0 p1 p2 h2 l2 i2 t2 t3
  go_wp2_with fail
  refine (with_nil n _).mono ?_
  rintro e w4 ⟨v7, rfl, s7, b7⟩
  obtain ⟨a7, c7, e7⟩ := s7.slice
  have e7 : v7 = .slice a7 1 c7 := e7
  subst e7
  have i4 : MapIs (w.heap.size + 1) [] 0 w4 := (b7.block _ (by omega)).trans i3
  have hl4 := lk_i w4 _ _ (bs y) i4
  have hst := st_i w4 _ _ (bs y) (.slice a7 1 c7) i4
  obtain ⟨W5, hW5⟩ : ∃ W5, W5 = World.putMap w4 (w.heap.size + 1) [⟨bs y, .slice a7 1 c7, 0⟩] (0 + 1) := ⟨_, rfl⟩
  have z7 := b7.size
  have t5 : Turn (fun k => k = w.heap.size + 1) w4 W5 := by rw [hW5]; exact turn_put (S := fun i => i = w.heap.size + 1) rfl _ _
  have h5 : MapIs (w.heap.size + 1) [⟨bs y, .slice a7 1 c7, 0⟩] (0 + 1) W5 := by rw [hW5]; exact mapIs_put (w := w4) (by omega) _ _
  have lx : ∀ k, (Value.slice a7 1 c7).ownBlock = some k → w.heap.size + 2 ≤ k := fun k hk => by have := (s7.lt k hk).1; omega
  have s5 : Sl W5 w.heap.size 1 (.slice a7 1 c7) 1 (ic [n]) := sl_turnT (s7.mono (by omega)) t5 (fun k hk => by have := lx k hk; omega)
  rw [← hW5] at hst
  have q04 := (b7.cell (p := ⟨w.heap.size, 0, none⟩) (by show w.heap.size < W3.heap.size; omega)).trans q0
  have q14 := (b7.cell (p := ⟨w.heap.size, 1, none⟩) (by show w.heap.size < W3.heap.size; omega)).trans q1
  have d24 := (b7.cell (p := ⟨b, 2, none⟩) (by show b < W3.heap.size; omega)).trans d2
  have q05 := (t5.cell (p := ⟨w.heap.size, 0, none⟩) (by show w.heap.size < w4.heap.size; omega) (by show ¬ w.heap.size = w.heap.size + 1; omega)).trans q04
  have q15 := (t5.cell (p := ⟨w.heap.size, 1, none⟩) (by show w.heap.size < w4.heap.size; omega) (by show ¬ w.heap.size = w.heap.size + 1; omega)).trans q14
  have d25 := (t5.cell (p := ⟨b, 2, none⟩) (by show b < w4.heap.size; omega) (by show ¬ b = w.heap.size + 1; omega)).trans d24
  have h35 : MapIs mh [⟨bs x, .map (some (w.heap.size + 1)), ch⟩] (ch + 1) W5 := (h3.turn (Turn.of_below (S := fun _ => False) b7) id).turn t5 (by show ¬ mh = w.heap.size + 1; omega)
  have l5 : MapIsJ ml [] cl W5 := (l3.turn (Turn.of_below (S := fun _ => False) b7) id).turn t5 (by show ¬ ml = w.heap.size + 1; omega)
  have T5 : Turn (fun k => k = mh ∨ k = ml) w W5 := turn_then (T3.out.trans (Turn.of_below b7)) t5 (fun k hk e => by omega)
  have z5 := t5.size
  have e2 : ((1 : Int) == 0) = false := rfl
  have hl5 := lk_l W5.drew ml cl n l5
  obtain ⟨i0, hi, hz0, hz1, hz2⟩ := info_parts zc_pair
  have Hz := Lib.hid hz0; have Hs := Lib.hid hz1; have Hb := Lib.hid hz2; have Hi := Lib.hid hi
  clear hz0 hz1 hz2 hi hW5
  have hbW : b < W5.heap.size := by omega
  have hpW : w.heap.size < W5.heap.size := by omega
  have BA : Below W5.heap.size W5 (W5.alloc (.cells #[.string (bs x), .string (bs y)] 53)).drew := ((Below.refl _ _).alloc (Nat.le_refl _) _).drew
  have KX := Lib.hid (fun W (B : Below W5.heap.size W5 W) => show W.cell? ⟨b, 2, none⟩ = some (.map (some ml)) ∧ W.cell? ⟨w.heap.size, 0, none⟩ = some (.string (bs x)) ∧ W.cell? ⟨w.heap.size, 1, none⟩ = some (.string (bs y)) from ⟨(B.cell (p := ⟨b, 2, none⟩) hbW).trans d25, (B.cell (p := ⟨w.heap.size, 0, none⟩) hpW).trans q05, (B.cell (p := ⟨w.heap.size, 1, none⟩) hpW).trans q15⟩)
  have hl5A := lk_l _ ml cl n (show MapIsJ ml [] cl (W5.alloc (.cells #[.string (bs x), .string (bs y)] 53)).drew from l5.turn (Turn.of_below (S := fun _ => False) BA) id)
  have KJ := Lib.hid (fun W6 (v : Value) (B : Below W5.heap.size W5 W6) => show (World.putMapJ W6 ml [⟨n, v, cl⟩] (cl + 1)).cell? ⟨b, 2, none⟩ = some (.map (some ml)) ∧ (World.putMapJ W6 ml [⟨n, v, cl⟩] (cl + 1)).cell? ⟨w.heap.size, 0, none⟩ = some (.string (bs x)) ∧ (World.putMapJ W6 ml [⟨n, v, cl⟩] (cl + 1)).cell? ⟨w.heap.size, 1, none⟩ = some (.string (bs y)) from by
    have tj : Turn (fun k => k = ml) W6 (World.putMapJ W6 ml [⟨n, v, cl⟩] (cl + 1)) := turn_putJ (S := fun i => i = ml) rfl _ _
    have hb6 := B.size
    obtain ⟨r0, r1, r2⟩ := KX.out W6 B
    exact ⟨(tj.cell (p := ⟨b, 2, none⟩) (by show b < W6.heap.size; omega) h.bl).trans r0, (tj.cell (p := ⟨w.heap.size, 0, none⟩) (by show w.heap.size < W6.heap.size; omega) (by show ¬ w.heap.size = ml; omega)).trans r1, (tj.cell (p := ⟨w.heap.size, 1, none⟩) (by show w.heap.size < W6.heap.size; omega) (by show ¬ w.heap.size = ml; omega)).trans r2⟩)
  have kA := KX.out _ BA
  have k5 := KX.out _ (Below.refl _ _).drew
  have SA := Lib.hid (show Sl (W5.alloc (.cells #[.string (bs x), .string (bs y)] 53)).drew W5.heap.size 2 (.slice (some ⟨W5.heap.size, 0, none⟩) 1 1) 1 (prc [⟨x, y⟩]) from Sl.lit W5 W5.heap.size 2 1 #[.string (bs x), .string (bs y)] _ (Nat.le_refl _) (by decide) rfl)
  have zA : W5.heap.size ≤ (W5.alloc (.cells #[.string (bs x), .string (bs y)] 53)).drew.heap.size := BA.size
  have LM := Lib.hid (fun W v (B : Below W5.heap.size W5 W) => st_l W ml cl n v ((Turn.of_below (S := fun _ => False) B).block ml (mapIsJ_lt l5) id |>.trans l5))
  have FIN := Lib.hid (fun W6 v (B : Below W5.heap.size W5 W6) => show ∃ mi c1 c2 vl, w.heap.size ≤ mi ∧ MapIs mh [⟨bs x, .map (some mi), ch⟩] c1 (World.putMapJ W6 ml [⟨n, v, cl⟩] (cl + 1)) ∧ MapIs mi [⟨bs y, vl, 0⟩] c2 (World.putMapJ W6 ml [⟨n, v, cl⟩] (cl + 1)) ∧ Nc (World.putMapJ W6 ml [⟨n, v, cl⟩] (cl + 1)) vl [n] ∧ Turn (fun k => k = mh ∨ k = ml) w (World.putMapJ W6 ml [⟨n, v, cl⟩] (cl + 1)) from by
    have tj : Turn (fun k => k = ml) W6 (World.putMapJ W6 ml [⟨n, v, cl⟩] (cl + 1)) := turn_putJ (S := fun i => i = ml) rfl _ _
    have tb : Turn (fun _ => False) W5 W6 := Turn.of_below B
    refine ⟨w.heap.size + 1, ch + 1, 1, .slice a7 1 c7, by omega, (h35.turn tb id).turn tj h.hl, (h5.turn tb id).turn tj (by show ¬ w.heap.size + 1 = ml; omega), Nc.of_sl (base := w.heap.size) (sl_turnT (sl_turnT s5 tb (fun k hk e => e)) tj (fun k hk => by have := lx k hk; show ¬ k = ml; omega)) (by simp), (T5.trans (Turn.of_below B)).trans (tj.mono (fun k hk => .inr hk))⟩)
  clear q0 q1 d2 hl3 i3 l3 h3 i4 h35 h5 s5 T5 T3
  go_wp2_with fail
  go_region_held3 (fun W => W.cell? ⟨b, 2, none⟩ = some (.map (some ml)) ∧ W.cell? ⟨w.heap.size, 0, none⟩ = some (.string (bs x)) ∧ W.cell? ⟨w.heap.size, 1, none⟩ = some (.string (bs y)))
    (first | exact k5 | exact kA | exact k6 | exact k7 | assumption | fail)
    (first
      | (refine step_append_sl rfl (.tmp 53) (.tmp 55) 51 rfl W5.heap.size 53 i0 (.agg #[.string ⟨#[]⟩, .string ⟨#[]⟩]) 2 32 Tryz.underlying51 Hi.out Hz.out Hs.out Hb.out rfl (by decide) (.slice none 0 0) 0 [] (by simp [Act.eval]) (Sl.nil _ _ _) ⟨W5.heap.size, 0, none⟩ 1 1 (prc [⟨x, y⟩]) (by simp [Act.eval]) rfl SA.out.cells (prc_one _) (by decide) (by decide) zA ?_; intro v6 w6 x6; have B6 := BA.trans (x6.below (Nat.le_refl _) zA); have k6 := KX.out _ B6; have k7 := KJ.out w6 v6 B6; have L6 := LM.out w6 v6 B6)
      | fail)
  all_goals go_wp2
  all_goals go_end0
  all_goals exact ⟨rfl, FIN.out _ _ B6⟩
end Go.Proofs.YtefhnjepocbodaaGreatDoor
