/- Layer 9: a meta taken. -/
import Derived.Test.YtkhpemfkbdiloaaDoorMA
import Derived.Test.YtkhpemfkbdiloaaDoorU0
namespace Go.Proofs.YtkhpemfkbdiloaaDoor
open Go.RowKit Go.Lib

theorem frozen8 {w : World} {b : Nat} {cs : Array Value} {T : TypeId} (h : w.heap[b]? = some (.cells cs T (0, 0))) : w.frozen? ⟨b, 0, none⟩ = false ∧ w.frozen? ⟨b, 1, none⟩ = false ∧ w.frozen? ⟨b, 2, none⟩ = false ∧ w.frozen? ⟨b, 3, none⟩ = false ∧ w.frozen? ⟨b, 4, none⟩ = false ∧ w.frozen? ⟨b, 5, none⟩ = false ∧ w.frozen? ⟨b, 6, none⟩ = false ∧ w.frozen? ⟨b, 7, none⟩ = false :=
  ⟨Lib.frozen_of_heap h 0, Lib.frozen_of_heap h 1, Lib.frozen_of_heap h 2, Lib.frozen_of_heap h 3, Lib.frozen_of_heap h 4, Lib.frozen_of_heap h 5, Lib.frozen_of_heap h 6, Lib.frozen_of_heap h 7⟩

/-- The answer: a meta, its lists in new memory; the taker in block b is at st'. -/
def MeP (b : Nat) (w : World) (m : Mt.Me) (st' : Mt.St) (e : Ending) (w' : World) : Prop :=
  ∃ vf vs, e = .returned (meV m vf vs) ∧ Tk w' b st' ∧ Sl w' w.heap.size 3 vf m.files.length (flc m.files) ∧ Sl w' w.heap.size 1 vs m.src.length (sc m.src) ∧ Turn (fun k => k = b) w w'

theorem zc_file : (Tryd.prog.info? 50).map (fun i => (i.zero, i.size, i.bytes)) = some (some (.agg #[.string ⟨#[]⟩, .int .i64 0, .int .u32 0]), 3, 32) := by kernel_rfl

theorem turn_shrink {S S' : Nat → Prop} {a b : World} (h : Turn S a b) (hS : ∀ k, k < a.heap.size → S k → S' k) : Turn S' a b :=
  ⟨h.os, h.tape, h.output, h.size, fun i hi hr => h.block i hi fun e => hr (hS i hi e)⟩
theorem turn_of_belowB {B : Nat} {a b : World} (h : Below B a b) : Turn (fun k => B ≤ k) a b := ⟨h.os, h.tape, h.output, h.size, fun i _ hr => h.block i (by omega)⟩

/-- Files, one behind the other. -/
def fls : Nat → Mt.St → List Mt.Fl × Mt.St
  | 0, st => ([], st)
  | n + 1, st => ((fls n st).1 ++ [(Mt.fl (fls n st).2).1], (Mt.fl (fls n st).2).2)
theorem fls_len (st : Mt.St) : ∀ n, (fls n st).1.length = n ∧ (fls n st).2.1.length ≤ st.1.length
  | 0 => ⟨rfl, Nat.le_refl _⟩
  | n + 1 => by
    obtain ⟨h1, h2⟩ := fls_len st n
    exact ⟨by rw [fls, List.length_append, h1]; rfl, Nat.le_trans (fl_len _) h2⟩
theorem txs_snoc : ∀ (n : Nat) (st : Mt.St), Mt.txs (n + 1) st = ((Mt.txs n st).1 ++ [(Mt.tt (Mt.txs n st).2 16).1], (Mt.tt (Mt.txs n st).2 16).2)
  | 0, st => rfl
  | n + 1, st => by
    rw [Mt.txs, txs_snoc n]
    rfl
theorem txs_len (st : Mt.St) : ∀ n, (Mt.txs n st).1.length = n ∧ (Mt.txs n st).2.1.length ≤ st.1.length
  | 0 => ⟨rfl, Nat.le_refl _⟩
  | n + 1 => by
    obtain ⟨h1, h2⟩ := txs_len st n
    rw [txs_snoc]
    exact ⟨by rw [List.length_append, h1]; rfl, Nat.le_trans (tt_len _ _) h2⟩
theorem flc_append (a c : List Mt.Fl) : flc (a ++ c) = flc a ++ flc c := by simp [flc]
theorem flc_one (f : Mt.Fl) : flc [f] = [.string (bs f.name), .int .i64 f.size, .int .u32 f.sum] := rfl
theorem three_cells (w : World) (a b c : Value) (t : TypeId) : ∀ j u, [a, b, c][j]? = some u → (w.alloc (.cells #[a, b, c] t)).cell? ((⟨w.heap.size, 0, none⟩ : Addr).add j) = some u := by
  intro j u hu
  exact (Sl.lit w w.heap.size 3 1 #[a, b, c] t (Nat.le_refl _) (by decide) rfl).cells j u hu

/-- The local box and the taker while a meta is taken. -/
structure MeL (b c sb : Nat) (w w' : World) (m : Mt.Me) (vf vs : Value) (st : Mt.St) : Prop where
  tk : Tk w' b st
  box : w'.heap[c]? = some (.cells #[.string (bs m.id), .int .i64 m.mn, .int .i64 m.mx, .int .i64 m.lv, .int .i64 m.se, .int .i64 m.sa, vf, vs] 25 (0, 0))
  fs : Sl w' (w.heap.size + 2) 3 vf m.files.length (flc m.files)
  ss : Sl w' sb 1 vs m.src.length (sc m.src)
  turn : Turn (fun k => k = b ∨ k = c) w w'
  len : st.1.length ≤ 140737488350000
  few : m.files.length ≤ 2 ∧ m.src.length ≤ 60

set_option maxHeartbeats 4000000 in
set_option maxRecDepth 100000 in
theorem meta_any (b : Nat) (st : Mt.St) (w : World) (h : Tk w b st) (hl : st.1.length ≤ 140737488350000) (hP : PartsAt w) (hbP : b ≠ 0) (m : Mt.Me) (s9 : Mt.St) (hms : Mt.meC st = (m, s9)) :
    Calls Tryd.prog 19 #[.pointer (some ⟨b, 0, none⟩)] w (MeP b w m s9) := by
  have HMS := Lib.hid hms
  clear hms
  have hbw := h.1
  obtain ⟨i0, hi, hz0, hz1, hz2⟩ := info_parts bi_strM
  have Hz := Lib.hid hz0; have Hs := Lib.hid hz1; have Hb := Lib.hid hz2; have Hi := Lib.hid hi
  clear hz0 hz1 hz2 hi
  obtain ⟨i1, hi, hz0, hz1, hz2⟩ := info_parts zc_file
  have Kz := Lib.hid hz0; have Ks := Lib.hid hz1; have Kb := Lib.hid hz2; have Ki := Lib.hid hi
  clear hz0 hz1 hz2 hi
  obtain ⟨x, s1, hx⟩ : ∃ x s1, Mt.tt st 16 = (x, s1) := ⟨_, _, rfl⟩
  have l1 := tt_len st 16
  obtain ⟨n1, s2, hn1⟩ : ∃ n s, Mt.tn s1 1099511627776 = (n, s) := ⟨_, _, rfl⟩
  have l2 := tn_len s1 1099511627776
  obtain ⟨n2, s3, hn2⟩ : ∃ n s, Mt.tn s2 1099511627776 = (n, s) := ⟨_, _, rfl⟩
  have l3 := tn_len s2 1099511627776
  obtain ⟨n3, s4, hn3⟩ : ∃ n s, Mt.tn s3 9 = (n, s) := ⟨_, _, rfl⟩
  have l4 := tn_len s3 9
  obtain ⟨n4, s5, hn4⟩ : ∃ n s, Mt.tn s4 1073741824 = (n, s) := ⟨_, _, rfl⟩
  have l5 := tn_len s4 1073741824
  obtain ⟨n5, s6, hn5⟩ : ∃ n s, Mt.tn s5 1073741824 = (n, s) := ⟨_, _, rfl⟩
  have l6 := tn_len s5 1073741824
  rw [hx] at l1
  rw [hn1] at l2
  rw [hn2] at l3
  rw [hn3] at l4
  rw [hn4] at l5
  rw [hn5] at l6
  simp only at l1 l2 l3 l4 l5 l6
  have T1 := Lib.hid (fun W h => show Calls Tryd.prog 24 #[.pointer (some ⟨b, 0, none⟩), .int .i64 16] W (TkP b W (.string (bs x)) s1) by
    have := tkt_any b st 16 W h hl (by omega) (by omega)
    rwa [hx] at this)
  have T2 := Lib.hid (fun W h => show Calls Tryd.prog 25 #[.pointer (some ⟨b, 0, none⟩), .int .i64 1099511627776] W (TkP b W (.int .i64 n1) s2) by
    have := tkn_any b s1 1099511627776 W h (by omega) (by omega) (by omega)
    rwa [hn1] at this)
  have T3 := Lib.hid (fun W h => show Calls Tryd.prog 25 #[.pointer (some ⟨b, 0, none⟩), .int .i64 1099511627776] W (TkP b W (.int .i64 n2) s3) by
    have := tkn_any b s2 1099511627776 W h (by omega) (by omega) (by omega)
    rwa [hn2] at this)
  have T4 := Lib.hid (fun W h => show Calls Tryd.prog 25 #[.pointer (some ⟨b, 0, none⟩), .int .i64 9] W (TkP b W (.int .i64 n3) s4) by
    have := tkn_any b s3 9 W h (by omega) (by omega) (by omega)
    rwa [hn3] at this)
  have T5 := Lib.hid (fun W h => show Calls Tryd.prog 25 #[.pointer (some ⟨b, 0, none⟩), .int .i64 1073741824] W (TkP b W (.int .i64 n4) s5) by
    have := tkn_any b s4 1073741824 W h (by omega) (by omega) (by omega)
    rwa [hn4] at this)
  have T6 := Lib.hid (fun W h => show Calls Tryd.prog 25 #[.pointer (some ⟨b, 0, none⟩), .int .i64 1073741824] W (TkP b W (.int .i64 n5) s6) by
    have := tkn_any b s5 1073741824 W h (by omega) (by omega) (by omega)
    rwa [hn5] at this)
  have hl6 : s6.1.length ≤ 140737488350000 := by omega
  clear l1 l2 l3 l4 l5 l6 hl
  have H := Lib.hid h
  have HP := Lib.hid hP
  have HX := Lib.hid hx; have H1 := Lib.hid hn1; have H2 := Lib.hid hn2; have H3 := Lib.hid hn3; have H4 := Lib.hid hn4; have H5 := Lib.hid hn5
  clear h hP hx hn1 hn2 hn3 hn4 hn5
  have Z0 := Lib.hid (fun X Y : Obj => ((H.out.below ((Below.refl _ _).alloc (Nat.le_refl _) X)).below ((Below.refl _ _).alloc (Nat.le_refl _) Y)))
  go_enter Tryd.func19, Tryd.ntmps19
  go_wp2_with fail
  refine (T1.out _ (Z0.out _ _)).mono ?_
  rintro e w1 ⟨rfl, t1, u1⟩
  obtain ⟨Z, hZ⟩ : ∃ Z : Obj, Z = .cells #[.string ⟨#[]⟩, .int .i64 0, .int .i64 0, .int .i64 0, .int .i64 0, .int .i64 0, .slice none 0 0, .slice none 0 0] 25 := ⟨_, rfl⟩
  have hz : (w.alloc Z).heap.size = w.heap.size + 1 := by simp
  have y1 := heap_alloc_new (w.alloc Z) Z
  rw [hz, hZ] at y1
  have x1 := (Below.heap_alloc (w.alloc Z) Z w.heap.size (by simp)).trans (heap_alloc_new w Z)
  rw [hZ] at x1
  have yb1 := (u1.block (w.heap.size + 1) (by simp) (by omega)).trans y1
  have xb1 := (u1.block w.heap.size (by simp <;> omega) (by omega)).trans x1
  have z1 := u1.size
  simp at z1
  have U1 : Turn (fun j => j = b) w w1 := by
    have t := ((Turn.refl (fun j => j = b) w).alloc Z).alloc Z
    rw [hZ] at t
    exact t.trans u1
  clear y1 x1 hz
  obtain ⟨c0, c1, c2, c3, c4, c5, c6, c7⟩ := cells8 yb1
  obtain ⟨f0, f1, f2, f3, f4, f5, f6, f7⟩ := frozen8 yb1
  go_wp2_with fail
  refine (T2.out _ (t1.turn (S := fun j => j = w.heap.size + 1) ((Turn.refl _ _).setCell _ _ rfl) (by omega))).mono ?_
  rintro e w2 ⟨rfl, t2, u2⟩
  have ya := heap_setCell_same w1 (w.heap.size + 1) 0 _ _ (.string (bs x)) yb1
  have yb2 := (u2.block (w.heap.size + 1) (by simp [World.setCell]; omega) (by omega)).trans ya
  have xb2 := (u2.block w.heap.size (by simp [World.setCell]; omega) (by omega)).trans ((Below.heap_setCell w1 _ _ w.heap.size (by simp)).trans xb1)
  have z2 := u2.size
  simp [World.setCell] at z2 yb2
  have U2 : Turn (fun j => j = b) w w2 := (U1.setNew ⟨w.heap.size + 1, 0, none⟩ _ (by simp)).trans u2
  clear c0 c1 c2 c3 c4 c5 c6 c7 f0 f1 f2 f3 f4 f5 f6 f7 ya yb1 xb1 u2 t1
  obtain ⟨c0, c1, c2, c3, c4, c5, c6, c7⟩ := cells8 yb2
  obtain ⟨f0, f1, f2, f3, f4, f5, f6, f7⟩ := frozen8 yb2
  go_wp2_with fail
  refine (T3.out _ (t2.turn (S := fun j => j = w.heap.size + 1) ((Turn.refl _ _).setCell _ _ rfl) (by omega))).mono ?_
  rintro e w3 ⟨rfl, t3, u3⟩
  have ya := heap_setCell_same w2 (w.heap.size + 1) 1 _ _ (.int .i64 n1) yb2
  have yb3 := (u3.block (w.heap.size + 1) (by simp [World.setCell]; omega) (by omega)).trans ya
  have xb3 := (u3.block w.heap.size (by simp [World.setCell]; omega) (by omega)).trans ((Below.heap_setCell w2 _ _ w.heap.size (by simp)).trans xb2)
  have z3 := u3.size
  simp [World.setCell] at z3 yb3
  have U3 : Turn (fun j => j = b) w w3 := (U2.setNew ⟨w.heap.size + 1, 1, none⟩ _ (by simp)).trans u3
  clear c0 c1 c2 c3 c4 c5 c6 c7 f0 f1 f2 f3 f4 f5 f6 f7 ya yb2 xb2 u3 t2
  obtain ⟨c0, c1, c2, c3, c4, c5, c6, c7⟩ := cells8 yb3
  obtain ⟨f0, f1, f2, f3, f4, f5, f6, f7⟩ := frozen8 yb3
  go_wp2_with fail
  refine (T4.out _ (t3.turn (S := fun j => j = w.heap.size + 1) ((Turn.refl _ _).setCell _ _ rfl) (by omega))).mono ?_
  rintro e w4 ⟨rfl, t4, u4⟩
  have ya := heap_setCell_same w3 (w.heap.size + 1) 2 _ _ (.int .i64 n2) yb3
  have yb4 := (u4.block (w.heap.size + 1) (by simp [World.setCell]; omega) (by omega)).trans ya
  have xb4 := (u4.block w.heap.size (by simp [World.setCell]; omega) (by omega)).trans ((Below.heap_setCell w3 _ _ w.heap.size (by simp)).trans xb3)
  have z4 := u4.size
  simp [World.setCell] at z4 yb4
  have U4 : Turn (fun j => j = b) w w4 := (U3.setNew ⟨w.heap.size + 1, 2, none⟩ _ (by simp)).trans u4
  clear c0 c1 c2 c3 c4 c5 c6 c7 f0 f1 f2 f3 f4 f5 f6 f7 ya yb3 xb3 u4 t3
  obtain ⟨c0, c1, c2, c3, c4, c5, c6, c7⟩ := cells8 yb4
  obtain ⟨f0, f1, f2, f3, f4, f5, f6, f7⟩ := frozen8 yb4
  go_wp2_with fail
  refine (T5.out _ (t4.turn (S := fun j => j = w.heap.size + 1) ((Turn.refl _ _).setCell _ _ rfl) (by omega))).mono ?_
  rintro e w5 ⟨rfl, t5, u5⟩
  have ya := heap_setCell_same w4 (w.heap.size + 1) 3 _ _ (.int .i64 n3) yb4
  have yb5 := (u5.block (w.heap.size + 1) (by simp [World.setCell]; omega) (by omega)).trans ya
  have xb5 := (u5.block w.heap.size (by simp [World.setCell]; omega) (by omega)).trans ((Below.heap_setCell w4 _ _ w.heap.size (by simp)).trans xb4)
  have z5 := u5.size
  simp [World.setCell] at z5 yb5
  have U5 : Turn (fun j => j = b) w w5 := (U4.setNew ⟨w.heap.size + 1, 3, none⟩ _ (by simp)).trans u5
  clear c0 c1 c2 c3 c4 c5 c6 c7 f0 f1 f2 f3 f4 f5 f6 f7 ya yb4 xb4 u5 t4
  obtain ⟨c0, c1, c2, c3, c4, c5, c6, c7⟩ := cells8 yb5
  obtain ⟨f0, f1, f2, f3, f4, f5, f6, f7⟩ := frozen8 yb5
  go_wp2_with fail
  refine (T6.out _ (t5.turn (S := fun j => j = w.heap.size + 1) ((Turn.refl _ _).setCell _ _ rfl) (by omega))).mono ?_
  rintro e w6 ⟨rfl, t6, u6⟩
  have ya := heap_setCell_same w5 (w.heap.size + 1) 4 _ _ (.int .i64 n4) yb5
  have yb6 := (u6.block (w.heap.size + 1) (by simp [World.setCell]; omega) (by omega)).trans ya
  have xb6 := (u6.block w.heap.size (by simp [World.setCell]; omega) (by omega)).trans ((Below.heap_setCell w5 _ _ w.heap.size (by simp)).trans xb5)
  have z6 := u6.size
  simp [World.setCell] at z6 yb6
  have U6 : Turn (fun j => j = b) w w6 := (U5.setNew ⟨w.heap.size + 1, 4, none⟩ _ (by simp)).trans u6
  clear c0 c1 c2 c3 c4 c5 c6 c7 f0 f1 f2 f3 f4 f5 f6 f7 ya yb5 xb5 u6 t5
  obtain ⟨c0, c1, c2, c3, c4, c5, c6, c7⟩ := cells8 yb6
  obtain ⟨f0, f1, f2, f3, f4, f5, f6, f7⟩ := frozen8 yb6
  go_wp2_with fail
  have ML : MeL b (w.heap.size + 1) (w.heap.size + 2) w (w6.setCell ⟨w.heap.size + 1, 5, none⟩ (.int .i64 n5)) ⟨x, n1, n2, n3, n4, n5, (fls 0 s6).1, []⟩ (.slice none 0 0) (.slice none 0 0) (fls 0 s6).2 := by
    have yc := heap_setCell_same w6 (w.heap.size + 1) 5 _ _ (.int .i64 n5) yb6
    refine ⟨t6.turn (S := fun j => j = w.heap.size + 1) ((Turn.refl _ _).setCell _ _ rfl) (by omega), ?_, Sl.nil _ _ _, Sl.nil _ _ _, (U6.mono (fun k hk => .inl hk)).setNew _ _ (by simp), hl6, ⟨by simp [fls], by simp⟩⟩
    rw [yc]; rfl
  have xb7 := (Below.heap_setCell w6 ⟨w.heap.size + 1, 5, none⟩ (.int .i64 n5) w.heap.size (by simp)).trans xb6
  have XB := Lib.hid xb7
  have z7 : w.heap.size + 2 ≤ (w6.setCell ⟨w.heap.size + 1, 5, none⟩ (.int .i64 n5)).heap.size := by simp [World.setCell]; omega
  clear c0 c1 c2 c3 c4 c5 c6 c7 f0 f1 f2 f3 f4 f5 f6 f7 yb6 xb6 xb7 t6 U1 U2 U3 U4 U5 U6 z1 z2 z3 z4 z5 z6 T1 T2 T3 T4 T5 T6 Z0 hZ
  go_loopw [22] (fun i' wr => ∃ (i : Nat) (vf : Value), i' = .int .i64 i ∧ i ≤ 2 ∧ MeL b (w.heap.size + 1) (w.heap.size + 2) w wr ⟨x, n1, n2, n3, n4, n5, (fls i s6).1, []⟩ vf (.slice none 0 0) (fls i s6).2 ∧ wr.heap[w.heap.size]? = some (.cells #[.string ⟨#[]⟩, .int .i64 0, .int .i64 0, .int .i64 0, .int .i64 0, .int .i64 0, .slice none 0 0, .slice none 0 0] 25 (0, 0)) ∧ w.heap.size + 2 ≤ wr.heap.size) (fun i' _ => 2 - (intOf i').toNat)
  case atStart => exact ⟨0, _, rfl, by omega, ML, XB.out, z7⟩
  case round =>
    clear ML XB z7
    obtain ⟨i, vf, rfl, hi, ml, hxb, hzr⟩ := hrel
    have hx6 := (Lib.cell_of_heap ml.box 6)
    have hf6 := Lib.frozen_of_heap ml.box 6
    simp only [List.getElem?_toArray, List.getElem?_cons_zero, List.getElem?_cons_succ] at hx6
    obtain ⟨av, kv, rfl⟩ := ml.fs.slice
    have hfl := (fls_len s6 i).1
    by_cases hlt : i < 2
    · have hil : (i : Int) < 2 := by omega
      obtain ⟨stI, hst⟩ : ∃ s, s = (fls i s6).2 := ⟨_, rfl⟩
      obtain ⟨lI, hlI⟩ : ∃ l, l = (fls i s6).1 := ⟨_, rfl⟩
      obtain ⟨f, stF, hff⟩ : ∃ f s, Mt.fl stI = (f, s) := ⟨_, _, rfl⟩
      have HF := Lib.hid (show fls (i + 1) s6 = (lI ++ [f], stF) by rw [fls, ← hst, ← hlI, hff])
      rw [← hst, ← hlI] at ml
      rw [← hlI] at hfl hx6
      simp only at hfl hx6
      have hfm := fl_len stI
      rw [hff] at hfm
      have CF := Lib.hid (fun W h => show Calls Tryd.prog 37 #[.pointer (some ⟨b, 0, none⟩)] W (TkP b W (.agg #[.string (bs f.name), .int .i64 f.size, .int .u32 f.sum]) stF) by
        have := file_any b stI W h ml.len
        rwa [hff] at this)
      have hnI : lI.length = i := hfl
      have ML := Lib.hid ml
      have HXB := Lib.hid hxb
      rw [hfl] at hx6
      clear hst hlI hff hfl hxb
      go_wp2_with fail
      have Q := Lib.hid (fun w1 (u1 : Turn (fun k => k = b) wr.drew w1) => show w1.cell? ⟨w.heap.size + 1, 6, none⟩ = some (.slice av i kv) ∧ w.heap.size + 2 ≤ w1.heap.size ∧ (∀ X, (w1.alloc X).cell? ⟨w.heap.size + 1, 6, none⟩ = some (.slice av i kv)) ∧ (∀ X, Sl (w1.alloc X) (w.heap.size + 2) 3 (.slice av i kv) i (flc lI)) from by
        have v1 : wr.heap.size ≤ w1.heap.size := u1.size
        have q6 : w1.cell? ⟨w.heap.size + 1, 6, none⟩ = some (.slice av i kv) := (u1.cell (p := ⟨w.heap.size + 1, 6, none⟩) (by show w.heap.size + 1 < wr.heap.size; omega) (by show ¬ (w.heap.size + 1 = b); omega)).trans hx6
        refine ⟨q6, by omega, fun X => (((Below.refl w1.heap.size w1).alloc (Nat.le_refl _) X).cell (p := ⟨w.heap.size + 1, 6, none⟩) (by show w.heap.size + 1 < w1.heap.size; omega)).trans q6, fun X => ?_⟩
        have := ((ML.out.fs.drew.turn u1 (fun k hk => by have := (ML.out.fs.lt k hk).1; omega)).alloc X)
        rw [hnI] at this
        exact this)
      have R := Lib.hid (fun w1 (u1 : Turn (fun k => k = b) wr.drew w1) X v2 w2 (x2 : Ext (w.heap.size + 2) 3 (w1.alloc X) (.slice av i kv) i (flc lI) w2 v2 (i + 1) (flc lI ++ [.string (bs f.name), .int .i64 f.size, .int .u32 f.sum])) => show w2.cell? ⟨w.heap.size + 1, 6, none⟩ = some (.slice av i kv) ∧ w2.frozen? ⟨w.heap.size + 1, 6, none⟩ = false from by
        have v1 : wr.heap.size ≤ w1.heap.size := u1.size
        have hb2 := x2.below (B := w.heap.size + 2) (Nat.le_refl _) (by simp; omega)
        refine ⟨(hb2.cell (p := ⟨w.heap.size + 1, 6, none⟩) (by show w.heap.size + 1 < w.heap.size + 2; omega)).trans ((Q.out w1 u1).2.2.1 X), (hb2.frozen (p := ⟨w.heap.size + 1, 6, none⟩) (by show w.heap.size + 1 < w.heap.size + 2; omega)).trans ?_⟩
        exact (((Below.refl w1.heap.size w1).alloc (Nat.le_refl _) X).frozen (p := ⟨w.heap.size + 1, 6, none⟩) (by show w.heap.size + 1 < w1.heap.size; omega)).trans ((u1.frozen (p := ⟨w.heap.size + 1, 6, none⟩) (by show w.heap.size + 1 < wr.heap.size; omega) (by show ¬ (w.heap.size + 1 = b); omega)).trans hf6))
      have NX := Lib.hid (fun w1 (t1 : Tk w1 b stF) (u1 : Turn (fun k => k = b) wr.drew w1) X a2 k2 w2 (x2 : Ext (w.heap.size + 2) 3 (w1.alloc X) (.slice av i kv) i (flc lI) w2 (.slice a2 (i + 1) k2) (i + 1) (flc lI ++ [.string (bs f.name), .int .i64 f.size, .int .u32 f.sum])) =>
        show MeL b (w.heap.size + 1) (w.heap.size + 2) w (w2.setCell ⟨w.heap.size + 1, 6, none⟩ (.slice a2 (i + 1) k2)) ⟨x, n1, n2, n3, n4, n5, (fls (i + 1) s6).1, []⟩ (.slice a2 (i + 1) k2) (.slice none 0 0) (fls (i + 1) s6).2 ∧ (w2.setCell ⟨w.heap.size + 1, 6, none⟩ (.slice a2 (i + 1) k2)).heap[w.heap.size]? = some (.cells #[.string ⟨#[]⟩, .int .i64 0, .int .i64 0, .int .i64 0, .int .i64 0, .int .i64 0, .slice none 0 0, .slice none 0 0] 25 (0, 0)) ∧ w.heap.size + 2 ≤ (w2.setCell ⟨w.heap.size + 1, 6, none⟩ (.slice a2 (i + 1) k2)).heap.size from by
        have v1 : wr.heap.size ≤ w1.heap.size := u1.size
        have hb2 := x2.below (B := w.heap.size + 2) (Nat.le_refl _) (by simp; omega)
        have hz2 := hb2.size
        simp at hz2
        have e1 : (w1.alloc X).heap[w.heap.size + 1]? = w1.heap[w.heap.size + 1]? := Below.heap_alloc _ _ _ (by omega)
        have e2 : (w1.alloc X).heap[w.heap.size]? = w1.heap[w.heap.size]? := Below.heap_alloc _ _ _ (by omega)
        have e3 := u1.block (w.heap.size + 1) (show w.heap.size + 1 < wr.heap.size by omega) (by omega)
        have e4 := u1.block w.heap.size (show w.heap.size < wr.heap.size by omega) (by omega)
        have bx := ((hb2.block (w.heap.size + 1) (by omega)).trans (e1.trans e3)).trans ML.out.box
        have xx := ((hb2.block w.heap.size (by omega)).trans (e2.trans e4)).trans HXB.out
        rw [HF.out]
        refine ⟨⟨?_, ?_, ?_, Sl.nil _ _ _, ?_, ?_, ?_⟩, ?_, by simp [World.setCell]; omega⟩
        · exact (((t1.below ((Below.refl _ _).alloc (Nat.le_refl _) X)).turn (turn_of_belowB hb2) (by omega))).turn (S := fun j => j = w.heap.size + 1) ((Turn.refl _ _).setCell _ _ rfl) (by omega)
        · rw [heap_setCell_same w2 (w.heap.size + 1) 6 _ _ (.slice a2 (i + 1) k2) bx]; rfl
        · have := sl_else x2.now ⟨w.heap.size + 1, 6, none⟩ (.slice a2 (i + 1) k2) (by simp only; omega)
          show Sl _ _ _ _ (lI ++ [f]).length (flc (lI ++ [f]))
          rw [List.length_append, hnI, flc_append]
          exact this
        · exact Turn.setCell (S := fun k => k = b ∨ k = w.heap.size + 1) (turn_step (((ML.out.turn.drew).trans (u1.mono (fun k hk => .inl hk))).alloc X) (hb2.mono (by omega))) _ _ (.inr rfl)
        · exact Nat.le_trans hfm ML.out.len
        · have := ML.out.few
          simp only at this ⊢
          rw [List.length_append, hnI]
          exact ⟨by simp; omega, by simp⟩
        · exact (Below.heap_setCell w2 _ _ w.heap.size (by simp)).trans xx)
      have hmx : i + 1 ≤ maxLen := by unfold maxLen; omega
      go_region_law (first
          | (refine step_append_sl rfl (.tmp 25) (.tmp 28) 22 rfl (w.heap.size + 2) 50 i1 _ 3 32 Tryd.underlying22 Ki.out Kz.out Ks.out Kb.out rfl (by decide) (.slice av i kv) i (flc lI) (by simp [Act.eval]) (sl1 _) ⟨w1.heap.size, 0, none⟩ 1 1 [.string (bs f.name), .int .i64 f.size, .int .u32 f.sum] (by simp [Act.eval]) rfl (three_cells _ _ _ _ _) (by simp [Value.oneCell']) hmx (by omega) (by simp; omega) ?_; intro v2 w2 x2; obtain ⟨r6, g6⟩ := R.out w1 u1 _ v2 w2 x2; obtain ⟨a2, k2, rfl⟩ := x2.now.slice)
          | (go_simp; go_at_call 37; refine (CF.out wr.drew (show Tk wr.drew b stI from ML.out.tk)).mono ?_; rintro e w1 ⟨rfl, t1, u1⟩; obtain ⟨q6, v1, q7, sl1⟩ := Q.out w1 u1))
      all_goals go_wp2_with fail
      all_goals
        obtain ⟨m1, m2, m3⟩ := NX.out w1 t1 u1 _ a2 k2 w2 x2
        exact ⟨⟨i + 1, .slice a2 (i + 1) k2, by go_num, by omega, m1, m2, m3⟩, by simp [intOf]; omega⟩
    · have hil : ¬ (i : Int) < 2 := by omega
      have hi2 : i = 2 := by omega
      obtain ⟨stI, hst⟩ : ∃ s, s = (fls i s6).2 := ⟨_, rfl⟩
      obtain ⟨lI, hlI⟩ : ∃ l, l = (fls i s6).1 := ⟨_, rfl⟩
      obtain ⟨n, s8, hn⟩ : ∃ n s, Mt.tn stI 50 = (n, s) := ⟨_, _, rfl⟩
      have hn50 := tn_le stI 50 (by omega)
      have hln := tn_len stI 50
      rw [hn] at hn50 hln
      simp only at hn50 hln
      rw [← hst, ← hlI] at ml
      have hl8 : s8.1.length ≤ 140737488350000 := by have := ml.len; omega
      have T7 := Lib.hid (fun W h => show Calls Tryd.prog 25 #[.pointer (some ⟨b, 0, none⟩), .int .i64 50] W (TkP b W (.int .i64 n) s8) by
        have := tkn_any b stI 50 W h ml.len (by omega) (by omega)
        rwa [hn] at this)
      have ML := Lib.hid ml
      have HXB := Lib.hid hxb
      have HI2 := Lib.hid hi2
      have HS := Lib.hid hst
      have HL := Lib.hid hlI
      have HNN := Lib.hid hn
      clear hi2 hst hlI hn hfl hx6 hxb hln hi hlt
      go_wp2_with fail
      refine (T7.out _ ML.out.tk).mono ?_
      rintro e w7 ⟨rfl, t7, u7⟩
      have z7 := u7.size
      obtain ⟨Z7, hZ7⟩ : ∃ Z, Z = w7.heap.size := ⟨_, rfl⟩
      have hZ2 : w.heap.size + 2 ≤ Z7 := by omega
      have ML7 : MeL b (w.heap.size + 1) Z7 w w7 ⟨x, n1, n2, n3, n4, n5, lI, (Mt.txs 0 s8).1⟩ (.slice av lI.length kv) (.slice none 0 0) (Mt.txs 0 s8).2 := by
        refine ⟨t7, (u7.block (w.heap.size + 1) (by omega) (by omega)).trans ML.out.box, ?_, Sl.nil _ _ _, ML.out.turn.trans (u7.mono fun k hk => .inl hk), hl8, ⟨ML.out.few.1, by simp [Mt.txs]⟩⟩
        exact ML.out.fs.turn u7 (fun k hk => by have := (ML.out.fs.lt k hk).1; omega)
      have hfz : ∀ k, (Value.slice av lI.length kv).ownBlock = some k → w.heap.size + 2 ≤ k ∧ k < Z7 := fun k hk => by
        have := ML7.fs.lt k hk
        omega
      have hx7 := (u7.block w.heap.size (by omega) (by omega)).trans HXB.out
      have hZ3 : Z7 ≤ w7.heap.size := by omega
      have HFZ := Lib.hid hfz
      clear t7 u7 z7 hZ7 hfz
      go_wp2_with fail
      go_loopw [34] (fun i' wr => ∃ (j : Nat) (vs : Value), i' = .int .i64 j ∧ j ≤ n ∧ MeL b (w.heap.size + 1) Z7 w wr ⟨x, n1, n2, n3, n4, n5, lI, (Mt.txs j s8).1⟩ (.slice av lI.length kv) vs (Mt.txs j s8).2 ∧ wr.heap[w.heap.size]? = some (.cells #[.string ⟨#[]⟩, .int .i64 0, .int .i64 0, .int .i64 0, .int .i64 0, .int .i64 0, .slice none 0 0, .slice none 0 0] 25 (0, 0)) ∧ Z7 ≤ wr.heap.size) (fun i' _ => n - (intOf i').toNat)
      case atStart => exact ⟨0, _, rfl, by omega, ML7, hx7, hZ3⟩
      case round =>
        clear ML7 hx7 hZ3
        obtain ⟨W0, rfl⟩ : ∃ W0, W0 = wr := ⟨_, rfl⟩
        obtain ⟨j, vs, rfl, hj, ml, hxb, hzq⟩ := hrel
        have hx6 := (Lib.cell_of_heap ml.box 7)
        have hf6 := Lib.frozen_of_heap ml.box 7
        simp only [List.getElem?_toArray, List.getElem?_cons_zero, List.getElem?_cons_succ] at hx6
        obtain ⟨as5, ks5, rfl⟩ := ml.ss.slice
        have htl := (txs_len s8 j).1
        by_cases hlt : j < n
        · have hjl : (j : Int) < n := by omega
          have hj60 : j ≤ 60 := by omega
          obtain ⟨stJ, hst⟩ : ∃ s, s = (Mt.txs j s8).2 := ⟨_, rfl⟩
          obtain ⟨lJ, hlJ⟩ : ∃ l, l = (Mt.txs j s8).1 := ⟨_, rfl⟩
          obtain ⟨f, stF, hff⟩ : ∃ f s, Mt.tt stJ 16 = (f, s) := ⟨_, _, rfl⟩
          have HF := Lib.hid (show Mt.txs (j + 1) s8 = (lJ ++ [f], stF) by rw [txs_snoc, ← hst, ← hlJ, hff])
          rw [← hst, ← hlJ] at ml
          rw [← hlJ] at htl hx6
          simp only at htl hx6
          have hfm := tt_len stJ 16
          rw [hff] at hfm
          have CF := Lib.hid (fun W h => show Calls Tryd.prog 24 #[.pointer (some ⟨b, 0, none⟩), .int .i64 16] W (TkP b W (.string (bs f)) stF) by
            have := tkt_any b stJ 16 W h ml.len (by omega) (by omega)
            rwa [hff] at this)
          have hnJ : lJ.length = j := htl
          have MJ := Lib.hid ml
          have HXJ := Lib.hid hxb
          rw [htl] at hx6
          clear hst hlJ hff htl hxb
          go_wp2_with fail
          have Q := Lib.hid (fun w1 (u1 : Turn (fun k => k = b) W0.drew w1) => show w1.cell? ⟨w.heap.size + 1, 7, none⟩ = some (.slice as5 j ks5) ∧ Z7 ≤ w1.heap.size ∧ (∀ X, (w1.alloc X).cell? ⟨w.heap.size + 1, 7, none⟩ = some (.slice as5 j ks5)) ∧ (∀ X, Sl (w1.alloc X) Z7 1 (.slice as5 j ks5) j (sc lJ)) from by
            have v1 : W0.heap.size ≤ w1.heap.size := u1.size
            have q6 : w1.cell? ⟨w.heap.size + 1, 7, none⟩ = some (.slice as5 j ks5) := (u1.cell (p := ⟨w.heap.size + 1, 7, none⟩) (by show w.heap.size + 1 < W0.heap.size; omega) (by show ¬ (w.heap.size + 1 = b); omega)).trans hx6
            refine ⟨q6, by omega, fun X => (((Below.refl w1.heap.size w1).alloc (Nat.le_refl _) X).cell (p := ⟨w.heap.size + 1, 7, none⟩) (by show w.heap.size + 1 < w1.heap.size; omega)).trans q6, fun X => ?_⟩
            have := ((MJ.out.ss.drew.turn u1 (fun k hk => by have := (MJ.out.ss.lt k hk).1; omega)).alloc X)
            rw [hnJ] at this
            exact this)
          have R := Lib.hid (fun w1 (u1 : Turn (fun k => k = b) W0.drew w1) X v2 w2 (x2 : Ext Z7 1 (w1.alloc X) (.slice as5 j ks5) j (sc lJ) w2 v2 (j + 1) (sc lJ ++ [.string (bs f)])) => show w2.cell? ⟨w.heap.size + 1, 7, none⟩ = some (.slice as5 j ks5) ∧ w2.frozen? ⟨w.heap.size + 1, 7, none⟩ = false from by
            have v1 : W0.heap.size ≤ w1.heap.size := u1.size
            have hb2 := x2.below (B := Z7) (Nat.le_refl _) (by simp; omega)
            refine ⟨(hb2.cell (p := ⟨w.heap.size + 1, 7, none⟩) (by show w.heap.size + 1 < Z7; omega)).trans ((Q.out w1 u1).2.2.1 X), (hb2.frozen (p := ⟨w.heap.size + 1, 7, none⟩) (by show w.heap.size + 1 < Z7; omega)).trans ?_⟩
            exact (((Below.refl w1.heap.size w1).alloc (Nat.le_refl _) X).frozen (p := ⟨w.heap.size + 1, 7, none⟩) (by show w.heap.size + 1 < w1.heap.size; omega)).trans ((u1.frozen (p := ⟨w.heap.size + 1, 7, none⟩) (by show w.heap.size + 1 < W0.heap.size; omega) (by show ¬ (w.heap.size + 1 = b); omega)).trans hf6))
          have NX := Lib.hid (fun w1 (t1 : Tk w1 b stF) (u1 : Turn (fun k => k = b) W0.drew w1) X a2 k2 w2 (x2 : Ext Z7 1 (w1.alloc X) (.slice as5 j ks5) j (sc lJ) w2 (.slice a2 (j + 1) k2) (j + 1) (sc lJ ++ [.string (bs f)])) =>
            show MeL b (w.heap.size + 1) Z7 w (w2.setCell ⟨w.heap.size + 1, 7, none⟩ (.slice a2 (j + 1) k2)) ⟨x, n1, n2, n3, n4, n5, lI, (Mt.txs (j + 1) s8).1⟩ (.slice av lI.length kv) (.slice a2 (j + 1) k2) (Mt.txs (j + 1) s8).2 ∧ (w2.setCell ⟨w.heap.size + 1, 7, none⟩ (.slice a2 (j + 1) k2)).heap[w.heap.size]? = some (.cells #[.string ⟨#[]⟩, .int .i64 0, .int .i64 0, .int .i64 0, .int .i64 0, .int .i64 0, .slice none 0 0, .slice none 0 0] 25 (0, 0)) ∧ Z7 ≤ (w2.setCell ⟨w.heap.size + 1, 7, none⟩ (.slice a2 (j + 1) k2)).heap.size from by
            have v1 : W0.heap.size ≤ w1.heap.size := u1.size
            have hb2 := x2.below (B := Z7) (Nat.le_refl _) (by simp; omega)
            have hz2 := hb2.size
            simp at hz2
            have e1 : (w1.alloc X).heap[w.heap.size + 1]? = w1.heap[w.heap.size + 1]? := Below.heap_alloc _ _ _ (by omega)
            have e2 : (w1.alloc X).heap[w.heap.size]? = w1.heap[w.heap.size]? := Below.heap_alloc _ _ _ (by omega)
            have e3 := u1.block (w.heap.size + 1) (show w.heap.size + 1 < W0.heap.size by omega) (by omega)
            have e4 := u1.block w.heap.size (show w.heap.size < W0.heap.size by omega) (by omega)
            have bx := ((hb2.block (w.heap.size + 1) (by omega)).trans (e1.trans e3)).trans MJ.out.box
            have xx := ((hb2.block w.heap.size (by omega)).trans (e2.trans e4)).trans HXJ.out
            rw [HF.out]
            refine ⟨⟨?_, ?_, ?_, ?_, ?_, ?_, ?_⟩, ?_, by simp [World.setCell]; omega⟩
            · exact (((t1.below ((Below.refl _ _).alloc (Nat.le_refl _) X)).turn (turn_of_belowB hb2) (by omega))).turn (S := fun j => j = w.heap.size + 1) ((Turn.refl _ _).setCell _ _ rfl) (by omega)
            · rw [heap_setCell_same w2 (w.heap.size + 1) 7 _ _ (.slice a2 (j + 1) k2) bx]; rfl
            · exact sl_else (((MJ.out.fs.drew.turn u1 (fun k hk => by have := (MJ.out.fs.lt k hk).1; omega)).alloc X).same hb2.size (fun k hk => hb2.block k (HFZ.out k hk).2)) _ _ (by simp only; omega)
            · have := sl_else x2.now ⟨w.heap.size + 1, 7, none⟩ (.slice a2 (j + 1) k2) (by simp only; omega)
              show Sl _ _ _ _ (lJ ++ [f]).length (sc (lJ ++ [f]))
              rw [List.length_append, hnJ, sc_append]
              exact this
            · exact Turn.setCell (S := fun k => k = b ∨ k = w.heap.size + 1) (turn_step (((MJ.out.turn.drew).trans (u1.mono (fun k hk => .inl hk))).alloc X) (hb2.mono (by omega))) _ _ (.inr rfl)
            · exact Nat.le_trans hfm MJ.out.len
            · have := MJ.out.few
              simp only at this ⊢
              rw [List.length_append, hnJ]
              exact ⟨this.1, by simp; omega⟩
            · exact (Below.heap_setCell w2 _ _ w.heap.size (by simp)).trans xx)
          have hmx : j + 1 ≤ maxLen := by unfold maxLen; omega
          go_region_law (first
              | (refine step_append_sl rfl (.tmp 37) (.tmp 40) 23 rfl Z7 9 i0 _ 1 16 Tryd.underlying23 Hi.out Hz.out Hs.out Hb.out rfl (by decide) (.slice as5 j ks5) j (sc lJ) (by simp [Act.eval]) (sl1 _) ⟨w1.heap.size, 0, none⟩ 1 1 [.string (bs f)] (by simp [Act.eval]) rfl (cell_one_new _ _ _) (by simp [Value.oneCell']) hmx (by omega) (by simp; omega) ?_; intro v2 w2 x2; obtain ⟨r6, g6⟩ := R.out w1 u1 _ v2 w2 x2; obtain ⟨a2, k2, rfl⟩ := x2.now.slice)
              | (go_simp; go_at_call 24; refine (CF.out W0.drew (show Tk W0.drew b stJ from MJ.out.tk)).mono ?_; rintro e w1 ⟨rfl, t1, u1⟩; obtain ⟨q6, v1, q7, sl1⟩ := Q.out w1 u1))
          all_goals go_wp2_with fail
          all_goals
            obtain ⟨m1, m2, m3⟩ := NX.out w1 t1 u1 _ a2 k2 w2 x2
            exact ⟨⟨j + 1, .slice a2 (j + 1) k2, by go_num, by omega, m1, m2, m3⟩, by simp [intOf]; omega⟩
        · have hjl : ¬ (j : Int) < n := by omega
          have hjn : j = n := by omega
          obtain ⟨stJ, hst⟩ : ∃ s, s = (Mt.txs j s8).2 := ⟨_, rfl⟩
          obtain ⟨lJ, hlJ⟩ : ∃ l, l = (Mt.txs j s8).1 := ⟨_, rfl⟩
          rw [← hst, ← hlJ] at ml
          rw [← hlJ] at hx6
          have HME : Mt.me st = (⟨x, n1, n2, n3, n4, n5, lI, lJ⟩, stJ) := by
            have e2 : i = 2 := HI2.out
            have h1 := HS.out
            have h2 := HL.out
            rw [e2] at h1 h2
            unfold Mt.me
            simp only
            rw [HX.out]
            simp only
            rw [H1.out]
            simp only
            rw [H2.out]
            simp only
            rw [H3.out]
            simp only
            rw [H4.out]
            simp only
            rw [H5.out]
            simp only
            have h3 : (Mt.fl (Mt.fl s6).2).2 = stI := by rw [h1]; rfl
            rw [h3, HNN.out]
            simp only
            rw [hst, hlJ, hjn, h2]
            rfl
          have hmm : m = ⟨x, n1, n2, n3, n4, n5, lI, lJ⟩ ∧ s9 = Mt.dem stJ (Mt.chk m) := by
            have h := HMS.out
            unfold Mt.meC at h
            rw [HME] at h
            obtain ⟨h1, h2⟩ := Prod.mk.inj h
            rw [← h1]
            exact ⟨rfl, h2.symm⟩
          obtain ⟨hm, hs9⟩ := hmm
          clear HME
          obtain ⟨bc, hbc⟩ : ∃ c, c = Mt.chk m := ⟨_, rfl⟩
          rw [← hbc] at hs9
          have D := Lib.hid (fun W h => tkd_any b stJ bc W h)
          rw [← hs9] at D
          rw [← hm] at ml
          have MJ := Lib.hid ml
          have hmr : MeR W0 m (.slice av lI.length kv) (.slice as5 m.src.length ks5) := ⟨Rd.of_sl (by rw [hm]; rw [hm] at ml; exact ml.fs), Rd.of_sl (by rw [hm]; rw [hm] at ml; exact ml.ss), by have := ml.few; omega, by have := ml.few; omega⟩
          have hPW : PartsAt W0 := HP.out.turn ml.turn (by have := HP.out.1; omega)
          have CK := Lib.hid (fun W hW hPW => show Calls Tryd.prog 13 #[.agg #[.string (bs m.id), .int .i64 m.mn, .int .i64 m.mx, .int .i64 m.lv, .int .i64 m.se, .int .i64 m.sa, .slice av lI.length kv, .slice as5 m.src.length ks5]] W (fun e w' => e = .returned (.int .i64 (ckE bc)) ∧ Below W.heap.size W w') by
            have := check_any m (.slice av lI.length kv) (.slice as5 m.src.length ks5) W hW hPW
            rw [← hbc] at this
            exact this)
          obtain ⟨p0, p1, p2, p3, p4, p5, p6, p7⟩ := cells8 ml.box
          have HM := Lib.hid hm
          have HPW := Lib.hid hPW
          have HMR := Lib.hid hmr
          have HXB2 := Lib.hid hxb
          clear hst hlJ hm hbc hs9 hmr ml hxb hf6 hx6 htl hjn hPW hj hlt
          rcases bc with _ | _
          all_goals
            unfold ckE at CK
            (try simp only [if_true] at CK)
            (try simp only [if_false, Bool.false_eq_true] at CK)
            go_wp2_with fail
            (with_reducible refine (CK.out _ HMR.out HPW.out).mono ?_)
            rintro e w8 ⟨rfl, b8⟩
            clear p0 p1 p2 p3 p4 p5 p6 p7
            go_wp2_with fail
            refine (D.out _ (MJ.out.tk.below b8)).mono ?_
            rintro e w9 ⟨rfl, t9, u9⟩
            have z8 := b8.size
            have z9 := u9.size
            have hb9 := ((u9.block (w.heap.size + 1) (by omega) (by omega)).trans (b8.block (w.heap.size + 1) (by omega))).trans MJ.out.box
            have hx9 := ((u9.block w.heap.size (by omega) (by omega)).trans (b8.block w.heap.size (by omega))).trans HXB2.out
            obtain ⟨p0, p1, p2, p3, p4, p5, p6, p7⟩ := cells8 hb9
            obtain ⟨r0, r1, r2, r3, r4, r5, r6, r7⟩ := cells8 hx9
            obtain ⟨g0, g1, g2, g3, g4, g5, g6, g7⟩ := frozen8 hx9
            have T9 := Lib.hid t9
            have hne9 : w.heap.size ≠ w.heap.size + 1 := by omega
            have TF : Turn (fun k => k = b) w w9 := ((turn_shrink MJ.out.turn (fun k hk hs => by omega)).trans (Turn.of_below b8)).trans u9
            have SF := ((MJ.out.fs.on b8).turn u9 (fun k hk => by have := (MJ.out.fs.lt k hk).1; omega)).mono (show w.heap.size ≤ w.heap.size + 2 by omega)
            have SSS := ((MJ.out.ss.on b8).turn u9 (fun k hk => by have := (MJ.out.ss.lt k hk).1; omega)).mono (show w.heap.size ≤ Z7 by omega)
            have FIN := Lib.hid (fun W' (T : Turn (fun k => k = w.heap.size) w9 W') => show MeP b w m s9 (.returned (meV m (.slice av lI.length kv) (.slice as5 m.src.length ks5))) W' from
              ⟨_, _, rfl, T9.out.turn T (by omega), SF.turn T (fun k hk => by have := (MJ.out.fs.lt k hk).1; omega), SSS.turn T (fun k hk => by have := (MJ.out.ss.lt k hk).1; omega), turn_step TF (Turn.below T TF.size (fun k hk => Nat.le_of_eq hk.symm))⟩)
            clear hb9 hx9 t9 u9 b8 SF SSS TF
            go_wp2
            refine bodyPost_ret (v := meV m (.slice av lI.length kv) (.slice as5 m.src.length ks5)) (by simp [results, Tryd.results19, go_sem, meV, r0, r1, r2, r3, r4, r5, r6, r7]) rfl ?_
            exact FIN.out _ (turn_set8 w.heap.size _ _ _ _ _ _ _ _ _)
end Go.Proofs.YtkhpemfkbdiloaaDoor
