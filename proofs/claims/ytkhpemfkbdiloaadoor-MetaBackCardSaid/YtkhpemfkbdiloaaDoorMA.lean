/- Layer 9: a file, a meta taken. -/
import Derived.Test.YtkhpemfkbdiloaaDoorM9
import Derived.Laws.Rows
namespace Go.Proofs.YtkhpemfkbdiloaaDoor
open Go.RowKit Go.Lib

theorem tn_le (st : Mt.St) (most : Int) (hm : 0 ≤ most) : ((Mt.tn st most).1 : Int) ≤ most := by
  unfold Mt.tn
  split
  · simpa using hm
  · show ((Leb.takeM st.1 most).1 : Int) ≤ most
    unfold Leb.takeM
    split
    · simpa using hm
    · split
      · simpa using hm
      · rename_i h1 h2
        omega
theorem tn_lt (st : Mt.St) (most : Int) : (Mt.tn st most).1 < 18446744073709551616 := by
  unfold Mt.tn
  split
  · simp
  · show (Leb.takeM st.1 most).1 < _
    unfold Leb.takeM
    split
    · simp
    · split
      · simp
      · exact Leb.takeU_lt _

/-- A file as a value. -/
def flV (f : Mt.Fl) : Value := .agg #[.string (bs f.name), .int .i64 f.size, .int .u32 f.sum]
theorem fl_len (st : Mt.St) : (Mt.fl st).2.1.length ≤ st.1.length := by
  unfold Mt.fl
  exact Nat.le_trans (tn_len _ _) (Nat.le_trans (tn_len _ _) (tt_len _ _))
theorem cells3 {w : World} {b : Nat} {v0 v1 v2 : Value} {T : TypeId} (h : w.heap[b]? = some (.cells #[v0, v1, v2] T)) :
    (w.cell? ⟨b, 0, none⟩ = some v0 ∧ w.cell? ⟨b, 1, none⟩ = some v1 ∧ w.cell? ⟨b, 2, none⟩ = some v2) ∧ w.frozen? ⟨b, 0, none⟩ = false ∧ w.frozen? ⟨b, 1, none⟩ = false ∧ w.frozen? ⟨b, 2, none⟩ = false :=
  ⟨⟨Lib.cell_of_heap h 0, Lib.cell_of_heap h 1, Lib.cell_of_heap h 2⟩, Lib.frozen_of_heap h 0, Lib.frozen_of_heap h 1, Lib.frozen_of_heap h 2⟩

set_option maxHeartbeats 2000000 in
set_option maxRecDepth 100000 in
theorem file_any (b : Nat) (st : Mt.St) (w : World) (h : Tk w b st) (hl : st.1.length ≤ 140737488350000) :
    Calls Tryd.prog 37 #[.pointer (some ⟨b, 0, none⟩)] w (TkP b w (flV (Mt.fl st).1) (Mt.fl st).2) := by
  have hbw := h.1
  obtain ⟨x, s1, hx⟩ : ∃ x s1, Mt.tt st 40 = (x, s1) := ⟨_, _, rfl⟩
  have l1 := tt_len st 40
  obtain ⟨n, s2, hn⟩ : ∃ n s2, Mt.tn s1 1048576 = (n, s2) := ⟨_, _, rfl⟩
  have l2 := tn_len s1 1048576
  obtain ⟨k, s3, hk⟩ : ∃ k s3, Mt.tn s2 4294967295 = (k, s3) := ⟨_, _, rfl⟩
  have l3 := tn_le s2 4294967295 (by omega)
  rw [hx] at l1
  rw [hn] at l2
  rw [hk] at l3
  simp only at l1 l2 l3
  have T1 := Lib.hid (fun W h => show Calls Tryd.prog 24 #[.pointer (some ⟨b, 0, none⟩), .int .i64 40] W (TkP b W (.string (bs x)) s1) by
    have := tkt_any b st 40 W h hl (by omega) (by omega)
    rwa [hx] at this)
  have T2 := Lib.hid (fun W h => show Calls Tryd.prog 25 #[.pointer (some ⟨b, 0, none⟩), .int .i64 1048576] W (TkP b W (.int .i64 n) s2) by
    have := tkn_any b s1 1048576 W h (by omega) (by omega) (by omega)
    rwa [hn] at this)
  have T3 := Lib.hid (fun W h => show Calls Tryd.prog 25 #[.pointer (some ⟨b, 0, none⟩), .int .i64 4294967295] W (TkP b W (.int .i64 k) s3) by
    have := tkn_any b s2 4294967295 W h (by omega) (by omega) (by omega)
    rwa [hk] at this)
  have HF := Lib.hid (show Mt.fl st = (⟨x, n, k⟩, s3) by
    unfold Mt.fl
    simp only
    rw [hx]
    simp only
    rw [hn]
    simp only
    rw [hk])
  rw [HF.out]
  have hw : IntKind.u32.wrap (k : Int) = k := by rw [wrap_u32']; omega
  clear hx hn hk l1 l2 hl
  have H := Lib.hid h
  clear h
  have Z0 := Lib.hid (fun X Y : Obj => ((H.out.below ((Below.refl _ _).alloc (Nat.le_refl _) X)).below ((Below.refl _ _).alloc (Nat.le_refl _) Y)))
  go_enter Tryd.func37, Tryd.ntmps37
  go_wp2_with fail
  refine (T1.out _ (Z0.out _ _)).mono ?_
  rintro e w1 ⟨rfl, t1, u1⟩
  obtain ⟨Z, hZ⟩ : ∃ Z : Obj, Z = .cells #[.string ⟨#[]⟩, .int .i64 0, .int .u32 0] 50 := ⟨_, rfl⟩
  have hz : (w.alloc Z).heap.size = w.heap.size + 1 := by simp
  have y1 := heap_alloc_new (w.alloc Z) Z
  rw [hz, hZ] at y1
  have x1 := (Below.heap_alloc (w.alloc Z) Z w.heap.size (by simp)).trans (heap_alloc_new w Z)
  rw [hZ] at x1
  have y2 := (u1.block (w.heap.size + 1) (by simp) (by omega)).trans y1
  have x2 := (u1.block w.heap.size (by simp <;> omega) (by omega)).trans x1
  have z1 := u1.size
  simp at z1
  have U1 : Turn (fun j => j = b) w w1 := by
    have t := ((Turn.refl (fun j => j = b) w).alloc Z).alloc Z
    rw [hZ] at t
    exact t.trans u1
  obtain ⟨⟨c0, c1, c2⟩, f0, f1, f2⟩ := cells3 y2
  clear y1 x1 hz
  go_wp2_with fail
  refine (T2.out _ (t1.turn (S := fun j => j = w.heap.size + 1) ((Turn.refl _ _).setCell _ _ rfl) (by omega))).mono ?_
  rintro e w2 ⟨rfl, t2, u2⟩
  have y3 := heap_setCell_same w1 (w.heap.size + 1) 0 _ _ (.string (bs x)) y2
  have y4 := (u2.block (w.heap.size + 1) (by simp [World.setCell]; omega) (by omega)).trans y3
  have x4 := (u2.block w.heap.size (by simp [World.setCell]; omega) (by omega)).trans ((Below.heap_setCell w1 _ _ w.heap.size (by simp)).trans x2)
  have z2 := u2.size
  simp [World.setCell] at z2 y4
  have U2 : Turn (fun j => j = b) w w2 := (U1.setNew ⟨w.heap.size + 1, 0, none⟩ _ (by simp)).trans u2
  clear c0 c1 c2 f0 f1 f2 y2 y3 x2 u2
  obtain ⟨⟨c0, c1, c2⟩, f0, f1, f2⟩ := cells3 y4
  go_wp2_with fail
  refine (T3.out _ (t2.turn (S := fun j => j = w.heap.size + 1) ((Turn.refl _ _).setCell _ _ rfl) (by omega))).mono ?_
  rintro e w3 ⟨rfl, t3, u3⟩
  have y5 := heap_setCell_same w2 (w.heap.size + 1) 1 _ _ (.int .i64 n) y4
  have y6 := (u3.block (w.heap.size + 1) (by simp [World.setCell]; omega) (by omega)).trans y5
  have x6 := (u3.block w.heap.size (by simp [World.setCell]; omega) (by omega)).trans ((Below.heap_setCell w2 _ _ w.heap.size (by simp)).trans x4)
  have z3 := u3.size
  simp [World.setCell] at z3 y6
  have U3 : Turn (fun j => j = b) w w3 := (U2.setNew ⟨w.heap.size + 1, 1, none⟩ _ (by simp)).trans u3
  clear c0 c1 c2 f0 f1 f2 y4 y5 x4 u3
  obtain ⟨⟨c0, c1, c2⟩, f0, f1, f2⟩ := cells3 y6
  obtain ⟨⟨r0, r1, r2⟩, g0, g1, g2⟩ := cells3 x6
  have hne : w.heap.size ≠ w.heap.size + 1 := by omega
  have hT3 := Lib.hid t3
  clear y6 x6 t1 t2 t3
  go_wp2
  refine bodyPost_ret (v := flV ⟨x, n, k⟩) (by simp [results, Tryd.results37, go_sem, flV, r0, r1, r2]) rfl ⟨rfl, ?_, ?_⟩
  · exact ((((hT3.out.turn (S := fun j => j = w.heap.size + 1) ((Turn.refl _ _).setCell _ _ rfl) (by omega)).turn (S := fun j => j = w.heap.size) ((Turn.refl _ _).setCell _ _ rfl) (by omega)).turn (S := fun j => j = w.heap.size) ((Turn.refl _ _).setCell _ _ rfl) (by omega)).turn (S := fun j => j = w.heap.size) ((Turn.refl _ _).setCell _ _ rfl) (by omega))
  · exact (((U3.setNew ⟨w.heap.size + 1, 2, none⟩ _ (by simp)).setNew ⟨w.heap.size, 0, none⟩ _ (by simp)).setNew ⟨w.heap.size, 1, none⟩ _ (by simp)).setNew ⟨w.heap.size, 2, none⟩ _ (by simp)
end Go.Proofs.YtkhpemfkbdiloaaDoor
