/- Layer 9: the document's Same, of two that are the same. -/
import Derived.Test.YtkialkjhjenkhaaMMP
namespace Go.Proofs.Ytkialkjhjenkhaa
open Go.RowKit Go.Lib

set_option maxHeartbeats 4000000 in
set_option maxRecDepth 100000 in
theorem same9_refl (m : Mt.Me) (vf vs vf' vs' : Value) (w : World) (h : MeR w m vf vs) (h' : MeR w m vf' vs') :
    Calls Try.prog 25 #[meV m vf vs, meV m vf' vs'] w fun e w' => e = .returned (.bool true) ∧ Below w.heap.size w w' := by
  have hT := bs_toList
  obtain ⟨⟨_, af, kf, gf, of1, rfl, hgf, hcf⟩, ⟨_, a5, k5, g5, o5, rfl, hg5, hc5⟩, hfm, hsm⟩ := h
  obtain ⟨⟨_, bf, lf, jf, pf1, rfl, hjf, hdf⟩, ⟨_, b5, l5, j5, p5, rfl, hj5, hd5⟩, _, _⟩ := h'
  obtain ⟨N, hN⟩ : ∃ N, N = m.files.length := ⟨_, rfl⟩
  rw [← hN] at hgf hcf hfm hjf hdf ⊢
  obtain ⟨M, hM⟩ : ∃ M, M = m.src.length := ⟨_, rfl⟩
  rw [← hM] at hg5 hc5 hsm hj5 hd5 ⊢
  have HN := Lib.hid hN
  have HM := Lib.hid hM
  have HG := Lib.hid hgf
  have HC := Lib.hid hcf
  have JG := Lib.hid hjf
  have JC := Lib.hid hdf
  have G5 := Lib.hid hg5
  have C5 := Lib.hid hc5
  have J5 := Lib.hid hj5
  have D5 := Lib.hid hd5
  clear hN hM hgf hcf hjf hdf hg5 hc5 hj5 hd5
  unfold meV
  go_enter Try.func25, Try.ntmps25
  go_wp2_with fail
  obtain ⟨X, hX⟩ : ∃ X : Obj, X = .cells #[.string (bs m.id), .int .i64 m.mn, .int .i64 m.mx, .int .i64 m.lv, .int .i64 m.se, .int .i64 m.sa, .slice af N kf, .slice a5 M k5] 67 := ⟨_, rfl⟩
  obtain ⟨Y, hY⟩ : ∃ Y : Obj, Y = .cells #[.string (bs m.id), .int .i64 m.mn, .int .i64 m.mx, .int .i64 m.lv, .int .i64 m.se, .int .i64 m.sa, .slice bf N lf, .slice b5 M l5] 67 := ⟨_, rfl⟩
  have s1 : (w.alloc X).heap.size = w.heap.size + 1 := by simp
  have R0 : ((w.alloc X).alloc Y).heap[w.heap.size]? = some X ∧ ((w.alloc X).alloc Y).heap[w.heap.size + 1]? = some Y ∧ Below w.heap.size w ((w.alloc X).alloc Y) := by
    have b1 := heap_alloc_new (w.alloc X) Y
    rw [s1] at b1
    exact ⟨(Below.heap_alloc (w.alloc X) Y w.heap.size (by omega)).trans (heap_alloc_new w X), b1, ((Below.refl _ _).alloc (Nat.le_refl _) _).alloc (by omega) _⟩
  rw [hX, hY] at R0
  have HR0 := Lib.hid R0
  clear R0 s1 hX hY X Y
  go_loopw [26] (fun i' wr => ∃ (i : Nat), i' = .int .i64 i ∧ i ≤ N ∧ wr.heap[w.heap.size]? = some (.cells #[.string (bs m.id), .int .i64 m.mn, .int .i64 m.mx, .int .i64 m.lv, .int .i64 m.se, .int .i64 m.sa, .slice af N kf, .slice a5 M k5] 67) ∧ wr.heap[w.heap.size + 1]? = some (.cells #[.string (bs m.id), .int .i64 m.mn, .int .i64 m.mx, .int .i64 m.lv, .int .i64 m.se, .int .i64 m.sa, .slice bf N lf, .slice b5 M l5] 67) ∧ Below w.heap.size w wr) (fun i' _ => N - (RowKit.intOf i').toNat)
  case atStart => exact ⟨0, rfl, by omega, HR0.out⟩
  case round =>
    clear HR0
    obtain ⟨W0, rfl⟩ : ∃ W0, W0 = wr := ⟨_, rfl⟩
    obtain ⟨i, rfl, hi, hx, hy, hb⟩ := hrel
    obtain ⟨x0, x1, x2, x3, x4, x5, x6, x7⟩ := cells8 hx
    obtain ⟨y0, y1, y2, y3, y4, y5, y6, y7⟩ := cells8 hy
    have HX := Lib.hid hx; have HY := Lib.hid hy; have HB := Lib.hid hb
    clear hx hy
    by_cases hlt : i < N
    · obtain ⟨rfl, hgl⟩ := HG.out (by omega)
      obtain ⟨rfl, hjl⟩ := JG.out (by omega)
      obtain ⟨f, hf⟩ : ∃ f, m.files[i]? = some f := ⟨m.files[i]'(by have := HN.out; omega), List.getElem?_eq_getElem (by have := HN.out; omega)⟩
      obtain ⟨e0, e1, e2⟩ := flc_at m.files i f hf
      have q0 := ((hb.cell (p := ⟨gf, of1 + i * 3, none⟩) hgl).trans (HC.out (i * 3) (by omega))).trans e0
      have q1 := ((hb.cell (p := ⟨gf, of1 + (i * 3 + 1), none⟩) hgl).trans (HC.out (i * 3 + 1) (by omega))).trans e1
      have q2 := ((hb.cell (p := ⟨gf, of1 + (i * 3 + 2), none⟩) hgl).trans (HC.out (i * 3 + 2) (by omega))).trans e2
      have u0 := ((hb.cell (p := ⟨jf, pf1 + i * 3, none⟩) hjl).trans (JC.out (i * 3) (by omega))).trans e0
      have u1 := ((hb.cell (p := ⟨jf, pf1 + (i * 3 + 1), none⟩) hjl).trans (JC.out (i * 3 + 1) (by omega))).trans e1
      have u2 := ((hb.cell (p := ⟨jf, pf1 + (i * 3 + 2), none⟩) hjl).trans (JC.out (i * 3 + 2) (by omega))).trans e2
      rw [← Nat.add_assoc] at q1 q2 u1 u2
      have hil : (i : Int) < N := by omega
      have hil0 : (0 : Int) ≤ i := by omega
      clear e0 e1 e2 hf hb
      go_wp2
      go_quiet (fail)
      go_wp2
      exact ⟨⟨i + 1, by simp, by omega, HX.out, HY.out, below_draw HB.out _⟩, by simp [RowKit.intOf]; omega⟩
    · have hil : ¬ (i : Int) < N := by omega
      clear hb
      go_wp2_with fail
      go_loopw [44] (fun i' wr => ∃ (i : Nat), i' = .int .i64 i ∧ i ≤ M ∧ wr.heap[w.heap.size]? = some (.cells #[.string (bs m.id), .int .i64 m.mn, .int .i64 m.mx, .int .i64 m.lv, .int .i64 m.se, .int .i64 m.sa, .slice af N kf, .slice a5 M k5] 67) ∧ wr.heap[w.heap.size + 1]? = some (.cells #[.string (bs m.id), .int .i64 m.mn, .int .i64 m.mx, .int .i64 m.lv, .int .i64 m.se, .int .i64 m.sa, .slice bf N lf, .slice b5 M l5] 67) ∧ Below w.heap.size w wr) (fun i' _ => M - (RowKit.intOf i').toNat)
      case atStart => exact ⟨0, rfl, by omega, HX.out, HY.out, HB.out⟩
      case round =>
        clear HX HY HB x0 x1 x2 x3 x4 x5 x6 x7 y0 y1 y2 y3 y4 y5 y6 y7
        obtain ⟨W1, rfl⟩ : ∃ W1, W1 = wr := ⟨_, rfl⟩
        obtain ⟨k, rfl, hk, hx, hy, hb⟩ := hrel
        obtain ⟨x0, x1, x2, x3, x4, x5, x6, x7⟩ := cells8 hx
        obtain ⟨y0, y1, y2, y3, y4, y5, y6, y7⟩ := cells8 hy
        have HX := Lib.hid hx; have HY := Lib.hid hy; have HB := Lib.hid hb
        clear hx hy
        by_cases hlt : k < M
        · obtain ⟨rfl, hgl⟩ := G5.out (by omega)
          obtain ⟨rfl, hjl⟩ := J5.out (by omega)
          obtain ⟨f, hf⟩ : ∃ f, m.src[k]? = some f := ⟨m.src[k]'(by have := HM.out; omega), List.getElem?_eq_getElem (by have := HM.out; omega)⟩
          have e0 := sc_at m.src k f hf
          have q0 := ((hb.cell (p := ⟨g5, o5 + k, none⟩) hgl).trans (C5.out k (by omega))).trans e0
          have u0 := ((hb.cell (p := ⟨j5, p5 + k, none⟩) hjl).trans (D5.out k (by omega))).trans e0
          have hil : (k : Int) < M := by omega
          have hil0 : (0 : Int) ≤ k := by omega
          clear e0 hf hb
          go_wp2
          go_quiet (fail)
          go_wp2
          exact ⟨⟨k + 1, by simp, by omega, HX.out, HY.out, below_draw HB.out _⟩, by simp [RowKit.intOf]; omega⟩
        · have hil : ¬ (k : Int) < M := by omega
          clear hb
          go_wp2
          go_ret
          exact ⟨rfl, HB.out⟩
end Go.Proofs.Ytkialkjhjenkhaa
