/- Layer 9: a meta told as the document's; the same is the same. -/
import Derived.Test.YtkialkjhjenkhaaMMB
import Derived.Laws.StructEq
import Derived.BigQuiet
import Derived.Deep.QuietTactic
namespace Go.Proofs.Ytkialkjhjenkhaa
open Go.RowKit Go.Lib

theorem zc_rfile : (Try.prog.info? 90).map (fun i => (i.zero, i.size, i.bytes)) = some (some (.agg #[.string ⟨#[]⟩, .int .i64 0, .int .u32 0]), 3, 32) := by kernel_rfl
/-- The answer: the document's meta, its files in new memory. -/
def ToldP (w : World) (m : Mt.Me) (vs : Value) (e : Ending) (w' : World) : Prop :=
  ∃ vf, e = .returned (meV m vf vs) ∧ Sl w' w.heap.size 3 vf m.files.length (flc m.files) ∧ Below w.heap.size w w'
/-- The boxes of a document's meta while files are told. -/
structure TdL (w wr : World) (m : Mt.Me) (vs v2 : Value) (i : Nat) : Prop where
  box : wr.heap[w.heap.size + 1 + 1]? = some (.cells #[.string (bs m.id), .int .i64 m.mn, .int .i64 m.mx, .int .i64 m.lv, .int .i64 m.se, .int .i64 m.sa, v2, vs] 67 (0, 0))
  res : wr.heap[w.heap.size + 1]? = some (.cells #[.string ⟨#[]⟩, .int .i64 0, .int .i64 0, .int .i64 0, .int .i64 0, .int .i64 0, .slice none 0 0, .slice none 0 0] 67 (0, 0))
  fs : Sl wr (w.heap.size + 3) 3 v2 i (flc (m.files.take i))
  below : Below w.heap.size w wr
  big : w.heap.size + 3 ≤ wr.heap.size

theorem flc_oneCell (l : List Mt.Fl) : ∀ v ∈ flc l, v.oneCell' = true := by
  intro v hv
  simp only [flc, List.mem_flatMap, List.mem_cons, List.not_mem_nil, or_false] at hv
  obtain ⟨f, _, rfl | rfl | rfl⟩ := hv <;> rfl

set_option maxHeartbeats 4000000 in
set_option maxRecDepth 100000 in
theorem told9_any (m : Mt.Me) (vf vs : Value) (w : World) (h : MeR w m vf vs) :
    Calls Try.prog 20 #[meV m vf vs] w (ToldP w m vs) := by
  obtain ⟨i1, hi, hz0, hz1, hz2⟩ := info_parts zc_rfile
  have Kz := Lib.hid hz0; have Ks := Lib.hid hz1; have Kb := Lib.hid hz2; have Ki := Lib.hid hi
  clear hz0 hz1 hz2 hi
  obtain ⟨⟨_, af, kf, gf, of', rfl, hgf, hcf⟩, ⟨_, a5, k5, g5, o5, rfl, _, _⟩, hfm, _⟩ := h
  obtain ⟨N, hN⟩ : ∃ N, N = m.files.length := ⟨_, rfl⟩
  rw [← hN] at hgf hcf hfm ⊢
  have HN := Lib.hid hN
  have HG := Lib.hid hgf
  have HC := Lib.hid hcf
  clear hN hgf hcf
  unfold meV
  go_enter Try.func20, Try.ntmps20
  go_wp2_with fail
  obtain ⟨X, hX⟩ : ∃ X : Obj, X = .cells #[.string (bs m.id), .int .i64 m.mn, .int .i64 m.mx, .int .i64 m.lv, .int .i64 m.se, .int .i64 m.sa, .slice af N kf, .slice a5 m.src.length k5] 53 := ⟨_, rfl⟩
  obtain ⟨Y, hY⟩ : ∃ Y : Obj, Y = .cells #[.string ⟨#[]⟩, .int .i64 0, .int .i64 0, .int .i64 0, .int .i64 0, .int .i64 0, .slice none 0 0, .slice none 0 0] 67 := ⟨_, rfl⟩
  obtain ⟨Z, hZ⟩ : ∃ Z : Obj, Z = .cells #[.string (bs m.id), .int .i64 m.mn, .int .i64 m.mx, .int .i64 m.lv, .int .i64 m.se, .int .i64 m.sa, .slice none 0 0, .slice a5 m.src.length k5] 67 := ⟨_, rfl⟩
  have s1 : (w.alloc X).heap.size = w.heap.size + 1 := by simp
  have s2 : ((w.alloc X).alloc Y).heap.size = w.heap.size + 1 + 1 := by simp
  have s3 : (((w.alloc X).alloc Y).alloc Z).heap.size = w.heap.size + 3 := by simp
  have T0 : TdL w (((w.alloc X).alloc Y).alloc Z) m (.slice a5 m.src.length k5) (.slice none 0 0) 0 := by
    have b0 := heap_alloc_new ((w.alloc X).alloc Y) Z
    rw [s2] at b0
    have b1 := heap_alloc_new (w.alloc X) Y
    rw [s1] at b1
    refine ⟨by rw [b0, hZ], ?_, Sl.nil _ _ _, ((((Below.refl _ _).alloc (Nat.le_refl _) _).alloc (by omega) _).alloc (by omega) _), by omega⟩
    rw [Below.heap_alloc ((w.alloc X).alloc Y) Z (w.heap.size + 1) (by omega), b1, hY]
  have HT0 := Lib.hid T0
  rw [hX, hY, hZ] at HT0
  clear T0 hX hY hZ s1 s2 s3 X Y Z
  go_loopw [24] (fun i' wr => ∃ (i : Nat) (v2 : Value), i' = .int .i64 i ∧ i ≤ N ∧ TdL w wr m (.slice a5 m.src.length k5) v2 i) (fun i' _ => N - (RowKit.intOf i').toNat)
  case atStart => exact ⟨0, _, rfl, by omega, HT0.out⟩
  case round =>
    clear HT0
    obtain ⟨W0, rfl⟩ : ∃ W0, W0 = wr := ⟨_, rfl⟩
    obtain ⟨i, v2, rfl, hi, td⟩ := hrel
    obtain ⟨x0, x1, x2, x3, x4, x5, x6, x7⟩ := cells8 td.box
    have f6 := Lib.frozen_of_heap td.box 6
    have hbig := td.big
    by_cases hlt : i < N
    · obtain ⟨rfl, hgl⟩ := HG.out (by omega)
      obtain ⟨f, hf⟩ : ∃ f, m.files[i]? = some f := ⟨m.files[i]'(by have := HN.out; omega), List.getElem?_eq_getElem (by have := HN.out; omega)⟩
      obtain ⟨y0, y1, y2⟩ := flc_at m.files i f hf
      have q0 := ((td.below.cell (p := ⟨gf, of' + i * 3, none⟩) hgl).trans (HC.out (i * 3) (by omega))).trans y0
      have q1 := ((td.below.cell (p := ⟨gf, of' + (i * 3 + 1), none⟩) hgl).trans (HC.out (i * 3 + 1) (by omega))).trans y1
      have q2 := ((td.below.cell (p := ⟨gf, of' + (i * 3 + 2), none⟩) hgl).trans (HC.out (i * 3 + 2) (by omega))).trans y2
      rw [← Nat.add_assoc] at q1 q2
      have HTK := Lib.hid (show flc (m.files.take (i + 1)) = flc (m.files.take i) ++ flc [f] by rw [List.take_add_one, hf, flc_append]; rfl)
      have hil : (i : Int) < N := by omega
      obtain ⟨av, kv, rfl⟩ := td.fs.slice
      have TD := Lib.hid td
      have hown : ∀ k, (Value.slice av i kv).ownBlock = some k → w.heap.size + 3 ≤ k := fun k hk => (td.fs.lt k hk).1
      have HOWN := Lib.hid hown
      have hz1 : (W0.alloc (.cells #[.string (bs f.name), .int .i64 f.size, .int .u32 f.sum] 57)).heap.size = W0.heap.size + 1 := by simp
      have hlt2 : w.heap.size + 1 + 1 < W0.heap.size := by omega
      have SL1 := Lib.hid (show Sl ((W0.alloc (.cells #[.string (bs f.name), .int .i64 f.size, .int .u32 f.sum] 57)).alloc (.cells #[.string (bs f.name), .int .i64 f.size, .int .u32 f.sum] 90)) (w.heap.size + 3) 3 (.slice (some ⟨W0.heap.size + 1, 0, none⟩) 1 1) 1 (flc [f]) by
        have := Sl.lit (W0.alloc (.cells #[.string (bs f.name), .int .i64 f.size, .int .u32 f.sum] 57)) (w.heap.size + 3) 3 1 #[.string (bs f.name), .int .i64 f.size, .int .u32 f.sum] 90 (by omega) (by decide) rfl
        rw [hz1] at this
        exact this)
      clear y0 y1 y2 hf td hown
      go_wp2_with (at_builtin; go_loud (refine wpList_append_sl2 _ rfl _ _ 65 rfl (w.heap.size + 3) 90 i1 (.agg #[.string ⟨#[]⟩, .int .i64 0, .int .u32 0]) 3 32 Try.underlying65 Ki.out Kz.out Ks.out Kb.out rfl (by decide) _ i _ rfl ((TD.out.fs.alloc _).alloc _) _ _ 1 _ rfl SL1.out (flc_oneCell [f]) (by unfold maxLen; omega) (by omega) (by simp; omega) ?_; intro v5 w5 x5; obtain ⟨a5', k5', rfl⟩ := x5.now.slice; have bb5 := x5.below (B := w.heap.size + 3) (Nat.le_refl _) (by simp; omega); have box5 := ((bb5.block (w.heap.size + 1 + 1) (by omega)).trans ((Below.heap_alloc (W0.alloc _) _ (w.heap.size + 1 + 1) (by simp; omega)).trans (Below.heap_alloc W0 _ (w.heap.size + 1 + 1) hlt2))).trans TD.out.box; have c6 := (cells8 box5).2.2.2.2.2.2.1; have fz6 := Lib.frozen_of_heap box5 6; have BOX5 := Lib.hid box5; have FS5 := Lib.hid x5.now; have B5 := Lib.hid ((((TD.out.below.alloc (by omega) _).alloc (by simp; omega) _)).trans (bb5.mono (by omega))); have RES5 := Lib.hid (((bb5.block (w.heap.size + 1) (by omega)).trans ((Below.heap_alloc (W0.alloc _) _ (w.heap.size + 1) (by simp; omega)).trans (Below.heap_alloc W0 _ (w.heap.size + 1) (by omega)))).trans TD.out.res); have hz5 := bb5.size; have Z5 := Lib.hid (show w.heap.size + 3 ≤ w5.heap.size by simp at hz5; omega); clear box5 bb5 x5 hz5))
      have hb := heap_setCell_same w5 (w.heap.size + 1 + 1) 6 _ _ (.slice a5' (i + 1) k5') BOX5.out
      have hr := (Below.heap_setCell w5 ⟨w.heap.size + 1 + 1, 6, none⟩ (.slice a5' (i + 1) k5') (w.heap.size + 1) (by simp)).trans RES5.out
      refine ⟨⟨i + 1, .slice a5' (i + 1) k5', by simp, by omega, ⟨by rw [hb]; rfl, hr, ?_, B5.out.setCell (by show w.heap.size ≤ w.heap.size + 1 + 1; omega) _, by simp [World.setCell]; exact Z5.out⟩⟩, by simp [RowKit.intOf]; omega⟩
      rw [HTK.out]
      exact sl_else FS5.out _ _ (by simp)
    · have hil : ¬ (i : Int) < N := by omega
      obtain ⟨r0, r1, r2, r3, r4, r5, r6, r7⟩ := cells8 td.res
      obtain ⟨g0, g1, g2, g3, g4, g5, g6, g7⟩ := frozen8 td.res
      have hall : m.files.take i = m.files := List.take_of_length_le (by have := HN.out; omega)
      have hiN : i = m.files.length := by have := HN.out; omega
      have hF := td.fs
      rw [hall] at hF
      have HF := Lib.hid hF
      have HBL := Lib.hid td.below
      obtain ⟨av, kv, rfl⟩ := td.fs.slice
      have HOWN := Lib.hid (show ∀ k, (Value.slice av i kv).ownBlock = some k → w.heap.size + 3 ≤ k from fun k hk => (td.fs.lt k hk).1)
      have HIN := Lib.hid hiN
      clear td hF hall hiN
      go_wp2
      refine bodyPost_ret (v := meV m (.slice av i kv) (.slice a5 m.src.length k5)) (by simp [results, Try.results20, go_sem, meV, r0, r1, r2, r3, r4, r5, r6, r7]) rfl ?_
      refine ⟨_, rfl, ?_, HBL.out.trans ((turn_set8 (w.heap.size + 1) _ _ _ _ _ _ _ _ _).below (by omega) (fun k hk => by omega))⟩
      have h2 := (HF.out.mono (show w.heap.size ≤ w.heap.size + 3 by omega))
      have h3 := h2.turn (turn_set8 (w.heap.size + 1) W0 (.string (bs m.id)) (.int .i64 m.mn) (.int .i64 m.mx) (.int .i64 m.lv) (.int .i64 m.se) (.int .i64 m.sa) (.slice av i kv) (.slice a5 m.src.length k5)) (fun k hk => by have := HOWN.out k hk; omega)
      rw [← HIN.out]
      exact h3
end Go.Proofs.Ytkialkjhjenkhaa
