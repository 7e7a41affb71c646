/- Layer 10: copyOf, walked: a meta whose lists are its own. -/
import Derived.Test.YtkialkjhjenkhaaMMP
namespace Go.Proofs.Ytkialkjhjenkhaa
open Go.RowKit Go.Lib
set_option linter.unusedVariables false

theorem zc_strq : (Try.prog.info? 9).map (fun i => (i.zero, i.size, i.bytes)) = some (some (.string ⟨#[]⟩), 1, 16) := by kernel_rfl
theorem run_isnil_file (a : Option Addr) (n c : Nat) (w : World) : (binOp BinOp.eql 51 (.slice a n c) (.slice none 0 0)).run Try.prog w = .ok (.bool a.isNone) w := by
  have hu := run_underlying Try.underlying51
  have he : (Op.equal 51 (.slice a n c) (.slice none 0 0)).run Try.prog w = .ok a.isNone w := by
    show (Op.equalIn (9999 + 1) _ _ _).run _ _ = _
    unfold Op.equalIn
    simp only [Sem.run_bind, hu, Result.andThen]
    cases a <;> rfl
  simp [binOp, go_sem, he]
set_option maxHeartbeats 1000000 in
set_option maxRecDepth 100000 in
theorem clone_file (v : Value) (n : Nat) (xs : List Value) (w : World) (hr : Rd w 3 v n xs) (hm : n ≤ 1000000) (h1 : ∀ u ∈ xs, u.oneCell' = true) :
    Calls Try.prog 49 #[v] w fun e w' => ∃ v', e = .returned v' ∧ Sl w' w.heap.size 3 v' n xs ∧ Below w.heap.size w w' := by
  obtain ⟨i0, hi, hz0, hz1, hz2⟩ := info_parts zc_file
  have Hz := Lib.hid hz0; have Hs := Lib.hid hz1; have Hb := Lib.hid hz2; have Hi := Lib.hid hi
  clear hz0 hz1 hz2 hi
  have HR := Lib.hid hr
  have H1 := Lib.hid h1
  obtain ⟨hl0, a, cap, g, off, rfl, hg, hc⟩ := hr
  clear h1
  cases a with
  | none =>
    have hn0 : n = 0 := by
      rcases Nat.eq_zero_or_pos n with h0 | h0
      · exact h0
      · exact absurd (hg h0).1 (by simp)
    subst hn0
    have HE := Lib.hid (show xs = [] from List.eq_nil_of_length_eq_zero (by omega))
    have hq := fun W => run_isnil_file none 0 cap W
    clear hl0 hg hc
    go_enter Try.func49, Try.ntmps49
    go_wp2
    go_ret
    exact ⟨_, rfl, by rw [HE.out]; exact Sl.nil _ _ _, Below.refl _ _⟩
  | some ad =>
    have n1 : 0 + n ≤ maxLen := by unfold maxLen; omega
    have n2 : (0 + n) * 32 ≤ 140737488355328 := by omega
    have hq := fun W => run_isnil_file (some ad) n cap W
    clear hl0 hg hc
    go_enter Try.func49, Try.ntmps49
    go_wp2_with (at_builtin; refine wpList_append_rd _ rfl _ _ 51 rfl w.heap.size 57 i0 (.agg #[.string ⟨#[]⟩, .int .i64 0, .int .u32 0]) 3 32 Try.underlying51 Hi.out Hz.out Hs.out Hb.out rfl (by decide) _ 0 _ rfl (Sl.lit w w.heap.size 3 0 #[] _ (Nat.le_refl _) (by decide) rfl) _ n _ rfl (HR.out.on ((Below.refl _ _).alloc (Nat.le_refl _) _)) H1.out n1 n2 (by simp) ?_; intro v' w1 hx)
    go_ret
    have hx1 := hx.now
    rw [Nat.zero_add, List.nil_append] at hx1
    refine ⟨_, rfl, hx1, ?_⟩
    exact ((Below.refl _ w).alloc (Nat.le_refl _) _).grown hx.grown (by simp) (fun k e => by have e2 : w.heap.size = k := Option.some.inj e; omega)

theorem run_isnil_strs (a : Option Addr) (n c : Nat) (w : World) : (binOp BinOp.eql 43 (.slice a n c) (.slice none 0 0)).run Try.prog w = .ok (.bool a.isNone) w := by
  have hu := run_underlying Try.underlying43
  have he : (Op.equal 43 (.slice a n c) (.slice none 0 0)).run Try.prog w = .ok a.isNone w := by
    show (Op.equalIn (9999 + 1) _ _ _).run _ _ = _
    unfold Op.equalIn
    simp only [Sem.run_bind, hu, Result.andThen]
    cases a <;> rfl
  simp [binOp, go_sem, he]
set_option maxHeartbeats 1000000 in
set_option maxRecDepth 100000 in
theorem clone_strs (v : Value) (n : Nat) (xs : List Value) (w : World) (hr : Rd w 1 v n xs) (hm : n ≤ 1000000) (h1 : ∀ u ∈ xs, u.oneCell' = true) :
    Calls Try.prog 50 #[v] w fun e w' => ∃ v', e = .returned v' ∧ Sl w' w.heap.size 1 v' n xs ∧ Below w.heap.size w w' := by
  obtain ⟨i0, hi, hz0, hz1, hz2⟩ := info_parts zc_strq
  have Hz := Lib.hid hz0; have Hs := Lib.hid hz1; have Hb := Lib.hid hz2; have Hi := Lib.hid hi
  clear hz0 hz1 hz2 hi
  have HR := Lib.hid hr
  have H1 := Lib.hid h1
  obtain ⟨hl0, a, cap, g, off, rfl, hg, hc⟩ := hr
  clear h1
  cases a with
  | none =>
    have hn0 : n = 0 := by
      rcases Nat.eq_zero_or_pos n with h0 | h0
      · exact h0
      · exact absurd (hg h0).1 (by simp)
    subst hn0
    have HE := Lib.hid (show xs = [] from List.eq_nil_of_length_eq_zero (by omega))
    have hq := fun W => run_isnil_strs none 0 cap W
    clear hl0 hg hc
    go_enter Try.func50, Try.ntmps50
    go_wp2
    go_ret
    exact ⟨_, rfl, by rw [HE.out]; exact Sl.nil _ _ _, Below.refl _ _⟩
  | some ad =>
    have n1 : 0 + n ≤ maxLen := by unfold maxLen; omega
    have n2 : (0 + n) * 16 ≤ 140737488355328 := by omega
    have hq := fun W => run_isnil_strs (some ad) n cap W
    clear hl0 hg hc
    go_enter Try.func50, Try.ntmps50
    go_wp2_with (at_builtin; refine wpList_append_rd _ rfl _ _ 43 rfl w.heap.size 9 i0 (.string ⟨#[]⟩) 1 16 Try.underlying43 Hi.out Hz.out Hs.out Hb.out rfl (by decide) _ 0 _ rfl (Sl.lit w w.heap.size 1 0 #[] _ (Nat.le_refl _) (by decide) rfl) _ n _ rfl (HR.out.on ((Below.refl _ _).alloc (Nat.le_refl _) _)) H1.out n1 n2 (by simp) ?_; intro v' w1 hx)
    go_ret
    have hx1 := hx.now
    rw [Nat.zero_add, List.nil_append] at hx1
    refine ⟨_, rfl, hx1, ?_⟩
    exact ((Below.refl _ w).alloc (Nat.le_refl _) _).grown hx.grown (by simp) (fun k e => by have e2 : w.heap.size = k := Option.some.inj e; omega)

theorem sc_oneCell (l : List (List UInt8)) : ∀ v ∈ sc l, v.oneCell' = true := by
  intro v hv
  simp only [sc, List.mem_map] at hv
  obtain ⟨x, _, rfl⟩ := hv
  rfl
set_option maxHeartbeats 1000000 in
set_option maxRecDepth 100000 in
/-- A meta's copy: its lists are in new memory. -/
theorem copyOf_any (m : Mt.Me) (vf vs : Value) (w : World) (h : MeR w m vf vs) :
    Calls Try.prog 34 #[meV m vf vs] w fun e w' => ∃ vf' vs', e = .returned (meV m vf' vs') ∧ MeR w' m vf' vs' ∧ (∀ k, vf'.ownBlock = some k → w.heap.size ≤ k) ∧ (∀ k, vs'.ownBlock = some k → w.heap.size ≤ k) ∧ Below w.heap.size w w' := by
  obtain ⟨h1, h2, h3, h4⟩ := h
  have c1 := fun W (b : Below w.heap.size w W) => clone_file vf m.files.length (flc m.files) W (h1.on b) h3 (flc_oneCell m.files)
  have c2 := fun W (b : Below w.heap.size w W) => clone_strs vs m.src.length (sc m.src) W (h2.on b) h4 (sc_oneCell m.src)
  obtain ⟨a1, k1, rfl⟩ := rd_form h1
  obtain ⟨a2, k2, rfl⟩ := rd_form h2
  clear h1 h2
  obtain ⟨X, hX⟩ : ∃ X : Obj, X = .cells #[.string (bs m.id), .int .i64 m.mn, .int .i64 m.mx, .int .i64 m.lv, .int .i64 m.se, .int .i64 m.sa, .slice a1 m.files.length k1, .slice a2 m.src.length k2] 53 := ⟨_, rfl⟩
  obtain ⟨Y, hY⟩ : ∃ Y : Obj, Y = .cells #[.string ⟨#[]⟩, .int .i64 0, .int .i64 0, .int .i64 0, .int .i64 0, .int .i64 0, .slice none 0 0, .slice none 0 0] 53 := ⟨_, rfl⟩
  have F0 : Below w.heap.size w ((w.alloc X).alloc Y) ∧ ((w.alloc X).alloc Y).heap[w.heap.size]? = some X ∧ ((w.alloc X).alloc Y).heap[w.heap.size + 1]? = some Y ∧ ((w.alloc X).alloc Y).heap.size = w.heap.size + 2 := by
    have s1 : (w.alloc X).heap.size = w.heap.size + 1 := by simp
    have b0 := heap_alloc_new (w.alloc X) Y
    rw [s1] at b0
    exact ⟨((Below.refl _ _).alloc (Nat.le_refl _) _).alloc (by omega) _, (Below.heap_alloc (w.alloc X) Y w.heap.size (by omega)).trans (heap_alloc_new w X), b0, by simp⟩
  rw [hX, hY] at F0
  have HF0 := Lib.hid F0
  clear F0 hX hY X Y
  unfold meV
  go_enter Try.func34, Try.ntmps34
  go_wp2_with (first
    | (go_at_call 49; refine (c1 _ HF0.out.1).mono ?_; rintro e w1 ⟨v1, rfl, s1, b1⟩; obtain ⟨a3, k3, rfl⟩ := s1.slice; have HZ1 := Lib.hid HF0.out.2.2.2; rw [HZ1.out] at s1 b1; have box1 := (b1.block w.heap.size (by omega)).trans HF0.out.2.1; have box2 := (b1.block (w.heap.size + 1) (by omega)).trans HF0.out.2.2.1; have c6 := (cells8 box1).2.2.2.2.2.2.1; have c7 := (cells8 box1).2.2.2.2.2.2.2; have fz6 := Lib.frozen_of_heap box1 6; have z1 := b1.size; rw [HZ1.out] at z1; have HB1 := Lib.hid (HF0.out.1.trans (b1.mono (show w.heap.size ≤ w.heap.size + 2 by omega))); have HX1 := Lib.hid box1; have HX2 := Lib.hid box2; have HS1 := Lib.hid s1; have Z1 := Lib.hid z1; clear box1 box2 s1 b1 z1 HZ1)
    | (go_at_call 50; refine (c2 _ (HB1.out.setCell (p := ⟨w.heap.size, 6, none⟩) (Nat.le_refl _) _)).mono ?_; rintro e w2 ⟨v2, rfl, s2, b2⟩; obtain ⟨a4, k4, rfl⟩ := s2.slice; rw [World.size_setCell] at s2 b2; have Z := Z1.out; have box1 := (b2.block w.heap.size (by omega)).trans (heap_setCell_same w1 w.heap.size 6 _ _ (.slice a3 m.files.length k3) HX1.out); have box2 := (b2.block (w.heap.size + 1) (by omega)).trans ((Below.heap_setCell w1 ⟨w.heap.size, 6, none⟩ (.slice a3 m.files.length k3) (w.heap.size + 1) (by simp)).trans HX2.out); have box1 := box1.trans (show _ = some (Obj.cells #[.string (bs m.id), .int .i64 m.mn, .int .i64 m.mx, .int .i64 m.lv, .int .i64 m.se, .int .i64 m.sa, .slice a3 m.files.length k3, .slice a2 m.src.length k2] 53 (0, 0)) from rfl); obtain ⟨d0, d1, d2, d3, d4, d5, d6, d7⟩ := cells8 box1; have fz7 := Lib.frozen_of_heap box1 7; obtain ⟨g0, g1, g2, g3, g4, g5, g6, g7⟩ := frozen8 box2; obtain ⟨y0, y1, y2, y3, y4, y5, y6, y7⟩ := cells8 box2; have z2 := b2.size; rw [World.size_setCell] at z2; clear HX1 HX2; have HB2 := Lib.hid ((HB1.out.setCell (p := ⟨w.heap.size, 6, none⟩) (Nat.le_refl _) (.slice a3 m.files.length k3)).trans (b2.mono (show w.heap.size ≤ w1.heap.size by omega))); have HS2 := Lib.hid s2; have HS3 := Lib.hid ((sl_else HS1.out ⟨w.heap.size, 6, none⟩ (.slice a3 m.files.length k3) (by simp)).below (B := w1.heap.size) b2 (fun k hk => (HS1.out.lt k hk).2)); have Z2 := Lib.hid z2; clear box1 box2 s2 b2 z2 Z)
    | fail)
  refine bodyPost_ret (v := meV m (.slice a3 m.files.length k3) (.slice a4 m.src.length k4)) (by simp [results, Try.results34, go_sem, meV, y0, y1, y2, y3, y4, y5, y6, y7]) rfl ?_
  have hz1 := Z1.out
  have hz2 := Z2.out
  have t8 := turn_set8 (w.heap.size + 1) (w2.setCell ⟨w.heap.size, 7, none⟩ (.slice a4 m.src.length k4)) (.string (bs m.id)) (.int .i64 m.mn) (.int .i64 m.mx) (.int .i64 m.lv) (.int .i64 m.se) (.int .i64 m.sa) (.slice a3 m.files.length k3) (.slice a4 m.src.length k4)
  refine ⟨_, _, rfl, ⟨?_, ?_, h3, h4⟩, fun k hk => by have := (HS3.out.lt k hk).1; omega, fun k hk => by have := (HS2.out.lt k hk).1; omega, ?_⟩
  · exact Rd.of_sl ((sl_else HS3.out ⟨w.heap.size, 7, none⟩ (.slice a4 m.src.length k4) (by simp)).turn t8 (fun k hk => by have := (HS3.out.lt k hk).1; omega))
  · exact Rd.of_sl ((sl_else HS2.out ⟨w.heap.size, 7, none⟩ (.slice a4 m.src.length k4) (by simp only; omega)).turn t8 (fun k hk => by have := (HS2.out.lt k hk).1; omega))
  · exact (HB2.out.setCell (p := ⟨w.heap.size, 7, none⟩) (Nat.le_refl _) _).trans (t8.below (by simp; omega) (fun k hk => by omega))
end Go.Proofs.Ytkialkjhjenkhaa
