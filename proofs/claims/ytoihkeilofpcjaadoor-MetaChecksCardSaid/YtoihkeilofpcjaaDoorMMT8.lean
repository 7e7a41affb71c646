/- Layer 9: Few, walked. -/
import Derived.Test.YtoihkeilofpcjaaDoorMMT7
import Derived.Test.YtoihkeilofpcjaaDoorMKA
import Derived.Test.YtoihkeilofpcjaaDoorMMP
import Derived.Deep.CutRange
import Derived.StillTailTactics
namespace Go.Proofs.YtoihkeilofpcjaaDoor
open Go.RowKit Go.Lib
set_option linter.unusedVariables false

theorem zc_mfile : (Tryd.prog.info? 42).map (fun i => (i.zero, i.size, i.bytes)) = some (some (.agg #[.string ⟨#[]⟩, .int .i64 0, .int .u32 0]), 3, 32) := by kernel_rfl
theorem zc_mstr : (Tryd.prog.info? 9).map (fun i => (i.zero, i.size, i.bytes)) = some (some (.string ⟨#[]⟩), 1, 16) := by kernel_rfl

theorem sl_free {w : World} {base size g off n cap : Nat} {xs : List Value} (h : Sl w base size (.slice (some ⟨g, off, none⟩) n cap) n xs) (j : Nat) (hj : j < n * size) : w.frozen? ⟨g, off + j, none⟩ = false := by
  obtain ⟨h1, h2⟩ := h
  rcases h2 with ⟨e, _⟩ | ⟨g', off', cap', e, a1, a2, a3, a4, a5, a6⟩
  · cases e
  · cases e
    exact (a5 j (Nat.lt_of_lt_of_le hj (Nat.mul_le_mul_right _ a3))).2
theorem sl_other {w : World} {base size n : Nat} {v : Value} {xs : List Value} (h : Sl w base size v n xs) (B : Nat) (hv : ∀ k, v.ownBlock = some k → k < B) (a : Addr) (u : Value) (ha : B ≤ a.block) : Sl (w.setCell a u) base size v n xs := by
  by_cases hB : B ≤ w.heap.size
  · exact h.below ((Below.refl B w).setCell ha u) hv
  · refine h.below (B := w.heap.size) ((Below.refl w.heap.size w).setCell (by omega) u) (fun k hk => (h.lt k hk).2)

/-- A block of eight cells filled. -/
def fill8 (w : World) (b : Nat) (v0 v1 v2 v3 v4 v5 v6 v7 : Value) : World :=
  (((((((w.setCell ⟨b, 0, none⟩ v0).setCell ⟨b, 1, none⟩ v1).setCell ⟨b, 2, none⟩ v2).setCell ⟨b, 3, none⟩ v3).setCell ⟨b, 4, none⟩ v4).setCell ⟨b, 5, none⟩ v5).setCell ⟨b, 6, none⟩ v6).setCell ⟨b, 7, none⟩ v7
theorem fill8_heap (w : World) (b : Nat) (T : TypeId) (z0 z1 z2 z3 z4 z5 z6 z7 v0 v1 v2 v3 v4 v5 v6 v7 : Value) (h : w.heap[b]? = some (.cells #[z0, z1, z2, z3, z4, z5, z6, z7] T)) : (fill8 w b v0 v1 v2 v3 v4 v5 v6 v7).heap[b]? = some (.cells #[v0, v1, v2, v3, v4, v5, v6, v7] T) := by
  have h0 := (heap_setCell_same _ b 0 _ _ v0 h).trans (show _ = some (Obj.cells #[v0, z1, z2, z3, z4, z5, z6, z7] T) from rfl)
  have h1 := (heap_setCell_same _ b 1 _ _ v1 h0).trans (show _ = some (Obj.cells #[v0, v1, z2, z3, z4, z5, z6, z7] T) from rfl)
  have h2 := (heap_setCell_same _ b 2 _ _ v2 h1).trans (show _ = some (Obj.cells #[v0, v1, v2, z3, z4, z5, z6, z7] T) from rfl)
  have h3 := (heap_setCell_same _ b 3 _ _ v3 h2).trans (show _ = some (Obj.cells #[v0, v1, v2, v3, z4, z5, z6, z7] T) from rfl)
  have h4 := (heap_setCell_same _ b 4 _ _ v4 h3).trans (show _ = some (Obj.cells #[v0, v1, v2, v3, v4, z5, z6, z7] T) from rfl)
  have h5 := (heap_setCell_same _ b 5 _ _ v5 h4).trans (show _ = some (Obj.cells #[v0, v1, v2, v3, v4, v5, z6, z7] T) from rfl)
  have h6 := (heap_setCell_same _ b 6 _ _ v6 h5).trans (show _ = some (Obj.cells #[v0, v1, v2, v3, v4, v5, v6, z7] T) from rfl)
  have h7 := (heap_setCell_same _ b 7 _ _ v7 h6).trans (show _ = some (Obj.cells #[v0, v1, v2, v3, v4, v5, v6, v7] T) from rfl)
  exact h7
theorem fill8_sl {w : World} {base size n : Nat} {v : Value} {xs : List Value} (h : Sl w base size v n xs) (b : Nat) (v0 v1 v2 v3 v4 v5 v6 v7 : Value) (hb : b < base) : Sl (fill8 w b v0 v1 v2 v3 v4 v5 v6 v7) base size v n xs :=
  sl_else (sl_else (sl_else (sl_else (sl_else (sl_else (sl_else (sl_else (h) ⟨b, 0, none⟩ v0 hb) ⟨b, 1, none⟩ v1 hb) ⟨b, 2, none⟩ v2 hb) ⟨b, 3, none⟩ v3 hb) ⟨b, 4, none⟩ v4 hb) ⟨b, 5, none⟩ v5 hb) ⟨b, 6, none⟩ v6 hb) ⟨b, 7, none⟩ v7 hb
theorem fill8_below {B : Nat} {w0 w : World} (h : Below B w0 w) (b : Nat) (v0 v1 v2 v3 v4 v5 v6 v7 : Value) (hb : B ≤ b) : Below B w0 (fill8 w b v0 v1 v2 v3 v4 v5 v6 v7) :=
  (((((((h.setCell (p := ⟨b, 0, none⟩) hb _).setCell (p := ⟨b, 1, none⟩) hb _).setCell (p := ⟨b, 2, none⟩) hb _).setCell (p := ⟨b, 3, none⟩) hb _).setCell (p := ⟨b, 4, none⟩) hb _).setCell (p := ⟨b, 5, none⟩) hb _).setCell (p := ⟨b, 6, none⟩) hb _).setCell (p := ⟨b, 7, none⟩) hb _

set_option maxHeartbeats 4000000 in
set_option maxRecDepth 100000 in
theorem few9_any (m : Mt.Me) (af : Option Addr) (nf kf : Nat) (a5 : Option Addr) (ns k5 : Nat) (w : World) (hf : m.files.length = min nf 3) (hs : m.src.length = min ns 60) (hkf : nf ≤ kf) (hks : ns ≤ k5) (hmf : kf ≤ maxLen) (hms : k5 ≤ maxLen)
    (rf : Rd w 3 (.slice af m.files.length kf) m.files.length (flc m.files)) (rs : Rd w 1 (.slice a5 m.src.length k5) m.src.length (sc m.src)) :
    Calls Tryd.prog 4 #[.agg #[.string (bs m.id), .int .i64 m.mn, .int .i64 m.mx, .int .i64 m.lv, .int .i64 m.se, .int .i64 m.sa, .slice af nf kf, .slice a5 ns k5]] w fun e w' => ∃ vf vs, e = .returned (meV (fewM m) vf vs) ∧ Sl w' w.heap.size 3 vf (fewM m).files.length (flc (fewM m).files) ∧ Sl w' w.heap.size 1 vs (fewM m).src.length (sc (fewM m).src) ∧ Below w.heap.size w w' := by
  obtain ⟨i1, hi, hz0, hz1, hz2⟩ := info_parts zc_mfile
  have Kz := Lib.hid hz0; have Ks := Lib.hid hz1; have Kb := Lib.hid hz2; have Ki := Lib.hid hi
  clear hz0 hz1 hz2 hi
  obtain ⟨i2, hi, hz0, hz1, hz2⟩ := info_parts zc_mstr
  have Sz := Lib.hid hz0; have Ss := Lib.hid hz1; have Sb := Lib.hid hz2; have Si := Lib.hid hi
  clear hz0 hz1 hz2 hi
  have RF := Lib.hid (fun W (b : Below w.heap.size w W) => rf.on b)
  have RS := Lib.hid (fun W (b : Below w.heap.size w W) => rs.on b)
  have C0 := Lib.hid (fun W => cut20_any m.id W)
  obtain ⟨N, hN⟩ : ∃ N, N = m.files.length := ⟨_, rfl⟩
  obtain ⟨n, hn⟩ : ∃ n, n = m.src.length := ⟨_, rfl⟩
  rw [← hN] at RF hf
  rw [← hn] at RS hs
  have HN := Lib.hid hN
  have Hn := Lib.hid hn
  unfold maxLen at hmf hms
  have e1 : min (nf : Int) 3 = (N : Int) := by omega
  have e2 : min (ns : Int) 60 = (n : Int) := by omega
  have e3 : (N : Int) ≤ kf := by omega
  have e4 : (n : Int) ≤ k5 := by omega
  have e5 : N ≤ 3 := by omega
  have e6 : n ≤ 60 := by omega
  clear hN hn rf rs hf hs
  go_enter Tryd.func4, Tryd.ntmps4
  go_wp2_with fail
  refine (C0.out _).mono ?_
  rintro e w1 ⟨rfl, rfl⟩
  go_upto_region 2 with fail
  have X1 : (w.alloc (.cells #[.string (bs (m.id.take 20)), .int .i64 m.mn, .int .i64 m.mx, .int .i64 m.lv, .int .i64 m.se, .int .i64 m.sa, .slice af nf kf, .slice a5 ns k5] 25)).heap.size = w.heap.size + 1 := by simp
  obtain ⟨V, hV⟩ : ∃ V, V = (w.alloc (.cells #[.string (bs (m.id.take 20)), .int .i64 m.mn, .int .i64 m.mx, .int .i64 m.lv, .int .i64 m.se, .int .i64 m.sa, .slice af nf kf, .slice a5 ns k5] 25)).alloc (.cells #[.string ⟨#[]⟩, .int .i64 0, .int .i64 0, .int .i64 0, .int .i64 0, .int .i64 0, .slice none 0 0, .slice none 0 0] 25) := ⟨_, rfl⟩
  have g0 : V.heap[w.heap.size]? = some (.cells #[.string (bs (m.id.take 20)), .int .i64 m.mn, .int .i64 m.mx, .int .i64 m.lv, .int .i64 m.se, .int .i64 m.sa, .slice af nf kf, .slice a5 ns k5] 25) := by
    rw [hV, Below.heap_alloc _ _ _ (by omega)]; exact heap_alloc_new w _
  have g1 : V.heap[w.heap.size + 1]? = some (.cells #[.string ⟨#[]⟩, .int .i64 0, .int .i64 0, .int .i64 0, .int .i64 0, .int .i64 0, .slice none 0 0, .slice none 0 0] 25) := by
    have := heap_alloc_new (w.alloc (.cells #[.string (bs (m.id.take 20)), .int .i64 m.mn, .int .i64 m.mx, .int .i64 m.lv, .int .i64 m.se, .int .i64 m.sa, .slice af nf kf, .slice a5 ns k5] 25)) (.cells #[.string ⟨#[]⟩, .int .i64 0, .int .i64 0, .int .i64 0, .int .i64 0, .int .i64 0, .slice none 0 0, .slice none 0 0] 25)
    rw [X1] at this
    rw [hV]; exact this
  have zV : V.heap.size = w.heap.size + 2 := by rw [hV]; simp
  have bV : Below w.heap.size w V := by rw [hV]; exact ((Below.refl _ _).alloc (Nat.le_refl _) _).alloc (by simp) _
  rw [← hV]
  clear hV X1
  have HG0 := Lib.hid g0
  have HG1 := Lib.hid g1
  have BV := Lib.hid bV
  obtain ⟨c0, c1, c2, c3, c4, c5, c6, c7⟩ := cells8 g0
  have c6f := Lib.frozen_of_heap g0 6
  have hzw : w.heap.size < V.heap.size := by omega
  have hown : Sl (V.alloc (.cells #[] 42)) (w.heap.size + 2) 3 (.slice (some ⟨w.heap.size + 2, 0, none⟩) 0 0) 0 [] := by
    rw [← zV]
    exact Sl.lit V _ 3 0 #[] _ (Nat.le_refl _) (by decide) rfl
  have bA : Below V.heap.size V (V.alloc (.cells #[] 42)) := (Below.refl _ _).alloc (Nat.le_refl _) _
  go_cut [3] from 5 to 66 (fun p wc => ∃ a6 k6, p = undef ∧ wc.heap[w.heap.size]? = some (.cells #[.string (bs (m.id.take 20)), .int .i64 m.mn, .int .i64 m.mx, .int .i64 m.lv, .int .i64 m.se, .int .i64 m.sa, .slice a6 N k6, .slice a5 ns k5] 25) ∧ wc.heap[w.heap.size + 1]? = some (.cells #[.string ⟨#[]⟩, .int .i64 0, .int .i64 0, .int .i64 0, .int .i64 0, .int .i64 0, .slice none 0 0, .slice none 0 0] 25) ∧ Sl wc (w.heap.size + 2) 3 (.slice a6 N k6) N (flc m.files) ∧ Below w.heap.size w wc ∧ w.heap.size + 2 ≤ wc.heap.size)
  case first =>
    have hrd := RF.out _ (bV.trans (bA.mono bV.size))
    have n3 : w.heap.size + 2 ≤ (V.alloc (.cells #[] 42)).heap.size := by rw [← zV]; exact bA.size
    clear g0 g1
    by_cases h3 : (nf : Int) ≤ 3
    · obtain rfl : N = nf := by omega
      have n1 : 0 + N ≤ maxLen := by unfold maxLen; omega
      have n2 : (0 + N) * 32 ≤ 140737488355328 := by omega
      go_wp2_with (at_builtin; go_loud (refine wpList_append_rd _ rfl _ _ 22 rfl (w.heap.size + 2) 42 i1 (.agg #[.string ⟨#[]⟩, .int .i64 0, .int .u32 0]) 3 32 Tryd.underlying22 Ki.out Kz.out Ks.out Kb.out rfl (by decide) _ 0 [] rfl hown (.slice af N kf) N (flc m.files) rfl hrd (flc_oneCell _) n1 n2 n3 ?_; intro v5 w5 x5; have x5n := x5.now; rw [Nat.zero_add, List.nil_append] at x5n; obtain ⟨a6, k6, rfl⟩ := x5n.slice; have b5 : Below V.heap.size V w5 := bA.trans (x5.below (by omega) bA.size); have d6 := (b5.cell (p := ⟨w.heap.size, 6, none⟩) hzw).trans c6; have d6f := (b5.frozen (p := ⟨w.heap.size, 6, none⟩) hzw).trans c6f))
      go_meet
      have hb5 := (b5.block w.heap.size hzw).trans HG0.out
      have hr5 := (b5.block (w.heap.size + 1) (by omega)).trans HG1.out
      refine ⟨a6, k6, rfl, ?_, ?_, ?_, ?_, ?_⟩
      · rw [heap_setCell_same w5 w.heap.size 6 _ _ (.slice a6 N k6) hb5]; rfl
      · rw [Below.heap_setCell _ _ _ _ (by simp only; omega)]; exact hr5
      · exact sl_else x5n _ _ (by simp)
      · exact (BV.out.trans (b5.mono BV.out.size)).setCell (p := ⟨w.heap.size, 6, none⟩) (Nat.le_refl _) _
      · simp only [World.size_setCell]; rw [← zV]; exact b5.size
    · obtain rfl : N = 3 := by omega
      have n1 : 0 + 3 ≤ maxLen := by unfold maxLen; omega
      have n2 : (0 + 3) * 32 ≤ 140737488355328 := by omega
      go_wp2_with (at_builtin; go_loud (refine wpList_append_rd _ rfl _ _ 22 rfl (w.heap.size + 2) 42 i1 (.agg #[.string ⟨#[]⟩, .int .i64 0, .int .u32 0]) 3 32 Tryd.underlying22 Ki.out Kz.out Ks.out Kb.out rfl (by decide) _ 0 [] rfl hown (.slice af 3 kf) 3 (flc m.files) rfl hrd (flc_oneCell _) n1 n2 n3 ?_; intro v5 w5 x5; have x5n := x5.now; rw [Nat.zero_add, List.nil_append] at x5n; obtain ⟨a6, k6, rfl⟩ := x5n.slice; have b5 : Below V.heap.size V w5 := bA.trans (x5.below (by omega) bA.size); have d6 := (b5.cell (p := ⟨w.heap.size, 6, none⟩) hzw).trans c6; have d6f := (b5.frozen (p := ⟨w.heap.size, 6, none⟩) hzw).trans c6f))
      go_meet
      have hb5 := (b5.block w.heap.size hzw).trans HG0.out
      have hr5 := (b5.block (w.heap.size + 1) (by omega)).trans HG1.out
      refine ⟨a6, k6, rfl, ?_, ?_, ?_, ?_, ?_⟩
      · rw [heap_setCell_same w5 w.heap.size 6 _ _ (.slice a6 3 k6) hb5]; rfl
      · rw [Below.heap_setCell _ _ _ _ (by simp only; omega)]; exact hr5
      · exact sl_else x5n _ _ (by simp)
      · exact (BV.out.trans (b5.mono BV.out.size)).setCell (p := ⟨w.heap.size, 6, none⟩) (Nat.le_refl _) _
      · simp only [World.size_setCell]; rw [← zV]; exact b5.size
  case rest =>
    obtain ⟨a6, k6, rfl, h0, h1, s6, b6, z6⟩ := hcut
    obtain ⟨c0, c1, c2, c3, c4, c5, c6, c7⟩ := cells8 h0
    go_wp2_with fail
    clear c0 c1 c2 c3 c4 c5 c6 c7 hown bA e1 e3 zV bV
    go_loopw [3, 22] (fun p3 i' wr => ∃ i : Nat, i' = .int .i64 i ∧ i ≤ N ∧ wr.heap[w.heap.size]? = some (.cells #[.string (bs (m.id.take 20)), .int .i64 m.mn, .int .i64 m.mx, .int .i64 m.lv, .int .i64 m.se, .int .i64 m.sa, .slice a6 N k6, .slice a5 ns k5] 25) ∧ wr.heap[w.heap.size + 1]? = some (.cells #[.string ⟨#[]⟩, .int .i64 0, .int .i64 0, .int .i64 0, .int .i64 0, .int .i64 0, .slice none 0 0, .slice none 0 0] 25) ∧ Sl wr (w.heap.size + 2) 3 (.slice a6 N k6) N (flc (fewsF m.files i)) ∧ Below w.heap.size w wr ∧ w.heap.size + 2 ≤ wr.heap.size) (fun _ i' _ => N - (intOf i').toNat)
    case atStart => exact ⟨0, rfl, by omega, h0, h1, by simpa [fewsF] using s6, b6, z6⟩
    case round =>
      clear h0 h1 s6 b6 z6
      obtain ⟨i, rfl, hi, h0, h1, s6, b6, z6⟩ := hrel
      by_cases hlt : i < N
      · obtain ⟨f, hfx⟩ : ∃ f, m.files[i]? = some f := ⟨m.files[i]'(by have := HN.out; omega), List.getElem?_eq_getElem (by have := HN.out; omega)⟩
        obtain ⟨g, off, kk, he, hgb, hkk, hkm⟩ := s6.somewhere (by omega)
        cases he
        obtain ⟨v0, v1, v2⟩ := flc_at (fewsF m.files i) i f (few_at fewF m.files i f hfx)
        have q0 := s6.cells (i * 3) _ v0
        rw [Addr.add_lit] at q0
        have hil : (i : Int) < N := by omega
        have CF := Lib.hid (fun W => cut20_any f.name W)
        have c6 := (cells8 h0).2.2.2.2.2.2.1
        have hgw : g < wr.heap.size := (s6.lt g rfl).2
        have HS := Lib.hid s6
        have HH0 := Lib.hid h0
        have HH1 := Lib.hid h1
        have HFX := Lib.hid hfx
        clear v0 v1 v2 h0 h1 s6 hfx
        go_upto_region 6 with fail
        refine wp_region_still_tail 10 (by kernel_rfl) (by kernel_rfl) ?_
        simp only [List.take_succ_cons, List.take_zero, List.drop_succ_cons, List.drop_zero]
        repeat still_step
        still_call ((CF.out _).mono (by rintro e w1 ⟨rfl, rfl⟩; exact ⟨rfl, rfl⟩))
        refine wpStill_nil ?_
        have q0f := sl_free HS.out (i * 3) (by omega)
        go_wp2
        clear q0 q0f c6
        have hfew : flc (fewsF m.files (i + 1)) = (flc (fewsF m.files i)).set (i * 3) (.string (bs (f.name.take 20))) := by
          rw [flc_set (fewsF m.files i) i f (f.name.take 20) (few_at fewF m.files i f HFX.out)]
          exact congrArg flc (few_set fewF m.files i f HFX.out).symm
        have hgB : w.heap.size + 2 ≤ g := (HS.out.lt g rfl).1
        refine ⟨⟨i + 1, by simp, by omega, ?_, ?_, ?_, ?_, ?_⟩, by simp [intOf]; omega⟩
        · show (wr.setCell _ _).heap[w.heap.size]? = _
          rw [Below.heap_setCell _ _ _ _ (by simp only; omega)]; exact HH0.out
        · show (wr.setCell _ _).heap[w.heap.size + 1]? = _
          rw [Below.heap_setCell _ _ _ _ (by simp only; omega)]; exact HH1.out
        · rw [hfew]; exact (sl_put HS.out _ (by omega)).drew
        · exact (b6.setCell (p := ⟨g, off + i * 3, none⟩) (by simp only; omega) _).drew
        · simpa using z6
      · have hil : ¬ (i : Int) < N := by omega
        obtain rfl : i = N := by omega
        have hF : fewsF m.files i = (fewM m).files := by
          have := HN.out
          simp [fewsF, fewM, this]
        rw [hF] at s6
        obtain ⟨W3, hW3⟩ : ∃ W3, W3 = wr := ⟨_, rfl⟩
        rw [← hW3] at h0 h1 s6 b6 z6
        go_upto_region 8 with fail
        rw [← hW3]
        clear hW3
        have HG0 := Lib.hid h0
        have HG1 := Lib.hid h1
        have BV := Lib.hid b6
        have HS6 := Lib.hid s6
        obtain ⟨-, -, -, -, -, -, -, c7⟩ := cells8 h0
        have c7f := Lib.frozen_of_heap h0 7
        have hzw : w.heap.size < W3.heap.size := by omega
        have hown : Sl (W3.alloc (.cells #[] 9)) W3.heap.size 1 (.slice (some ⟨W3.heap.size, 0, none⟩) 0 0) 0 [] := Sl.lit W3 _ 1 0 #[] _ (Nat.le_refl _) (by decide) rfl
        have bA : Below W3.heap.size W3 (W3.alloc (.cells #[] 9)) := (Below.refl _ _).alloc (Nat.le_refl _) _
        clear h0 h1 s6
        go_cut [4] from 5 to 66 (fun p wc => ∃ a7 k7, p = undef ∧ wc.heap[w.heap.size]? = some (.cells #[.string (bs (m.id.take 20)), .int .i64 m.mn, .int .i64 m.mx, .int .i64 m.lv, .int .i64 m.se, .int .i64 m.sa, .slice a6 i k6, .slice a7 n k7] 25) ∧ wc.heap[w.heap.size + 1]? = some (.cells #[.string ⟨#[]⟩, .int .i64 0, .int .i64 0, .int .i64 0, .int .i64 0, .int .i64 0, .slice none 0 0, .slice none 0 0] 25) ∧ Sl wc (w.heap.size + 2) 3 (.slice a6 i k6) i (flc (fewM m).files) ∧ Sl wc W3.heap.size 1 (.slice a7 n k7) n (sc m.src) ∧ Below w.heap.size w wc ∧ W3.heap.size ≤ wc.heap.size)
        case first =>
          have hrd := RS.out _ (b6.trans (bA.mono b6.size))
          have n3 : W3.heap.size ≤ (W3.alloc (.cells #[] 9)).heap.size := bA.size
          by_cases h3 : (ns : Int) ≤ 60
          · obtain rfl : n = ns := by omega
            have n1 : 0 + n ≤ maxLen := by unfold maxLen; omega
            have n2 : (0 + n) * 16 ≤ 140737488355328 := by omega
            go_wp2_with (at_builtin; go_loud (refine wpList_append_rd _ rfl _ _ 23 rfl W3.heap.size 9 i2 (.string ⟨#[]⟩) 1 16 Tryd.underlying23 Si.out Sz.out Ss.out Sb.out rfl (by decide) _ 0 [] rfl hown (.slice a5 n k5) n (sc m.src) rfl hrd (sc_one _) n1 n2 n3 ?_; intro v5 w5 x5; have x5n := x5.now; rw [Nat.zero_add, List.nil_append] at x5n; obtain ⟨a7, k7, rfl⟩ := x5n.slice; have b5 : Below W3.heap.size W3 w5 := bA.trans (x5.below (by omega) bA.size); have d6 := (b5.cell (p := ⟨w.heap.size, 7, none⟩) hzw).trans c7; have d6f := (b5.frozen (p := ⟨w.heap.size, 7, none⟩) hzw).trans c7f))
            go_meet
            have hb5 := (b5.block w.heap.size hzw).trans HG0.out
            have hr5 := (b5.block (w.heap.size + 1) (by omega)).trans HG1.out
            refine ⟨a7, k7, rfl, ?_, ?_, ?_, ?_, ?_, ?_⟩
            · rw [heap_setCell_same w5 w.heap.size 7 _ _ (.slice a7 n k7) hb5]; rfl
            · rw [Below.heap_setCell _ _ _ _ (by simp only; omega)]; exact hr5
            · exact sl_else (HS6.out.below b5 (fun k hk => (HS6.out.lt k hk).2)) _ _ (by simp)
            · exact sl_else x5n _ _ (by simp only; omega)
            · exact (BV.out.trans (b5.mono BV.out.size)).setCell (p := ⟨w.heap.size, 7, none⟩) (Nat.le_refl _) _
            · simp only [World.size_setCell]; exact b5.size
          · obtain rfl : n = 60 := by omega
            have n1 : 0 + 60 ≤ maxLen := by unfold maxLen; omega
            have n2 : (0 + 60) * 16 ≤ 140737488355328 := by omega
            go_wp2_with (at_builtin; go_loud (refine wpList_append_rd _ rfl _ _ 23 rfl W3.heap.size 9 i2 (.string ⟨#[]⟩) 1 16 Tryd.underlying23 Si.out Sz.out Ss.out Sb.out rfl (by decide) _ 0 [] rfl hown (.slice a5 60 k5) 60 (sc m.src) rfl hrd (sc_one _) n1 n2 n3 ?_; intro v5 w5 x5; have x5n := x5.now; rw [Nat.zero_add, List.nil_append] at x5n; obtain ⟨a7, k7, rfl⟩ := x5n.slice; have b5 : Below W3.heap.size W3 w5 := bA.trans (x5.below (by omega) bA.size); have d6 := (b5.cell (p := ⟨w.heap.size, 7, none⟩) hzw).trans c7; have d6f := (b5.frozen (p := ⟨w.heap.size, 7, none⟩) hzw).trans c7f))
            go_meet
            have hb5 := (b5.block w.heap.size hzw).trans HG0.out
            have hr5 := (b5.block (w.heap.size + 1) (by omega)).trans HG1.out
            refine ⟨a7, k7, rfl, ?_, ?_, ?_, ?_, ?_, ?_⟩
            · rw [heap_setCell_same w5 w.heap.size 7 _ _ (.slice a7 60 k7) hb5]; rfl
            · rw [Below.heap_setCell _ _ _ _ (by simp only; omega)]; exact hr5
            · exact sl_else (HS6.out.below b5 (fun k hk => (HS6.out.lt k hk).2)) _ _ (by simp)
            · exact sl_else x5n _ _ (by simp only; omega)
            · exact (BV.out.trans (b5.mono BV.out.size)).setCell (p := ⟨w.heap.size, 7, none⟩) (Nat.le_refl _) _
            · simp only [World.size_setCell]; exact b5.size
        case rest =>
          have L6 := Lib.hid (fun k hk => (HS6.out.lt k hk).2)
          have zW3 := z6
          clear b6 z6 HG0 HG1 BV HS6 c7 c7f bA hown
          obtain ⟨a7, k7, rfl, h0, h1, s6, s7, b6, z6⟩ := hcut
          obtain ⟨-, -, -, -, -, -, -, c7⟩ := cells8 h0
          go_wp2_with fail
          clear c7 e2 e4
          go_loopw [4, 51] (fun p3 j' wr => ∃ j : Nat, j' = .int .i64 j ∧ j ≤ n ∧ wr.heap[w.heap.size]? = some (.cells #[.string (bs (m.id.take 20)), .int .i64 m.mn, .int .i64 m.mx, .int .i64 m.lv, .int .i64 m.se, .int .i64 m.sa, .slice a6 i k6, .slice a7 n k7] 25) ∧ wr.heap[w.heap.size + 1]? = some (.cells #[.string ⟨#[]⟩, .int .i64 0, .int .i64 0, .int .i64 0, .int .i64 0, .int .i64 0, .slice none 0 0, .slice none 0 0] 25) ∧ Sl wr (w.heap.size + 2) 3 (.slice a6 i k6) i (flc (fewM m).files) ∧ Sl wr W3.heap.size 1 (.slice a7 n k7) n (sc (fewsS m.src j)) ∧ Below w.heap.size w wr ∧ W3.heap.size ≤ wr.heap.size) (fun _ j' _ => n - (intOf j').toNat)
          case atStart => exact ⟨0, rfl, by omega, h0, h1, s6, by simpa [fewsS] using s7, b6, z6⟩
          case round =>
            clear h0 h1 s6 s7 b6 z6
            obtain ⟨j, rfl, hj, h0, h1, s6, s7, b6, z6⟩ := hrel
            by_cases hlt : j < n
            · obtain ⟨f, hfx⟩ : ∃ f, m.src[j]? = some f := ⟨m.src[j]'(by have := Hn.out; omega), List.getElem?_eq_getElem (by have := Hn.out; omega)⟩
              obtain ⟨g, off, kk, he, hgb, hkk, hkm⟩ := s7.somewhere (by omega)
              cases he
              have q0 := s7.cells (j * 1) _ (by rw [Nat.mul_one]; exact sc_at (fewsS m.src j) j f (few_at (fun s : List UInt8 => s.take 20) m.src j f hfx))
              rw [Addr.add_lit, Nat.mul_one] at q0
              have hjl : (j : Int) < n := by omega
              have CF := Lib.hid (fun W => cut20_any f W)
              obtain ⟨-, -, -, -, -, -, -, c7⟩ := cells8 h0
              have hgw : g < wr.heap.size := (s7.lt g rfl).2
              have HS := Lib.hid s7
              have HS6 := Lib.hid s6
              have HH0 := Lib.hid h0
              have HH1 := Lib.hid h1
              have HFX := Lib.hid hfx
              clear h0 h1 s6 s7 hfx
              go_upto_region 12 with fail
              refine wp_region_still_tail 9 (by kernel_rfl) (by kernel_rfl) ?_
              simp only [List.take_succ_cons, List.take_zero, List.drop_succ_cons, List.drop_zero]
              repeat still_step
              still_call ((CF.out _).mono (by rintro e w1 ⟨rfl, rfl⟩; exact ⟨rfl, rfl⟩))
              refine wpStill_nil ?_
              have q0f := sl_free HS.out j (by omega)
              go_wp2
              clear q0 q0f c7
              have hfew : sc (fewsS m.src (j + 1)) = (sc (fewsS m.src j)).set j (.string (bs (f.take 20))) := by
                unfold fewsS
                rw [← few_set (fun s => s.take 20) m.src j f HFX.out]
                unfold sc
                rw [List.map_set]
              have hgB : W3.heap.size ≤ g := (HS.out.lt g rfl).1
              refine ⟨⟨j + 1, by simp, by omega, ?_, ?_, ?_, ?_, ?_, ?_⟩, by simp [intOf]; omega⟩
              · show (wr.setCell _ _).heap[w.heap.size]? = _
                rw [Below.heap_setCell _ _ _ _ (by simp only; omega)]; exact HH0.out
              · show (wr.setCell _ _).heap[w.heap.size + 1]? = _
                rw [Below.heap_setCell _ _ _ _ (by simp only; omega)]; exact HH1.out
              · exact (sl_other HS6.out W3.heap.size L6.out _ _ (by simp only; omega)).drew
              · rw [hfew]; exact (sl_put HS.out _ (by omega)).drew
              · exact (b6.setCell (p := ⟨g, off + j, none⟩) (by simp only; omega) _).drew
              · simpa using z6
            · have hil : ¬ (j : Int) < n := by omega
              obtain rfl : j = n := by omega
              have hF2 : fewsS m.src j = (fewM m).src := by
                have := Hn.out
                simp [fewsS, fewM, this]
              rw [hF2] at s7
              obtain ⟨c0, c1, c2, c3, c4, c5, c6, c7⟩ := cells8 h0
              obtain ⟨d0, d1, d2, d3, d4, d5, d6, d7⟩ := cells8 h1
              have f0 := Lib.frozen_of_heap h1 0
              have f1 := Lib.frozen_of_heap h1 1
              have f2 := Lib.frozen_of_heap h1 2
              have f3 := Lib.frozen_of_heap h1 3
              have f4 := Lib.frozen_of_heap h1 4
              have f5 := Lib.frozen_of_heap h1 5
              have f6 := Lib.frozen_of_heap h1 6
              have f7 := Lib.frozen_of_heap h1 7
              go_wp2_with fail
              clear c0 c1 c2 c3 c4 c5 c6 c7 d0 d1 d2 d3 d4 d5 d6 d7 f0 f1 f2 f3 f4 f5 f6 f7
              obtain ⟨r0, r1, r2, r3, r4, r5, r6, r7⟩ := cells8 (fill8_heap wr (w.heap.size + 1) _ _ _ _ _ _ _ _ _ (.string (bs (m.id.take 20))) (.int .i64 m.mn) (.int .i64 m.mx) (.int .i64 m.lv) (.int .i64 m.se) (.int .i64 m.sa) (.slice a6 i k6) (.slice a7 j k7) h1)
              have g6 := fill8_sl (s6.mono (by omega)) (w.heap.size + 1) (.string (bs (m.id.take 20))) (.int .i64 m.mn) (.int .i64 m.mx) (.int .i64 m.lv) (.int .i64 m.se) (.int .i64 m.sa) (.slice a6 i k6) (.slice a7 j k7) (by omega : w.heap.size + 1 < w.heap.size + 2)
              have g7 := fill8_sl (s7.mono (by omega)) (w.heap.size + 1) (.string (bs (m.id.take 20))) (.int .i64 m.mn) (.int .i64 m.mx) (.int .i64 m.lv) (.int .i64 m.se) (.int .i64 m.sa) (.slice a6 i k6) (.slice a7 j k7) (by omega : w.heap.size + 1 < w.heap.size + 2)
              have g8 := fill8_below b6 (w.heap.size + 1) (.string (bs (m.id.take 20))) (.int .i64 m.mn) (.int .i64 m.mx) (.int .i64 m.lv) (.int .i64 m.se) (.int .i64 m.sa) (.slice a6 i k6) (.slice a7 j k7) (by omega)
              unfold fill8 at r0 r1 r2 r3 r4 r5 r6 r7 g6 g7 g8
              refine bodyPost_ret (v := meV (fewM m) (.slice a6 i k6) (.slice a7 j k7)) (by simp [results, Tryd.results4, go_sem, meV, fewM, r0, r1, r2, r3, r4, r5, r6, r7]) rfl ?_
              have hl1 : (fewM m).files.length = i := by simp [fewM, HN.out]
              have hl2 : (fewM m).src.length = j := by simp [fewM, Hn.out]
              rw [hl1, hl2]
              exact ⟨_, _, rfl, g6.mono (by omega), g7.mono (by omega), g8⟩
end Go.Proofs.YtoihkeilofpcjaaDoor
