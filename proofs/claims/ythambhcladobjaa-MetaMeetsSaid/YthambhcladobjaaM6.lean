/- Layer 9: the statement MetaMeets, walked. -/
import Derived.Test.YthambhcladobjaaM5
import Derived.Deep.RegionHeld3
import Derived.Deep.CutRange
namespace Go.Proofs.Ythambhcladobjaa
open Go.RowKit Go.Lib

theorem cells8 {w : World} {b : Nat} {v0 v1 v2 v3 v4 v5 v6 v7 : Value} {T : TypeId} (h : w.heap[b]? = some (.cells #[v0, v1, v2, v3, v4, v5, v6, v7] T)) :
    w.cell? ⟨b, 0, none⟩ = some v0 ∧ w.cell? ⟨b, 1, none⟩ = some v1 ∧ w.cell? ⟨b, 2, none⟩ = some v2 ∧ w.cell? ⟨b, 3, none⟩ = some v3 ∧ w.cell? ⟨b, 4, none⟩ = some v4 ∧ w.cell? ⟨b, 5, none⟩ = some v5 ∧ w.cell? ⟨b, 6, none⟩ = some v6 ∧ w.cell? ⟨b, 7, none⟩ = some v7 :=
  ⟨Lib.cell_of_heap h 0, Lib.cell_of_heap h 1, Lib.cell_of_heap h 2, Lib.cell_of_heap h 3, Lib.cell_of_heap h 4, Lib.cell_of_heap h 5, Lib.cell_of_heap h 6, Lib.cell_of_heap h 7⟩
theorem meets_is (x : Mt.Me) (vf vs : Value) (a b : Int) (r : Bool) (hr : (decide (x.mn < b) && decide (a < x.mx)) = r) (w : World) :
    Calls Try.prog 13 #[meV x vf vs, .int .i64 a, .int .i64 b] w fun e w' => e = .returned (.bool r) ∧ Below w.heap.size w w' := by
  rw [← hr]
  exact meets_any (bs x.id) x.mn x.mx x.lv x.se x.sa vf vs a b w

theorem bcell {W w1 : World} (hb : Below W.heap.size W w1) : (∀ b o, b < W.heap.size → w1.cell? ⟨b, o, none⟩ = W.cell? ⟨b, o, none⟩) ∧ (∀ b o, b < W.heap.size → w1.frozen? ⟨b, o, none⟩ = W.frozen? ⟨b, o, none⟩) :=
  ⟨fun b o h => hb.cell (p := ⟨b, o, none⟩) h, fun b o h => hb.frozen (p := ⟨b, o, none⟩) h⟩

theorem up_alloc {w0 W : World} {X : Obj} (b : Below w0.heap.size w0 W) : Below w0.heap.size w0 (W.alloc X) := b.alloc b.size X
theorem up_drew {w0 W : World} (b : Below w0.heap.size w0 W) : Below w0.heap.size w0 W.drew := b.drew
theorem up_trans {w0 W W' : World} (b : Below w0.heap.size w0 W) (b' : Below W.heap.size W W') : Below w0.heap.size w0 W' := b.trans (b'.mono b.size)

theorem up_set {w0 W : World} {p : Addr} {v : Value} (h : w0.heap.size ≤ p.block) (b : Below w0.heap.size w0 W) : Below w0.heap.size w0 (W.setCell p v) := b.setCell h v

set_option maxHeartbeats 4000000 in
set_option maxRecDepth 100000 in
theorem meetsL_any (va : List UInt8) (mn mx lv se sa : Int) (vf : Value) (a7 : Option Addr) (n7 k7 : Nat) (vb : List UInt8) (mn' mx' lv' se' sa' : Int) (vf' : Value) (a7' : Option Addr) (n7' k7' : Nat) (w : World)
    (hva : va.length ≤ maxLen) (hn7 : n7 ≤ maxLen) (hvb : vb.length ≤ maxLen) (hn7' : n7' ≤ maxLen) (hf : ∃ a n c, vf = .slice a n c) (hf' : ∃ a n c, vf' = .slice a n c) :
    Calls Try.prog 4 #[.agg #[.string (bs va), .int .i64 mn, .int .i64 mx, .int .i64 lv, .int .i64 se, .int .i64 sa, vf, .slice a7 n7 k7], .agg #[.string (bs vb), .int .i64 mn', .int .i64 mx', .int .i64 lv', .int .i64 se', .int .i64 sa', vf', .slice a7' n7' k7']] w fun e w' => e = .returned (.bool true) ∧ Below w.heap.size w w' := by
  obtain ⟨af, nf, cf, rfl⟩ := hf
  obtain ⟨af', nf', cf', rfl⟩ := hf'
  have MA := Lib.hid (fun W => made_any va mn mx lv se sa (.slice af nf cf) a7 n7 k7 1 1 W hva hn7)
  have MB := Lib.hid (fun W => made_any vb mn' mx' lv' se' sa' (.slice af' nf' cf') a7' n7' k7' 2 2 W hvb hn7')
  obtain ⟨x, hx⟩ : ∃ x, x = Mt.mdM va mn mx lv se sa n7 1 1 := ⟨_, rfl⟩
  obtain ⟨y, hy⟩ : ∃ y, y = Mt.mdM vb mn' mx' lv' se' sa' n7' 2 2 := ⟨_, rfl⟩
  have hx1 : x.mn < x.mx ∧ 0 ≤ x.mx ∧ x.mx ≤ 2000000 := by rw [hx]; simp only [Mt.mdM]; omega
  have hy1 : y.mn < y.mx := by rw [hy]; simp only [Mt.mdM]; omega
  rw [← hx] at MA
  rw [← hy] at MB
  obtain ⟨p1, hp1⟩ : ∃ p, p = x.mn := ⟨_, rfl⟩
  obtain ⟨p2, hp2⟩ : ∃ p, p = x.mx := ⟨_, rfl⟩
  obtain ⟨q1, hq1⟩ : ∃ p, p = y.mn := ⟨_, rfl⟩
  obtain ⟨q2, hq2⟩ : ∃ p, p = y.mx := ⟨_, rfl⟩
  rw [← hp1, ← hp2] at hx1
  obtain ⟨r, hr⟩ : ∃ r, (decide (p1 < q2) && decide (q1 < p2)) = r := ⟨_, rfl⟩
  have eX : ∀ vf vs, meV x vf vs = .agg #[.string (bs x.id), .int .i64 p1, .int .i64 p2, .int .i64 x.lv, .int .i64 x.se, .int .i64 x.sa, vf, vs] := fun vf vs => by rw [hp1, hp2]; rfl
  have eY : ∀ vf vs, meV y vf vs = .agg #[.string (bs y.id), .int .i64 q1, .int .i64 q2, .int .i64 y.lv, .int .i64 y.se, .int .i64 y.sa, vf, vs] := fun vf vs => by rw [hq1, hq2]; rfl
  have M1 := Lib.hid (fun vf vs W => meets_is x vf vs q1 q2 r (by rw [← hp1, ← hp2]; exact hr) W)
  have M2 := Lib.hid (fun vf vs W => meets_is y vf vs p1 p2 r (by rw [← hq1, ← hq2, Bool.and_comm]; exact hr) W)
  have M3 := Lib.hid (fun vf vs W => meets_is x vf vs p1 p2 true (by rw [← hp1, ← hp2, decide_eq_true hx1.1]; rfl) W)
  have M4 := Lib.hid (fun vf vs W => meets_is x vf vs p2 (p2 + 1) false (by rw [← hp1, ← hp2, decide_eq_false (Int.lt_irrefl p2), Bool.and_false]) W)
  simp only [eX] at M1 M3 M4
  simp only [eY] at M2
  unfold MadeM at MA MB
  simp only [eX] at MA
  simp only [eY] at MB
  obtain ⟨hx0, hx2, hx3⟩ := hx1
  clear hx hy hp1 hp2 hq1 hq2 hr eX eY hy1 hva hvb hn7 hn7' hx0
  go_enter Try.func4, Try.ntmps4
  go_upto_region 1 with fail
  obtain ⟨W0, hW0⟩ : ∃ W0, W0 = (w.alloc (.cells #[.string (bs va), .int .i64 mn, .int .i64 mx, .int .i64 lv, .int .i64 se, .int .i64 sa, (.slice af nf cf), .slice a7 n7 k7] 51)).alloc (.cells #[.string (bs vb), .int .i64 mn', .int .i64 mx', .int .i64 lv', .int .i64 se', .int .i64 sa', (.slice af' nf' cf'), .slice a7' n7' k7'] 51) := ⟨_, rfl⟩
  have z0 : W0.heap.size = w.heap.size + 2 := by rw [hW0]; simp
  have hb0 : Below w.heap.size w W0 := by rw [hW0]; exact ((Below.refl _ _).alloc (Nat.le_refl _) _).alloc (by simp) _
  have L1 : ∀ W, Below W0.heap.size W0 W → (W.cell? ⟨w.heap.size, 0, none⟩ = some (.string (bs va)) ∧ W.cell? ⟨w.heap.size, 1, none⟩ = some (.int .i64 mn) ∧ W.cell? ⟨w.heap.size, 2, none⟩ = some (.int .i64 mx) ∧ W.cell? ⟨w.heap.size, 3, none⟩ = some (.int .i64 lv) ∧ W.cell? ⟨w.heap.size, 4, none⟩ = some (.int .i64 se) ∧ W.cell? ⟨w.heap.size, 5, none⟩ = some (.int .i64 sa) ∧ W.cell? ⟨w.heap.size, 6, none⟩ = some (.slice af nf cf) ∧ W.cell? ⟨w.heap.size, 7, none⟩ = some (.slice a7 n7 k7) ∧ W.cell? ⟨w.heap.size + 1, 0, none⟩ = some (.string (bs vb)) ∧ W.cell? ⟨w.heap.size + 1, 1, none⟩ = some (.int .i64 mn') ∧ W.cell? ⟨w.heap.size + 1, 2, none⟩ = some (.int .i64 mx') ∧ W.cell? ⟨w.heap.size + 1, 3, none⟩ = some (.int .i64 lv') ∧ W.cell? ⟨w.heap.size + 1, 4, none⟩ = some (.int .i64 se') ∧ W.cell? ⟨w.heap.size + 1, 5, none⟩ = some (.int .i64 sa') ∧ W.cell? ⟨w.heap.size + 1, 6, none⟩ = some (.slice af' nf' cf') ∧ W.cell? ⟨w.heap.size + 1, 7, none⟩ = some (.slice a7' n7' k7')) := fun W b => by
    have h1 := cells8 ((b.block w.heap.size (by omega)).trans (show W0.heap[w.heap.size]? = _ by rw [hW0]; exact (Below.heap_alloc _ _ _ (by simp)).trans (heap_alloc_new w _)))
    have h2 := cells8 ((b.block (w.heap.size + 1) (by omega)).trans (show W0.heap[w.heap.size + 1]? = _ by
      have h := heap_alloc_new (w.alloc (.cells #[.string (bs va), .int .i64 mn, .int .i64 mx, .int .i64 lv, .int .i64 se, .int .i64 sa, (.slice af nf cf), .slice a7 n7 k7] 51)) (.cells #[.string (bs vb), .int .i64 mn', .int .i64 mx', .int .i64 lv', .int .i64 se', .int .i64 sa', (.slice af' nf' cf'), .slice a7' n7' k7'] 51)
      rw [show (w.alloc (.cells #[.string (bs va), .int .i64 mn, .int .i64 mx, .int .i64 lv, .int .i64 se, .int .i64 sa, (.slice af nf cf), .slice a7 n7 k7] 51)).heap.size = w.heap.size + 1 by simp] at h
      rw [hW0]; exact h))
    obtain ⟨a0, a1, a2, a3, a4, a5, a6, a8⟩ := h1
    exact ⟨a0, a1, a2, a3, a4, a5, a6, a8, h2⟩
  have L0 := L1 W0 (Below.refl _ _)
  rw [← hW0]
  have HW := Lib.hid hW0
  clear hW0
  have hp0 : w.heap.size + 1 < W0.heap.size := by omega
  have hq0 : w.heap.size < W0.heap.size := by omega
  have HZ0 := Lib.hid z0
  clear z0
  have BW0 := Lib.hid hb0
  clear hb0
  have SX := Lib.hid L1
  have B0 : Below W0.heap.size W0 W0 := Below.refl _ _
  have B0d : Below W0.heap.size W0 W0.drew := B0.drew
  clear L1 L0
  go_cut [5, 6] from 7 to 44 (fun p q wc => ∃ b c vf vs vf' vs', p = .pointer (some ⟨b, 0, none⟩) ∧ q = .pointer (some ⟨c, 0, none⟩) ∧ Below w.heap.size w wc ∧ b < wc.heap.size ∧ c < wc.heap.size ∧ wc.cell? ⟨b, 0, none⟩ = some (.string (bs x.id)) ∧ wc.cell? ⟨b, 1, none⟩ = some (.int .i64 p1) ∧ wc.cell? ⟨b, 2, none⟩ = some (.int .i64 p2) ∧ wc.cell? ⟨b, 3, none⟩ = some (.int .i64 x.lv) ∧ wc.cell? ⟨b, 4, none⟩ = some (.int .i64 x.se) ∧ wc.cell? ⟨b, 5, none⟩ = some (.int .i64 x.sa) ∧ wc.cell? ⟨b, 6, none⟩ = some (vf) ∧ wc.cell? ⟨b, 7, none⟩ = some (vs) ∧ wc.cell? ⟨c, 0, none⟩ = some (.string (bs y.id)) ∧ wc.cell? ⟨c, 1, none⟩ = some (.int .i64 q1) ∧ wc.cell? ⟨c, 2, none⟩ = some (.int .i64 q2) ∧ wc.cell? ⟨c, 3, none⟩ = some (.int .i64 y.lv) ∧ wc.cell? ⟨c, 4, none⟩ = some (.int .i64 y.se) ∧ wc.cell? ⟨c, 5, none⟩ = some (.int .i64 y.sa) ∧ wc.cell? ⟨c, 6, none⟩ = some (vf') ∧ wc.cell? ⟨c, 7, none⟩ = some (vs'))
  case first =>
    go_wp2_with fail
    go_region_held3 (fun W => W.cell? ⟨w.heap.size, 0, none⟩ = some (.string (bs va)) ∧ W.cell? ⟨w.heap.size, 1, none⟩ = some (.int .i64 mn) ∧ W.cell? ⟨w.heap.size, 2, none⟩ = some (.int .i64 mx) ∧ W.cell? ⟨w.heap.size, 3, none⟩ = some (.int .i64 lv) ∧ W.cell? ⟨w.heap.size, 4, none⟩ = some (.int .i64 se) ∧ W.cell? ⟨w.heap.size, 5, none⟩ = some (.int .i64 sa) ∧ W.cell? ⟨w.heap.size, 6, none⟩ = some (.slice af nf cf) ∧ W.cell? ⟨w.heap.size, 7, none⟩ = some (.slice a7 n7 k7) ∧ W.cell? ⟨w.heap.size + 1, 0, none⟩ = some (.string (bs vb)) ∧ W.cell? ⟨w.heap.size + 1, 1, none⟩ = some (.int .i64 mn') ∧ W.cell? ⟨w.heap.size + 1, 2, none⟩ = some (.int .i64 mx') ∧ W.cell? ⟨w.heap.size + 1, 3, none⟩ = some (.int .i64 lv') ∧ W.cell? ⟨w.heap.size + 1, 4, none⟩ = some (.int .i64 se') ∧ W.cell? ⟨w.heap.size + 1, 5, none⟩ = some (.int .i64 sa') ∧ W.cell? ⟨w.heap.size + 1, 6, none⟩ = some (.slice af' nf' cf') ∧ W.cell? ⟨w.heap.size + 1, 7, none⟩ = some (.slice a7' n7' k7'))
      (first | (refine SX.out _ ?_; repeat (with_reducible (first | assumption | apply up_drew | apply up_alloc | (refine up_set (by dsimp only; omega) ?_)))) | fail)
      (first
        | (go_at_call 11; (with_reducible refine (MA.out _).mono ?_); rintro e w4 ⟨xf, xs, rfl, sf, ss, b⟩; obtain ⟨xa1, xc1, rfl⟩ := sf.slice; obtain ⟨xa2, xc2, rfl⟩ := ss.slice; clear sf ss; have B4 := up_trans (by repeat (with_reducible (first | assumption | apply up_drew | apply up_alloc | (refine up_set (by dsimp only; omega) ?_)))) b; obtain ⟨hc4, hf4⟩ := bcell b; have z4 := b.size; clear b; (try simp only [World.size_alloc, World.size_drew] at z4); (try simp only [World.size_alloc, World.size_drew] at hc4 hf4); have hp4 : w.heap.size + 1 < w4.heap.size := Nat.lt_of_lt_of_le hp0 B4.size; have hq4 : w.heap.size < w4.heap.size := Nat.lt_of_lt_of_le hq0 B4.size; (try (have hl4 : W0.heap.size < w4.heap.size := (by omega))); (try (have hm4 : W0.heap.size + 1 < w4.heap.size := (by omega))))
        | (go_at_call 11; (with_reducible refine (MB.out _).mono ?_); rintro e w5 ⟨yf, ys, rfl, sf, ss, b⟩; obtain ⟨ya1, yc1, rfl⟩ := sf.slice; obtain ⟨ya2, yc2, rfl⟩ := ss.slice; clear sf ss; have B5 := up_trans (by repeat (with_reducible (first | assumption | apply up_drew | apply up_alloc | (refine up_set (by dsimp only; omega) ?_)))) b; obtain ⟨hc5, hf5⟩ := bcell b; have z5 := b.size; clear b; (try simp only [World.size_alloc] at z5); (try simp only [World.size_alloc] at hc5 hf5); have hp5 : w.heap.size + 1 < w5.heap.size := Nat.lt_of_lt_of_le hp0 B5.size; have hq5 : w.heap.size < w5.heap.size := Nat.lt_of_lt_of_le hq0 B5.size; (try (have hl5 : W0.heap.size < w5.heap.size := (by omega))); (try (have hm5 : W0.heap.size + 1 < w5.heap.size := (by omega))); (try (have hn5 : w4.heap.size < w5.heap.size := (by omega))); (try (have ho5 : w4.heap.size + 1 < w5.heap.size := (by omega))))
        | fail)
    all_goals (go_wp2_with fail)
    all_goals go_meet
    all_goals refine ⟨_, _, .slice xa1 x.files.length xc1, .slice xa2 x.src.length xc2, .slice ya1 y.files.length yc1, .slice ya2 y.src.length yc2, rfl, rfl, BW0.out.trans (Below.mono (B := W0.heap.size) (by repeat (with_reducible (first | assumption | apply up_drew | apply up_alloc | (refine up_set (by dsimp only; omega) ?_)))) BW0.out.size), ?_, ?_, ?_⟩
    all_goals first
      | ((with_reducible refine ⟨?_, ?_, ?_, ?_, ?_, ?_, ?_, ?_, ?_, ?_, ?_, ?_, ?_, ?_, ?_, ?_⟩) <;> (go_simp; try (refine cell_setCell_same _ _ _ _ ?_; go_simp)))
      | (simp only [World.size_alloc, World.size_setCell]; omega)
      | skip
  case rest =>
    obtain ⟨b, c, vf, vs, vf', vs', rfl, rfl, BW, hb, hc, hx0, hx1, hx2', hx3', hx4, hx5, hx6, hx7, hy0, hy1, hy2, hy3, hy4, hy5, hy6, hy7⟩ := hcut
    have SY := Lib.hid (fun W (k : Below wc.heap.size wc W) => show W.cell? ⟨b, 0, none⟩ = some (.string (bs x.id)) ∧ W.cell? ⟨b, 1, none⟩ = some (.int .i64 p1) ∧ W.cell? ⟨b, 2, none⟩ = some (.int .i64 p2) ∧ W.cell? ⟨b, 3, none⟩ = some (.int .i64 x.lv) ∧ W.cell? ⟨b, 4, none⟩ = some (.int .i64 x.se) ∧ W.cell? ⟨b, 5, none⟩ = some (.int .i64 x.sa) ∧ W.cell? ⟨b, 6, none⟩ = some (vf) ∧ W.cell? ⟨b, 7, none⟩ = some (vs) ∧ W.cell? ⟨c, 0, none⟩ = some (.string (bs y.id)) ∧ W.cell? ⟨c, 1, none⟩ = some (.int .i64 q1) ∧ W.cell? ⟨c, 2, none⟩ = some (.int .i64 q2) ∧ W.cell? ⟨c, 3, none⟩ = some (.int .i64 y.lv) ∧ W.cell? ⟨c, 4, none⟩ = some (.int .i64 y.se) ∧ W.cell? ⟨c, 5, none⟩ = some (.int .i64 y.sa) ∧ W.cell? ⟨c, 6, none⟩ = some (vf') ∧ W.cell? ⟨c, 7, none⟩ = some (vs') from ⟨(k.cell (p := ⟨b, 0, none⟩) hb).trans hx0, (k.cell (p := ⟨b, 1, none⟩) hb).trans hx1, (k.cell (p := ⟨b, 2, none⟩) hb).trans hx2', (k.cell (p := ⟨b, 3, none⟩) hb).trans hx3', (k.cell (p := ⟨b, 4, none⟩) hb).trans hx4, (k.cell (p := ⟨b, 5, none⟩) hb).trans hx5, (k.cell (p := ⟨b, 6, none⟩) hb).trans hx6, (k.cell (p := ⟨b, 7, none⟩) hb).trans hx7, (k.cell (p := ⟨c, 0, none⟩) hc).trans hy0, (k.cell (p := ⟨c, 1, none⟩) hc).trans hy1, (k.cell (p := ⟨c, 2, none⟩) hc).trans hy2, (k.cell (p := ⟨c, 3, none⟩) hc).trans hy3, (k.cell (p := ⟨c, 4, none⟩) hc).trans hy4, (k.cell (p := ⟨c, 5, none⟩) hc).trans hy5, (k.cell (p := ⟨c, 6, none⟩) hc).trans hy6, (k.cell (p := ⟨c, 7, none⟩) hc).trans hy7⟩)
    have C0 : Below wc.heap.size wc wc := Below.refl _ _
    have C0d : Below wc.heap.size wc wc.drew := C0.drew
    have hwr : IntKind.i64.wrap (p2 + 1) = p2 + 1 := by rw [IntKind.wrap_i64]; omega
    have BWh := Lib.hid BW
    clear hx0 hx1 hx2' hx3' hx4 hx5 hx6 hx7 hy0 hy1 hy2 hy3 hy4 hy5 hy6 hy7 BW BW0 SX hb hc hx2 hx3 B0 B0d HZ0 HW hp0 hq0 MA MB C0
    go_wp2_with fail
    go_region_held3 (fun W => W.cell? ⟨b, 0, none⟩ = some (.string (bs x.id)) ∧ W.cell? ⟨b, 1, none⟩ = some (.int .i64 p1) ∧ W.cell? ⟨b, 2, none⟩ = some (.int .i64 p2) ∧ W.cell? ⟨b, 3, none⟩ = some (.int .i64 x.lv) ∧ W.cell? ⟨b, 4, none⟩ = some (.int .i64 x.se) ∧ W.cell? ⟨b, 5, none⟩ = some (.int .i64 x.sa) ∧ W.cell? ⟨b, 6, none⟩ = some (vf) ∧ W.cell? ⟨b, 7, none⟩ = some (vs) ∧ W.cell? ⟨c, 0, none⟩ = some (.string (bs y.id)) ∧ W.cell? ⟨c, 1, none⟩ = some (.int .i64 q1) ∧ W.cell? ⟨c, 2, none⟩ = some (.int .i64 q2) ∧ W.cell? ⟨c, 3, none⟩ = some (.int .i64 y.lv) ∧ W.cell? ⟨c, 4, none⟩ = some (.int .i64 y.se) ∧ W.cell? ⟨c, 5, none⟩ = some (.int .i64 y.sa) ∧ W.cell? ⟨c, 6, none⟩ = some (vf') ∧ W.cell? ⟨c, 7, none⟩ = some (vs'))
      (first | (refine SY.out _ ?_; with_reducible assumption) | with_reducible assumption | fail)
      (first
        | (go_at_call 12; refine (mawake_any _).mono ?_; rintro e w8 ⟨rfl, b8⟩; have C8 : Below wc.heap.size wc w8 := C0d.trans b8)
        | (go_at_call 13; (with_reducible refine (M1.out _ _ w8).mono ?_); rintro e w9 ⟨rfl, b9⟩; have C9 := C8.trans (b9.mono C8.size))
        | (go_at_call 13; (with_reducible refine (M2.out _ _ w9).mono ?_); rintro e w10 ⟨rfl, b10⟩; have C10 := C9.trans (b10.mono C9.size))
        | (go_at_call 13; (with_reducible refine (M3.out _ _ w10).mono ?_); rintro e w11 ⟨rfl, b11⟩; have C11 := C10.trans (b11.mono C10.size))
        | (go_at_call 13; (with_reducible refine (M4.out _ _ w11).mono ?_); rintro e w12 ⟨rfl, b12⟩; have C12 := C11.trans (b12.mono C11.size))
        | fail)
    go_wp2
    go_ret
    exact ⟨rfl, BWh.out.trans (C12.mono BWh.out.size)⟩
end Go.Proofs.Ythambhcladobjaa
