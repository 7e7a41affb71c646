/- Layer 14: Samples, walked. Layer 14, rows: rows only read; which of two comes first; walked. -/
import Derived.Test.YtabeaehiidnbbaaDoorMAY
import Derived.Test.YtabeaehiidnbbaaDoorMAH
namespace Go.Proofs.YtabeaehiidnbbaaDoor
open Go.RowKit Go.Lib Hp
set_option linter.unusedVariables false

set_option maxRecDepth 100000 in
theorem samples_any (v : Value) (k : Nat) (cur : Nat → List Sp) (iv : Nat → Value) (T : Nat) (w : World) (h : LsR w v k cur iv) (hk : k ≤ 1000) (hT : T = tot cur k) (hTm : T ≤ 1000000) :
    Calls Tryd.prog 7 #[v] w fun e w' => ∃ v', e = .returned v' ∧ Sl w' w.heap.size 2 v' (compS (kmg cur k T)).length (spc (compS (kmg cur k T))) ∧ Below w.heap.size w w' := by
  have M := Lib.hid (merged_S v k cur iv T w h hk hT hTm)
  have hlen : (kmg cur k T).length ≤ T := kmg_len _ _ _
  obtain ⟨L, hL⟩ : ∃ L, L = kmg cur k T := ⟨_, rfl⟩
  rw [← hL] at M hlen ⊢
  obtain ⟨⟨a, cap, g, off, rfl, _⟩, _⟩ := h
  clear hL hT
  go_enter Tryd.func7, Tryd.ntmps7
  go_wp2_with fail
  refine M.out.mono ?_
  rintro e w1 ⟨v1, rfl, s1, b1⟩
  have hz := b1.size
  have C := Lib.hid (compf_any v1 L w.heap.size w1 s1 (by omega) hz)
  obtain ⟨a1, c1, rfl⟩ := s1.slice
  clear s1
  go_wp2_with fail
  refine C.out.mono ?_
  rintro e w2 ⟨v2, rfl, s2, b2⟩
  obtain ⟨a2, c2, rfl⟩ := s2.slice
  go_wp2
  go_ret
  exact ⟨_, rfl, s2, b1.trans b2⟩
end Go.Proofs.YtabeaehiidnbbaaDoor

namespace Go.Proofs.YtabeaehiidnbbaaDoor
open Go.RowKit Go.Lib
set_option linter.unusedVariables false

instance : Inhabited Rq := ⟨⟨.int .i64 0, .int .i64 0, ⟨[], []⟩⟩⟩
/-- Rows in a slice, only read. -/
def RdQ (w : World) (v : Value) (l : List Rq) : Prop := Rd w 2 v l.length (rqc l) ∧ ∀ q ∈ l, RowOk w 100000 q
theorem RdQ.slice {w : World} {v : Value} {l : List Rq} (h : RdQ w v l) : ∃ a cap, v = .slice a l.length cap := h.1.slice
theorem RdQ.on {w w' : World} {v : Value} {l : List Rq} (h : RdQ w v l) (b : Below w.heap.size w w') : RdQ w' v l := ⟨h.1.on b, fun q hq => (h.2 q hq).on b⟩
theorem zc_mrow : (Tryd.prog.info? 57).map (fun i => (i.zero, i.size, i.bytes)) = some (some (.agg #[.slice none 0 0, .slice none 0 0]), 2, 48) := by kernel_rfl
theorem RowOk.mono {w : World} {K K' : Nat} {q : Rq} (h : RowOk w K q) (hk : K ≤ K') : RowOk w K' q := ⟨h.l, h.s, h.hl, Nat.le_trans h.hs hk⟩

set_option maxHeartbeats 1000000 in
set_option maxRecDepth 100000 in
theorem bylabels_any (x y : Rq) (w : World) (hx : RowOk w 100000 x) (hy : RowOk w 100000 y) : Calls Tryd.prog 26 #[.agg #[x.a, x.b], .agg #[y.a, y.b]] w fun e w' => e = .returned (.int .i64 (cmpS x.r.ls y.r.ls)) ∧ Below w.heap.size w w' := by
  obtain ⟨xl, xs, hxl, _⟩ := hx
  obtain ⟨yl, ys, hyl, _⟩ := hy
  obtain ⟨xa, xb, xr⟩ := x
  obtain ⟨ya, yb, yr⟩ := y
  simp only at xl xs hxl yl ys hyl ⊢
  have C := Lib.hid (fun W (bb : Below w.heap.size w W) => cmp_lb xa ya xr.ls yr.ls W (xl.on bb) (yl.on bb) (by omega) (by omega))
  have bA : Below w.heap.size w ((w.alloc (.cells #[xa, xb] 57)).alloc (.cells #[ya, yb] 57)) := ((Below.refl _ _).alloc (Nat.le_refl _) _).alloc (by simp) _
  obtain ⟨c, hc⟩ : ∃ c, c = cmpS xr.ls yr.ls := ⟨_, rfl⟩
  rw [← hc] at C ⊢
  have BA := Lib.hid bA
  obtain ⟨a1, c1, e1⟩ := xl.slice
  obtain ⟨a2, c2, e2⟩ := xs.slice
  obtain ⟨a3, c3, e3⟩ := yl.slice
  obtain ⟨a4, c4, e4⟩ := ys.slice
  subst e1 e2 e3 e4
  clear xl xs hxl yl ys hyl hc bA
  go_enter Tryd.func26, Tryd.ntmps26
  go_wp2_with fail
  refine (C.out _ BA.out).mono ?_
  rintro e w1 ⟨rfl, b1⟩
  go_wp2
  go_ret
  exact ⟨rfl, BA.out.trans (b1.mono BA.out.size)⟩
end Go.Proofs.YtabeaehiidnbbaaDoor
