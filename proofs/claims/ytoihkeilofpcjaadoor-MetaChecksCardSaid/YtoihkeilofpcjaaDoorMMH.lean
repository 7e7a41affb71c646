/- Layer 9: a meta that came in by value, opened: its shape. -/
import Derived.Test.YtoihkeilofpcjaaDoorMM5
import Derived.Lib.SmallJoins
import Derived.OpenShut
namespace Go.Proofs.YtoihkeilofpcjaaDoor
open Go.RowKit Go.Lib Go.Joins Go.ChangeShapes Go.WideShapes

theorem kM : Tryd.prog.cellsOf 25 = 8 := by kernel_rfl
theorem kS : Tryd.prog.cellsOf 9 = 1 := by kernel_rfl
theorem kI : Tryd.prog.cellsOf 3 = 1 := by kernel_rfl
theorem kJ : Tryd.prog.cellsOf 2 = 1 := by kernel_rfl
theorem kF : Tryd.prog.cellsOf 22 = 1 := by kernel_rfl
theorem kT : Tryd.prog.cellsOf 23 = 1 := by kernel_rfl

theorem slice_shape {H : Type} {enc : TypeId × Value → H} {w : World} {base : Nat} {spare : Nat → Bool} {held : Bool} {fuel : Nat} {t e : TypeId} {v : Value} {x : DataW H × List MemPlace} (ht : Tryd.prog.underlying t = some (.slice e))
    (h : DataW.trod enc Tryd.prog w base spare held fuel t [v] = some x) : ∃ a n c, v = .slice a n c ∧ n ≤ maxLen := by
  rcases DataW.trod_slice ht h with ⟨h1, _⟩ | ⟨a, len, cap, _, _, _, _, h1, _, _, h2, h3, _⟩
  · simp only [List.cons.injEq, and_true] at h1
    exact ⟨none, 0, 0, h1, Nat.zero_le _⟩
  · simp only [List.cons.injEq, and_true] at h1
    exact ⟨some a, len, cap, h1, Nat.le_trans h2 h3⟩

set_option maxRecDepth 100000 in
theorem meta_open {H : Type} {enc : TypeId × Value → H} {w : World} {base b0 : Nat} {r : Reach} {spare : Nat → Bool} {held : Bool} {v : Value} {d : DataW H} {p : List MemPlace}
    (hv : Value.okWide Tryd.prog w r b0 25 v) (h : DataW.Trod enc Tryd.prog w base spare held 25 v d p) :
    ∃ (va : List UInt8) (mn mx lv se sa : Int) (af : Option Addr) (nf kf : Nat) (ag : Option Addr) (ng kg : Nat),
      v = .agg #[.string (bs va), .int .i64 mn, .int .i64 mx, .int .i64 lv, .int .i64 se, .int .i64 sa, .slice af nf kf, .slice ag ng kg] ∧ ng ≤ maxLen ∧ va.length ≤ maxLen := by
  obtain ⟨cs, rfl, hsz⟩ := okWide_struct Tryd.underlying25 hv
  obtain ⟨l⟩ := cs
  match l, hsz.trans kM with
  | [c0, c1, c2, c3, c4, c5, c6, c7], _ =>
    obtain ⟨fuel, hf⟩ := h
    obtain ⟨xs, n, _, _, _, hlen, hg⟩ := DataW.trod_struct Tryd.underlying25 hf
    match xs, hlen with
    | [y0, y1, y2, y3, y4, y5, y6, y7], _ =>
      have h0 := hg 0 _ rfl
      have h1 := hg 1 _ rfl
      have h2 := hg 2 _ rfl
      have h3 := hg 3 _ rfl
      have h4 := hg 4 _ rfl
      have h5 := hg 5 _ rfl
      have h6 := hg 6 _ rfl
      have h7 := hg 7 _ rfl
      simp [Value.cells, kS] at h0
      simp [Value.cells, kJ] at h1
      simp [Value.cells, kJ] at h2
      simp [Value.cells, kI] at h3
      simp [Value.cells, kI] at h4
      simp [Value.cells, kI] at h5
      simp [Value.cells, kF] at h6
      simp [Value.cells, kT] at h7
      obtain ⟨s, e0, _, z0⟩ := DataW.trod_string Tryd.underlying9 h0
      obtain ⟨i1, e1, _⟩ := DataW.trod_int Tryd.underlying2 h1
      obtain ⟨i2, e2, _⟩ := DataW.trod_int Tryd.underlying2 h2
      obtain ⟨i3, e3, _⟩ := DataW.trod_int Tryd.underlying3 h3
      obtain ⟨i4, e4, _⟩ := DataW.trod_int Tryd.underlying3 h4
      obtain ⟨i5, e5, _⟩ := DataW.trod_int Tryd.underlying3 h5
      obtain ⟨a6, n6, k6, rfl, _⟩ := slice_shape Tryd.underlying22 h6
      obtain ⟨a7, n7, k7, rfl, m7⟩ := slice_shape Tryd.underlying23 h7
      simp only [List.cons.injEq, and_true] at e0 e1 e2 e3 e4 e5
      subst e0 e1 e2 e3 e4 e5
      refine ⟨s.data.toList, i1, i2, i3, i4, i5, a6, n6, k6, a7, n7, k7, rfl, m7, ?_⟩
      rw [Array.length_toList]
      exact z0
end Go.Proofs.YtoihkeilofpcjaaDoor
