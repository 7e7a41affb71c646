/- A matcher by value, opened. -/
import Derived.Test.YtobdlfikomnmcaaGreatDoorMTM9
import Derived.Lib.SmallJoins
import Derived.OpenShut
namespace Go.Proofs.YtobdlfikomnmcaaGreatDoor
open Go.RowKit Go.Lib Go.Joins Go.ChangeShapes Go.WideShapes Go.Deep
set_option linter.unusedVariables false

theorem k13M : Tryz.prog.cellsOf 24 = 3 := by kernel_rfl
theorem k13I : Tryz.prog.cellsOf 3 = 1 := by kernel_rfl
theorem k13S : Tryz.prog.cellsOf 9 = 1 := by kernel_rfl
theorem k13T : Tryz.prog.cellsOf 22 = 1 := by kernel_rfl
set_option maxRecDepth 100000 in
theorem mt_open {H : Type} {enc : TypeId × Value → H} {w : World} {base b0 : Nat} {r : Reach} {spare : Nat → Bool} {held : Bool} {v : Value} {d : DataW H} {p : List MemPlace}
    (hv : Value.okWide Tryz.prog w r b0 24 v) (h : DataW.Trod enc Tryz.prog w base spare held 24 v d p) :
    ∃ z : Om, v = .agg #[.int .i64 z.k, .string (bs z.n), .slice z.a z.ln z.cp] ∧ OmAt w z := by
  obtain ⟨cs, rfl, hsz⟩ := okWide_struct Tryz.underlying24 hv
  obtain ⟨l⟩ := cs
  match l, hsz.trans k13M with
  | [c0, c1, c2], _ =>
    obtain ⟨fuel, hf⟩ := h
    obtain ⟨xs, n, _, _, _, hlen, hg⟩ := DataW.trod_struct Tryz.underlying24 hf
    match xs, hlen with
    | [y0, y1, y2], _ =>
      have h0 := hg 0 _ rfl
      have h1 := hg 1 _ rfl
      have h2 := hg 2 _ rfl
      simp [Value.cells, k13I] at h0
      simp [Value.cells, k13S] at h1
      simp [Value.cells, k13T] at h2
      obtain ⟨z0, q0, _, w0⟩ := DataW.trod_int Tryz.underlying3 h0
      obtain ⟨z1, q1, _, w1⟩ := DataW.trod_string Tryz.underlying9 h1
      simp only [List.cons.injEq, and_true] at q0 q1
      subst q0; subst q1
      have hn : z1.data.toList.length ≤ maxLen := by first | exact w1 | (have := w1; simpa using this)
      rcases DataW.trod_slice Tryz.underlying22 h2 with ⟨q2, _⟩ | ⟨a2, len2, cap2, _, _, _, _, q2, _⟩
      · simp only [List.cons.injEq, and_true] at q2
        subst q2
        obtain ⟨ds, h3, h4, h5⟩ := strs13_open h2
        exact ⟨⟨z0, z1.data.toList, _, _, _, ds⟩, rfl, hn, h3, h4, h5⟩
      · simp only [List.cons.injEq, and_true] at q2
        subst q2
        obtain ⟨ds, h3, h4, h5⟩ := strs13_open h2
        exact ⟨⟨z0, z1.data.toList, _, _, _, ds⟩, rfl, hn, h3, h4, h5⟩
end Go.Proofs.YtobdlfikomnmcaaGreatDoor
