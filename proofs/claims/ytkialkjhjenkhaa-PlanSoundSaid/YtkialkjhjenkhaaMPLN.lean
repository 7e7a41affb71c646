/- Layer 20: a slice of the statements' blocks that came in, opened. -/
import Derived.Test.YtkialkjhjenkhaaMPLM
import Derived.Deep.SlicePairs
import Derived.Deep.Onto
namespace Go.Proofs.Ytkialkjhjenkhaa
open Go.RowKit Go.Lib Go.Deep Go.ChangeShapes Go.WideShapes
set_option linter.unusedVariables false

def OgsAt (w : World) (ao : Option Addr) (len cap : Nat) (l : List Og) : Prop := l.length = len ∧ Rd w 5 (.slice ao len cap) l.length (ogc l)
theorem five {α : Type} (l : List α) (h : l.length = 5) : ∃ a b c d e, l = [a, b, c, d, e] := by
  match l, h with
  | [a, b, c, d, e], _ => exact ⟨a, b, c, d, e, rfl⟩
instance : Inhabited Og := ⟨⟨0, 0, 0, 0, false⟩⟩
theorem ogs_open {H : Type} {enc : TypeId × Value → H} {W : World} {base : Nat} {spare : Nat → Bool} {held : Bool} {fuel : Nat} {ao : Option Addr} {len cap : Nat} {x : DataW H × List MemPlace}
    (h : DataW.trod enc Try.prog W base spare held fuel 22 [.slice ao len cap] = some x) : ∃ ts, len ≤ maxLen ∧ OgsAt W ao len cap ts := by
  rcases open_slice Try.underlying22 h with ⟨hcs, _⟩ | ⟨a, len', cap', m, n, D, Pl, hcs, hb, hl, hm, hmm, _, hi⟩
  · simp only [List.cons.injEq, Value.slice.injEq, and_true] at hcs
    obtain ⟨rfl, rfl, rfl⟩ := hcs
    exact ⟨[], Nat.zero_le _, rfl, rfl, none, 0, 0, 0, rfl, fun h => absurd h (Nat.lt_irrefl 0), fun j hj => by simp at hj⟩
  · simp only [List.cons.injEq, Value.slice.injEq, and_true] at hcs
    obtain ⟨rfl, rfl, rfl⟩ := hcs
    have hlm : len ≤ m := by rw [hmm]; split <;> omega
    have ce : Try.prog.cellsOf 64 = 5 := by kernel_rfl
    have each : ∀ i, i < m → ∃ t : Og, W.cell? (a.add (i * 5)) = some (.int .i64 t.fr) ∧ W.cell? ((a.add (i * 5)).add 1) = some (.int .i64 t.wi) ∧ W.cell? ((a.add (i * 5)).add 2) = some (.int .i64 t.sz) ∧ W.cell? ((a.add (i * 5)).add 3) = some (.int .i64 t.so) ∧ W.cell? ((a.add (i * 5)).add 4) = some (.bool t.md) := by
      intro i him
      obtain ⟨cs', h1, h2⟩ := hi i him
      rw [ce] at h1
      obtain ⟨_, hlen, hcell⟩ := World.cells?_some h1
      obtain ⟨c0, c1, c2, c3, c4, rfl⟩ := five cs' hlen
      obtain ⟨xs, k, hk, hxy, _, hxl, hf⟩ := DataW.trod_struct Try.underlying64 h2
      obtain ⟨y0, y1, y2, y3, y4, rfl⟩ := five xs hxl
      have e0 := hcell 0 (by omega); have e1 := hcell 1 (by omega); have e2 := hcell 2 (by omega); have e3 := hcell 3 (by omega); have e4 := hcell 4 (by omega)
      have ci : Try.prog.cellsOf 3 = 1 := by kernel_rfl
      have cb : Try.prog.cellsOf 4 = 1 := by kernel_rfl
      have g0 := hf 0 _ rfl; have g1 := hf 1 _ rfl; have g2 := hf 2 _ rfl; have g3 := hf 3 _ rfl; have g4 := hf 4 _ rfl
      simp [ci, cb] at g0 g1 g2 g3 g4
      obtain ⟨z0, q0, _, w0⟩ := DataW.trod_int Try.underlying3 g0
      obtain ⟨z1, q1, _, w1⟩ := DataW.trod_int Try.underlying3 g1
      obtain ⟨z2, q2, _, w2⟩ := DataW.trod_int Try.underlying3 g2
      obtain ⟨z3, q3, _, w3⟩ := DataW.trod_int Try.underlying3 g3
      obtain ⟨z4, q4, _⟩ := DataW.trod_bool Try.underlying4 g4
      simp only [List.cons.injEq, and_true] at q0 q1 q2 q3 q4
      subst q0 q1 q2 q3 q4
      exact ⟨⟨z0, z1, z2, z3, z4⟩, by rw [add_add, Nat.add_zero] at e0; simpa using e0, by simpa using e1, by simpa using e2, by simpa using e3, by simpa using e4⟩
    obtain ⟨T, hT⟩ := choose_lt each
    have hlen : ((List.range len).map T).length = len := by simp
    refine ⟨(List.range len).map T, Nat.le_trans hl hm, hlen, ?_⟩
    rw [hlen]
    by_cases h0 : len = 0
    · subst h0
      exact ⟨rfl, some a, cap, 0, 0, rfl, fun h => absurd h (Nat.lt_irrefl 0), fun j hj => by simp at hj⟩
    · obtain ⟨b, off, spot⟩ := a
      have hspot : spot = none := by
        have := World.cell?_spot (hT 0 (by omega)).1
        simpa [Addr.add] using this
      subst hspot
      have hc0 := (hT 0 (by omega)).1
      refine ⟨by rw [ogc_len, hlen], some ⟨b, off, none⟩, cap, b, off, rfl, fun _ => ⟨rfl, ?_⟩, fun j hj => ?_⟩
      · have := World.block_lt_of_cell? W _ hc0
        rwa [add_plain] at this
      · have hq : j / 5 < len := by omega
        have hi2 : ((List.range len).map T)[j / 5]? = some (T (j / 5)) := by
          simp only [List.getElem?_map, List.getElem?_range hq, Option.map_some]
        have key := ogc_at ((List.range len).map T) (j / 5) (T (j / 5)) hi2 (j % 5) (Nat.mod_lt _ (by decide))
        rw [show j / 5 * 5 + j % 5 = j by omega] at key
        rw [key]
        obtain ⟨d0, d1, d2, d3, d4⟩ := hT (j / 5) (by omega)
        simp only [add_plain] at d0 d1 d2 d3 d4
        have : j % 5 = 0 ∨ j % 5 = 1 ∨ j % 5 = 2 ∨ j % 5 = 3 ∨ j % 5 = 4 := by omega
        rcases this with h5 | h5 | h5 | h5 | h5 <;> rw [h5]
        · rw [show off + j = off + j / 5 * 5 by omega]; exact d0
        · rw [show off + j = off + j / 5 * 5 + 1 by omega]; exact d1
        · rw [show off + j = off + j / 5 * 5 + 2 by omega]; exact d2
        · rw [show off + j = off + j / 5 * 5 + 3 by omega]; exact d3
        · rw [show off + j = off + j / 5 * 5 + 4 by omega]; exact d4
end Go.Proofs.Ytkialkjhjenkhaa
