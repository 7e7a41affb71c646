/- A slice of texts that came in, opened; DiskFull. -/
import Derived.Test.YtiegokjdnlhlcaaME0
import Derived.SliceStrings
namespace Go.Proofs.Ytiegokjdnlhlcaa
open Go.RowKit Go.Lib Go.ChangeShapes Go.WideShapes

def StrsAt (w : World) (a : Option Addr) (len : Nat) (zs : List ByteArray) : Prop :=
  zs.length = len ∧ (∀ z ∈ zs, z.size ≤ maxLen) ∧ (0 < len → ∃ g off, a = some ⟨g, off, none⟩ ∧ g < w.heap.size ∧ ∀ j, j < len → w.cell? ⟨g, off + j, none⟩ = some (.string (zs.getD j ByteArray.empty)))

theorem strs_open {H : Type} {enc : TypeId × Value → H} {W : World} {base : Nat} {spare : Nat → Bool} {held : Bool} {fuel : Nat} {ao : Option Addr} {len cap : Nat} {x : DataW H × List MemPlace}
    (h : DataW.trod enc Try.prog W base spare held fuel 49 [.slice ao len cap] = some x) : ∃ zs, len ≤ maxLen ∧ StrsAt W ao len zs := by
  have ce : Try.prog.cellsOf 9 = 1 := by kernel_rfl
  rcases open_strings Try.underlying49 Try.underlying9 ce h with ⟨hcs, _⟩ | ⟨a, len', cap', zs, hcs, hb, hl, hm, hlen, _, hcell, hwf⟩
  · simp only [List.cons.injEq, Value.slice.injEq, and_true] at hcs
    obtain ⟨rfl, rfl, rfl⟩ := hcs
    exact ⟨[], Nat.zero_le _, rfl, by simp, fun h => absurd h (by simp)⟩
  · simp only [List.cons.injEq, Value.slice.injEq, and_true] at hcs
    obtain ⟨rfl, rfl, rfl⟩ := hcs
    have hz : len ≤ zs.length := by rw [hlen]; split <;> omega
    have hlt : (zs.take len).length = len := by rw [List.length_take]; omega
    have hget : ∀ j, j < len → W.cell? (a.add j) = some (.string ((zs.take len).getD j ByteArray.empty)) := fun j hj => by
      rw [hcell j (by omega)]
      simp [List.getD_eq_getElem?_getD, hj]
    refine ⟨zs.take len, Nat.le_trans hl hm, hlt, fun z hz => hwf z (List.mem_of_mem_take hz), fun h0 => ?_⟩
    obtain ⟨b, off, spot⟩ := a
    have hspot : spot = none := by
      have := World.cell?_spot (hget 0 h0)
      simpa [Addr.add] using this
    subst hspot
    refine ⟨b, off, rfl, ?_, fun j hj => ?_⟩
    · have := World.block_lt_of_cell? W _ (hget 0 h0)
      simpa [Addr.add] using this
    · have := hget j hj
      by_cases hj0 : j = 0
      · subst hj0; simpa [Addr.add] using this
      · simpa [Addr.add, hj0] using this
end Go.Proofs.Ytiegokjdnlhlcaa
