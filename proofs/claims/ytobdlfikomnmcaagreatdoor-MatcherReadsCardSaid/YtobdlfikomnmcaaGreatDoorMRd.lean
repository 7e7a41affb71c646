/- Slices that are only read. -/
import Derived.Test.YtobdlfikomnmcaaGreatDoorMSl
namespace Go.Proofs.YtobdlfikomnmcaaGreatDoor
open Go.RowKit Go.Lib

/-- v is a slice of n elements (each of so many cells) whose cells read as xs. -/
def Rd (w : World) (size : Nat) (v : Value) (n : Nat) (xs : List Value) : Prop :=
  xs.length = n * size ∧ ∃ a cap g off, v = .slice a n cap ∧ (0 < n → a = some ⟨g, off, none⟩ ∧ g < w.heap.size) ∧ ∀ j, j < n * size → w.cell? ⟨g, off + j, none⟩ = xs[j]?
theorem Rd.of_sl {w : World} {base size n : Nat} {v : Value} {xs : List Value} (h : Sl w base size v n xs) : Rd w size v n xs := by
  refine ⟨h.1, ?_⟩
  rcases h.2 with ⟨rfl, rfl⟩ | ⟨g, off, cap, rfl, h1, h2, _, _, _, h3⟩
  · exact ⟨none, 0, 0, 0, rfl, fun h => absurd h (by omega), fun j hj => absurd hj (by omega)⟩
  · exact ⟨_, cap, g, off, rfl, fun _ => ⟨rfl, h2⟩, h3⟩
theorem Rd.on {w w' : World} {size n : Nat} {v : Value} {xs : List Value} (h : Rd w size v n xs) (b : Below w.heap.size w w') : Rd w' size v n xs := by
  obtain ⟨h0, a, cap, g, off, hv, h1, h2⟩ := h
  refine ⟨h0, a, cap, g, off, hv, fun hn => ⟨(h1 hn).1, Nat.lt_of_lt_of_le (h1 hn).2 b.size⟩, fun j hj => ?_⟩
  have hn : 0 < n := by
    rcases Nat.eq_zero_or_pos n with rfl | hp
    · simp at hj
    · exact hp
  exact (b.cell (p := ⟨g, off + j, none⟩) (h1 hn).2).trans (h2 j hj)

end Go.Proofs.YtobdlfikomnmcaaGreatDoor
