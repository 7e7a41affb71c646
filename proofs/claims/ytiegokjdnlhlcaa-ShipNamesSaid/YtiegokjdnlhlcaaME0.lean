/- A slice of numbers that came in, opened. -/
import Derived.Test.YtiegokjdnlhlcaaMD14
import Derived.ChangeSlices
import Derived.OpenShut
namespace Go.Proofs.Ytiegokjdnlhlcaa
open Go.RowKit Go.Lib Go.ChangeShapes Go.WideShapes

def IntsAt (w : World) (a : Option Addr) (len cap : Nat) (zs : List Int) : Prop :=
  zs.length = len ∧ IntsIn w (.slice a len cap) zs ∧ Reach zs ∧ (0 < zs.length → ∀ k, (Value.slice a len cap).ownBlock = some k → k < w.heap.size)

theorem ints_open {H : Type} {enc : TypeId × Value → H} {W : World} {base : Nat} {spare : Nat → Bool} {held : Bool} {fuel : Nat} {ao : Option Addr} {len cap : Nat} {x : DataW H × List MemPlace}
    (h : DataW.trod enc Try.prog W base spare held fuel 22 [.slice ao len cap] = some x) : ∃ zs, len ≤ maxLen ∧ IntsAt W ao len cap zs := by
  have ce : Try.prog.cellsOf 3 = 1 := by kernel_rfl
  rcases open_ints Try.underlying22 Try.underlying3 ce h with ⟨hcs, _⟩ | ⟨a, len', cap', zs, hcs, hb, hl, hm, hlen, _, hcell, hwf⟩
  · simp only [List.cons.injEq, Value.slice.injEq, and_true] at hcs
    obtain ⟨rfl, rfl, rfl⟩ := hcs
    exact ⟨[], Nat.zero_le _, rfl, ⟨_, _, rfl, Nat.le_refl _, fun h => absurd h (by simp)⟩, ⟨by simp, by simp⟩, fun h => absurd h (by simp)⟩
  · simp only [List.cons.injEq, Value.slice.injEq, and_true] at hcs
    obtain ⟨rfl, rfl, rfl⟩ := hcs
    have hz : len ≤ zs.length := by rw [hlen]; split <;> omega
    have hlt : (zs.take len).length = len := by rw [List.length_take]; omega
    have hget : ∀ j, j < len → W.cell? (a.add j) = some (.int .i64 ((zs.take len).getD j 0)) := fun j hj => by
      rw [hcell j (by omega)]
      simp [List.getD_eq_getElem?_getD, hj]
    refine ⟨zs.take len, Nat.le_trans hl hm, hlt, ⟨some a, cap, by rw [hlt], by rw [hlt]; exact hl, fun h0 => ?_⟩, ⟨by rw [hlt]; unfold maxLen at hm; omega, fun c hc => ?_⟩, fun h0 k hk => ?_⟩
    · rw [hlt] at h0
      obtain ⟨b, off, spot⟩ := a
      have hspot : spot = none := by
        have := World.cell?_spot (hget 0 h0)
        simpa [Addr.add] using this
      subst hspot
      exact ⟨b, off, rfl, fun j hj => by
        have := hget j (by omega)
        by_cases hj0 : j = 0
        · subst hj0; simpa [Addr.add] using this
        · simpa [Addr.add, hj0] using this⟩
    · have := bd_i64 (hwf c (List.mem_of_mem_take hc))
      omega
    · rw [hlt] at h0
      have := World.block_lt_of_cell? W _ (hget 0 h0)
      cases hk
      simpa [Addr.add] using this
end Go.Proofs.Ytiegokjdnlhlcaa
