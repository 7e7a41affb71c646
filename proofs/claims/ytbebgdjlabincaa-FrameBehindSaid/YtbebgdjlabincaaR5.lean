/- A slice of records that came in, opened. -/
import Derived.Test.YtbebgdjlabincaaR4
import Derived.Deep.SlicePairs
import Derived.OpenShut
namespace Go.Proofs.Ytbebgdjlabincaa
open Go.RowKit Go.Lib Go.Deep Go.ChangeShapes Go.WideShapes

def byteOf : Value → UInt8 | .int _ n => UInt8.ofNat n.toNat | _ => 0
def listOf : Value → List UInt8 | .string s => s.data.toList | _ => []

theorem recs_open {H : Type} {enc : TypeId × Value → H} {W : World} {base : Nat} {spare : Nat → Bool} {held : Bool} {fuel : Nat} {ao : Option Addr} {len cap : Nat} {x : DataW H × List MemPlace}
    (h : DataW.trod enc Try.prog W base spare held fuel 63 [.slice ao len cap] = some x) : ∃ rs, len ≤ maxLen ∧ RecsAt W ao len rs := by
  rcases open_slice_pairs Try.underlying63 Try.underlying57 (by kernel_rfl) rfl rfl (by kernel_rfl) (by kernel_rfl) h with ⟨hcs, _⟩ | ⟨a, len', cap', m, n, V0, V1, D0, D1, P0, P1, hcs, hb, hl, hm, hmm, _, hi⟩
  · simp only [List.cons.injEq, Value.slice.injEq, and_true] at hcs
    obtain ⟨rfl, rfl, rfl⟩ := hcs
    exact ⟨[], Nat.zero_le _, by simp, fun h => absurd h (Nat.lt_irrefl 0)⟩
  · simp only [List.cons.injEq, Value.slice.injEq, and_true] at hcs
    obtain ⟨rfl, rfl, rfl⟩ := hcs
    have hlm : len ≤ m := by rw [hmm]; split <;> omega
    refine ⟨(List.range (min len 6)).map fun i => (byteOf (V0 i), listOf (V1 i)), Nat.le_trans hl hm, by simp, fun h0 => ?_⟩
    obtain ⟨b, off, spot⟩ := a
    have hspot : spot = none := by
      have := World.cell?_spot (hi 0 (by omega)).1
      simpa [Addr.add] using this
    subst hspot
    have hc0 := (hi 0 (by omega)).1
    refine ⟨b, off, rfl, ?_, fun i k d hik => ?_⟩
    · have := World.block_lt_of_cell? W _ hc0
      rwa [add_plain] at this
    · have hlt : i < min len 6 := by
        have := (List.getElem?_eq_some_iff.1 hik).1
        simpa using this
      obtain ⟨g0, g1, t0, t1⟩ := hi i (by omega)
      rw [add_plain] at g0 g1
      obtain ⟨z, hz, _, hwf⟩ := DataW.trod_int Try.underlying5 t0
      obtain ⟨s, hs, _, _⟩ := DataW.trod_string Try.underlying9 t1
      simp only [List.cons.injEq, and_true] at hz hs
      have hbd := bd_u8 hwf
      simp only [List.getElem?_map, List.getElem?_range hlt, Option.map_some, Option.some.injEq, Prod.mk.injEq] at hik
      obtain ⟨rfl, rfl⟩ := hik
      rw [← Nat.add_assoc] at g1
      refine ⟨?_, ?_⟩
      · rw [g0, hz]
        simp only [byteOf]
        rw [Leb.toNat_ofNat _ (by omega)]
        congr 2
        omega
      · rw [g1, hs]
        rfl
end Go.Proofs.Ytbebgdjlabincaa
