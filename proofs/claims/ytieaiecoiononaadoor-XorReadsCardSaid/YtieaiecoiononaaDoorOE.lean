/- Layer 7's statements: the tables out of the row's condition; a slice of samples that came in, opened; Same, Rise. -/
import Derived.Test.YtieaiecoiononaaDoorOD
import Derived.Deep.SlicePairs
import Derived.OpenShut
import Derived.LaidLaws
import Derived.Lib.LaidTab
import Derived.MakeChecks
namespace Go.Proofs.YtieaiecoiononaaDoor
open Go.RowKit Go.Lib Go.Deep Go.ChangeShapes Go.WideShapes

theorem tabs_of_laid {w : World} (h : laidMetH Tryd.prog [("math/bits.deBruijn64tab", Rows.laid_math_bits_deBruijn64tab), ("barograph/xor.widths", Rows.laid_barograph_xor_widths)] w) : Tabs w.heap.size w := by
  rw [MakeChecks.laidMetH_plain _ _ _ (by kernel_rfl)] at h
  obtain ⟨ps, ⟨g', t', cs, fuel, p, q, hg', ht', hvar, hd, h2, _⟩, _⟩ := h
  obtain rfl := Option.some.inj ((show Tryd.prog.globalNamed "math/bits.deBruijn64tab" = some 1 by kernel_rfl).symm.trans hg')
  obtain rfl := Option.some.inj ((show (Tryd.prog.globals[1]?).map (·.type) = some 104 by kernel_rfl).symm.trans ht')
  have e := cells_of_tab (zs := Lib.deBruijn64tab.map fun n : Nat => (n : Int)) (show Tryd.prog.underlying 104 = some (.array 64 5) by kernel_rfl) Tryd.underlying5 (by kernel_rfl) (by kernel_rfl) hd
  obtain ⟨g2, t2, cs2, fuel2, p2, q2, hg2, ht2, hvar2, hd2, _, _⟩ := h2
  obtain rfl := Option.some.inj ((show Tryd.prog.globalNamed "barograph/xor.widths" = some 0 by kernel_rfl).symm.trans hg2)
  obtain rfl := Option.some.inj ((show (Tryd.prog.globals[0]?).map (·.type) = some 95 by kernel_rfl).symm.trans ht2)
  have e2 := cells_of_tab (zs := [0, 7, 12, 20, 64]) (show Tryd.prog.underlying 95 = some (.array 5 3) by kernel_rfl) Tryd.underlying3 (by kernel_rfl) (by kernel_rfl) hd2
  have c1 : ∀ j, w.cell? ⟨1, j, none⟩ = (Lib.deBruijn64tab.map fun n : Nat => Value.int .u8 (n : Int))[j]? := fun j => by
    have := World.var?_cell (show Tryd.prog.globalNamed "math/bits.deBruijn64tab" = some 1 by kernel_rfl) hvar j
    rw [this, ← Array.getElem?_toList, e, List.map_map]; rfl
  have c2 : ∀ j, w.cell? ⟨0, j, none⟩ = ([0, 7, 12, 20, 64].map fun n : Int => Value.int .i64 n)[j]? := fun j => by
    have := World.var?_cell (show Tryd.prog.globalNamed "barograph/xor.widths" = some 0 by kernel_rfl) hvar2 j
    rw [this, ← Array.getElem?_toList, e2]
  refine ⟨World.block_lt_of_cell? w ⟨0, 0, none⟩ (c2 0), World.block_lt_of_cell? w ⟨1, 0, none⟩ (c1 0), Nat.le_refl _, fun j hj => ?_, fun j hj => ?_⟩
  · rw [c2]
    match j, hj with
    | 0, _ => rfl
    | 1, _ => rfl
    | 2, _ => rfl
    | 3, _ => rfl
    | 4, _ => rfl
  · rw [c1, List.getElem?_map, List.getD_eq_getElem?_getD, List.getElem?_eq_getElem hj]; rfl

/-- Samples read from cells. -/
def SmsAt (w : World) (ao : Option Addr) (len cap : Nat) (l : List Xo.Sm) : Prop := l.length = len ∧ Fits l ∧ Rd w 2 (.slice ao len cap) len (smc l)

def intAt : Value → Int | .int _ n => n | _ => 0
theorem sms_open {H : Type} {enc : TypeId × Value → H} {W : World} {base : Nat} {spare : Nat → Bool} {held : Bool} {fuel : Nat} {ao : Option Addr} {len cap : Nat} {x : DataW H × List MemPlace}
    (h : DataW.trod enc Tryd.prog W base spare held fuel 22 [.slice ao len cap] = some x) : ∃ l, len ≤ maxLen ∧ SmsAt W ao len cap l := by
  rcases open_slice_pairs Tryd.underlying22 Tryd.underlying25 (by kernel_rfl) rfl rfl (by kernel_rfl) (by kernel_rfl) h with ⟨hcs, _⟩ | ⟨a, len', cap', m, n, V0, V1, D0, D1, P0, P1, hcs, hb, hl, hm, hmm, _, hi⟩
  · simp only [List.cons.injEq, Value.slice.injEq, and_true] at hcs
    obtain ⟨rfl, rfl, rfl⟩ := hcs
    exact ⟨[], Nat.zero_le _, rfl, (fun s hs => by cases hs), rfl, none, 0, 0, 0, rfl, fun h => absurd h (Nat.lt_irrefl 0), fun j hj => by omega⟩
  · simp only [List.cons.injEq, Value.slice.injEq, and_true] at hcs
    obtain ⟨rfl, rfl, rfl⟩ := hcs
    have hlm : len ≤ m := by rw [hmm]; split <;> omega
    have hT : ∀ i, i < m → ∃ t v, V0 i = .int .i64 t ∧ V1 i = .int .u64 v ∧ -9223372036854775808 ≤ t ∧ t ≤ 9223372036854775807 ∧ 0 ≤ v ∧ v < 18446744073709551616 := fun i him => by
      obtain ⟨_, _, t0, t1⟩ := hi i him
      obtain ⟨s0, hs0, _, k0⟩ := DataW.trod_int Tryd.underlying2 t0
      obtain ⟨s1, hs1, _, k1⟩ := DataW.trod_int Tryd.underlying23 t1
      simp only [List.cons.injEq, and_true] at hs0 hs1
      have q0 := bd_i64 k0
      have q1 := bd_u64 k1
      exact ⟨s0, s1, hs0, hs1, q0.1, q0.2, q1.1, q1.2⟩
    have hlen : ((List.range len).map fun i => ((intAt (V0 i), (intAt (V1 i)).toNat) : Xo.Sm)).length = len := by simp
    refine ⟨(List.range len).map fun i => (intAt (V0 i), (intAt (V1 i)).toNat), Nat.le_trans hl hm, hlen, ?_, ?_⟩
    · intro s hs
      obtain ⟨i, hi2, rfl⟩ := List.mem_map.1 hs
      have hi3 := List.mem_range.1 hi2
      obtain ⟨t, v, h0, h1, b1, b2, b3, b4⟩ := hT i (by omega)
      simp only [h0, h1, intAt]
      omega
    · obtain ⟨b, off, spot⟩ := a
      by_cases h0 : 0 < len
      · have hspot : spot = none := by
          have := World.cell?_spot (hi 0 (by omega)).1
          simpa [Addr.add] using this
        subst hspot
        have hc0 := (hi 0 (by omega)).1
        have hbl : b < W.heap.size := by
          have := World.block_lt_of_cell? W _ hc0
          rwa [add_plain] at this
        refine ⟨by rw [smc_length, hlen], some ⟨b, off, none⟩, cap, b, off, rfl, fun _ => ⟨rfl, hbl⟩, fun j hj => ?_⟩
        have hij : j / 2 < len := by omega
        obtain ⟨g0, g1, _, _⟩ := hi (j / 2) (by omega)
        rw [add_plain] at g0 g1
        obtain ⟨t, v, h0', h1', b1, b2, b3, b4⟩ := hT (j / 2) (by omega)
        have hs : ((List.range len).map fun i => ((intAt (V0 i), (intAt (V1 i)).toNat) : Xo.Sm))[j / 2]? = some (t, v.toNat) := by
          rw [List.getElem?_map, List.getElem?_range hij]
          simp [h0', h1', intAt]
        have h2 := smc_at _ (j / 2) _ hs
        rcases (by omega : j = j / 2 * 2 ∨ j = j / 2 * 2 + 1) with e | e
        · rw [e, h2.1, g0, h0']
        · rw [e, h2.2, g1, h1']
          have hv : ((v.toNat : Nat) : Int) = v := by omega
          simp only [hv]
      · have h00 : len = 0 := by omega
        subst h00
        exact ⟨rfl, some ⟨b, off, spot⟩, cap, b, off, rfl, fun h => absurd h (Nat.lt_irrefl 0), fun j hj => by omega⟩
end Go.Proofs.YtieaiecoiononaaDoor
