/- Samples in pieces of a hundred, as records: plain maths; a slice of u64 that came in, opened. -/
import Derived.Test.YtajkleknjjpldaaDoorMOD
import Derived.Test.YtajkleknjjpldaaDoorMFA
import Derived.ChangeSlices
import Derived.OpenShut
namespace Go.Proofs.YtajkleknjjpldaaDoor
open Go.RowKit Go.Lib Go.ChangeShapes Go.WideShapes

def pieces (l : List Xo.Sm) (k : Nat) : List (List Xo.Sm) := (List.range k).map fun j => (l.drop (100 * j)).take 100
theorem pieces_succ (l : List Xo.Sm) (k : Nat) : pieces l (k + 1) = pieces l k ++ [(l.drop (100 * k)).take 100] := by simp [pieces, List.range_succ]
theorem pieces_length (l : List Xo.Sm) (k : Nat) : (pieces l k).length = k := by simp [pieces]
theorem pieces_flat (l : List Xo.Sm) : ∀ k, (pieces l k).flatten = l.take (100 * k)
  | 0 => by simp [pieces]
  | k + 1 => by
    rw [pieces_succ, List.flatten_append, pieces_flat l k]
    simp only [List.flatten_cons, List.flatten_nil, List.append_nil]
    rw [show 100 * (k + 1) = 100 * k + 100 by omega, List.take_add]
def recsOf (ls : List (List Xo.Sm)) : List Fr.Rc := ls.map fun l => ((4 : UInt8), Xo.text l)
theorem recsOf_append (a b : List (List Xo.Sm)) : recsOf (a ++ b) = recsOf a ++ recsOf b := by simp [recsOf]
theorem recsOf_length (a : List (List Xo.Sm)) : (recsOf a).length = a.length := by simp [recsOf]

/-- Samples whose times rise, none too great. -/
def Ri (l : List Xo.Sm) : Prop := (∀ s ∈ l, 0 ≤ s.1 ∧ s.1 ≤ 1099511627776 ∧ s.2 < 18446744073709551616) ∧ l.Pairwise (fun a b => a.1 < b.1)
theorem Ri.piece {l : List Xo.Sm} (h : Ri l) (a : Nat) : Xo.Good ((l.drop a).take 100) :=
  ⟨by rw [List.length_take]; omega, fun s hs => h.1 s (List.mem_of_mem_drop (List.mem_of_mem_take hs)), (h.2.sublist (List.drop_sublist _ _)).sublist (List.take_sublist _ _)⟩
theorem pieces_good {l : List Xo.Sm} (h : Ri l) (k : Nat) : ∀ p ∈ pieces l k, Xo.Good p := by
  intro p hp
  obtain ⟨j, _, rfl⟩ := List.mem_map.1 hp
  exact h.piece _
theorem recs_len (ls : List (List Xo.Sm)) : (∀ p ∈ ls, Xo.Good p) → (Fr.laid (recsOf ls)).length ≤ 3015 * ls.length := by
  induction ls with
  | nil => intro _; simp [recsOf, Fr.laid]
  | cons p ls ih =>
    intro h
    have h1 := ih fun q hq => h q (by simp [hq])
    have h2 := (Fr.rec_len 4 (Xo.text p)).2
    have h3 := Xo.text_len p (h p (by simp))
    show (Fr.laid ((4, Xo.text p) :: recsOf ls)).length ≤ _
    rw [Fr.laid_cons, List.length_append, List.length_cons]
    simp only
    omega
theorem all_recs (ls : List (List Xo.Sm)) (h : ∀ p ∈ ls, Xo.Good p) : Fr.all (Fr.laid (recsOf ls)) = (recsOf ls, []) := by
  have hn : Fr.all [] = ([], []) := Fr.all_stop (by decide)
  have := Fr.all_laid [] (recsOf ls) (fun r hr => by
    obtain ⟨p, hp, rfl⟩ := List.mem_map.1 hr
    have := Xo.text_len p (h p hp)
    simp only
    omega)
  rw [List.append_nil, hn, List.append_nil] at this
  exact this

/-- The law's samples. -/
def stS (f : Nat → Nat) (step : Int) (n : Nat) : List Xo.Sm := (List.range n).map fun (i : Nat) => (((i : Int) * step, f i) : Xo.Sm)
theorem stS_succ (f : Nat → Nat) (step : Int) (n : Nat) : stS f step (n + 1) = stS f step n ++ [((n : Int) * step, f n)] := by simp [stS, List.range_succ]
theorem stS_length (f : Nat → Nat) (step : Int) (n : Nat) : (stS f step n).length = n := by simp [stS]
theorem stS_at (f : Nat → Nat) (step : Int) (n i : Nat) (h : i < n) : (stS f step n)[i]? = some ((i : Int) * step, f i) := by simp [stS, h]
theorem mul_le (i : Nat) (step : Int) (hi : i ≤ 400) (h0 : 1 ≤ step) (h1 : step ≤ 1048576) : 0 ≤ (i : Int) * step ∧ (i : Int) * step ≤ 419430400 := by
  constructor
  · exact Int.mul_nonneg (by omega) (by omega)
  · calc (i : Int) * step ≤ 400 * step := Int.mul_le_mul_of_nonneg_right (by omega) (by omega)
      _ ≤ 400 * 1048576 := Int.mul_le_mul_of_nonneg_left h1 (by omega)
      _ = 419430400 := by decide
theorem stS_ri (f : Nat → Nat) (step : Int) (n : Nat) (hn : n ≤ 400) (h0 : 1 ≤ step) (h1 : step ≤ 1048576) (hf : ∀ i, f i < 18446744073709551616) : Ri (stS f step n) := by
  constructor
  · intro s hs
    obtain ⟨i, hi, rfl⟩ := List.mem_map.1 hs
    have hi := List.mem_range.1 hi
    have := mul_le i step (by omega) h0 h1
    have := hf i
    simp only
    omega
  · unfold stS
    rw [List.pairwise_map]
    refine List.pairwise_lt_range.imp fun {a b} hab => ?_
    simp only
    exact Int.mul_lt_mul_of_pos_right (by omega) (by omega)

/-- A slice of u64. -/
def UmsAt (w : World) (a : Option Addr) (len _cap : Nat) (zs : List Nat) : Prop :=
  zs.length = len ∧ (∀ x ∈ zs, x < 18446744073709551616) ∧ (0 < len → ∃ g off, a = some ⟨g, off, none⟩ ∧ g < w.heap.size ∧ ∀ j (x : Nat), zs[j]? = some x → w.cell? ⟨g, off + j, none⟩ = some (.int .u64 (x : Int)))
theorem ums_spot {W : World} {a : Addr} {v : Value} (h : W.cell? (a.add 0) = some v) : ∃ g off, a = ⟨g, off, none⟩ ∧ g < W.heap.size := by
  obtain ⟨b, off, spot⟩ := a
  have hspot : spot = none := by
    have := World.cell?_spot h
    simpa [Addr.add] using this
  subst hspot
  have := World.block_lt_of_cell? W _ h
  exact ⟨b, off, rfl, by simpa [Addr.add] using this⟩
theorem ums_open {H : Type} {enc : TypeId × Value → H} {W : World} {base : Nat} {spare : Nat → Bool} {held : Bool} {fuel : Nat} {ao : Option Addr} {len cap : Nat} {x : DataW H × List MemPlace}
    (h : DataW.trod enc Tryd.prog W base spare held fuel 22 [.slice ao len cap] = some x) : ∃ zs, len ≤ maxLen ∧ UmsAt W ao len cap zs := by
  have ce : Tryd.prog.cellsOf 25 = 1 := by kernel_rfl
  rcases open_ints Tryd.underlying22 Tryd.underlying25 ce h with ⟨hcs, _⟩ | ⟨a, len', cap', zs, hcs, hb, hl, hm, hlen, _, hcell, hwf⟩
  · simp only [List.cons.injEq, Value.slice.injEq, and_true] at hcs
    obtain ⟨rfl, rfl, rfl⟩ := hcs
    exact ⟨[], Nat.zero_le _, rfl, (fun x hx => by cases hx), fun h => absurd h (Nat.lt_irrefl 0)⟩
  · simp only [List.cons.injEq, Value.slice.injEq, and_true] at hcs
    obtain ⟨rfl, rfl, rfl⟩ := hcs
    have hz : len ≤ zs.length := by rw [hlen]; split <;> omega
    have hlt : ((zs.take len).map Int.toNat).length = len := by rw [List.length_map, List.length_take]; omega
    have hget : ∀ (j : Nat) (y : Nat), ((zs.take len).map Int.toNat)[j]? = some y → W.cell? (a.add j) = some (.int .u64 (y : Int)) := fun j y hy => by
      have hj := (List.getElem?_eq_some_iff.1 hy).1
      rw [hlt] at hj
      rw [hcell j (by omega)]
      rw [List.getElem?_map, List.getElem?_take, if_pos hj] at hy
      obtain ⟨z, hz1, hz2⟩ := Option.map_eq_some_iff.1 hy
      have hw := bd_u64 (hwf z (List.mem_of_getElem? hz1))
      rw [List.getD_eq_getElem?_getD, hz1, ← hz2]
      simp only [Option.getD_some]
      rw [Int.toNat_of_nonneg hw.1]
    refine ⟨(zs.take len).map Int.toNat, Nat.le_trans hl hm, hlt, ?_, fun h0 => ?_⟩
    · intro y hy
      obtain ⟨z, hz1, rfl⟩ := List.mem_map.1 hy
      have hw := bd_u64 (hwf z (List.mem_of_mem_take hz1))
      omega
    · obtain ⟨y, hy⟩ : ∃ y, ((zs.take len).map Int.toNat)[0]? = some y := ⟨_, List.getElem?_eq_getElem (by omega)⟩
      obtain ⟨g, off, rfl, hg⟩ := ums_spot (hget 0 y hy)
      exact ⟨g, off, rfl, hg, fun j x hx => by have := hget j x hx; rw [Addr.add_lit] at this; exact this⟩
end Go.Proofs.YtajkleknjjpldaaDoor
