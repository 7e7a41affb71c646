/- Slices of numbers, and slices of such slices, that came in, opened. -/
import Derived.Test.YtjmpmaonebbgaaaDoorTD
import Derived.ChangeSlices
import Derived.OpenShut
namespace Go.Proofs.YtjmpmaonebbgaaaDoor
open Go.RowKit Go.Lib Go.ChangeShapes Go.WideShapes

def NtsAt (w : World) (a : Option Addr) (len cap : Nat) (zs : List Int) : Prop := zs.length = len ∧ Ncw w (.slice a len cap) zs
theorem plain_spot {W : World} {a : Addr} {v : Value} (h : W.cell? (a.add 0) = some v) : ∃ g off, a = ⟨g, off, none⟩ ∧ g < W.heap.size := by
  obtain ⟨b, off, spot⟩ := a
  have hspot : spot = none := by
    have := World.cell?_spot h
    simpa [Addr.add] using this
  subst hspot
  have := World.block_lt_of_cell? W _ h
  exact ⟨b, off, rfl, by simpa [Addr.add] using this⟩

theorem nts_open {H : Type} {enc : TypeId × Value → H} {W : World} {base : Nat} {spare : Nat → Bool} {held : Bool} {fuel : Nat} {ao : Option Addr} {len cap : Nat} {x : DataW H × List MemPlace}
    (h : DataW.trod enc Tryd.prog W base spare held fuel 23 [.slice ao len cap] = some x) : ∃ zs, len ≤ maxLen ∧ NtsAt W ao len cap zs := by
  have ce : Tryd.prog.cellsOf 3 = 1 := by kernel_rfl
  rcases open_ints Tryd.underlying23 Tryd.underlying3 ce h with ⟨hcs, _⟩ | ⟨a, len', cap', zs, hcs, hb, hl, hm, hlen, _, hcell, hwf⟩
  · simp only [List.cons.injEq, Value.slice.injEq, and_true] at hcs
    obtain ⟨rfl, rfl, rfl⟩ := hcs
    exact ⟨[], Nat.zero_le _, rfl, none, 0, 0, 0, rfl, Nat.le_refl _, by omega, fun h => absurd h (by simp), fun j x hx => by simp at hx⟩
  · simp only [List.cons.injEq, Value.slice.injEq, and_true] at hcs
    obtain ⟨rfl, rfl, rfl⟩ := hcs
    have hz : len ≤ zs.length := by rw [hlen]; split <;> omega
    have hlt : (zs.take len).length = len := by rw [List.length_take]; omega
    have hget : ∀ (j : Nat) (y : Int), (zs.take len)[j]? = some y → W.cell? (a.add j) = some (.int .i64 y) := fun j y hy => by
      have hj := (List.getElem?_eq_some_iff.1 hy).1
      rw [hlt] at hj
      rw [hcell j (by omega)]
      rw [List.getElem?_take, if_pos hj] at hy
      simp [List.getD_eq_getElem?_getD, hy]
    refine ⟨zs.take len, Nat.le_trans hl hm, hlt, ?_⟩
    rcases Nat.eq_zero_or_pos len with h0 | h0
    · subst h0
      exact ⟨some a, cap, 0, 0, by rw [hlt], by rw [hlt]; omega, by unfold maxLen at hm; omega, fun h => absurd h (by rw [hlt]; omega), fun j y hy => by simp at hy⟩
    · obtain ⟨g, off, rfl, hg⟩ := plain_spot (hget 0 ((zs.take len)[0]'(by omega)) (List.getElem?_eq_getElem (by omega)))
      exact ⟨_, cap, g, off, by rw [hlt], by rw [hlt]; exact hl, by unfold maxLen at hm; omega, fun _ => ⟨rfl, hg⟩, fun j y hy => by
        have := hget j y hy
        rwa [Addr.add_lit] at this⟩

def NlsAt (w : World) (a : Option Addr) (len cap : Nat) (ls : List (List Int)) : Prop := ls.length = len ∧ Nls w (.slice a len cap) ls
theorem list_of {α : Type} {n : Nat} {P : Nat → α → Prop} (h : ∀ j, j < n → ∃ x, P j x) : ∃ l : List α, l.length = n ∧ ∀ (j : Nat) x, l[j]? = some x → P j x := by
  induction n with
  | zero => exact ⟨[], rfl, fun j x hx => by simp at hx⟩
  | succ n ih =>
    obtain ⟨l, hl, hP⟩ := ih fun j hj => h j (by omega)
    obtain ⟨x, hx⟩ := h n (by omega)
    refine ⟨l ++ [x], by simp [hl], fun j y hy => ?_⟩
    rcases Nat.lt_or_ge j n with hj | hj
    · rw [List.getElem?_append_left (by omega)] at hy
      exact hP j y hy
    · have : j = n := by have := (List.getElem?_eq_some_iff.1 hy).1; simp at this; omega
      subst this
      rw [List.getElem?_append_right (by omega), hl, Nat.sub_self] at hy
      obtain rfl : x = y := by simpa using hy
      exact hx
theorem nls_open {H : Type} {enc : TypeId × Value → H} {W : World} {base : Nat} {spare : Nat → Bool} {held : Bool} {fuel : Nat} {ao : Option Addr} {len cap : Nat} {x : DataW H × List MemPlace}
    (h : DataW.trod enc Tryd.prog W base spare held fuel 22 [.slice ao len cap] = some x) : ∃ ls, len ≤ maxLen ∧ NlsAt W ao len cap ls := by
  have ce : Tryd.prog.cellsOf 23 = 1 := by kernel_rfl
  rcases DataW.trod_slice Tryd.underlying22 h with ⟨hcs, _⟩ | ⟨a, len', cap', elems, rest, n, _, hcs, _, hb, hl, hm, hlen, hel, _, _⟩
  · simp only [List.cons.injEq, Value.slice.injEq, and_true] at hcs
    obtain ⟨rfl, rfl, rfl⟩ := hcs
    exact ⟨[], Nat.zero_le _, rfl, none, 0, 0, 0, rfl, fun h => absurd h (by simp), fun j x hx => by simp at hx⟩
  · simp only [List.cons.injEq, Value.slice.injEq, and_true] at hcs
    obtain ⟨rfl, rfl, rfl⟩ := hcs
    have each : ∀ j, j < len → ∃ zs : List Int, ∃ v, W.cell? (a.add j) = some v ∧ Ncw W v zs := fun j hj => by
      have hy := hel j hj
      rw [List.getElem?_eq_getElem (by omega), ce, Nat.mul_one, Option.bind_eq_some_iff] at hy
      obtain ⟨cs', hcs', hy'⟩ := hy
      rcases DataW.trod_slice Tryd.underlying23 hy' with ⟨rfl, _⟩ | ⟨a2, len2, cap2, _, _, _, _, rfl, _⟩
      · obtain ⟨zs, _, _, hz⟩ := nts_open hy'
        exact ⟨zs, _, cell_of_cells?_one hcs', hz⟩
      · obtain ⟨zs, _, _, hz⟩ := nts_open hy'
        exact ⟨zs, _, cell_of_cells?_one hcs', hz⟩
    obtain ⟨ls, hll, hP⟩ := list_of each
    refine ⟨ls, Nat.le_trans hl hm, hll, ?_⟩
    rcases Nat.eq_zero_or_pos len with h0 | h0
    · subst h0
      exact ⟨some a, cap, 0, 0, by rw [hll], fun h => absurd h (by omega), fun j y hy => by rw [List.eq_nil_of_length_eq_zero hll] at hy; simp at hy⟩
    · obtain ⟨v, hv, _⟩ := hP 0 (ls[0]'(by omega)) (List.getElem?_eq_getElem (by omega))
      obtain ⟨g, off, rfl, hg⟩ := plain_spot hv
      exact ⟨_, cap, g, off, by rw [hll], fun _ => ⟨rfl, hg⟩, fun j y hy => by
        obtain ⟨v, hv, hn⟩ := hP j y hy
        rw [Addr.add_lit] at hv
        exact ⟨v, hv, hn⟩⟩
end Go.Proofs.YtjmpmaonebbgaaaDoor
