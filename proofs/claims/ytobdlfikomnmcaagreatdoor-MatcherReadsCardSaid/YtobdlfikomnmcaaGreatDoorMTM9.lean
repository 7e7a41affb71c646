/- Layer 13: a slice of matchers that came in, opened. -/
import Derived.Test.YtobdlfikomnmcaaGreatDoorMTM7
import Derived.Test.YtobdlfikomnmcaaGreatDoorMLA
import Derived.Deep.Slices
import Derived.OpenShut
import Derived.ChangeSlices
import Derived.SliceStrings
namespace Go.Proofs.YtobdlfikomnmcaaGreatDoor
open Go.RowKit Go.Lib Go.Deep Go.ChangeShapes Go.WideShapes
set_option linter.unusedVariables false

theorem strs13_open {H : Type} {enc : TypeId × Value → H} {W : World} {base : Nat} {spare : Nat → Bool} {held : Bool} {fuel : Nat} {ao : Option Addr} {len cap : Nat} {x : DataW H × List MemPlace}
    (h : DataW.trod enc Tryz.prog W base spare held fuel 22 [.slice ao len cap] = some x) : ∃ zs, len ≤ maxLen ∧ zs.length = len ∧ Rd W 1 (.slice ao len cap) len (txs zs) := by
  have ce : Tryz.prog.cellsOf 9 = 1 := by kernel_rfl
  rcases open_strings Tryz.underlying22 Tryz.underlying9 ce h with ⟨hcs, _⟩ | ⟨a, len', cap', zs, hcs, hb, hl, hm, hlen, _, hcell, hwf⟩
  · simp only [List.cons.injEq, Value.slice.injEq, and_true] at hcs
    obtain ⟨rfl, rfl, rfl⟩ := hcs
    exact ⟨[], Nat.zero_le _, rfl, rfl, none, 0, 0, 0, rfl, fun h => absurd h (by simp), fun j hj => absurd hj (by simp)⟩
  · simp only [List.cons.injEq, Value.slice.injEq, and_true] at hcs
    obtain ⟨rfl, rfl, rfl⟩ := hcs
    have hz : len ≤ zs.length := by rw [hlen]; split <;> omega
    obtain ⟨ys, hys⟩ : ∃ ys : List (List UInt8), ys = (zs.take len).map fun z => z.data.toList := ⟨_, rfl⟩
    have hyl : ys.length = len := by rw [hys]; simp; omega
    have hget : ∀ j, j < len → W.cell? (a.add j) = (txs ys)[j]? := fun j hj => by
      rw [hcell j (by omega), hys]
      unfold txs
      rw [List.map_map, List.getElem?_map, List.getElem?_take_of_lt hj]
      rw [List.getElem?_eq_getElem (by omega)]
      simp [List.getD_eq_getElem?_getD, show j < zs.length by omega, bs_of]
    refine ⟨ys, Nat.le_trans hl hm, hyl, by unfold txs; simp [hyl], ?_⟩
    rcases Nat.eq_zero_or_pos len with h0 | h0
    · subst h0
      exact ⟨_, _, 0, 0, rfl, fun h => absurd h (by simp), fun j hj => absurd hj (by simp)⟩
    · have hv0 := hget 0 h0
      have hsome : ∃ v, W.cell? (a.add 0) = some v := by
        rw [hv0]
        exact ⟨_, List.getElem?_eq_getElem (by unfold txs; simp; omega)⟩
      obtain ⟨v0, hv0'⟩ := hsome
      obtain ⟨b, off, spot⟩ := a
      have hspot : spot = none := by
        have := World.cell?_spot hv0'
        simpa [Addr.add] using this
      subst hspot
      refine ⟨_, cap, b, off, rfl, fun _ => ⟨rfl, ?_⟩, fun j hj => ?_⟩
      · have := World.block_lt_of_cell? W _ hv0'
        simpa [Addr.add] using this
      · have := hget j (by omega)
        by_cases hj0 : j = 0
        · subst hj0; simpa [Addr.add] using this
        · simpa [Addr.add, hj0] using this

/-- A matcher that came in. -/
structure Om where
  k : Int
  n : List UInt8
  a : Option Addr
  ln : Nat
  cp : Nat
  zs : List (List UInt8)
instance : Inhabited Om := ⟨⟨0, [], none, 0, 0, []⟩⟩
def OmAt (W : World) (z : Om) : Prop := z.n.length ≤ maxLen ∧ z.ln ≤ maxLen ∧ z.zs.length = z.ln ∧ Rd W 1 (.slice z.a z.ln z.cp) z.ln (txs z.zs)
/-- The first twenty, read from cells. -/
structure OmR (w : World) (a : Option Addr) (len : Nat) (zs : List Om) : Prop where
  hl : zs.length = min len 20
  hm : len ≤ maxLen
  at_ : 0 < len → ∃ g off, a = some ⟨g, off, none⟩ ∧ g < w.heap.size ∧ ∀ i z, zs[i]? = some z → w.cell? ⟨g, off + i * 3, none⟩ = some (.int .i64 z.k) ∧ w.cell? ⟨g, off + i * 3 + 1, none⟩ = some (.string (bs z.n)) ∧ w.cell? ⟨g, off + i * 3 + 2, none⟩ = some (.slice z.a z.ln z.cp)
  ps : ∀ z ∈ zs, OmAt w z
theorem OmR.on {w w' : World} {a : Option Addr} {len : Nat} {zs : List Om} (h : OmR w a len zs) (b : Below w.heap.size w w') : OmR w' a len zs := by
  refine ⟨h.hl, h.hm, fun h0 => ?_, fun z hz => ⟨(h.ps z hz).1, (h.ps z hz).2.1, (h.ps z hz).2.2.1, (h.ps z hz).2.2.2.on b⟩⟩
  obtain ⟨g, off, he, hg, hc⟩ := h.at_ h0
  refine ⟨g, off, he, Nat.lt_of_lt_of_le hg b.size, fun i z hz => ?_⟩
  obtain ⟨c0, c1, c2⟩ := hc i z hz
  exact ⟨(b.cell (p := ⟨g, off + i * 3, none⟩) hg).trans c0, (b.cell (p := ⟨g, off + i * 3 + 1, none⟩) hg).trans c1, (b.cell (p := ⟨g, off + i * 3 + 2, none⟩) hg).trans c2⟩
/-- With its capacity. -/
def OmC (w : World) (a : Option Addr) (len cap : Nat) (zs : List Om) : Prop := OmR w a len zs ∧ len ≤ cap ∧ cap ≤ maxLen
theorem list_of13 {α : Type} {n : Nat} {P : Nat → α → Prop} (h : ∀ j, j < n → ∃ x, P j x) : ∃ l : List α, l.length = n ∧ ∀ (j : Nat) x, l[j]? = some x → P j x := by
  induction n with
  | zero => exact ⟨[], rfl, fun j x hx => by simp at hx⟩
  | succ n ih =>
    obtain ⟨l, hl, hP⟩ := ih fun j hj => h j (by omega)
    obtain ⟨x, hx⟩ := h n (by omega)
    refine ⟨l ++ [x], by simp [hl], fun j y hy => ?_⟩
    rcases Nat.lt_or_ge j n with hj | hj
    · rw [List.getElem?_append_left (by omega)] at hy
      exact hP j y hy
    · have : j = n := by have := (List.getElem?_eq_some_iff.1 hy).1; simp at this; omega
      subst this
      rw [List.getElem?_append_right (by omega), hl, Nat.sub_self] at hy
      obtain rfl : x = y := by simpa using hy
      exact hx
theorem three13 {α : Type} (l : List α) (h : l.length = 3) : ∃ a b c, l = [a, b, c] := by
  match l, h with
  | [a, b, c], _ => exact ⟨a, b, c, rfl⟩
theorem om_open {H : Type} {enc : TypeId × Value → H} {W : World} {base : Nat} {spare : Nat → Bool} {held : Bool} {fuel : Nat} {ao : Option Addr} {len cap : Nat} {x : DataW H × List MemPlace}
    (h : DataW.trod enc Tryz.prog W base spare held fuel 26 [.slice ao len cap] = some x) : ∃ zs, len ≤ maxLen ∧ OmC W ao len cap zs := by
  rcases open_slice Tryz.underlying26 h with ⟨hcs, _⟩ | ⟨a, len', cap', m, n, D, Pl, hcs, hb, hl, hm, hmm, _, hi⟩
  · simp only [List.cons.injEq, Value.slice.injEq, and_true] at hcs
    obtain ⟨rfl, rfl, rfl⟩ := hcs
    exact ⟨[], Nat.zero_le _, ⟨rfl, Nat.zero_le _, fun h => absurd h (Nat.lt_irrefl 0), fun z hz => by cases hz⟩, Nat.le_refl _, Nat.zero_le _⟩
  · simp only [List.cons.injEq, Value.slice.injEq, and_true] at hcs
    obtain ⟨rfl, rfl, rfl⟩ := hcs
    have hlm : len ≤ m := by rw [hmm]; split <;> omega
    have ce : Tryz.prog.cellsOf 24 = 3 := by kernel_rfl
    have each : ∀ i, i < min len 20 → ∃ z : Om, W.cell? (a.add (i * 3)) = some (.int .i64 z.k) ∧ W.cell? ((a.add (i * 3)).add 1) = some (.string (bs z.n)) ∧ W.cell? ((a.add (i * 3)).add 2) = some (.slice z.a z.ln z.cp) ∧ OmAt W z := by
      intro i hi0
      have him : i < m := by omega
      obtain ⟨cs', h1, h2⟩ := hi i him
      rw [ce] at h1
      obtain ⟨_, hlen, hcell⟩ := World.cells?_some h1
      obtain ⟨c0, c1, c2, rfl⟩ := three13 cs' hlen
      obtain ⟨xs, k, hk, hxy, _, hxl, hf⟩ := DataW.trod_struct Tryz.underlying24 h2
      obtain ⟨y0, y1, y2, rfl⟩ := three13 xs hxl
      have e0 := hcell 0 (by omega); have e1 := hcell 1 (by omega); have e2 := hcell 2 (by omega)
      have cp : Tryz.prog.cellsOf 3 = 1 := by kernel_rfl
      have cb : Tryz.prog.cellsOf 9 = 1 := by kernel_rfl
      have cq : Tryz.prog.cellsOf 22 = 1 := by kernel_rfl
      have g0 := hf 0 _ rfl; have g1 := hf 1 _ rfl; have g2 := hf 2 _ rfl
      simp [cp, cb, cq] at g0 g1 g2
      obtain ⟨z0, q0, _, w0⟩ := DataW.trod_int Tryz.underlying3 g0
      obtain ⟨z1, q1, _, w1⟩ := DataW.trod_string Tryz.underlying9 g1
      have e0' : W.cell? (a.add (i * 3)) = some c0 := by rw [add_add, Nat.add_zero] at e0; simpa using e0
      have e1' : W.cell? ((a.add (i * 3)).add 1) = some c1 := by simpa using e1
      have e2' : W.cell? ((a.add (i * 3)).add 2) = some c2 := by simpa using e2
      simp only [List.cons.injEq, and_true] at q0 q1
      subst q0; subst q1
      have hn : z1.data.toList.length ≤ maxLen := by first | exact w1 | (have := w1; simpa using this)
      rcases DataW.trod_slice Tryz.underlying22 g2 with ⟨q2, _⟩ | ⟨a2, len2, cap2, _, _, _, _, q2, _⟩
      · simp only [List.cons.injEq, and_true] at q2
        subst q2
        obtain ⟨ds, h3, h4, h5⟩ := strs13_open g2
        exact ⟨⟨_, z1.data.toList, _, _, _, ds⟩, e0', e1', e2', hn, h3, h4, h5⟩
      · simp only [List.cons.injEq, and_true] at q2
        subst q2
        obtain ⟨ds, h3, h4, h5⟩ := strs13_open g2
        exact ⟨⟨_, z1.data.toList, _, _, _, ds⟩, e0', e1', e2', hn, h3, h4, h5⟩
    obtain ⟨zs, hzl, hz⟩ := list_of13 each
    refine ⟨zs, Nat.le_trans hl hm, ⟨hzl, Nat.le_trans hl hm, fun h0 => ?_, fun z hzm => ?_⟩, hl, hm⟩
    · obtain ⟨b, off, spot⟩ := a
      have hc0 := (hz 0 (zs[0]'(by omega)) (List.getElem?_eq_getElem (by omega))).1
      have hspot : spot = none := by
        have := World.cell?_spot hc0
        simpa [Addr.add] using this
      subst hspot
      refine ⟨b, off, rfl, ?_, fun i z hiz => ?_⟩
      · have := World.block_lt_of_cell? W _ hc0
        rwa [add_plain] at this
      · obtain ⟨d0, d1, d2, _⟩ := hz i z hiz
        simp only [add_plain] at d0 d1 d2
        exact ⟨d0, d1, d2⟩
    · obtain ⟨i, hi⟩ := List.getElem?_of_mem hzm
      exact (hz i z hi).2.2.2
end Go.Proofs.YtobdlfikomnmcaaGreatDoor
