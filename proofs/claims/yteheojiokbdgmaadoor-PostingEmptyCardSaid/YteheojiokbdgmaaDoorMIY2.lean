/- Layer 12: a slice of series that came in, opened. -/
import Derived.Test.YteheojiokbdgmaaDoorMLB
import Derived.Deep.Slices
import Derived.OpenShut
import Derived.ChangeSlices
namespace Go.Proofs.YteheojiokbdgmaaDoor
open Go.RowKit Go.Lib Go.Deep Go.ChangeShapes Go.WideShapes
set_option linter.unusedVariables false

/-- A series that came in: where its pairs lie, the first ten of them; does it stay? -/
structure Oi where
  a : Option Addr
  n : Nat
  c : Nat
  ds : List Pr
  st : Bool
instance : Inhabited Oi := ⟨⟨none, 0, 0, [], false⟩⟩
/-- The first twelve, read from cells. -/
structure OsR (w : World) (a : Option Addr) (len : Nat) (zs : List Oi) : Prop where
  hl : zs.length = min len 12
  hm : len ≤ maxLen
  at_ : 0 < len → ∃ g off, a = some ⟨g, off, none⟩ ∧ g < w.heap.size ∧ ∀ i z, zs[i]? = some z → w.cell? ⟨g, off + i * 2, none⟩ = some (.slice z.a z.n z.c) ∧ w.cell? ⟨g, off + i * 2 + 1, none⟩ = some (.bool z.st)
  ps : ∀ z ∈ zs, z.n ≤ maxLen ∧ PrsAt w z.a z.n z.ds
theorem OsR.on {w w' : World} {a : Option Addr} {len : Nat} {zs : List Oi} (h : OsR w a len zs) (b : Below w.heap.size w w') : OsR w' a len zs := by
  refine ⟨h.hl, h.hm, fun h0 => ?_, fun z hz => ⟨(h.ps z hz).1, (h.ps z hz).2.below b⟩⟩
  obtain ⟨g, off, he, hg, hc⟩ := h.at_ h0
  refine ⟨g, off, he, Nat.lt_of_lt_of_le hg b.size, fun i z hz => ?_⟩
  obtain ⟨c0, c1⟩ := hc i z hz
  exact ⟨(b.cell (p := ⟨g, off + i * 2, none⟩) hg).trans c0, (b.cell (p := ⟨g, off + i * 2 + 1, none⟩) hg).trans c1⟩
/-- With its capacity. -/
def OsC (w : World) (a : Option Addr) (len cap : Nat) (zs : List Oi) : Prop := OsR w a len zs ∧ len ≤ cap ∧ cap ≤ maxLen
theorem list_of12 {α : Type} {n : Nat} {P : Nat → α → Prop} (h : ∀ j, j < n → ∃ x, P j x) : ∃ l : List α, l.length = n ∧ ∀ (j : Nat) x, l[j]? = some x → P j x := by
  induction n with
  | zero => exact ⟨[], rfl, fun j x hx => by simp at hx⟩
  | succ n ih =>
    obtain ⟨l, hl, hP⟩ := ih fun j hj => h j (by omega)
    obtain ⟨x, hx⟩ := h n (by omega)
    refine ⟨l ++ [x], by simp [hl], fun j y hy => ?_⟩
    rcases Nat.lt_or_ge j n with hj | hj
    · rw [List.getElem?_append_left (by omega)] at hy
      exact hP j y hy
    · have : j = n := by have := (List.getElem?_eq_some_iff.1 hy).1; simp at this; omega
      subst this
      rw [List.getElem?_append_right (by omega), hl, Nat.sub_self] at hy
      obtain rfl : x = y := by simpa using hy
      exact hx
theorem two12 {α : Type} (l : List α) (h : l.length = 2) : ∃ a b, l = [a, b] := by
  match l, h with
  | [a, b], _ => exact ⟨a, b, rfl⟩
theorem os_open {H : Type} {enc : TypeId × Value → H} {W : World} {base : Nat} {spare : Nat → Bool} {held : Bool} {fuel : Nat} {ao : Option Addr} {len cap : Nat} {x : DataW H × List MemPlace}
    (h : DataW.trod enc Tryd.prog W base spare held fuel 22 [.slice ao len cap] = some x) : ∃ zs, len ≤ maxLen ∧ OsC W ao len cap zs := by
  rcases open_slice Tryd.underlying22 h with ⟨hcs, _⟩ | ⟨a, len', cap', m, n, D, Pl, hcs, hb, hl, hm, hmm, _, hi⟩
  · simp only [List.cons.injEq, Value.slice.injEq, and_true] at hcs
    obtain ⟨rfl, rfl, rfl⟩ := hcs
    exact ⟨[], Nat.zero_le _, ⟨rfl, Nat.zero_le _, fun h => absurd h (Nat.lt_irrefl 0), fun z hz => by cases hz⟩, Nat.le_refl _, Nat.zero_le _⟩
  · simp only [List.cons.injEq, Value.slice.injEq, and_true] at hcs
    obtain ⟨rfl, rfl, rfl⟩ := hcs
    have hlm : len ≤ m := by rw [hmm]; split <;> omega
    have ce : Tryd.prog.cellsOf 25 = 2 := by kernel_rfl
    have each : ∀ i, i < min len 12 → ∃ z : Oi, W.cell? (a.add (i * 2)) = some (.slice z.a z.n z.c) ∧ W.cell? ((a.add (i * 2)).add 1) = some (.bool z.st) ∧ z.n ≤ maxLen ∧ PrsAt W z.a z.n z.ds := by
      intro i hi0
      have him : i < m := by omega
      obtain ⟨cs', h1, h2⟩ := hi i him
      rw [ce] at h1
      obtain ⟨_, hlen, hcell⟩ := World.cells?_some h1
      obtain ⟨c0, c1, rfl⟩ := two12 cs' hlen
      obtain ⟨xs, k, hk, hxy, _, hxl, hf⟩ := DataW.trod_struct Tryd.underlying25 h2
      obtain ⟨y0, y1, rfl⟩ := two12 xs hxl
      have e0 := hcell 0 (by omega); have e1 := hcell 1 (by omega)
      have cp : Tryd.prog.cellsOf 23 = 1 := by kernel_rfl
      have cb : Tryd.prog.cellsOf 4 = 1 := by kernel_rfl
      have g0 := hf 0 _ rfl; have g1 := hf 1 _ rfl
      simp [cp, cb] at g0 g1
      obtain ⟨z1, q1, _⟩ := DataW.trod_bool Tryd.underlying4 g1
      have e0' : W.cell? (a.add (i * 2)) = some c0 := by rw [add_add, Nat.add_zero] at e0; simpa using e0
      have e1' : W.cell? ((a.add (i * 2)).add 1) = some c1 := by simpa using e1
      simp only [List.cons.injEq, and_true] at q1
      subst q1
      rcases DataW.trod_slice Tryd.underlying23 g0 with ⟨q0, _⟩ | ⟨a2, len2, cap2, _, _, _, _, q0, _⟩
      · simp only [List.cons.injEq, and_true] at q0
        subst q0
        obtain ⟨ds, h3, h4⟩ := prs_open g0
        exact ⟨⟨_, _, _, ds, z1⟩, e0', e1', h3, h4⟩
      · simp only [List.cons.injEq, and_true] at q0
        subst q0
        obtain ⟨ds, h3, h4⟩ := prs_open g0
        exact ⟨⟨_, _, _, ds, z1⟩, e0', e1', h3, h4⟩
    obtain ⟨zs, hzl, hz⟩ := list_of12 each
    refine ⟨zs, Nat.le_trans hl hm, ⟨hzl, Nat.le_trans hl hm, fun h0 => ?_, fun z hzm => ?_⟩, hl, hm⟩
    · obtain ⟨b, off, spot⟩ := a
      have hc0 := (hz 0 (zs[0]'(by omega)) (List.getElem?_eq_getElem (by omega))).1
      have hspot : spot = none := by
        have := World.cell?_spot hc0
        simpa [Addr.add] using this
      subst hspot
      refine ⟨b, off, rfl, ?_, fun i z hiz => ?_⟩
      · have := World.block_lt_of_cell? W _ hc0
        rwa [add_plain] at this
      · obtain ⟨d0, d1, _⟩ := hz i z hiz
        simp only [add_plain] at d0 d1
        exact ⟨d0, d1⟩
    · obtain ⟨i, hi⟩ := List.getElem?_of_mem hzm
      exact (hz i z hi).2.2
end Go.Proofs.YteheojiokbdgmaaDoor
