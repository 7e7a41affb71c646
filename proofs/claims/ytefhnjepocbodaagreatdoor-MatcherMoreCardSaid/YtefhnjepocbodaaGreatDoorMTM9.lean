/- Layer 13: a slice of matchers that came in, opened. Layer 13: a matcher cut short, as the document's. -/
import Derived.Test.YtefhnjepocbodaaGreatDoorMTM7
import Derived.Test.YtefhnjepocbodaaGreatDoorMLB
import Derived.Deep.Slices
import Derived.OpenShut
import Derived.ChangeSlices
import Derived.SliceStrings
import Derived.Deep.RegionWith
import Derived.Deep.RegionLaw
import Derived.Deep.RegionHeld3
namespace Go.Proofs.YtefhnjepocbodaaGreatDoor
open Go.RowKit Go.Lib Go.Deep Go.ChangeShapes Go.WideShapes
set_option linter.unusedVariables false

theorem strs13_open {H : Type} {enc : TypeId × Value → H} {W : World} {base : Nat} {spare : Nat → Bool} {held : Bool} {fuel : Nat} {ao : Option Addr} {len cap : Nat} {x : DataW H × List MemPlace}
    (h : DataW.trod enc Tryz.prog W base spare held fuel 55 [.slice ao len cap] = some x) : ∃ zs, len ≤ maxLen ∧ zs.length = len ∧ Rd W 1 (.slice ao len cap) len (txs zs) := by
  have ce : Tryz.prog.cellsOf 9 = 1 := by kernel_rfl
  rcases open_strings Tryz.underlying55 Tryz.underlying9 ce h with ⟨hcs, _⟩ | ⟨a, len', cap', zs, hcs, hb, hl, hm, hlen, _, hcell, hwf⟩
  · simp only [List.cons.injEq, Value.slice.injEq, and_true] at hcs
    obtain ⟨rfl, rfl, rfl⟩ := hcs
    exact ⟨[], Nat.zero_le _, rfl, rfl, none, 0, 0, 0, rfl, fun h => absurd h (by simp), fun j hj => absurd hj (by simp)⟩
  · simp only [List.cons.injEq, Value.slice.injEq, and_true] at hcs
    obtain ⟨rfl, rfl, rfl⟩ := hcs
    have hz : len ≤ zs.length := by rw [hlen]; split <;> omega
    obtain ⟨ys, hys⟩ : ∃ ys : List (List UInt8), ys = (zs.take len).map fun z => z.data.toList := ⟨_, rfl⟩
    have hyl : ys.length = len := by rw [hys]; simp; omega
    have hget : ∀ j, j < len → W.cell? (a.add j) = (txs ys)[j]? := fun j hj => by
      rw [hcell j (by omega), hys]
      unfold txs
      rw [List.map_map, List.getElem?_map, List.getElem?_take_of_lt hj]
      rw [List.getElem?_eq_getElem (by omega)]
      simp [List.getD_eq_getElem?_getD, show j < zs.length by omega, bs_of]
    refine ⟨ys, Nat.le_trans hl hm, hyl, by unfold txs; simp [hyl], ?_⟩
    rcases Nat.eq_zero_or_pos len with h0 | h0
    · subst h0
      exact ⟨_, _, 0, 0, rfl, fun h => absurd h (by simp), fun j hj => absurd hj (by simp)⟩
    · have hv0 := hget 0 h0
      have hsome : ∃ v, W.cell? (a.add 0) = some v := by
        rw [hv0]
        exact ⟨_, List.getElem?_eq_getElem (by unfold txs; simp; omega)⟩
      obtain ⟨v0, hv0'⟩ := hsome
      obtain ⟨b, off, spot⟩ := a
      have hspot : spot = none := by
        have := World.cell?_spot hv0'
        simpa [Addr.add] using this
      subst hspot
      refine ⟨_, cap, b, off, rfl, fun _ => ⟨rfl, ?_⟩, fun j hj => ?_⟩
      · have := World.block_lt_of_cell? W _ hv0'
        simpa [Addr.add] using this
      · have := hget j (by omega)
        by_cases hj0 : j = 0
        · subst hj0; simpa [Addr.add] using this
        · simpa [Addr.add, hj0] using this

/-- A matcher that came in. -/
structure Om where
  k : Int
  n : List UInt8
  a : Option Addr
  ln : Nat
  cp : Nat
  zs : List (List UInt8)
instance : Inhabited Om := ⟨⟨0, [], none, 0, 0, []⟩⟩
def OmAt (W : World) (z : Om) : Prop := z.n.length ≤ maxLen ∧ z.ln ≤ maxLen ∧ z.zs.length = z.ln ∧ Rd W 1 (.slice z.a z.ln z.cp) z.ln (txs z.zs)
/-- The first twenty, read from cells. -/
structure OmR (w : World) (a : Option Addr) (len : Nat) (zs : List Om) : Prop where
  hl : zs.length = min len 20
  hm : len ≤ maxLen
  at_ : 0 < len → ∃ g off, a = some ⟨g, off, none⟩ ∧ g < w.heap.size ∧ ∀ i z, zs[i]? = some z → w.cell? ⟨g, off + i * 3, none⟩ = some (.int .i64 z.k) ∧ w.cell? ⟨g, off + i * 3 + 1, none⟩ = some (.string (bs z.n)) ∧ w.cell? ⟨g, off + i * 3 + 2, none⟩ = some (.slice z.a z.ln z.cp)
  ps : ∀ z ∈ zs, OmAt w z
theorem OmR.on {w w' : World} {a : Option Addr} {len : Nat} {zs : List Om} (h : OmR w a len zs) (b : Below w.heap.size w w') : OmR w' a len zs := by
  refine ⟨h.hl, h.hm, fun h0 => ?_, fun z hz => ⟨(h.ps z hz).1, (h.ps z hz).2.1, (h.ps z hz).2.2.1, (h.ps z hz).2.2.2.on b⟩⟩
  obtain ⟨g, off, he, hg, hc⟩ := h.at_ h0
  refine ⟨g, off, he, Nat.lt_of_lt_of_le hg b.size, fun i z hz => ?_⟩
  obtain ⟨c0, c1, c2⟩ := hc i z hz
  exact ⟨(b.cell (p := ⟨g, off + i * 3, none⟩) hg).trans c0, (b.cell (p := ⟨g, off + i * 3 + 1, none⟩) hg).trans c1, (b.cell (p := ⟨g, off + i * 3 + 2, none⟩) hg).trans c2⟩
/-- With its capacity. -/
def OmC (w : World) (a : Option Addr) (len cap : Nat) (zs : List Om) : Prop := OmR w a len zs ∧ len ≤ cap ∧ cap ≤ maxLen
theorem list_of13 {α : Type} {n : Nat} {P : Nat → α → Prop} (h : ∀ j, j < n → ∃ x, P j x) : ∃ l : List α, l.length = n ∧ ∀ (j : Nat) x, l[j]? = some x → P j x := by
  induction n with
  | zero => exact ⟨[], rfl, fun j x hx => by simp at hx⟩
  | succ n ih =>
    obtain ⟨l, hl, hP⟩ := ih fun j hj => h j (by omega)
    obtain ⟨x, hx⟩ := h n (by omega)
    refine ⟨l ++ [x], by simp [hl], fun j y hy => ?_⟩
    rcases Nat.lt_or_ge j n with hj | hj
    · rw [List.getElem?_append_left (by omega)] at hy
      exact hP j y hy
    · have : j = n := by have := (List.getElem?_eq_some_iff.1 hy).1; simp at this; omega
      subst this
      rw [List.getElem?_append_right (by omega), hl, Nat.sub_self] at hy
      obtain rfl : x = y := by simpa using hy
      exact hx
theorem three13 {α : Type} (l : List α) (h : l.length = 3) : ∃ a b c, l = [a, b, c] := by
  match l, h with
  | [a, b, c], _ => exact ⟨a, b, c, rfl⟩
theorem om_open {H : Type} {enc : TypeId × Value → H} {W : World} {base : Nat} {spare : Nat → Bool} {held : Bool} {fuel : Nat} {ao : Option Addr} {len cap : Nat} {x : DataW H × List MemPlace}
    (h : DataW.trod enc Tryz.prog W base spare held fuel 23 [.slice ao len cap] = some x) : ∃ zs, len ≤ maxLen ∧ OmC W ao len cap zs := by
  rcases open_slice Tryz.underlying23 h with ⟨hcs, _⟩ | ⟨a, len', cap', m, n, D, Pl, hcs, hb, hl, hm, hmm, _, hi⟩
  · simp only [List.cons.injEq, Value.slice.injEq, and_true] at hcs
    obtain ⟨rfl, rfl, rfl⟩ := hcs
    exact ⟨[], Nat.zero_le _, ⟨rfl, Nat.zero_le _, fun h => absurd h (Nat.lt_irrefl 0), fun z hz => by cases hz⟩, Nat.le_refl _, Nat.zero_le _⟩
  · simp only [List.cons.injEq, Value.slice.injEq, and_true] at hcs
    obtain ⟨rfl, rfl, rfl⟩ := hcs
    have hlm : len ≤ m := by rw [hmm]; split <;> omega
    have ce : Tryz.prog.cellsOf 59 = 3 := by kernel_rfl
    have each : ∀ i, i < min len 20 → ∃ z : Om, W.cell? (a.add (i * 3)) = some (.int .i64 z.k) ∧ W.cell? ((a.add (i * 3)).add 1) = some (.string (bs z.n)) ∧ W.cell? ((a.add (i * 3)).add 2) = some (.slice z.a z.ln z.cp) ∧ OmAt W z := by
      intro i hi0
      have him : i < m := by omega
      obtain ⟨cs', h1, h2⟩ := hi i him
      rw [ce] at h1
      obtain ⟨_, hlen, hcell⟩ := World.cells?_some h1
      obtain ⟨c0, c1, c2, rfl⟩ := three13 cs' hlen
      obtain ⟨xs, k, hk, hxy, _, hxl, hf⟩ := DataW.trod_struct Tryz.underlying59 h2
      obtain ⟨y0, y1, y2, rfl⟩ := three13 xs hxl
      have e0 := hcell 0 (by omega); have e1 := hcell 1 (by omega); have e2 := hcell 2 (by omega)
      have cp : Tryz.prog.cellsOf 3 = 1 := by kernel_rfl
      have cb : Tryz.prog.cellsOf 9 = 1 := by kernel_rfl
      have cq : Tryz.prog.cellsOf 55 = 1 := by kernel_rfl
      have g0 := hf 0 _ rfl; have g1 := hf 1 _ rfl; have g2 := hf 2 _ rfl
      simp [cp, cb, cq] at g0 g1 g2
      obtain ⟨z0, q0, _, w0⟩ := DataW.trod_int Tryz.underlying3 g0
      obtain ⟨z1, q1, _, w1⟩ := DataW.trod_string Tryz.underlying9 g1
      have e0' : W.cell? (a.add (i * 3)) = some c0 := by rw [add_add, Nat.add_zero] at e0; simpa using e0
      have e1' : W.cell? ((a.add (i * 3)).add 1) = some c1 := by simpa using e1
      have e2' : W.cell? ((a.add (i * 3)).add 2) = some c2 := by simpa using e2
      simp only [List.cons.injEq, and_true] at q0 q1
      subst q0; subst q1
      have hn : z1.data.toList.length ≤ maxLen := by first | exact w1 | (have := w1; simpa using this)
      rcases DataW.trod_slice Tryz.underlying55 g2 with ⟨q2, _⟩ | ⟨a2, len2, cap2, _, _, _, _, q2, _⟩
      · simp only [List.cons.injEq, and_true] at q2
        subst q2
        obtain ⟨ds, h3, h4, h5⟩ := strs13_open g2
        exact ⟨⟨_, z1.data.toList, _, _, _, ds⟩, e0', e1', e2', hn, h3, h4, h5⟩
      · simp only [List.cons.injEq, and_true] at q2
        subst q2
        obtain ⟨ds, h3, h4, h5⟩ := strs13_open g2
        exact ⟨⟨_, z1.data.toList, _, _, _, ds⟩, e0', e1', e2', hn, h3, h4, h5⟩
    obtain ⟨zs, hzl, hz⟩ := list_of13 each
    refine ⟨zs, Nat.le_trans hl hm, ⟨hzl, Nat.le_trans hl hm, fun h0 => ?_, fun z hzm => ?_⟩, hl, hm⟩
    · obtain ⟨b, off, spot⟩ := a
      have hc0 := (hz 0 (zs[0]'(by omega)) (List.getElem?_eq_getElem (by omega))).1
      have hspot : spot = none := by
        have := World.cell?_spot hc0
        simpa [Addr.add] using this
      subst hspot
      refine ⟨b, off, rfl, ?_, fun i z hiz => ?_⟩
      · have := World.block_lt_of_cell? W _ hc0
        rwa [add_plain] at this
      · obtain ⟨d0, d1, d2, _⟩ := hz i z hiz
        simp only [add_plain] at d0 d1 d2
        exact ⟨d0, d1, d2⟩
    · obtain ⟨i, hi⟩ := List.getElem?_of_mem hzm
      exact (hz i z hi).2.2.2
end Go.Proofs.YtefhnjepocbodaaGreatDoor

namespace Go.Proofs.YtefhnjepocbodaaGreatDoor
open Go.RowKit Go.Lib
set_option linter.unusedVariables false

def vsS (z : Om) : List (List UInt8) := (z.zs.take 12).map fun x => x.take 42

theorem zc_text : (Tryz.prog.info? 9).map (fun i => (i.zero, i.size, i.bytes)) = some (some (.string ByteArray.empty), 1, 16) := by kernel_rfl
/-- As short goes: the box of what came in, that of what is made. -/
def ShR (w : World) (z : Om) (i : Nat) (W : World) : Prop := ∃ v, W.heap[w.heap.size]? = some (.cells #[.int .i64 z.k, .string (bs z.n), .slice z.a z.ln z.cp] 59) ∧ W.heap[w.heap.size + 1]? = some (.cells #[.int .i64 0, .string ⟨#[]⟩, .slice none 0 0] 57) ∧
  W.heap[w.heap.size + 2]? = some (.cells #[.int .i64 z.k, .string (bs (z.n.take 42)), v] 57) ∧ Sl W (w.heap.size + 3) 1 v i (txs ((z.zs.take i).map fun x => x.take 42)) ∧ Below w.heap.size w W ∧ w.heap.size + 3 ≤ W.heap.size

set_option maxHeartbeats 2000000 in
set_option maxRecDepth 100000 in
theorem short13_any (z : Om) (w : World) (h : OmAt w z) :
    Calls Tryz.prog 17 #[.agg #[.int .i64 z.k, .string (bs z.n), .slice z.a z.ln z.cp]] w fun e w' => ∃ v, e = .returned (.agg #[.int .i64 z.k, .string (bs (z.n.take 42)), v]) ∧ Sl w' w.heap.size 1 v (vsS z).length (txs (vsS z)) ∧ Below w.heap.size w w' := by
  obtain ⟨k, n, a, ln, cp, zs⟩ := z
  obtain ⟨h1, h2, h3, h4⟩ := h
  simp only at h1 h2 h3 h4
  have C42 := Lib.hid cut42
  obtain ⟨i0, hi, hz0, hz1, hz2⟩ := info_parts zc_text
  have Hz := Lib.hid hz0; have Hs := Lib.hid hz1; have Hb := Lib.hid hz2; have Hi := Lib.hid hi
  clear hz0 hz1 hz2 hi
  simp only
  go_enter Tryz.func17, Tryz.ntmps17
  go_wp2_with fail
  have q : ∀ o : Obj, True := fun _ => trivial
  go_region_held3 (fun W => W.cell? ⟨w.heap.size, 0, none⟩ = some (.int .i64 k) ∧ W.cell? ⟨w.heap.size, 1, none⟩ = some (.string (bs n)))
    (first | assumption | go_keep | (constructor <;> go_simp) | (constructor <;> simp) | fail)
    (first
      | (go_at_call 28; refine (C42.out _ _).mono ?_; rintro e w1 ⟨rfl, rfl⟩)
      | fail)
  all_goals
    obtain ⟨W1, hW1⟩ : ∃ W1, W1 = (((w.alloc (.cells #[.int .i64 k, .string (bs n), .slice a ln cp] 59)).alloc (.cells #[.int .i64 0, .string ⟨#[]⟩, .slice none 0 0] 57)).alloc (.cells #[.int .i64 k, .string (bs (n.take 42)), .slice none 0 0] 57)).drew := ⟨_, rfl⟩
    rw [← hW1]
    have G0 : ShR w ⟨k, n, a, ln, cp, zs⟩ 0 W1 := by
      rw [hW1]
      obtain ⟨w1, hw1⟩ : ∃ w1, w1 = w.alloc (.cells #[.int .i64 k, .string (bs n), .slice a ln cp] 59) := ⟨_, rfl⟩
      obtain ⟨w2, hw2⟩ : ∃ w2, w2 = w1.alloc (.cells #[.int .i64 0, .string ⟨#[]⟩, .slice none 0 0] 57) := ⟨_, rfl⟩
      rw [← hw1, ← hw2]
      have z1 : w1.heap.size = w.heap.size + 1 := by rw [hw1]; simp
      have z2 : w2.heap.size = w.heap.size + 2 := by rw [hw2]; simp; omega
      have a0 : w1.heap[w.heap.size]? = some (.cells #[.int .i64 k, .string (bs n), .slice a ln cp] 59) := by rw [hw1]; exact heap_alloc_new w _
      have a1 : w2.heap[w.heap.size + 1]? = some (.cells #[.int .i64 0, .string ⟨#[]⟩, .slice none 0 0] 57) := by
        have := heap_alloc_new w1 (.cells #[.int .i64 0, .string ⟨#[]⟩, .slice none 0 0] 57)
        rw [z1, ← hw2] at this; exact this
      have a2 : (w2.alloc (.cells #[.int .i64 k, .string (bs (n.take 42)), .slice none 0 0] 57)).heap[w.heap.size + 2]? = some (.cells #[.int .i64 k, .string (bs (n.take 42)), .slice none 0 0] 57) := by
        have := heap_alloc_new w2 (.cells #[.int .i64 k, .string (bs (n.take 42)), .slice none 0 0] 57)
        rw [z2] at this; exact this
      refine ⟨.slice none 0 0, ?_, ?_, a2, Sl.nil _ _ _, ?_, ?_⟩
      · show (w2.alloc _).heap[w.heap.size]? = _
        rw [Below.heap_alloc _ _ _ (by omega), hw2, Below.heap_alloc _ _ _ (by omega)]; exact a0
      · show (w2.alloc _).heap[w.heap.size + 1]? = _
        rw [Below.heap_alloc _ _ _ (by omega)]; exact a1
      · have b1 : Below w.heap.size w w1 := by rw [hw1]; exact (Below.refl _ _).alloc (Nat.le_refl _) _
        have b2 : Below w.heap.size w w2 := by rw [hw2]; exact b1.alloc (by omega) _
        exact (b2.alloc (by omega) _).drew
      · show w.heap.size + 3 ≤ (w2.alloc _).heap.size
        simp; omega
    have HG0 := Lib.hid G0
    clear G0 hW1
    go_wp2_with fail
    go_loopw [4] (fun i' wr => ∃ i : Nat, i' = .int .i64 i ∧ i ≤ ln ∧ i ≤ 12 ∧ Hid (ShR w ⟨k, n, a, ln, cp, zs⟩ i wr)) (fun i' _ => 12 - (RowKit.intOf i').toNat)
    case atStart => exact ⟨0, rfl, by omega, by omega, HG0⟩
    case round =>
      clear HG0
      obtain ⟨W0, rfl⟩ : ∃ W0, W0 = wr := ⟨_, rfl⟩
      obtain ⟨i, rfl, hi, hi12, hsh⟩ := hrel
      obtain ⟨v, hb0, hb1, hb2, hs, hb, hz⟩ := hsh.out
      simp only at hb0 hb2 hs
      have r0 := Lib.cell_of_heap hb0 2
      have x0 := Lib.cell_of_heap hb2 0; have x1 := Lib.cell_of_heap hb2 1; have x2 := Lib.cell_of_heap hb2 2
      have xf := Lib.frozen_of_heap hb2 2
      simp at r0 x0 x1 x2
      obtain ⟨va, vc, rfl⟩ := hs.slice
      have HS := Lib.hid hs; have HB0 := Lib.hid hb0; have HB1 := Lib.hid hb1; have HB2 := Lib.hid hb2; have HB := Lib.hid hb
      clear hsh hb0 hb1 hb2 hs
      have i0z : (0 : Int) ≤ i := by omega
      by_cases hl : i < ln
      · have hli : (i : Int) < ln := by omega
        by_cases h12 : i < 12
        · have h12i : (i : Int) < 12 := by omega
          obtain ⟨_, a', cap', g, off, ev, hg, hc⟩ := h4
          cases ev
          obtain ⟨rfl, hgl⟩ := hg (by omega)
          obtain ⟨y, hy⟩ : ∃ y, zs[i]? = some y := ⟨_, List.getElem?_eq_getElem (by omega)⟩
          have c0 : W0.cell? ⟨g, off + i, none⟩ = some (.string (bs y)) := ((HB.out).cell (p := ⟨g, off + i, none⟩) hgl).trans ((hc i (by omega)).trans (txs_at zs i y hy))
          have hgw : g < W0.heap.size := by omega
          have hzw : w.heap.size + 2 < W0.heap.size := by omega
          have HY := Lib.hid hy
          have hlit : ∀ j u, [Value.string (bs (y.take 42))][j]? = some u → ((W0.alloc (.cells #[.string (bs (y.take 42))] 9)).drew).cell? ((⟨W0.heap.size, 0, none⟩ : Addr).add j) = some u := by
            intro j u hu
            exact (Sl.lit W0 W0.heap.size 1 1 #[.string (bs (y.take 42))] 9 (Nat.le_refl _) (by decide) rfl).cells j u hu
          have q : ∀ o, (W0.alloc o).drew.cell? ⟨w.heap.size, 2, none⟩ = some (.slice (some ⟨g, off, none⟩) ln cp) ∧ (W0.alloc o).drew.cell? ⟨g, off + i, none⟩ = some (.string (bs y)) := fun o =>
            ⟨(((Below.refl W0.heap.size W0).alloc (Nat.le_refl _) o).drew.cell (p := ⟨w.heap.size, 2, none⟩) (by show w.heap.size < _; omega)).trans r0, (((Below.refl W0.heap.size W0).alloc (Nat.le_refl _) o).drew.cell (p := ⟨g, off + i, none⟩) hgw).trans c0⟩
          have x2 : W0.cell? ⟨w.heap.size + 1 + 1, 2, none⟩ = some (.slice va i vc) := x2
          have qx : ∀ o, (W0.alloc o).cell? ⟨w.heap.size + 1 + 1, 2, none⟩ = some (.slice va i vc) := fun o =>
            (((Below.refl W0.heap.size W0).alloc (Nat.le_refl _) o).cell (p := ⟨w.heap.size + 1 + 1, 2, none⟩) hzw).trans x2
          have FX := Lib.hid (fun (w2 : World) (v2 : Value) (xs2 : List Value) (hx : Ext (w.heap.size + 3) 1 (W0.alloc (.cells #[.string (bs (y.take 42))] 9)).drew (.slice va i vc) i (txs ((zs.take i).map fun x => x.take 42)) w2 v2 (i + 1) xs2) =>
            show (w2.cell? ⟨w.heap.size, 2, none⟩ = some (.slice (some ⟨g, off, none⟩) ln cp) ∧ w2.cell? ⟨g, off + i, none⟩ = some (.string (bs y))) ∧ (w2.cell? ⟨w.heap.size + 1 + 1, 2, none⟩ = some (.slice va i vc) ∧ w2.frozen? ⟨w.heap.size + 1 + 1, 2, none⟩ = false) ∧ (∀ k, k < w.heap.size + 3 → w2.heap[k]? = W0.heap[k]?) ∧ Below w.heap.size w w2 ∧ W0.heap.size ≤ w2.heap.size ∧ (∀ u, (w2.setCell ⟨w.heap.size + 1 + 1, 2, none⟩ u).cell? ⟨w.heap.size, 2, none⟩ = some (.slice (some ⟨g, off, none⟩) ln cp) ∧ (w2.setCell ⟨w.heap.size + 1 + 1, 2, none⟩ u).cell? ⟨g, off + i, none⟩ = some (.string (bs y))) from by
              have hk : ∀ k, k < w.heap.size + 3 → w2.heap[k]? = W0.heap[k]? := fun k hk => (hx.grown.block k (by show k < (W0.alloc _).heap.size; simp; omega) (fun e => by have := (HS.out.lt k e.symm).1; omega)).trans (Below.heap_alloc _ _ _ (by omega))
              have hz2 : W0.heap.size + 1 ≤ w2.heap.size := by have := hx.grown.size; simpa using this
              have rr1 := (World.cell?_of_block (a := ⟨w.heap.size, 2, none⟩) (hk _ (by show w.heap.size < _; omega))).trans r0
              have rr2 := (World.cell?_of_block (a := ⟨g, off + i, none⟩) (hk _ (by show g < _; omega))).trans c0
              refine ⟨⟨rr1, rr2⟩, ⟨(World.cell?_of_block (a := ⟨w.heap.size + 1 + 1, 2, none⟩) (hk _ (by show w.heap.size + 1 + 1 < _; omega))).trans x2, (World.frozen?_of_block (a := ⟨w.heap.size + 1 + 1, 2, none⟩) (hk _ (by show w.heap.size + 1 + 1 < _; omega))).trans xf⟩, hk, ?_, by omega, fun u => ⟨by rw [cell_setCell_other _ _ _ _ _ (.inl (by simp only [ne_eq]; omega))]; exact rr1, by rw [cell_setCell_other _ _ _ _ _ (.inl (by simp only [ne_eq]; omega))]; exact rr2⟩⟩
              exact ((HB.out.alloc (by omega) _).drew).trans (hx.below (by omega) (by show w.heap.size ≤ (W0.alloc _).heap.size; simp; omega)))
          have hbd := HB.out.drew
          have n1 : i + 1 ≤ maxLen := by unfold maxLen; omega
          clear hc hy x0 x1
          go_upto_region 5 with fail
          go_region_law (first
            | (refine step_append_slB rfl (.tmp 23) (.tmp 30) 55 rfl (w.heap.size + 3) 9 i0 _ 1 16 Tryz.underlying55 Hi.out Hz.out Hs.out Hb.out rfl (by decide) (.slice va i vc) i _ (by simp [Act.eval]) (HS.out.alloc _).drew ⟨W0.heap.size, 0, none⟩ 1 1 [.string (bs (y.take 42))] (by simp [Act.eval]) rfl hlit (by simp [Value.oneCell']) n1 (by omega) (by simp; omega) ?_; intro v2 w2 hx; obtain ⟨rr, ⟨y2, yf⟩, hk2, hb2, hz2, rs⟩ := FX.out w2 v2 _ hx; obtain ⟨a2, c2, rfl⟩ := hx.now.slice)
            | (go_simp; go_at_call 28; refine (C42.out _ _).mono ?_; rintro e w1 ⟨rfl, rfl⟩)
            | fail)
          all_goals go_wp2_with fail
          all_goals
            have ht : (zs.take (i + 1)).map (fun x => x.take 42) = (zs.take i).map (fun x => x.take 42) ++ [y.take 42] := by
              rw [List.take_add_one, HY.out]; simp
            have o0 := (hk2 w.heap.size (by omega)).trans HB0.out
            have o1 := (hk2 (w.heap.size + 1) (by omega)).trans HB1.out
            have o2 := (hk2 (w.heap.size + 2) (by omega)).trans HB2.out
            have o2' : (w2.setCell ⟨w.heap.size + 1 + 1, 2, none⟩ (.slice a2 (i + 1) c2)).heap[w.heap.size + 2]? = some (.cells #[.int .i64 k, .string (bs (n.take 42)), .slice a2 (i + 1) c2] 57) := by
              have := heap_setCell_same w2 (w.heap.size + 2) 2 _ _ (.slice a2 (i + 1) c2) o2
              exact this
            have hsn : Sl (w2.setCell ⟨w.heap.size + 1 + 1, 2, none⟩ (.slice a2 (i + 1) c2)) (w.heap.size + 3) 1 (.slice a2 (i + 1) c2) (i + 1) (txs ((zs.take (i + 1)).map fun x => x.take 42)) := by
              rw [ht, show txs ((zs.take i).map (fun x => x.take 42) ++ [y.take 42]) = txs ((zs.take i).map fun x => x.take 42) ++ [.string (bs (y.take 42))] by simp [txs]]
              exact sl_else hx.now _ _ (by simp only; omega)
            exact ⟨⟨i + 1, by simp, by omega, by omega, Lib.hid ⟨_, (Below.heap_setCell _ _ _ _ (by simp only [ne_eq]; omega)).trans o0, (Below.heap_setCell _ _ _ _ (by simp only [ne_eq]; omega)).trans o1, o2', hsn, hb2.setCell (by simp only; omega) _, by simp [World.setCell]; omega⟩⟩, by simp [RowKit.intOf]; omega⟩
        · have h12i : ¬ (i : Int) < 12 := by omega
          have hvs : (zs.take i).map (fun x => x.take 42) = vsS ⟨k, n, a, ln, cp, zs⟩ := by unfold vsS; rw [show i = 12 by omega]
          have hil : i = (vsS ⟨k, n, a, ln, cp, zs⟩).length := by rw [← hvs]; simp; omega
          have HW := Lib.hid (put3 W0 (w.heap.size + 1) _ _ _ (.int .i64 k) (.string (bs (n.take 42))) (.slice va i vc) _ HB1.out)
          have e0 := Lib.cell_of_heap HB1.out 0; have e1 := Lib.cell_of_heap HB1.out 1; have e2 := Lib.cell_of_heap HB1.out 2
          have f0 := Lib.frozen_of_heap HB1.out 0; have f1 := Lib.frozen_of_heap HB1.out 1; have f2 := Lib.frozen_of_heap HB1.out 2
          simp at e0 e1 e2
          have x0 : W0.cell? ⟨w.heap.size + 1 + 1, 0, none⟩ = some (.int .i64 k) := x0
          have x1 : W0.cell? ⟨w.heap.size + 1 + 1, 1, none⟩ = some (.string (bs (n.take 42))) := x1
          have x2 : W0.cell? ⟨w.heap.size + 1 + 1, 2, none⟩ = some (.slice va i vc) := x2
          rw [hvs] at HS
          have HIL := Lib.hid hil
          clear hvs hil h4
          go_wp2_with fail
          refine bodyPost_ret (results_cellM Tryz.results17 _ _ (w.heap.size + 1) _ _ _ _ rfl HW.out Tryz.underlying57 rfl (by kernel_rfl)) rfl ?_
          rw [← HIL.out]
          exact ⟨_, rfl, (sl_else (sl_else (sl_else HS.out _ _ (by simp only; omega)) _ _ (by simp only; omega)) _ _ (by simp only; omega)).mono (by omega), ((HB.out.setCell (p := ⟨w.heap.size + 1, 0, none⟩) (by simp only; omega) _).setCell (p := ⟨w.heap.size + 1, 1, none⟩) (by simp only; omega) _).setCell (p := ⟨w.heap.size + 1, 2, none⟩) (by simp only; omega) _⟩
      · have hli : ¬ (i : Int) < ln := by omega
        have hvs : (zs.take i).map (fun x => x.take 42) = vsS ⟨k, n, a, ln, cp, zs⟩ := by unfold vsS; simp only; rw [List.take_of_length_le (show zs.length ≤ i by omega), List.take_of_length_le (show zs.length ≤ 12 by omega)]
        have hil : i = (vsS ⟨k, n, a, ln, cp, zs⟩).length := by rw [← hvs]; simp; omega
        have HW := Lib.hid (put3 W0 (w.heap.size + 1) _ _ _ (.int .i64 k) (.string (bs (n.take 42))) (.slice va i vc) _ HB1.out)
        have e0 := Lib.cell_of_heap HB1.out 0; have e1 := Lib.cell_of_heap HB1.out 1; have e2 := Lib.cell_of_heap HB1.out 2
        have f0 := Lib.frozen_of_heap HB1.out 0; have f1 := Lib.frozen_of_heap HB1.out 1; have f2 := Lib.frozen_of_heap HB1.out 2
        simp at e0 e1 e2
        have x0 : W0.cell? ⟨w.heap.size + 1 + 1, 0, none⟩ = some (.int .i64 k) := x0
        have x1 : W0.cell? ⟨w.heap.size + 1 + 1, 1, none⟩ = some (.string (bs (n.take 42))) := x1
        have x2 : W0.cell? ⟨w.heap.size + 1 + 1, 2, none⟩ = some (.slice va i vc) := x2
        rw [hvs] at HS
        have HIL := Lib.hid hil
        clear hvs hil h4
        go_wp2_with fail
        refine bodyPost_ret (results_cellM Tryz.results17 _ _ (w.heap.size + 1) _ _ _ _ rfl HW.out Tryz.underlying57 rfl (by kernel_rfl)) rfl ?_
        rw [← HIL.out]
        exact ⟨_, rfl, (sl_else (sl_else (sl_else HS.out _ _ (by simp only; omega)) _ _ (by simp only; omega)) _ _ (by simp only; omega)).mono (by omega), ((HB.out.setCell (p := ⟨w.heap.size + 1, 0, none⟩) (by simp only; omega) _).setCell (p := ⟨w.heap.size + 1, 1, none⟩) (by simp only; omega) _).setCell (p := ⟨w.heap.size + 1, 2, none⟩) (by simp only; omega) _⟩
end Go.Proofs.YtefhnjepocbodaaGreatDoor
