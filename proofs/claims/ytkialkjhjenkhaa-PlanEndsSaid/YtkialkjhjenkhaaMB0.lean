/- What every later layer takes: texts as lists of bytes, frames, 'Cut'. -/
import Derived.Test.YtkialkjhjenkhaaRows
import Derived.Test.YtkialkjhjenkhaaMSl2
import Derived.WalkKit
import Derived.WalkSpells
import Derived.WalkLawsBesides
import Derived.Deep.QuietTactic
import Derived.BigQuiet
import Derived.BigRegion
namespace Go.Proofs.Ytkialkjhjenkhaa
open Go.RowKit Go.Lib

theorem bi_u8 : (Try.prog.info? 5).map (fun i => (i.zero, i.size, i.bytes)) = some (some (.int .u8 0), 1, 1) := by kernel_rfl

/-- A text of bytes. -/
def bs (l : List UInt8) : ByteArray := ⟨l.toArray⟩
theorem bs_list (l : List UInt8) : (bs l).data.toList = l := rfl
theorem bs_size (l : List UInt8) : (bs l).size = l.length := by simp [bs, ByteArray.size]
theorem bs_of (s : ByteArray) : bs s.data.toList = s := rfl
theorem bs_append (a b : List UInt8) : bs a ++ bs b = bs (a ++ b) := ByteArray.mk_append_mk a b
theorem bs_size_le (l : List UInt8) (n : Nat) (h : l.length ≤ n) : (bs l).size ≤ n := by rw [bs_size]; exact h
theorem bs_toList (l : List UInt8) : (bs l).toList = l := by rw [ByteArray.toList_eq]; rfl

theorem list_at (s : ByteArray) (k : Nat) (h : k < s.size) : s.data.toList.drop k = s[k] :: s.data.toList.drop (k + 1) := by
  have h' : k < s.data.toList.length := by simpa using h
  rw [List.drop_eq_getElem_cons h']
  rfl
theorem extract_bs (s : ByteArray) (k : Nat) : s.extract k s.size = bs (s.data.toList.drop k) := by
  have h1 : s = ByteArray.mk s.data.toList.toArray := by rw [Array.toArray_toList]
  have h2 : s.size = s.data.toList.length := by rw [Array.length_toList]; rfl
  rw [h2]
  conv => lhs; rw [h1]
  rw [ByteArray.extract_mk, bs, List.take_of_length_le (by simp)]
theorem extract_bs0 (s : ByteArray) (k : Nat) : s.extract 0 k = bs (s.data.toList.take k) := by
  have h1 : s = ByteArray.mk s.data.toList.toArray := by rw [Array.toArray_toList]
  conv => lhs; rw [h1]
  rw [ByteArray.extract_mk, bs, List.drop_zero, Nat.sub_zero]
theorem bs_take (r : List UInt8) (u : Nat) : (bs r).extract 0 u = bs (r.take u) := by rw [extract_bs0, bs_list]
theorem bs_drop (r : List UInt8) (u : Nat) : (bs r).extract u (bs r).size = bs (r.drop u) := by rw [extract_bs, bs_list]

theorem text_conv {w : World} {base n : Nat} {v : Value} {l : List UInt8} (h : Sl w base 1 v n (cb l)) : (convert 102 9 v).run Try.prog w = .ok (.string (bs l)) w :=
  run_text_of_sl w base 102 9 5 Try.underlying102 Try.underlying5 Try.underlying9 v n l h

theorem below_draw {B : Nat} {a w : World} (h : Below B a w) (n : Nat) : Below B a (w.drewN n) := h.trans ⟨rfl, rfl, rfl, Nat.le_refl _, fun _ _ => rfl⟩
theorem below_step {a w w' : World} (h : Below a.heap.size a w) (k : Below w.heap.size w w') : Below a.heap.size a w' := h.trans (k.mono h.size)

/-- At most n bytes. -/
def cutB (s : ByteArray) (n : Nat) : ByteArray := if n < s.size then s.extract 0 n else s

theorem cut_list (s : ByteArray) (m : Nat) : ∃ l, cutB s m = bs l ∧ l.length ≤ m := by
  refine ⟨(cutB s m).data.toList, (bs_of _).symm, ?_⟩
  have h : (cutB s m).data.toList.length = (cutB s m).size := by rw [Array.length_toList]; rfl
  rw [h]
  unfold cutB
  split
  · rw [ByteArray.size_extract]; omega
  · omega

/-- Memory below block B, but for block r, is as it was. -/
structure Keep (B r : Nat) (w w' : World) : Prop where
  os : w'.os = w.os
  tape : w'.tape = w.tape
  output : w'.output = w.output
  size : w.heap.size ≤ w'.heap.size
  block : ∀ k, k < B → k ≠ r → w'.heap[k]? = w.heap[k]?

theorem Keep.refl (B r : Nat) (w : World) : Keep B r w w := ⟨rfl, rfl, rfl, Nat.le_refl _, fun _ _ _ => rfl⟩
theorem Keep.trans {B r : Nat} {a b c : World} (h : Keep B r a b) (k : Keep B r b c) : Keep B r a c :=
  ⟨k.os.trans h.os, k.tape.trans h.tape, k.output.trans h.output, Nat.le_trans h.size k.size, fun i hi hr => (k.block i hi hr).trans (h.block i hi hr)⟩
theorem Keep.mono {B B' r : Nat} {w w' : World} (h : Keep B r w w') (hB : B' ≤ B) : Keep B' r w w' := ⟨h.os, h.tape, h.output, h.size, fun k hk hr => h.block k (Nat.lt_of_lt_of_le hk hB) hr⟩
theorem Keep.drew {B r : Nat} {a w : World} (h : Keep B r a w) : Keep B r a w.drew := ⟨h.os, h.tape, h.output, h.size, h.block⟩
theorem Keep.drewN {B r : Nat} {a w : World} (h : Keep B r a w) (n : Nat) : Keep B r a (w.drewN n) := h.trans ⟨rfl, rfl, rfl, Nat.le_refl _, fun _ _ _ => rfl⟩
theorem Keep.alloc {B r : Nat} {a w : World} (h : Keep B r a w) (hB : B ≤ w.heap.size) (o : Obj) : Keep B r a (w.alloc o) :=
  ⟨h.os, h.tape, h.output, by have := h.size; simp; omega, fun k hk hr => (Below.heap_alloc w o k (by omega)).trans (h.block k hk hr)⟩
theorem Keep.setCell {B r : Nat} {a w : World} (h : Keep B r a w) {p : Addr} (hp : B ≤ p.block ∨ p.block = r) (u : Value) : Keep B r a (w.setCell p u) :=
  ⟨h.os, h.tape, h.output, by have := h.size; simpa [World.setCell] using this, fun k hk hr => (Below.heap_setCell w p u k (by rcases hp with hp | hp <;> omega)).trans (h.block k hk hr)⟩
theorem Keep.grown {B r : Nat} {a w w' : World} {row : Option Nat} (h : Keep B r a w) (hg : w.grownBy w' row) (hB : B ≤ w.heap.size) (hr : ∀ k, row = some k → B ≤ k) : Keep B r a w' :=
  ⟨hg.os.trans h.os, hg.tape.trans h.tape, hg.output.trans h.output, Nat.le_trans h.size hg.size, fun k hk hkr => (hg.block k (by omega) (fun e => by have := hr k e.symm; omega)).trans (h.block k hk hkr)⟩
theorem Keep.below {B r : Nat} {w w' : World} (h : Keep B r w w') (hr : B ≤ r) : Below B w w' := ⟨h.os, h.tape, h.output, h.size, fun k hk => h.block k hk (by omega)⟩
theorem Keep.of_below {B r : Nat} {w w' : World} (h : Below B w w') : Keep B r w w' := ⟨h.os, h.tape, h.output, h.size, fun k hk _ => h.block k hk⟩
theorem Keep.cell {B r : Nat} {w w' : World} (h : Keep B r w w') {p : Addr} (hp : p.block < B) (hr : p.block ≠ r) : w'.cell? p = w.cell? p := World.cell?_of_block (w := w) (h.block p.block hp hr)
theorem Keep.frozen {B r : Nat} {w w' : World} (h : Keep B r w w') {p : Addr} (hp : p.block < B) (hr : p.block ≠ r) : w'.frozen? p = w.frozen? p := World.frozen?_of_block (w := w) (h.block p.block hp hr)
theorem below_keep {B r : Nat} {a w w' : World} (h : Below B a w) (k : Keep B r w w') (hr : B ≤ r) : Below B a w' := h.trans (k.below hr)

theorem Sl.keep {w w' : World} {B r base size : Nat} {v : Value} {n : Nat} {xs : List Value} (h : Sl w base size v n xs) (k : Keep B r w w') (hv : ∀ b, v.ownBlock = some b → b < B ∧ b ≠ r) : Sl w' base size v n xs :=
  h.same k.size fun b hb => k.block b (hv b hb).1 (hv b hb).2

theorem cell_setCell_same (w : World) (g o : Nat) (v : Value) (h : (w.cell? ⟨g, o, none⟩).isSome = true) : (w.setCell ⟨g, o, none⟩ v).cell? ⟨g, o, none⟩ = some v := by
  have hx : ∀ j, j < [v].length → (w.cell? ⟨g, o + j, none⟩).isSome = true := by
    intro j hj
    have : j = 0 := by simpa using hj
    subst this
    exact h
  exact World.cell?_setCells_in g [v] o w hx 0 (by simp)
theorem cell_setCell_other (w : World) (g o : Nat) (v : Value) (a : Addr) (h : a.block ≠ g ∨ a.off ≠ o) : (w.setCell ⟨g, o, none⟩ v).cell? a = w.cell? a := by
  have := World.cell?_setCells_out g [v] o w a (fun e h' => by
    simp only [List.length_singleton]
    rcases h with h | h
    · exact absurd e h
    · omega)
  exact this
theorem frozen_setCell (w : World) (g o : Nat) (v : Value) (a : Addr) : (w.setCell ⟨g, o, none⟩ v).frozen? a = w.frozen? a := World.frozen?_setCells g [v] o w a

theorem sl_cell {w : World} {base g off n cap : Nat} {l : List UInt8} (h : Sl w base 1 (.slice (some ⟨g, off, none⟩) n cap) n (cb l)) (j : Nat) (c : UInt8) (hj : l[j]? = some c) : w.cell? ⟨g, off + j, none⟩ = some (.int .u8 c.toNat) := by
  rcases h.2 with ⟨h0, _⟩ | ⟨g', off', cap', he, _, _, _, _, _, hcell⟩
  · cases h0
  · cases he
    have hlt : j < l.length := (List.getElem?_eq_some_iff.1 hj).1
    have hn : l.length = n := by have := h.1; rw [cb_length] at this; omega
    rw [hcell j (by omega)]
    simp [cb, hj]
theorem sl_set {w : World} {base g off n cap c : Nat} {l : List UInt8} (h : Sl w base 1 (.slice (some ⟨g, off, none⟩) n cap) n (cb l)) (v : UInt8) (hc : c < n) :
    Sl (w.setCell ⟨g, off + c, none⟩ (.int .u8 v.toNat)) base 1 (.slice (some ⟨g, off, none⟩) n cap) n (cb (l.set c v)) := by
  have hl : l.length = n := by have := h.1; rw [cb_length] at this; omega
  rcases h.2 with ⟨h0, _⟩ | ⟨g', off', cap', he, hbg, hg, hnc, hcm, hfree, hcell⟩
  · cases h0
  · cases he
    refine ⟨by rw [cb_length, List.length_set]; omega, .inr ⟨g, off, cap, rfl, hbg, by simpa [World.setCell] using hg, hnc, hcm, fun j hj => ⟨?_, ?_⟩, fun j hj => ?_⟩⟩
    · by_cases hj' : j = c
      · subst hj'
        rw [cell_setCell_same _ _ _ _ (hfree j hj).1]; rfl
      · rw [cell_setCell_other _ _ _ _ _ (.inr (by simp only; omega))]
        exact (hfree j hj).1
    · rw [frozen_setCell]
      exact (hfree j hj).2
    · by_cases hj' : j = c
      · subst hj'
        rw [cell_setCell_same _ _ _ _ (hfree j (by omega)).1]
        simp [cb, hl, hc]
      · rw [cell_setCell_other _ _ _ _ _ (.inr (by simp only; omega)), hcell j hj]
        simp [cb, Ne.symm hj']
/-- A cell elsewhere. -/
theorem sl_else {w : World} {base size n : Nat} {v : Value} {xs : List Value} (h : Sl w base size v n xs) (a : Addr) (u : Value) (ha : a.block < base) : Sl (w.setCell a u) base size v n xs :=
  h.same (by simp [World.setCell]) fun k hk => Below.heap_setCell w a u k (by have := (h.lt k hk).1; omega)
theorem Sl.somewhere {w : World} {base size : Nat} {v : Value} {n : Nat} {xs : List Value} (h : Sl w base size v n xs) (hn : 0 < n) : ∃ g off cap, v = .slice (some ⟨g, off, none⟩) n cap ∧ base ≤ g ∧ n ≤ cap ∧ cap ≤ maxLen := by
  rcases h.2 with ⟨_, h0⟩ | ⟨g, off, cap, rfl, hb, _, h1, h2, _⟩
  · omega
  · exact ⟨g, off, cap, rfl, hb, h1, h2⟩
end Go.Proofs.Ytkialkjhjenkhaa
