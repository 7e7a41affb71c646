/- Slices whose cells the program may write, as lists of cells: what an append, a conversion between texts and bytes, or a chain of appends leaves. No program's text. Slices made, and copied into, as lists of cells. No program's text. What every later layer takes: texts as lists of bytes, frames, 'Cut'. -/
import Derived.WalkKit
import Derived.Lib.AppendStr
import Derived.Lib.Hide
import Derived.Deep.Onto
import Derived.Test.YtobdlfikomnmcaaGreatDoorRows
import Derived.WalkSpells
import Derived.WalkLawsBesides
import Derived.Deep.QuietTactic
import Derived.BigQuiet
import Derived.BigRegion
namespace Go.Proofs.YtobdlfikomnmcaaGreatDoor
open Go.RowKit Go.Lib

/-- v is a slice of n elements (each of so many cells), in memory from block base on that may be written as far as its capacity goes; its cells are xs. -/
def Sl (w : World) (base size : Nat) (v : Value) (n : Nat) (xs : List Value) : Prop :=
  xs.length = n * size ∧
  ((v = .slice none 0 0 ∧ n = 0) ∨
   ∃ g off cap, v = .slice (some ⟨g, off, none⟩) n cap ∧ base ≤ g ∧ g < w.heap.size ∧ n ≤ cap ∧ cap ≤ maxLen ∧
     (∀ j, j < cap * size → (w.cell? ⟨g, off + j, none⟩).isSome = true ∧ w.frozen? ⟨g, off + j, none⟩ = false) ∧
     (∀ j, j < n * size → w.cell? ⟨g, off + j, none⟩ = xs[j]?))

theorem Sl.nil (w : World) (base size : Nat) : Sl w base size (.slice none 0 0) 0 [] := ⟨by simp, .inl ⟨rfl, rfl⟩⟩

theorem Sl.mono {w : World} {base base' size : Nat} {v : Value} {n : Nat} {xs : List Value} (h : Sl w base size v n xs) (hb : base' ≤ base) : Sl w base' size v n xs :=
  ⟨h.1, h.2.imp id fun ⟨g, off, cap, h1, h2, h3⟩ => ⟨g, off, cap, h1, Nat.le_trans hb h2, h3⟩⟩

theorem Sl.lt {w : World} {base size : Nat} {v : Value} {n : Nat} {xs : List Value} (h : Sl w base size v n xs) : ∀ k, v.ownBlock = some k → base ≤ k ∧ k < w.heap.size := by
  intro k hk
  rcases h.2 with ⟨rfl, _⟩ | ⟨g, off, cap, rfl, hb, hg, _⟩
  · simp [Value.ownBlock] at hk
  · simp [Value.ownBlock] at hk
    subst hk
    exact ⟨hb, hg⟩

/-- What the memory of a block says, a world that has it alike says too. -/
theorem Sl.same {w w' : World} {base size : Nat} {v : Value} {n : Nat} {xs : List Value} (h : Sl w base size v n xs)
    (hs : w.heap.size ≤ w'.heap.size) (hb : ∀ k, v.ownBlock = some k → w'.heap[k]? = w.heap[k]?) : Sl w' base size v n xs := by
  refine ⟨h.1, ?_⟩
  rcases h.2 with hn | ⟨g, off, cap, rfl, hbg, hg, hnc, hcm, hfree, hcell⟩
  · exact .inl hn
  · have hblk := hb g (by simp [Value.ownBlock])
    refine .inr ⟨g, off, cap, rfl, hbg, by omega, hnc, hcm, fun j hj => ?_, fun j hj => ?_⟩
    · rw [World.cell?_of_block (a := ⟨g, off + j, none⟩) hblk, World.frozen?_of_block (a := ⟨g, off + j, none⟩) hblk]
      exact hfree j hj
    · rw [World.cell?_of_block (a := ⟨g, off + j, none⟩) hblk]
      exact hcell j hj

theorem Sl.kept {w w' : World} {row : Option Nat} {base size : Nat} {v : Value} {n : Nat} {xs : List Value} (h : Sl w base size v n xs) (hg : w.grownBy w' row) (hne : v.ownBlock = none ∨ v.ownBlock ≠ row) : Sl w' base size v n xs := by
  refine h.same hg.size fun k hk => hg.block k (h.lt k hk).2 ?_
  rcases hne with hne | hne
  · rw [hne] at hk; simp at hk
  · rw [← hk]; exact hne

theorem Sl.alloc {w : World} {base size : Nat} {v : Value} {n : Nat} {xs : List Value} (h : Sl w base size v n xs) (o : Obj) : Sl (w.alloc o) base size v n xs :=
  h.kept (World.grownBy_alloc w o none) (by cases hv : v.ownBlock <;> simp)

theorem Sl.drew {w : World} {base size : Nat} {v : Value} {n : Nat} {xs : List Value} (h : Sl w base size v n xs) : Sl w.drew base size v n xs := h

theorem Sl.below {w w' : World} {B base size : Nat} {v : Value} {n : Nat} {xs : List Value} (h : Sl w base size v n xs) (hb : Below B w w') (hv : ∀ k, v.ownBlock = some k → k < B) : Sl w' base size v n xs :=
  h.same hb.size fun k hk => hb.block k (hv k hk)

theorem Sl.of_owns {w : World} {base : Nat} {e : TypeId} {size : Nat} {v : Value} {n : Nat} {xs : List Value} (h : w.ownsRow base e size v n xs) : Sl w base size v n xs := by
  refine ⟨h.1, ?_⟩
  rcases h.2 with hn | ⟨g, cap, cur, rfl, hbg, hg, hnc, hcm, hcs, htake⟩
  · exact .inl hn
  · refine .inr ⟨g, 0, cap, rfl, hbg, (Array.getElem?_eq_some_iff.1 hg).1, hnc, hcm, fun j hj => ⟨?_, ?_⟩, fun j hj => ?_⟩
    · rw [cell_of_row w g (0 + j) cur e (0, 0) hg, Array.getElem?_eq_getElem (by omega)]
      rfl
    · simp only [World.frozen?, hg]
      simp
    · rw [cell_of_row w g (0 + j) cur e (0, 0) hg, Nat.zero_add, ← htake, List.getElem?_take, if_pos hj]
      simp

/-- A shorter slice of the same memory. -/
theorem Sl.cells {w : World} {base size : Nat} {g off n cap : Nat} {xs : List Value} (h : Sl w base size (.slice (some ⟨g, off, none⟩) n cap) n xs) :
    ∀ j u, xs[j]? = some u → w.cell? ((⟨g, off, none⟩ : Addr).add j) = some u := by
  intro j u hu
  rcases h.2 with ⟨h0, _⟩ | ⟨g', off', cap', he, _, _, _, _, _, hcell⟩
  · cases h0
  · cases he
    have hj : j < n * size := by
      have := (List.getElem?_eq_some_iff.1 hu).1
      rw [h.1] at this; exact this
    rw [Addr.add_lit, hcell j hj, hu]

/-- Behind a chain of appends to v0 (n0 elements, the cells xs0) in w there is v (n, xs) in w': v0 reads as it did; but for v0's own block what was there is as it was; v is v0's memory, longer, or lies in new memory. -/
structure Ext (base size : Nat) (w : World) (v0 : Value) (n0 : Nat) (xs0 : List Value) (w' : World) (v : Value) (n : Nat) (xs : List Value) : Prop where
  was : Sl w base size v0 n0 xs0
  now : Sl w' base size v n xs
  old : Sl w' base size v0 n0 xs0
  grown : w.grownBy w' v0.ownBlock
  alias : (∃ a cap, v0 = .slice a n0 cap ∧ v = .slice a n cap ∧ n0 ≤ n) ∨ (∀ k, v.ownBlock = some k → w.heap.size ≤ k)

theorem Sl.slice {w : World} {base size : Nat} {v : Value} {n : Nat} {xs : List Value} (h : Sl w base size v n xs) : ∃ a cap, v = .slice a n cap := by
  rcases h.2 with ⟨rfl, rfl⟩ | ⟨g, off, cap, rfl, _⟩
  · exact ⟨_, _, rfl⟩
  · exact ⟨_, _, rfl⟩

theorem ownBlock_slice (a : Option Addr) (n m c d : Nat) : (Value.slice a n c).ownBlock = (Value.slice a m d).ownBlock := by cases a <;> rfl

theorem Ext.refl {base size : Nat} {w : World} {v : Value} {n : Nat} {xs : List Value} (h : Sl w base size v n xs) : Ext base size w v n xs w v n xs := by
  obtain ⟨a, cap, rfl⟩ := h.slice
  exact ⟨h, h, h, World.grownBy.refl _ _, .inl ⟨a, cap, rfl, rfl, Nat.le_refl _⟩⟩

/-- Two readings of one memory: the shorter one's cells are there in whatever world the longer one's are. -/
theorem Sl.shorter {w w' : World} {base size : Nat} {a : Option Addr} {n m cap : Nat} {xs ys : List Value} (h : Sl w base size (.slice a n cap) n xs) (hl : Sl w base size (.slice a m cap) m ys) (hnm : n ≤ m)
    (hl' : Sl w' base size (.slice a m cap) m ys) : Sl w' base size (.slice a n cap) n xs := by
  refine ⟨h.1, ?_⟩
  rcases h.2 with ⟨he, rfl⟩ | ⟨g, off, cap', he, hbg, hg, hnc, hcm, hfree, hcell⟩
  · exact .inl ⟨he, rfl⟩
  · cases he
    rcases hl.2 with ⟨h0, _⟩ | ⟨g1, off1, cap1, he1, _, _, _, _, _, hcell1⟩
    · cases h0
    · cases he1
      rcases hl'.2 with ⟨h0, _⟩ | ⟨g2, off2, cap2, he2, hb2, hg2, hn2, hc2, hfree2, hcell2⟩
      · cases h0
      · cases he2
        refine .inr ⟨g, off, cap, rfl, hb2, hg2, by omega, hc2, hfree2, fun j hj => ?_⟩
        have hjm : j < m * size := Nat.lt_of_lt_of_le hj (Nat.mul_le_mul_right _ hnm)
        rw [hcell2 j hjm, ← hcell1 j hjm, hcell j hj]

theorem Ext.trans {base size : Nat} {w w1 w2 : World} {v0 v1 v2 : Value} {n0 n1 n2 : Nat} {xs0 xs1 xs2 : List Value}
    (h : Ext base size w v0 n0 xs0 w1 v1 n1 xs1) (k : Ext base size w1 v1 n1 xs1 w2 v2 n2 xs2) : Ext base size w v0 n0 xs0 w2 v2 n2 xs2 := by
  refine ⟨h.was, k.now, ?_, ⟨k.grown.os.trans h.grown.os, k.grown.tape.trans h.grown.tape, k.grown.output.trans h.grown.output, Nat.le_trans h.grown.size k.grown.size, fun i hi hne => ?_⟩, ?_⟩
  · rcases h.alias with ⟨a, cap, rfl, rfl, hle⟩ | hf
    · exact h.old.shorter h.now hle k.old
    · refine h.old.same k.grown.size fun i hi => k.grown.block i (h.old.lt i hi).2 fun e => ?_
      have := hf i e.symm
      have := (h.was.lt i hi).2
      omega
  · have hs := h.grown.size
    rw [k.grown.block i (by omega) ?_, h.grown.block i hi hne]
    intro e
    rcases h.alias with ⟨a, cap, rfl, rfl, hle⟩ | hf
    · exact hne (e.trans (ownBlock_slice _ _ _ _ _))
    · have := hf i e.symm
      omega
  · have hs := h.grown.size
    rcases h.alias with ⟨a, cap, rfl, rfl, hle⟩ | hf
    · rcases k.alias with ⟨a', cap', he, rfl, hle'⟩ | hf'
      · cases he
        exact .inl ⟨a, cap, rfl, rfl, by omega⟩
      · exact .inr fun i hi => by have := hf' i hi; omega
    · rcases k.alias with ⟨a', cap', rfl, rfl, hle'⟩ | hf'
      · exact .inr fun i hi => hf i ((ownBlock_slice _ _ _ _ _).trans hi)
      · exact .inr fun i hi => by have := hf' i hi; omega

/-- New blocks, and draws, behind. -/
theorem Ext.alloc {base size : Nat} {w w' : World} {v0 v : Value} {n0 n : Nat} {xs0 xs : List Value} (h : Ext base size w v0 n0 xs0 w' v n xs) (o : Obj) : Ext base size w v0 n0 xs0 (w'.alloc o) v n xs :=
  ⟨h.was, h.now.alloc o, h.old.alloc o, ⟨h.grown.os, h.grown.tape, h.grown.output, by have := h.grown.size; simp; omega, fun i hi hne => (Below.heap_alloc _ _ _ (Nat.lt_of_lt_of_le hi h.grown.size)).trans (h.grown.block i hi hne)⟩, h.alias⟩

theorem Ext.below {base size : Nat} {w w' : World} {v0 v : Value} {n0 n : Nat} {xs0 xs : List Value} {B : Nat} (h : Ext base size w v0 n0 xs0 w' v n xs) (hB : B ≤ base) (hw : B ≤ w.heap.size) : Below B w w' :=
  ⟨h.grown.os, h.grown.tape, h.grown.output, h.grown.size, fun k hk => h.grown.block k (by omega) fun e => by have := (h.was.lt k e.symm).1; omega⟩

section
variable {P : Program}

theorem grownBy_setCells (b : Nat) : ∀ (vs : List Value) (o : Nat) (w : World), w.grownBy (w.setCells b o vs) (some b) := by
  intro vs
  induction vs with
  | nil => intro o w; exact World.grownBy.refl _ _
  | cons x vs ih =>
    intro o w
    have h1 : w.grownBy (w.setCell ⟨b, o, none⟩ x) (some b) :=
      ⟨rfl, rfl, rfl, by simp [World.setCell], fun k hk hne => Below.heap_setCell _ _ _ _ (fun e => hne (by rw [e]))⟩
    have h2 := ih (o + 1) (w.setCell ⟨b, o, none⟩ x)
    exact ⟨h2.os.trans h1.os, h2.tape.trans h1.tape, h2.output.trans h1.output, Nat.le_trans h1.size h2.size, fun k hk hne => (h2.block k (by have := h1.size; omega) hne).trans (h1.block k hk hne)⟩

theorem size_setCells (b : Nat) : ∀ (vs : List Value) (o : Nat) (w : World), (w.setCells b o vs).heap.size = w.heap.size := by
  intro vs
  induction vs with
  | nil => intro o w; rfl
  | cons x vs ih =>
    intro o w
    have := ih (o + 1) (w.setCell ⟨b, o, none⟩ x)
    simp only [World.setCells] at this ⊢
    rw [this]
    simp [World.setCell]

/-- There was room: the cells behind v's have been written. -/
theorem Ext.stored {w : World} {base size g off n cap m : Nat} {xs news : List Value} (h : Sl w base size (.slice (some ⟨g, off, none⟩) n cap) n xs) (hl : news.length = m * size) (hroom : n + m ≤ cap) :
    Ext base size w (.slice (some ⟨g, off, none⟩) n cap) n xs (w.setCells g (off + n * size) news) (.slice (some ⟨g, off, none⟩) (n + m) cap) (n + m) (xs ++ news) := by
  rcases h.2 with ⟨h0, _⟩ | ⟨g', off', cap', he, hbg, hg, hnc, hcm, hfree, hcell⟩
  · cases h0
  cases he
  have hmul : (n + m) * size = n * size + m * size := Nat.add_mul _ _ _
  have hle : (n + m) * size ≤ cap * size := Nat.mul_le_mul_right _ hroom
  have hsz := size_setCells g news (off + n * size) w
  have hfree' : ∀ j, j < cap * size → ((w.setCells g (off + n * size) news).cell? ⟨g, off + j, none⟩).isSome = true ∧ (w.setCells g (off + n * size) news).frozen? ⟨g, off + j, none⟩ = false := by
    intro j hj
    refine ⟨?_, by rw [World.frozen?_setCells]; exact (hfree j hj).2⟩
    by_cases hin : n * size ≤ j ∧ j < n * size + m * size
    · obtain ⟨i, rfl⟩ : ∃ i, j = n * size + i := ⟨j - n * size, by omega⟩
      have := World.cell?_setCells_in g news (off + n * size) w (fun i hi => by rw [Nat.add_assoc]; exact (hfree (n * size + i) (by omega)).1) i (by omega)
      rw [← Nat.add_assoc, this]
      rfl
    · rw [World.cell?_setCells_out g news (off + n * size) w ⟨g, off + j, none⟩ (fun _ _ => by simp only; omega)]
      exact (hfree j hj).1
  have hold : ∀ j, j < n * size → (w.setCells g (off + n * size) news).cell? ⟨g, off + j, none⟩ = xs[j]? := by
    intro j hj
    rw [World.cell?_setCells_out g news (off + n * size) w ⟨g, off + j, none⟩ (fun _ _ => by simp only; omega)]
    exact hcell j hj
  refine ⟨h, ⟨by rw [List.length_append, h.1, hl, hmul], .inr ⟨g, off, cap, rfl, hbg, by omega, hroom, hcm, hfree', fun j hj => ?_⟩⟩, ⟨h.1, .inr ⟨g, off, cap, rfl, hbg, by omega, hnc, hcm, hfree', hold⟩⟩, ?_, .inl ⟨_, _, rfl, rfl, by omega⟩⟩
  · by_cases hj' : j < n * size
    · rw [hold j hj', List.getElem?_append_left (by rw [h.1]; exact hj')]
    · obtain ⟨i, rfl⟩ : ∃ i, j = n * size + i := ⟨j - n * size, by omega⟩
      have := World.cell?_setCells_in g news (off + n * size) w (fun i hi => by rw [Nat.add_assoc]; exact (hfree (n * size + i) (by omega)).1) i (by omega)
      rw [← Nat.add_assoc, this, List.getElem?_append_right (by rw [h.1]; omega), h.1, Nat.add_sub_cancel_left, List.getElem?_eq_getElem (by omega)]
  · exact grownBy_setCells g news (off + n * size) w

/-- A new row was made. -/
theorem Ext.fresh {w w' : World} {base size n m : Nat} {v v' : Value} {xs news : List Value} {e : TypeId} (h : Sl w base size v n xs) (hown : w'.ownsRow w.heap.size e size v' (n + m) (xs ++ news)) (hg : w.grownBy w' none) (hbase : base ≤ w.heap.size) :
    Ext base size w v n xs w' v' (n + m) (xs ++ news) :=
  ⟨h, (Sl.of_owns hown).mono hbase, h.same hg.size (fun k hk => hg.block k (h.lt k hk).2 (by simp)), ⟨hg.os, hg.tape, hg.output, hg.size, fun k hk _ => hg.block k hk (by simp)⟩, .inr fun k hk => (hown.lt k hk).1⟩

theorem run_append_sl (w : World) (base : Nat) (t ty e : TypeId) (i : TypeInfo) (z : Value) (size bytes : Nat) (ht : P.underlying t = some (.slice e)) (hi : P.info? e = some i) (hz : i.zero = some z)
    (hsize : i.size = size) (hby : i.bytes = bytes) (hzs : z.cells.size = size) (hsz : 0 < size)
    (v : Value) (n : Nat) (xs : List Value) (hown : Sl w base size v n xs)
    (a : Addr) (m c : Nat) (news : List Value) (hl : news.length = m * size) (hnews : ∀ j u, news[j]? = some u → w.cell? (a.add j) = some u) (h1 : ∀ u ∈ news, u.oneCell' = true)
    (h63 : n + m ≤ maxLen) (hbytes : (n + m) * bytes ≤ 140737488355328) (hbase : base ≤ w.heap.size) :
    ∃ v' w', (Builtin.append_ #[t, t] ty #[v, .slice (some a) m c]).run P w = .ok v' w' ∧ Ext base size w v n xs w' v' (n + m) (xs ++ news) := by
  subst hsize
  rcases hown.2 with ⟨rfl, rfl⟩ | ⟨g, off, cap, rfl, hbg, hg, hnc, hcm, hfree, hcell⟩
  · have hx : xs = [] := List.eq_nil_of_length_eq_zero (by simpa using hown.1)
    subst hx
    obtain ⟨v', w', hr, h2, h3, h4⟩ := run_append_own (P := P) w w.heap.size t ty e i z i.size bytes ht hi hz rfl hby hzs hsz (.slice none 0 0) 0 [] (World.ownsRow_nil w _ e i.size) a m c news hl hnews h1 h63 hbytes (Nat.le_refl _)
    exact ⟨v', w', hr, Ext.fresh (e := e) hown h2 h3 hbase⟩
  · by_cases hroom : n + m ≤ cap
    · have hmul : (n + m) * i.size = n * i.size + m * i.size := Nat.add_mul _ _ _
      have hle : (n + m) * i.size ≤ cap * i.size := Nat.mul_le_mul_right _ hroom
      have hr := run_append_room_cells (P := P) w t ty e i ht hi g off n cap a m c news hl hnews h1 hroom (fun j hj => by rw [Nat.add_assoc]; exact (hfree _ (by omega)).1) (fun j hj => by rw [Nat.add_assoc]; exact (hfree _ (by omega)).2)
      exact ⟨_, _, hr, Ext.stored hown hl hroom⟩
    · obtain ⟨v', w', hr, h2, h3⟩ := run_append_arg_grows (P := P) w t ty e i z i.size bytes ht hi hz rfl hby hzs hsz ⟨g, off, none⟩ n cap xs hown.1 hown.cells a m c news hl hnews (by omega) h63 hbytes
      exact ⟨v', w', hr, Ext.fresh (e := e) hown h2 h3 hbase⟩

/-- 'append(v, x..)', for the walk. -/
theorem wpList_append_sl (w : World) {ops : Array Oper} {rest : List Oper} {o : Oper} {a : Act} {Q : Exit → Act → World → Prop} (hgd : o.guard = none) (s x : Operand) (t : TypeId)
    (ho : o.op = .call { callee := .builtin .append, args := #[s, x], argTypes := #[t, t] })
    (base : Nat) (e : TypeId) (i : TypeInfo) (z : Value) (size bytes : Nat) (ht : P.underlying t = some (.slice e)) (hi : P.info? e = some i) (hz : i.zero = some z)
    (hsize : i.size = size) (hby : i.bytes = bytes) (hzs : z.cells.size = size) (hsz : 0 < size)
    (v : Value) (n : Nat) (xs : List Value) (hs : a.eval s = v) (hown : Sl w base size v n xs)
    (ad : Addr) (m c : Nat) (news : List Value) (hx : a.eval x = .slice (some ad) m c) (hl : news.length = m * size) (hnews : ∀ j u, news[j]? = some u → w.cell? (ad.add j) = some u) (h1 : ∀ u ∈ news, u.oneCell' = true)
    (h63 : n + m ≤ maxLen) (hbytes : (n + m) * bytes ≤ 140737488355328) (hbase : base ≤ w.heap.size)
    (h : ∀ v' w', Ext base size w v n xs w' v' (n + m) (xs ++ news) → wpList P ops Q rest (a.put o.dst v') w') : wpList P ops Q (o :: rest) a w := by
  refine wpList_plain hgd fun K hK => ?_
  obtain ⟨v', w', hr, h2⟩ := run_append_sl (P := P) w base t o.type e i z size bytes ht hi hz hsize hby hzs hsz v n xs hown ad m c news hl hnews h1 h63 hbytes hbase
  unfold Oper.wp execOp
  simp only [ho, resolve, invoke, builtin, Sem.run_bind, Sem.run_pure, Result.andThen_ok, List.map_toArray, List.map_cons, List.map_nil, hs, hx, hr]
  exact hK _ _ (h v' w' h2)

theorem run_append_sl_string (w : World) (base : Nat) (t u ty e : TypeId) (i : TypeInfo) (ht : P.underlying t = some (.slice e)) (hu : P.underlying u = some .string) (hi : P.info? e = some i) (hz : i.zero = some (.int .u8 0))
    (hsize : i.size = 1) (hby : i.bytes = 1)
    (v : Value) (n : Nat) (xs : List Value) (hown : Sl w base 1 v n xs) (s : ByteArray)
    (h63 : n + s.size ≤ maxLen) (hbytes : n + s.size ≤ 140737488355328) (hbase : base ≤ w.heap.size) :
    ∃ v' w', (Builtin.append_ #[t, u] ty #[v, .string s]).run P w = .ok v' w' ∧ Ext base 1 w v n xs w' v' (n + s.size) (xs ++ strCells s) := by
  have hsmall : n + s.size ≤ 9223372036854775807 := by simp only [maxLen] at h63; omega
  have hxl : xs.length = n := by simpa using hown.1
  rcases hown.2 with ⟨rfl, rfl⟩ | ⟨g, off, cap, rfl, hbg, hg, hnc, hcm, hfree, hcell⟩
  · have hx : xs = [] := List.eq_nil_of_length_eq_zero (by simpa using hown.1)
    subst hx
    obtain ⟨v', w', hr, h2, h3, h4⟩ := run_append_own_string (P := P) w w.heap.size t u ty e i ht hu hi hz hsize hby (.slice none 0 0) 0 [] (World.ownsRow_nil w _ e 1) s h63 hbytes (Nat.le_refl _)
    exact ⟨v', w', hr, Ext.fresh (e := e) hown h2 h3 hbase⟩
  · by_cases hroom : n + s.size ≤ cap
    · have hf := run_firstCells_string (P := P) w 1 s
      have hst := run_storeCells_cells (P := P) g (off + n) (strCells s) 0 w (fun j hj => by rw [strCells_length] at hj; rw [Nat.add_zero, Nat.add_assoc]; exact (hfree _ (by omega)).1) (fun j hj => by rw [strCells_length] at hj; rw [Nat.add_zero, Nat.add_assoc]; exact (hfree _ (by omega)).2) (strCells_oneCell s)
      simp only [Nat.add_zero] at hst
      have hr : (Builtin.append_ #[t, u] ty #[.slice (some ⟨g, off, none⟩) n cap, .string s]).run P w = .ok (.slice (some ⟨g, off, none⟩) (n + s.size) cap) (w.setCells g (off + n) (strCells s)) := by
        simp [Builtin.append_, run_underlying ht, run_underlying hu, sizeOf, typeInfo, hi, hsize, Builtin.lenOf, hroom, hf, Addr.add_lit, hst]
      have := Ext.stored (m := s.size) hown (by rw [strCells_length, Nat.mul_one]) hroom
      rw [Nat.mul_one] at this
      exact ⟨_, _, hr, this⟩
    · have hlen : (xs ++ strCells s).length = (n + s.size) * 1 := by rw [List.length_append, hxl, strCells_length, Nat.mul_one]
      have hge := grownCap_ge w (n + s.size) cap e
      have hcm' : grownCap w (n + s.size) cap e ≤ maxLen := grownCap_le_maxLen w (n + s.size) cap e h63
      have hr := run_append_grow_string (P := P) w t u ty e i (.int .u8 0) ht hu hi hz ⟨g, off, none⟩ n cap xs (by rw [hsize]; simpa using hxl) hown.cells s (by omega) (by omega) (by rw [hby]; exact growslice_fits (by omega) (by omega))
      refine ⟨_, _, hr, Ext.fresh (e := e) hown ⟨hlen, .inr ⟨w.heap.size, _, _, rfl, Nat.le_refl _, heap_alloc_new w.drew _, hge, hcm', ?_, ?_⟩⟩ ⟨rfl, rfl, rfl, by simp, fun k hk _ => Below.heap_alloc w.drew _ k hk⟩ hbase⟩
      · have hz1 : (Value.int IntKind.u8 0).cells.size = 1 := rfl
        simp only [Array.size_append, List.size_toArray, size_zeroCells, hz1, hxl, strCells_length]
        omega
      · simp only [Array.toList_append, List.append_assoc]
        rw [← List.append_assoc, ← hlen]
        exact List.take_left

/-- 'append(v, s...)', s a text, for the walk. -/
theorem wpList_append_sl_string (w : World) {ops : Array Oper} {rest : List Oper} {o : Oper} {a : Act} {Q : Exit → Act → World → Prop} (hgd : o.guard = none) (sl x : Operand) (t u : TypeId)
    (ho : o.op = .call { callee := .builtin .append, args := #[sl, x], argTypes := #[t, u] })
    (base : Nat) (e : TypeId) (i : TypeInfo) (ht : P.underlying t = some (.slice e)) (hu : P.underlying u = some .string) (hi : P.info? e = some i) (hz : i.zero = some (.int .u8 0))
    (hsize : i.size = 1) (hby : i.bytes = 1)
    (v : Value) (n : Nat) (xs : List Value) (hs : a.eval sl = v) (hown : Sl w base 1 v n xs) (s : ByteArray) (hx : a.eval x = .string s)
    (h63 : n + s.size ≤ maxLen) (hbytes : n + s.size ≤ 140737488355328) (hbase : base ≤ w.heap.size)
    (h : ∀ v' w', Ext base 1 w v n xs w' v' (n + s.size) (xs ++ strCells s) → wpList P ops Q rest (a.put o.dst v') w') : wpList P ops Q (o :: rest) a w := by
  refine wpList_plain hgd fun K hK => ?_
  obtain ⟨v', w', hr, h2⟩ := run_append_sl_string (P := P) w base t u o.type e i ht hu hi hz hsize hby v n xs hown s h63 hbytes hbase
  unfold Oper.wp execOp
  simp only [ho, resolve, invoke, builtin, Sem.run_bind, Sem.run_pure, Result.andThen_ok, List.map_toArray, List.map_cons, List.map_nil, hs, hx, hr]
  exact hK _ _ (h v' w' h2)

/-- '[]byte(s)': what it leaves. -/
theorem Sl.of_text (w : World) (e : TypeId) (s : ByteArray) (hs : s.size ≤ maxLen) :
    Sl (w.drew.alloc (.cells (bytesRow s (grownCap w s.size 0 e)) e ((bytesRow s (grownCap w s.size 0 e)).size, (bytesRow s (grownCap w s.size 0 e)).size + 1))) w.heap.size 1 (.slice (some ⟨w.heap.size, 0, none⟩) s.size (grownCap w s.size 0 e)) s.size (strCells s) := by
  have hge := grownCap_ge w s.size 0 e
  have hcm : grownCap w s.size 0 e ≤ maxLen := grownCap_le_maxLen w s.size 0 e hs
  generalize grownCap w s.size 0 e = cap at *
  have hsz : (bytesRow s cap).size = cap := by
    simp only [bytesRow, Array.size_append, Array.size_map, Array.size_replicate]
    have : s.data.size = s.size := rfl
    omega
  have hblk : (w.drew.alloc (.cells (bytesRow s cap) e ((bytesRow s cap).size, (bytesRow s cap).size + 1))).heap[w.heap.size]? = some (.cells (bytesRow s cap) e ((bytesRow s cap).size, (bytesRow s cap).size + 1)) := heap_alloc_new w.drew _
  refine ⟨by rw [strCells_length, Nat.mul_one], .inr ⟨w.heap.size, 0, cap, rfl, Nat.le_refl _, by simp, hge, hcm, fun j hj => ⟨?_, ?_⟩, fun j hj => ?_⟩⟩
  · rw [cell_of_row _ _ (0 + j) _ _ _ hblk, Array.getElem?_eq_getElem (by omega)]
    rfl
  · have : ∀ W : World, W.heap[w.heap.size]? = some (.cells (bytesRow s cap) e ((bytesRow s cap).size, (bytesRow s cap).size + 1)) → W.frozen? ⟨w.heap.size, 0 + j, none⟩ = false := fun W hW => by
      simp only [World.frozen?, hW, hsz]
      simp
      omega
    exact this _ hblk
  · rw [cell_of_row _ _ (0 + j) _ _ _ hblk, Nat.zero_add]
    have hj' : j < s.size := by omega
    have hj2 : j < (s.data.map fun b => Value.int IntKind.u8 b.toNat).size := by
      have : s.data.size = s.size := rfl
      simp only [Array.size_map]; omega
    rw [bytesRow, Array.getElem?_append_left hj2]
    simp [strCells]

/-- The cells of bytes. -/
def cb (l : List UInt8) : List Value := l.map fun b => Value.int .u8 b.toNat
theorem cb_length (l : List UInt8) : (cb l).length = l.length := by simp [cb]
theorem cb_append (l m : List UInt8) : cb (l ++ m) = cb l ++ cb m := by simp [cb]
theorem strCells_eq (s : ByteArray) : strCells s = cb s.data.toList := rfl

/-- The first elements of bytes alone. -/
theorem Sl.cut {w : World} {base g off n m cap : Nat} {l : List UInt8} (h : Sl w base 1 (.slice (some ⟨g, off, none⟩) n cap) n (cb l)) (hm : m ≤ n) : Sl w base 1 (.slice (some ⟨g, off, none⟩) m cap) m (cb (l.take m)) := by
  have hl : l.length = n := by have := h.1; rw [cb_length] at this; omega
  rcases h.2 with ⟨h0, _⟩ | ⟨g', off', cap', he, hbg, hg, hnc, hcm, hfree, hcell⟩
  · cases h0
  · cases he
    refine ⟨by rw [cb_length, List.length_take]; omega, .inr ⟨g, off, cap, rfl, hbg, hg, by omega, hcm, hfree, fun j hj => ?_⟩⟩
    rw [hcell j (by omega)]
    simp only [cb, List.getElem?_map, List.getElem?_take]
    rw [if_pos (by omega)]

/-- What v's memory says stays, where all old blocks stay. -/
theorem Sl.on {w w' : World} {base size : Nat} {v : Value} {n : Nat} {xs : List Value} (h : Sl w base size v n xs) (hb : Below w.heap.size w w') : Sl w' base size v n xs :=
  h.below hb fun k hk => (h.lt k hk).2

/-- 'string(v)', v bytes: at whatever conversion to a text. -/
theorem run_text_of_sl (w : World) (base : Nat) (src dst e : TypeId) (hs : P.underlying src = some (.slice e)) (he : P.underlying e = some (.int .u8)) (hd : P.underlying dst = some .string)
    (v : Value) (n : Nat) (l : List UInt8) (h : Sl w base 1 v n (cb l)) : (convert src dst v).run P w = .ok (.string ⟨l.toArray⟩) w := by
  have hn : l.length = n := by have := h.1; rw [cb_length] at this; omega
  subst hn
  rcases h.2 with ⟨rfl, h0⟩ | ⟨g, off, cap, rfl, _, _, _, _, _, hcell⟩
  · have : l = [] := List.eq_nil_of_length_eq_zero h0
    subst this
    exact run_convert_bytes_nil w src e hs he 0 0 dst hd
  · refine run_convert_bytes_back w src dst e _ cap l hs he hd fun j hj => ?_
    rw [Addr.add_lit, hcell j (by omega)]
    simp [cb, List.getElem?_eq_getElem hj]
end

theorem bd_u64 {x : Int} (h : (Lit.int .u64 x).wf = true) : 0 ≤ x ∧ x < 18446744073709551616 := by
  simp [Lit.wf, IntKind.min, IntKind.max, IntKind.signed, IntKind.bits] at h
  omega
theorem bd_i64 {x : Int} (h : (Lit.int .i64 x).wf = true) : -9223372036854775808 ≤ x ∧ x ≤ 9223372036854775807 := by
  simp [Lit.wf, IntKind.min, IntKind.max, IntKind.signed, IntKind.bits] at h
  omega
theorem bd_u8 {x : Int} (h : (Lit.int .u8 x).wf = true) : 0 ≤ x ∧ x < 256 := by
  simp [Lit.wf, IntKind.min, IntKind.max, IntKind.signed, IntKind.bits] at h
  omega
theorem bd_u32 {x : Int} (h : (Lit.int .u32 x).wf = true) : 0 ≤ x ∧ x < 4294967296 := by
  simp [Lit.wf, IntKind.min, IntKind.max, IntKind.signed, IntKind.bits] at h
  omega

#print axioms run_append_sl
#print axioms run_append_sl_string
#print axioms run_text_of_sl
#print axioms Sl.of_text
end Go.Proofs.YtobdlfikomnmcaaGreatDoor

namespace Go.Proofs.YtobdlfikomnmcaaGreatDoor
open Go.RowKit Go.Lib

section
variable {P : Program}
/-- 'make([]T, l, c)', one cell an element. -/
theorem run_make_sl (w : World) (t e : TypeId) (i : TypeInfo) (z : Value) (ht : P.underlying t = some (.slice e)) (hi : P.info? e = some i) (hz : i.zero = some z) (hs1 : i.size = 1)
    (kl kc : IntKind) (l c : Int) (h0 : 0 ≤ l) (hlc : l ≤ c) (hbytes : (i.bytes : Int) * c ≤ 281474976710656) (h63 : c ≤ 9223372036854775807) :
    ∃ w' xs, (Instr.makeSlice t (.int kl l) (.int kc c)).run P w = .ok (.slice (some ⟨w.heap.size, 0, none⟩) l.toNat c.toNat) w' ∧ Sl w' w.heap.size 1 (.slice (some ⟨w.heap.size, 0, none⟩) l.toNat c.toNat) l.toNat xs ∧ w.grownBy w' none := by
  have hr := run_make (P := P) w t e i z ht hi hz kl kc l c h0 hlc hbytes h63
  have hsz : (madeCells z.cells (c.toNat * i.size)).size = c.toNat := by rw [size_madeCells, hs1, Nat.mul_one]
  have hown := World.ownsRow_made (e := e) (size := 1) w (madeCells z.cells (c.toNat * i.size)) c.toNat (Nat.le_refl _) (by unfold maxLen; omega) (by rw [hsz, Nat.mul_one])
  have hs0 := Sl.of_owns hown
  refine ⟨_, (madeCells z.cells (c.toNat * i.size)).toList.take l.toNat, hr, ⟨?_, .inr ⟨w.heap.size, 0, c.toNat, rfl, Nat.le_refl _, by simp, by omega, by unfold maxLen; omega, ?_, ?_⟩⟩, World.grownBy_alloc w _ none⟩
  · rw [List.length_take, Array.length_toList, hsz]; omega
  · rcases hs0.2 with ⟨h, _⟩ | ⟨g', off', cap', he, _, _, _, _, hfree, _⟩
    · cases h
    · cases he
      exact hfree
  · intro j hj
    rw [cell_of_row _ _ (0 + j) _ _ _ (heap_alloc_new w _), Nat.zero_add, List.getElem?_take, if_pos (by omega)]
    simp

theorem wpList_make_sl (w : World) {ops : Array Oper} {rest : List Oper} {o : Oper} {a : Act} {Q : Exit → Act → World → Prop} (hgd : o.guard = none) (l c : Operand) (t : TypeId) (ho : o.op = Op.makeSlice t l c)
    (e : TypeId) (i : TypeInfo) (z : Value) (ht : P.underlying t = some (.slice e)) (hi : P.info? e = some i) (hz : i.zero = some z) (hs1 : i.size = 1) (hb1 : i.bytes = 1)
    (kl kc : IntKind) (L C : Int) (hl : a.eval l = .int kl L) (hc : a.eval c = .int kc C) (G n m : Nat) (hG : w.heap.size = G) (hL : L = (n : Int)) (hC : C = (m : Int)) (hlc : n ≤ m) (hbytes : m ≤ 140737488355328)
    (h : ∀ w' xs, Sl w' G 1 (.slice (some ⟨G, 0, none⟩) n m) n xs → w.grownBy w' none → G < w'.heap.size → wpList P ops Q rest (a.put o.dst (.slice (some ⟨G, 0, none⟩) n m)) w') : wpList P ops Q (o :: rest) a w := by
  subst hG; subst hL; subst hC
  refine wpList_plain hgd fun K hK => ?_
  obtain ⟨w', xs, hr, h2, h3⟩ := run_make_sl (P := P) w t e i z ht hi hz hs1 kl kc n m (by omega) (by omega) (by rw [hb1]; omega) (by omega)
  rw [Int.toNat_natCast, Int.toNat_natCast] at hr h2
  unfold Oper.wp
  simp [execOp, ho, hl, hc, hr, Result.andThen]
  exact hK _ _ (h w' xs h2 h3 (h2.lt _ rfl).2)

/-- 'copy(d, s)', as many elements in s as in d, one cell each. -/
theorem run_copy_sl (w : World) (dT sT ty elem : TypeId) (hu : P.underlying dT = some (.slice elem)) (hsz : (P.info? elem).map (·.size) = some 1)
    (base b2 g off n cap : Nat) (s : Value) (xs ys : List Value) (hd : Sl w base 1 (.slice (some ⟨g, off, none⟩) n cap) n xs) (hs : Sl w b2 1 s n ys) (h1 : ∀ v ∈ ys, v.oneCell' = true) :
    ∃ w', (Builtin.copy_ #[dT, sT] ty #[.slice (some ⟨g, off, none⟩) n cap, s]).run P w = .ok (goInt n) w' ∧ Sl w' base 1 (.slice (some ⟨g, off, none⟩) n cap) n ys ∧ w.grownBy w' (some g) := by
  have hyl : ys.length = n := by have := hs.1; omega
  rcases hs.2 with ⟨rfl, rfl⟩ | ⟨g2, off2, cap2, rfl, _, _, _, _, _, _⟩
  · have hy : ys = [] := List.eq_nil_of_length_eq_zero hyl
    subst hy
    have hr := run_copy_none (P := P) w dT sT ty elem (some ⟨g, off, none⟩) none 0 cap 0 0 hu hsz rfl
    have hx : xs = [] := List.eq_nil_of_length_eq_zero (by have := hd.1; omega)
    subst hx
    exact ⟨w, hr, hd, World.grownBy.refl _ _⟩
  · rcases hd.2 with ⟨h, _⟩ | ⟨g1, off1, cap1, he, hb1, hg1, hn1, hc1, hfree1, hcell1⟩
    · cases h
    cases he
    have hr := run_copy_cells (P := P) w dT sT ty elem g off n cap ⟨g2, off2, none⟩ n cap2 ys hu hsz (by rw [hyl]; exact (Nat.min_self n).symm) hs.cells
      (fun j hj => (hfree1 j (by omega)).1) (fun j hj => (hfree1 j (by omega)).2) h1
    rw [hyl] at hr
    refine ⟨_, hr, ⟨by omega, .inr ⟨g, off, cap, rfl, hb1, by rw [size_setCells]; exact hg1, hn1, hc1, fun j hj => ⟨?_, ?_⟩, fun j hj => ?_⟩⟩, grownBy_setCells g ys off w⟩
    · by_cases hj' : j < ys.length
      · rw [World.cell?_setCells_in g ys off w (fun i hi => (hfree1 i (by omega)).1) j hj']; rfl
      · rw [World.cell?_setCells_out g ys off w ⟨g, off + j, none⟩ (fun _ _ => by simp only; omega)]
        exact (hfree1 j hj).1
    · rw [World.frozen?_setCells]; exact (hfree1 j hj).2
    · rw [World.cell?_setCells_in g ys off w (fun i hi => (hfree1 i (by omega)).1) j (by omega), List.getElem?_eq_getElem (by omega)]

theorem wpList_copy_sl (w : World) {ops : Array Oper} {rest : List Oper} {o : Oper} {a : Act} {Q : Exit → Act → World → Prop} (hgd : o.guard = none) (d s : Operand) (dT sT : TypeId)
    (ho : o.op = .call { callee := .builtin .copy, args := #[d, s], argTypes := #[dT, sT] }) (elem : TypeId) (hu : P.underlying dT = some (.slice elem)) (hsz : (P.info? elem).map (·.size) = some 1)
    (base b2 g off n cap : Nat) (sv : Value) (xs ys : List Value) (hdv : a.eval d = .slice (some ⟨g, off, none⟩) n cap) (hsv : a.eval s = sv) (hd : Sl w base 1 (.slice (some ⟨g, off, none⟩) n cap) n xs) (hs : Sl w b2 1 sv n ys) (h1 : ∀ v ∈ ys, v.oneCell' = true)
    (h : ∀ w', Sl w' base 1 (.slice (some ⟨g, off, none⟩) n cap) n ys → w.grownBy w' (some g) → wpList P ops Q rest (a.put o.dst (goInt n)) w') : wpList P ops Q (o :: rest) a w := by
  refine wpList_plain hgd fun K hK => ?_
  obtain ⟨w', hr, h2, h3⟩ := run_copy_sl (P := P) w dT sT o.type elem hu hsz base b2 g off n cap sv xs ys hd hs h1
  unfold Oper.wp
  simp [execOp, ho, resolve, invoke, builtin, hdv, hsv, hr, Result.andThen]
  exact hK _ _ (h w' h2 h3)
end

theorem cb_one (l : List UInt8) : ∀ v ∈ cb l, v.oneCell' = true := by
  intro v hv
  simp only [cb, List.mem_map] at hv
  obtain ⟨b, _, rfl⟩ := hv
  rfl

/-- A new block of two cells, and what lies below the next one is as it was: its cells. -/
theorem box_at {w W : World} {x y : Value} {t : TypeId} (h : Below (w.heap.size + 1) (w.alloc (.cells #[x, y] t)) W) : W.cell? ⟨w.heap.size, 0, none⟩ = some x ∧ W.cell? ⟨w.heap.size, 1, none⟩ = some y := by
  have hblk := heap_alloc_new w (.cells #[x, y] t)
  constructor
  · rw [h.cell (p := ⟨w.heap.size, 0, none⟩) (by simp), cell_of_row _ _ 0 _ _ _ hblk]; rfl
  · rw [h.cell (p := ⟨w.heap.size, 1, none⟩) (by simp), cell_of_row _ _ 1 _ _ _ hblk]; rfl

theorem below_rowed {B : Nat} {a w w' : World} {row : Option Nat} (h : Below B a w) (hg : w.grownBy w' row) (hB : B ≤ a.heap.size) (hr : ∀ k, row = some k → B ≤ k) : Below B a w' :=
  h.grown hg (Nat.le_trans hB h.size) hr

end Go.Proofs.YtobdlfikomnmcaaGreatDoor

namespace Go.Proofs.YtobdlfikomnmcaaGreatDoor
open Go.RowKit Go.Lib

theorem bi_u8 : (Tryz.prog.info? 5).map (fun i => (i.zero, i.size, i.bytes)) = some (some (.int .u8 0), 1, 1) := by kernel_rfl

/-- A text of bytes. -/
def bs (l : List UInt8) : ByteArray := ⟨l.toArray⟩
theorem bs_list (l : List UInt8) : (bs l).data.toList = l := rfl
theorem bs_size (l : List UInt8) : (bs l).size = l.length := by simp [bs, ByteArray.size]
theorem bs_of (s : ByteArray) : bs s.data.toList = s := rfl
theorem bs_append (a b : List UInt8) : bs a ++ bs b = bs (a ++ b) := ByteArray.mk_append_mk a b
theorem bs_size_le (l : List UInt8) (n : Nat) (h : l.length ≤ n) : (bs l).size ≤ n := by rw [bs_size]; exact h
theorem bs_toList (l : List UInt8) : (bs l).toList = l := by rw [ByteArray.toList_eq]; rfl

theorem list_at (s : ByteArray) (k : Nat) (h : k < s.size) : s.data.toList.drop k = s[k] :: s.data.toList.drop (k + 1) := by
  have h' : k < s.data.toList.length := by simpa using h
  rw [List.drop_eq_getElem_cons h']
  rfl
theorem extract_bs (s : ByteArray) (k : Nat) : s.extract k s.size = bs (s.data.toList.drop k) := by
  have h1 : s = ByteArray.mk s.data.toList.toArray := by rw [Array.toArray_toList]
  have h2 : s.size = s.data.toList.length := by rw [Array.length_toList]; rfl
  rw [h2]
  conv => lhs; rw [h1]
  rw [ByteArray.extract_mk, bs, List.take_of_length_le (by simp)]
theorem extract_bs0 (s : ByteArray) (k : Nat) : s.extract 0 k = bs (s.data.toList.take k) := by
  have h1 : s = ByteArray.mk s.data.toList.toArray := by rw [Array.toArray_toList]
  conv => lhs; rw [h1]
  rw [ByteArray.extract_mk, bs, List.drop_zero, Nat.sub_zero]
theorem bs_take (r : List UInt8) (u : Nat) : (bs r).extract 0 u = bs (r.take u) := by rw [extract_bs0, bs_list]
theorem bs_drop (r : List UInt8) (u : Nat) : (bs r).extract u (bs r).size = bs (r.drop u) := by rw [extract_bs, bs_list]

theorem text_conv {w : World} {base n : Nat} {v : Value} {l : List UInt8} (h : Sl w base 1 v n (cb l)) : (convert 71 9 v).run Tryz.prog w = .ok (.string (bs l)) w :=
  run_text_of_sl w base 71 9 5 Tryz.underlying71 Tryz.underlying5 Tryz.underlying9 v n l h

theorem below_draw {B : Nat} {a w : World} (h : Below B a w) (n : Nat) : Below B a (w.drewN n) := h.trans ⟨rfl, rfl, rfl, Nat.le_refl _, fun _ _ => rfl⟩
theorem below_step {a w w' : World} (h : Below a.heap.size a w) (k : Below w.heap.size w w') : Below a.heap.size a w' := h.trans (k.mono h.size)

/-- At most n bytes. -/
def cutB (s : ByteArray) (n : Nat) : ByteArray := if n < s.size then s.extract 0 n else s

theorem cut_any (s : ByteArray) (n : Int) (w : World) (hn : 0 ≤ n) :
    Calls Tryz.prog 4 #[.string s, .int .i64 n] w fun e w' => e = .returned (.string (cutB s n.toNat)) ∧ w = w' := by
  by_cases h : n < s.size
  · have hc : cutB s n.toNat = s.extract 0 n.toNat := by unfold cutB; rw [if_pos (by omega)]
    have HC := Lib.hid hc; clear hc
    go_enter Tryz.func4, Tryz.ntmps4
    go_wp2
    go_ret
    exact ⟨by rw [HC.out]; rfl, rfl⟩
  · have hc : cutB s n.toNat = s := by unfold cutB; rw [if_neg (by omega)]
    have HC := Lib.hid hc; clear hc
    go_enter Tryz.func4, Tryz.ntmps4
    go_wp2
    go_ret
    exact ⟨by rw [HC.out]; rfl, rfl⟩
theorem cut_is (s : ByteArray) (l : List UInt8) (n : Int) (m : Nat) (hn : n = m) (hl : cutB s m = bs l) (w : World) :
    Calls Tryz.prog 4 #[.string s, .int .i64 n] w fun e w' => e = .returned (.string (bs l)) ∧ w = w' := by
  subst hn
  have := cut_any s m w (by omega)
  rw [Int.toNat_natCast, hl] at this
  exact this
theorem cut_list (s : ByteArray) (m : Nat) : ∃ l, cutB s m = bs l ∧ l.length ≤ m := by
  refine ⟨(cutB s m).data.toList, (bs_of _).symm, ?_⟩
  have h : (cutB s m).data.toList.length = (cutB s m).size := by rw [Array.length_toList]; rfl
  rw [h]
  unfold cutB
  split
  · rw [ByteArray.size_extract]; omega
  · omega

/-- Memory below block B, but for block r, is as it was. -/
structure Keep (B r : Nat) (w w' : World) : Prop where
  os : w'.os = w.os
  tape : w'.tape = w.tape
  output : w'.output = w.output
  size : w.heap.size ≤ w'.heap.size
  block : ∀ k, k < B → k ≠ r → w'.heap[k]? = w.heap[k]?

theorem Keep.refl (B r : Nat) (w : World) : Keep B r w w := ⟨rfl, rfl, rfl, Nat.le_refl _, fun _ _ _ => rfl⟩
theorem Keep.trans {B r : Nat} {a b c : World} (h : Keep B r a b) (k : Keep B r b c) : Keep B r a c :=
  ⟨k.os.trans h.os, k.tape.trans h.tape, k.output.trans h.output, Nat.le_trans h.size k.size, fun i hi hr => (k.block i hi hr).trans (h.block i hi hr)⟩
theorem Keep.mono {B B' r : Nat} {w w' : World} (h : Keep B r w w') (hB : B' ≤ B) : Keep B' r w w' := ⟨h.os, h.tape, h.output, h.size, fun k hk hr => h.block k (Nat.lt_of_lt_of_le hk hB) hr⟩
theorem Keep.drew {B r : Nat} {a w : World} (h : Keep B r a w) : Keep B r a w.drew := ⟨h.os, h.tape, h.output, h.size, h.block⟩
theorem Keep.drewN {B r : Nat} {a w : World} (h : Keep B r a w) (n : Nat) : Keep B r a (w.drewN n) := h.trans ⟨rfl, rfl, rfl, Nat.le_refl _, fun _ _ _ => rfl⟩
theorem Keep.alloc {B r : Nat} {a w : World} (h : Keep B r a w) (hB : B ≤ w.heap.size) (o : Obj) : Keep B r a (w.alloc o) :=
  ⟨h.os, h.tape, h.output, by have := h.size; simp; omega, fun k hk hr => (Below.heap_alloc w o k (by omega)).trans (h.block k hk hr)⟩
theorem Keep.setCell {B r : Nat} {a w : World} (h : Keep B r a w) {p : Addr} (hp : B ≤ p.block ∨ p.block = r) (u : Value) : Keep B r a (w.setCell p u) :=
  ⟨h.os, h.tape, h.output, by have := h.size; simpa [World.setCell] using this, fun k hk hr => (Below.heap_setCell w p u k (by rcases hp with hp | hp <;> omega)).trans (h.block k hk hr)⟩
theorem Keep.grown {B r : Nat} {a w w' : World} {row : Option Nat} (h : Keep B r a w) (hg : w.grownBy w' row) (hB : B ≤ w.heap.size) (hr : ∀ k, row = some k → B ≤ k) : Keep B r a w' :=
  ⟨hg.os.trans h.os, hg.tape.trans h.tape, hg.output.trans h.output, Nat.le_trans h.size hg.size, fun k hk hkr => (hg.block k (by omega) (fun e => by have := hr k e.symm; omega)).trans (h.block k hk hkr)⟩
theorem Keep.below {B r : Nat} {w w' : World} (h : Keep B r w w') (hr : B ≤ r) : Below B w w' := ⟨h.os, h.tape, h.output, h.size, fun k hk => h.block k hk (by omega)⟩
theorem Keep.of_below {B r : Nat} {w w' : World} (h : Below B w w') : Keep B r w w' := ⟨h.os, h.tape, h.output, h.size, fun k hk _ => h.block k hk⟩
theorem Keep.cell {B r : Nat} {w w' : World} (h : Keep B r w w') {p : Addr} (hp : p.block < B) (hr : p.block ≠ r) : w'.cell? p = w.cell? p := World.cell?_of_block (w := w) (h.block p.block hp hr)
theorem Keep.frozen {B r : Nat} {w w' : World} (h : Keep B r w w') {p : Addr} (hp : p.block < B) (hr : p.block ≠ r) : w'.frozen? p = w.frozen? p := World.frozen?_of_block (w := w) (h.block p.block hp hr)
theorem below_keep {B r : Nat} {a w w' : World} (h : Below B a w) (k : Keep B r w w') (hr : B ≤ r) : Below B a w' := h.trans (k.below hr)

theorem Sl.keep {w w' : World} {B r base size : Nat} {v : Value} {n : Nat} {xs : List Value} (h : Sl w base size v n xs) (k : Keep B r w w') (hv : ∀ b, v.ownBlock = some b → b < B ∧ b ≠ r) : Sl w' base size v n xs :=
  h.same k.size fun b hb => k.block b (hv b hb).1 (hv b hb).2

theorem cell_setCell_same (w : World) (g o : Nat) (v : Value) (h : (w.cell? ⟨g, o, none⟩).isSome = true) : (w.setCell ⟨g, o, none⟩ v).cell? ⟨g, o, none⟩ = some v := by
  have hx : ∀ j, j < [v].length → (w.cell? ⟨g, o + j, none⟩).isSome = true := by
    intro j hj
    have : j = 0 := by simpa using hj
    subst this
    exact h
  exact World.cell?_setCells_in g [v] o w hx 0 (by simp)
theorem cell_setCell_other (w : World) (g o : Nat) (v : Value) (a : Addr) (h : a.block ≠ g ∨ a.off ≠ o) : (w.setCell ⟨g, o, none⟩ v).cell? a = w.cell? a := by
  have := World.cell?_setCells_out g [v] o w a (fun e h' => by
    simp only [List.length_singleton]
    rcases h with h | h
    · exact absurd e h
    · omega)
  exact this
theorem frozen_setCell (w : World) (g o : Nat) (v : Value) (a : Addr) : (w.setCell ⟨g, o, none⟩ v).frozen? a = w.frozen? a := World.frozen?_setCells g [v] o w a

theorem sl_cell {w : World} {base g off n cap : Nat} {l : List UInt8} (h : Sl w base 1 (.slice (some ⟨g, off, none⟩) n cap) n (cb l)) (j : Nat) (c : UInt8) (hj : l[j]? = some c) : w.cell? ⟨g, off + j, none⟩ = some (.int .u8 c.toNat) := by
  rcases h.2 with ⟨h0, _⟩ | ⟨g', off', cap', he, _, _, _, _, _, hcell⟩
  · cases h0
  · cases he
    have hlt : j < l.length := (List.getElem?_eq_some_iff.1 hj).1
    have hn : l.length = n := by have := h.1; rw [cb_length] at this; omega
    rw [hcell j (by omega)]
    simp [cb, hj]
theorem sl_set {w : World} {base g off n cap c : Nat} {l : List UInt8} (h : Sl w base 1 (.slice (some ⟨g, off, none⟩) n cap) n (cb l)) (v : UInt8) (hc : c < n) :
    Sl (w.setCell ⟨g, off + c, none⟩ (.int .u8 v.toNat)) base 1 (.slice (some ⟨g, off, none⟩) n cap) n (cb (l.set c v)) := by
  have hl : l.length = n := by have := h.1; rw [cb_length] at this; omega
  rcases h.2 with ⟨h0, _⟩ | ⟨g', off', cap', he, hbg, hg, hnc, hcm, hfree, hcell⟩
  · cases h0
  · cases he
    refine ⟨by rw [cb_length, List.length_set]; omega, .inr ⟨g, off, cap, rfl, hbg, by simpa [World.setCell] using hg, hnc, hcm, fun j hj => ⟨?_, ?_⟩, fun j hj => ?_⟩⟩
    · by_cases hj' : j = c
      · subst hj'
        rw [cell_setCell_same _ _ _ _ (hfree j hj).1]; rfl
      · rw [cell_setCell_other _ _ _ _ _ (.inr (by simp only; omega))]
        exact (hfree j hj).1
    · rw [frozen_setCell]
      exact (hfree j hj).2
    · by_cases hj' : j = c
      · subst hj'
        rw [cell_setCell_same _ _ _ _ (hfree j (by omega)).1]
        simp [cb, hl, hc]
      · rw [cell_setCell_other _ _ _ _ _ (.inr (by simp only; omega)), hcell j hj]
        simp [cb, Ne.symm hj']
/-- A cell elsewhere. -/
theorem sl_else {w : World} {base size n : Nat} {v : Value} {xs : List Value} (h : Sl w base size v n xs) (a : Addr) (u : Value) (ha : a.block < base) : Sl (w.setCell a u) base size v n xs :=
  h.same (by simp [World.setCell]) fun k hk => Below.heap_setCell w a u k (by have := (h.lt k hk).1; omega)
theorem Sl.somewhere {w : World} {base size : Nat} {v : Value} {n : Nat} {xs : List Value} (h : Sl w base size v n xs) (hn : 0 < n) : ∃ g off cap, v = .slice (some ⟨g, off, none⟩) n cap ∧ base ≤ g ∧ n ≤ cap ∧ cap ≤ maxLen := by
  rcases h.2 with ⟨_, h0⟩ | ⟨g, off, cap, rfl, hb, _, h1, h2, _⟩
  · omega
  · exact ⟨g, off, cap, rfl, hb, h1, h2⟩
end Go.Proofs.YtobdlfikomnmcaaGreatDoor
