/- Slices whose cells the program may write, as lists of cells: what an append, a conversion between texts and bytes, or a chain of appends leaves. No program's text. -/
import Derived.WalkKit
import Derived.Lib.AppendStr
import Derived.Lib.Hide
import Derived.Deep.Onto
namespace Go.Proofs.Ytkialkjhjenkhaa
open Go.RowKit Go.Lib

/-- v is a slice of n elements (each of so many cells), in memory from block base on that may be written as far as its capacity goes; its cells are xs. -/
def Sl (w : World) (base size : Nat) (v : Value) (n : Nat) (xs : List Value) : Prop :=
  xs.length = n * size ∧
  ((v = .slice none 0 0 ∧ n = 0) ∨
   ∃ g off cap, v = .slice (some ⟨g, off, none⟩) n cap ∧ base ≤ g ∧ g < w.heap.size ∧ n ≤ cap ∧ cap ≤ maxLen ∧
     (∀ j, j < cap * size → (w.cell? ⟨g, off + j, none⟩).isSome = true ∧ w.frozen? ⟨g, off + j, none⟩ = false) ∧
     (∀ j, j < n * size → w.cell? ⟨g, off + j, none⟩ = xs[j]?))

theorem Sl.nil (w : World) (base size : Nat) : Sl w base size (.slice none 0 0) 0 [] := ⟨by simp, .inl ⟨rfl, rfl⟩⟩

theorem Sl.mono {w : World} {base base' size : Nat} {v : Value} {n : Nat} {xs : List Value} (h : Sl w base size v n xs) (hb : base' ≤ base) : Sl w base' size v n xs :=
  ⟨h.1, h.2.imp id fun ⟨g, off, cap, h1, h2, h3⟩ => ⟨g, off, cap, h1, Nat.le_trans hb h2, h3⟩⟩

theorem Sl.lt {w : World} {base size : Nat} {v : Value} {n : Nat} {xs : List Value} (h : Sl w base size v n xs) : ∀ k, v.ownBlock = some k → base ≤ k ∧ k < w.heap.size := by
  intro k hk
  rcases h.2 with ⟨rfl, _⟩ | ⟨g, off, cap, rfl, hb, hg, _⟩
  · simp [Value.ownBlock] at hk
  · simp [Value.ownBlock] at hk
    subst hk
    exact ⟨hb, hg⟩

/-- What the memory of a block says, a world that has it alike says too. -/
theorem Sl.same {w w' : World} {base size : Nat} {v : Value} {n : Nat} {xs : List Value} (h : Sl w base size v n xs)
    (hs : w.heap.size ≤ w'.heap.size) (hb : ∀ k, v.ownBlock = some k → w'.heap[k]? = w.heap[k]?) : Sl w' base size v n xs := by
  refine ⟨h.1, ?_⟩
  rcases h.2 with hn | ⟨g, off, cap, rfl, hbg, hg, hnc, hcm, hfree, hcell⟩
  · exact .inl hn
  · have hblk := hb g (by simp [Value.ownBlock])
    refine .inr ⟨g, off, cap, rfl, hbg, by omega, hnc, hcm, fun j hj => ?_, fun j hj => ?_⟩
    · rw [World.cell?_of_block (a := ⟨g, off + j, none⟩) hblk, World.frozen?_of_block (a := ⟨g, off + j, none⟩) hblk]
      exact hfree j hj
    · rw [World.cell?_of_block (a := ⟨g, off + j, none⟩) hblk]
      exact hcell j hj

theorem Sl.kept {w w' : World} {row : Option Nat} {base size : Nat} {v : Value} {n : Nat} {xs : List Value} (h : Sl w base size v n xs) (hg : w.grownBy w' row) (hne : v.ownBlock = none ∨ v.ownBlock ≠ row) : Sl w' base size v n xs := by
  refine h.same hg.size fun k hk => hg.block k (h.lt k hk).2 ?_
  rcases hne with hne | hne
  · rw [hne] at hk; simp at hk
  · rw [← hk]; exact hne

theorem Sl.alloc {w : World} {base size : Nat} {v : Value} {n : Nat} {xs : List Value} (h : Sl w base size v n xs) (o : Obj) : Sl (w.alloc o) base size v n xs :=
  h.kept (World.grownBy_alloc w o none) (by cases hv : v.ownBlock <;> simp)

theorem Sl.drew {w : World} {base size : Nat} {v : Value} {n : Nat} {xs : List Value} (h : Sl w base size v n xs) : Sl w.drew base size v n xs := h

theorem Sl.below {w w' : World} {B base size : Nat} {v : Value} {n : Nat} {xs : List Value} (h : Sl w base size v n xs) (hb : Below B w w') (hv : ∀ k, v.ownBlock = some k → k < B) : Sl w' base size v n xs :=
  h.same hb.size fun k hk => hb.block k (hv k hk)

theorem Sl.of_owns {w : World} {base : Nat} {e : TypeId} {size : Nat} {v : Value} {n : Nat} {xs : List Value} (h : w.ownsRow base e size v n xs) : Sl w base size v n xs := by
  refine ⟨h.1, ?_⟩
  rcases h.2 with hn | ⟨g, cap, cur, rfl, hbg, hg, hnc, hcm, hcs, htake⟩
  · exact .inl hn
  · refine .inr ⟨g, 0, cap, rfl, hbg, (Array.getElem?_eq_some_iff.1 hg).1, hnc, hcm, fun j hj => ⟨?_, ?_⟩, fun j hj => ?_⟩
    · rw [cell_of_row w g (0 + j) cur e (0, 0) hg, Array.getElem?_eq_getElem (by omega)]
      rfl
    · simp only [World.frozen?, hg]
      simp
    · rw [cell_of_row w g (0 + j) cur e (0, 0) hg, Nat.zero_add, ← htake, List.getElem?_take, if_pos hj]
      simp

/-- A shorter slice of the same memory. -/
theorem Sl.cells {w : World} {base size : Nat} {g off n cap : Nat} {xs : List Value} (h : Sl w base size (.slice (some ⟨g, off, none⟩) n cap) n xs) :
    ∀ j u, xs[j]? = some u → w.cell? ((⟨g, off, none⟩ : Addr).add j) = some u := by
  intro j u hu
  rcases h.2 with ⟨h0, _⟩ | ⟨g', off', cap', he, _, _, _, _, _, hcell⟩
  · cases h0
  · cases he
    have hj : j < n * size := by
      have := (List.getElem?_eq_some_iff.1 hu).1
      rw [h.1] at this; exact this
    rw [Addr.add_lit, hcell j hj, hu]

/-- Behind a chain of appends to v0 (n0 elements, the cells xs0) in w there is v (n, xs) in w': v0 reads as it did; but for v0's own block what was there is as it was; v is v0's memory, longer, or lies in new memory. -/
structure Ext (base size : Nat) (w : World) (v0 : Value) (n0 : Nat) (xs0 : List Value) (w' : World) (v : Value) (n : Nat) (xs : List Value) : Prop where
  was : Sl w base size v0 n0 xs0
  now : Sl w' base size v n xs
  old : Sl w' base size v0 n0 xs0
  grown : w.grownBy w' v0.ownBlock
  alias : (∃ a cap, v0 = .slice a n0 cap ∧ v = .slice a n cap ∧ n0 ≤ n) ∨ (∀ k, v.ownBlock = some k → w.heap.size ≤ k)

theorem Sl.slice {w : World} {base size : Nat} {v : Value} {n : Nat} {xs : List Value} (h : Sl w base size v n xs) : ∃ a cap, v = .slice a n cap := by
  rcases h.2 with ⟨rfl, rfl⟩ | ⟨g, off, cap, rfl, _⟩
  · exact ⟨_, _, rfl⟩
  · exact ⟨_, _, rfl⟩

theorem ownBlock_slice (a : Option Addr) (n m c d : Nat) : (Value.slice a n c).ownBlock = (Value.slice a m d).ownBlock := by cases a <;> rfl

theorem Ext.refl {base size : Nat} {w : World} {v : Value} {n : Nat} {xs : List Value} (h : Sl w base size v n xs) : Ext base size w v n xs w v n xs := by
  obtain ⟨a, cap, rfl⟩ := h.slice
  exact ⟨h, h, h, World.grownBy.refl _ _, .inl ⟨a, cap, rfl, rfl, Nat.le_refl _⟩⟩

/-- Two readings of one memory: the shorter one's cells are there in whatever world the longer one's are. -/
theorem Sl.shorter {w w' : World} {base size : Nat} {a : Option Addr} {n m cap : Nat} {xs ys : List Value} (h : Sl w base size (.slice a n cap) n xs) (hl : Sl w base size (.slice a m cap) m ys) (hnm : n ≤ m)
    (hl' : Sl w' base size (.slice a m cap) m ys) : Sl w' base size (.slice a n cap) n xs := by
  refine ⟨h.1, ?_⟩
  rcases h.2 with ⟨he, rfl⟩ | ⟨g, off, cap', he, hbg, hg, hnc, hcm, hfree, hcell⟩
  · exact .inl ⟨he, rfl⟩
  · cases he
    rcases hl.2 with ⟨h0, _⟩ | ⟨g1, off1, cap1, he1, _, _, _, _, _, hcell1⟩
    · cases h0
    · cases he1
      rcases hl'.2 with ⟨h0, _⟩ | ⟨g2, off2, cap2, he2, hb2, hg2, hn2, hc2, hfree2, hcell2⟩
      · cases h0
      · cases he2
        refine .inr ⟨g, off, cap, rfl, hb2, hg2, by omega, hc2, hfree2, fun j hj => ?_⟩
        have hjm : j < m * size := Nat.lt_of_lt_of_le hj (Nat.mul_le_mul_right _ hnm)
        rw [hcell2 j hjm, ← hcell1 j hjm, hcell j hj]

theorem Ext.trans {base size : Nat} {w w1 w2 : World} {v0 v1 v2 : Value} {n0 n1 n2 : Nat} {xs0 xs1 xs2 : List Value}
    (h : Ext base size w v0 n0 xs0 w1 v1 n1 xs1) (k : Ext base size w1 v1 n1 xs1 w2 v2 n2 xs2) : Ext base size w v0 n0 xs0 w2 v2 n2 xs2 := by
  refine ⟨h.was, k.now, ?_, ⟨k.grown.os.trans h.grown.os, k.grown.tape.trans h.grown.tape, k.grown.output.trans h.grown.output, Nat.le_trans h.grown.size k.grown.size, fun i hi hne => ?_⟩, ?_⟩
  · rcases h.alias with ⟨a, cap, rfl, rfl, hle⟩ | hf
    · exact h.old.shorter h.now hle k.old
    · refine h.old.same k.grown.size fun i hi => k.grown.block i (h.old.lt i hi).2 fun e => ?_
      have := hf i e.symm
      have := (h.was.lt i hi).2
      omega
  · have hs := h.grown.size
    rw [k.grown.block i (by omega) ?_, h.grown.block i hi hne]
    intro e
    rcases h.alias with ⟨a, cap, rfl, rfl, hle⟩ | hf
    · exact hne (e.trans (ownBlock_slice _ _ _ _ _))
    · have := hf i e.symm
      omega
  · have hs := h.grown.size
    rcases h.alias with ⟨a, cap, rfl, rfl, hle⟩ | hf
    · rcases k.alias with ⟨a', cap', he, rfl, hle'⟩ | hf'
      · cases he
        exact .inl ⟨a, cap, rfl, rfl, by omega⟩
      · exact .inr fun i hi => by have := hf' i hi; omega
    · rcases k.alias with ⟨a', cap', rfl, rfl, hle'⟩ | hf'
      · exact .inr fun i hi => hf i ((ownBlock_slice _ _ _ _ _).trans hi)
      · exact .inr fun i hi => by have := hf' i hi; omega

/-- New blocks, and draws, behind. -/
theorem Ext.alloc {base size : Nat} {w w' : World} {v0 v : Value} {n0 n : Nat} {xs0 xs : List Value} (h : Ext base size w v0 n0 xs0 w' v n xs) (o : Obj) : Ext base size w v0 n0 xs0 (w'.alloc o) v n xs :=
  ⟨h.was, h.now.alloc o, h.old.alloc o, ⟨h.grown.os, h.grown.tape, h.grown.output, by have := h.grown.size; simp; omega, fun i hi hne => (Below.heap_alloc _ _ _ (Nat.lt_of_lt_of_le hi h.grown.size)).trans (h.grown.block i hi hne)⟩, h.alias⟩

theorem Ext.below {base size : Nat} {w w' : World} {v0 v : Value} {n0 n : Nat} {xs0 xs : List Value} {B : Nat} (h : Ext base size w v0 n0 xs0 w' v n xs) (hB : B ≤ base) (hw : B ≤ w.heap.size) : Below B w w' :=
  ⟨h.grown.os, h.grown.tape, h.grown.output, h.grown.size, fun k hk => h.grown.block k (by omega) fun e => by have := (h.was.lt k e.symm).1; omega⟩

section
variable {P : Program}

theorem grownBy_setCells (b : Nat) : ∀ (vs : List Value) (o : Nat) (w : World), w.grownBy (w.setCells b o vs) (some b) := by
  intro vs
  induction vs with
  | nil => intro o w; exact World.grownBy.refl _ _
  | cons x vs ih =>
    intro o w
    have h1 : w.grownBy (w.setCell ⟨b, o, none⟩ x) (some b) :=
      ⟨rfl, rfl, rfl, by simp [World.setCell], fun k hk hne => Below.heap_setCell _ _ _ _ (fun e => hne (by rw [e]))⟩
    have h2 := ih (o + 1) (w.setCell ⟨b, o, none⟩ x)
    exact ⟨h2.os.trans h1.os, h2.tape.trans h1.tape, h2.output.trans h1.output, Nat.le_trans h1.size h2.size, fun k hk hne => (h2.block k (by have := h1.size; omega) hne).trans (h1.block k hk hne)⟩

theorem size_setCells (b : Nat) : ∀ (vs : List Value) (o : Nat) (w : World), (w.setCells b o vs).heap.size = w.heap.size := by
  intro vs
  induction vs with
  | nil => intro o w; rfl
  | cons x vs ih =>
    intro o w
    have := ih (o + 1) (w.setCell ⟨b, o, none⟩ x)
    simp only [World.setCells] at this ⊢
    rw [this]
    simp [World.setCell]

/-- There was room: the cells behind v's have been written. -/
theorem Ext.stored {w : World} {base size g off n cap m : Nat} {xs news : List Value} (h : Sl w base size (.slice (some ⟨g, off, none⟩) n cap) n xs) (hl : news.length = m * size) (hroom : n + m ≤ cap) :
    Ext base size w (.slice (some ⟨g, off, none⟩) n cap) n xs (w.setCells g (off + n * size) news) (.slice (some ⟨g, off, none⟩) (n + m) cap) (n + m) (xs ++ news) := by
  rcases h.2 with ⟨h0, _⟩ | ⟨g', off', cap', he, hbg, hg, hnc, hcm, hfree, hcell⟩
  · cases h0
  cases he
  have hmul : (n + m) * size = n * size + m * size := Nat.add_mul _ _ _
  have hle : (n + m) * size ≤ cap * size := Nat.mul_le_mul_right _ hroom
  have hsz := size_setCells g news (off + n * size) w
  have hfree' : ∀ j, j < cap * size → ((w.setCells g (off + n * size) news).cell? ⟨g, off + j, none⟩).isSome = true ∧ (w.setCells g (off + n * size) news).frozen? ⟨g, off + j, none⟩ = false := by
    intro j hj
    refine ⟨?_, by rw [World.frozen?_setCells]; exact (hfree j hj).2⟩
    by_cases hin : n * size ≤ j ∧ j < n * size + m * size
    · obtain ⟨i, rfl⟩ : ∃ i, j = n * size + i := ⟨j - n * size, by omega⟩
      have := World.cell?_setCells_in g news (off + n * size) w (fun i hi => by rw [Nat.add_assoc]; exact (hfree (n * size + i) (by omega)).1) i (by omega)
      rw [← Nat.add_assoc, this]
      rfl
    · rw [World.cell?_setCells_out g news (off + n * size) w ⟨g, off + j, none⟩ (fun _ _ => by simp only; omega)]
      exact (hfree j hj).1
  have hold : ∀ j, j < n * size → (w.setCells g (off + n * size) news).cell? ⟨g, off + j, none⟩ = xs[j]? := by
    intro j hj
    rw [World.cell?_setCells_out g news (off + n * size) w ⟨g, off + j, none⟩ (fun _ _ => by simp only; omega)]
    exact hcell j hj
  refine ⟨h, ⟨by rw [List.length_append, h.1, hl, hmul], .inr ⟨g, off, cap, rfl, hbg, by omega, hroom, hcm, hfree', fun j hj => ?_⟩⟩, ⟨h.1, .inr ⟨g, off, cap, rfl, hbg, by omega, hnc, hcm, hfree', hold⟩⟩, ?_, .inl ⟨_, _, rfl, rfl, by omega⟩⟩
  · by_cases hj' : j < n * size
    · rw [hold j hj', List.getElem?_append_left (by rw [h.1]; exact hj')]
    · obtain ⟨i, rfl⟩ : ∃ i, j = n * size + i := ⟨j - n * size, by omega⟩
      have := World.cell?_setCells_in g news (off + n * size) w (fun i hi => by rw [Nat.add_assoc]; exact (hfree (n * size + i) (by omega)).1) i (by omega)
      rw [← Nat.add_assoc, this, List.getElem?_append_right (by rw [h.1]; omega), h.1, Nat.add_sub_cancel_left, List.getElem?_eq_getElem (by omega)]
  · exact grownBy_setCells g news (off + n * size) w

/-- A new row was made. -/
theorem Ext.fresh {w w' : World} {base size n m : Nat} {v v' : Value} {xs news : List Value} {e : TypeId} (h : Sl w base size v n xs) (hown : w'.ownsRow w.heap.size e size v' (n + m) (xs ++ news)) (hg : w.grownBy w' none) (hbase : base ≤ w.heap.size) :
    Ext base size w v n xs w' v' (n + m) (xs ++ news) :=
  ⟨h, (Sl.of_owns hown).mono hbase, h.same hg.size (fun k hk => hg.block k (h.lt k hk).2 (by simp)), ⟨hg.os, hg.tape, hg.output, hg.size, fun k hk _ => hg.block k hk (by simp)⟩, .inr fun k hk => (hown.lt k hk).1⟩

theorem run_append_sl (w : World) (base : Nat) (t ty e : TypeId) (i : TypeInfo) (z : Value) (size bytes : Nat) (ht : P.underlying t = some (.slice e)) (hi : P.info? e = some i) (hz : i.zero = some z)
    (hsize : i.size = size) (hby : i.bytes = bytes) (hzs : z.cells.size = size) (hsz : 0 < size)
    (v : Value) (n : Nat) (xs : List Value) (hown : Sl w base size v n xs)
    (a : Addr) (m c : Nat) (news : List Value) (hl : news.length = m * size) (hnews : ∀ j u, news[j]? = some u → w.cell? (a.add j) = some u) (h1 : ∀ u ∈ news, u.oneCell' = true)
    (h63 : n + m ≤ maxLen) (hbytes : (n + m) * bytes ≤ 140737488355328) (hbase : base ≤ w.heap.size) :
    ∃ v' w', (Builtin.append_ #[t, t] ty #[v, .slice (some a) m c]).run P w = .ok v' w' ∧ Ext base size w v n xs w' v' (n + m) (xs ++ news) := by
  subst hsize
  rcases hown.2 with ⟨rfl, rfl⟩ | ⟨g, off, cap, rfl, hbg, hg, hnc, hcm, hfree, hcell⟩
  · have hx : xs = [] := List.eq_nil_of_length_eq_zero (by simpa using hown.1)
    subst hx
    obtain ⟨v', w', hr, h2, h3, h4⟩ := run_append_own (P := P) w w.heap.size t ty e i z i.size bytes ht hi hz rfl hby hzs hsz (.slice none 0 0) 0 [] (World.ownsRow_nil w _ e i.size) a m c news hl hnews h1 h63 hbytes (Nat.le_refl _)
    exact ⟨v', w', hr, Ext.fresh (e := e) hown h2 h3 hbase⟩
  · by_cases hroom : n + m ≤ cap
    · have hmul : (n + m) * i.size = n * i.size + m * i.size := Nat.add_mul _ _ _
      have hle : (n + m) * i.size ≤ cap * i.size := Nat.mul_le_mul_right _ hroom
      have hr := run_append_room_cells (P := P) w t ty e i ht hi g off n cap a m c news hl hnews h1 hroom (fun j hj => by rw [Nat.add_assoc]; exact (hfree _ (by omega)).1) (fun j hj => by rw [Nat.add_assoc]; exact (hfree _ (by omega)).2)
      exact ⟨_, _, hr, Ext.stored hown hl hroom⟩
    · obtain ⟨v', w', hr, h2, h3⟩ := run_append_arg_grows (P := P) w t ty e i z i.size bytes ht hi hz rfl hby hzs hsz ⟨g, off, none⟩ n cap xs hown.1 hown.cells a m c news hl hnews (by omega) h63 hbytes
      exact ⟨v', w', hr, Ext.fresh (e := e) hown h2 h3 hbase⟩

/-- 'append(v, x..)', for the walk. -/
theorem wpList_append_sl (w : World) {ops : Array Oper} {rest : List Oper} {o : Oper} {a : Act} {Q : Exit → Act → World → Prop} (hgd : o.guard = none) (s x : Operand) (t : TypeId)
    (ho : o.op = .call { callee := .builtin .append, args := #[s, x], argTypes := #[t, t] })
    (base : Nat) (e : TypeId) (i : TypeInfo) (z : Value) (size bytes : Nat) (ht : P.underlying t = some (.slice e)) (hi : P.info? e = some i) (hz : i.zero = some z)
    (hsize : i.size = size) (hby : i.bytes = bytes) (hzs : z.cells.size = size) (hsz : 0 < size)
    (v : Value) (n : Nat) (xs : List Value) (hs : a.eval s = v) (hown : Sl w base size v n xs)
    (ad : Addr) (m c : Nat) (news : List Value) (hx : a.eval x = .slice (some ad) m c) (hl : news.length = m * size) (hnews : ∀ j u, news[j]? = some u → w.cell? (ad.add j) = some u) (h1 : ∀ u ∈ news, u.oneCell' = true)
    (h63 : n + m ≤ maxLen) (hbytes : (n + m) * bytes ≤ 140737488355328) (hbase : base ≤ w.heap.size)
    (h : ∀ v' w', Ext base size w v n xs w' v' (n + m) (xs ++ news) → wpList P ops Q rest (a.put o.dst v') w') : wpList P ops Q (o :: rest) a w := by
  refine wpList_plain hgd fun K hK => ?_
  obtain ⟨v', w', hr, h2⟩ := run_append_sl (P := P) w base t o.type e i z size bytes ht hi hz hsize hby hzs hsz v n xs hown ad m c news hl hnews h1 h63 hbytes hbase
  unfold Oper.wp execOp
  simp only [ho, resolve, invoke, builtin, Sem.run_bind, Sem.run_pure, Result.andThen_ok, List.map_toArray, List.map_cons, List.map_nil, hs, hx, hr]
  exact hK _ _ (h v' w' h2)

theorem run_append_sl_string (w : World) (base : Nat) (t u ty e : TypeId) (i : TypeInfo) (ht : P.underlying t = some (.slice e)) (hu : P.underlying u = some .string) (hi : P.info? e = some i) (hz : i.zero = some (.int .u8 0))
    (hsize : i.size = 1) (hby : i.bytes = 1)
    (v : Value) (n : Nat) (xs : List Value) (hown : Sl w base 1 v n xs) (s : ByteArray)
    (h63 : n + s.size ≤ maxLen) (hbytes : n + s.size ≤ 140737488355328) (hbase : base ≤ w.heap.size) :
    ∃ v' w', (Builtin.append_ #[t, u] ty #[v, .string s]).run P w = .ok v' w' ∧ Ext base 1 w v n xs w' v' (n + s.size) (xs ++ strCells s) := by
  have hsmall : n + s.size ≤ 9223372036854775807 := by simp only [maxLen] at h63; omega
  have hxl : xs.length = n := by simpa using hown.1
  rcases hown.2 with ⟨rfl, rfl⟩ | ⟨g, off, cap, rfl, hbg, hg, hnc, hcm, hfree, hcell⟩
  · have hx : xs = [] := List.eq_nil_of_length_eq_zero (by simpa using hown.1)
    subst hx
    obtain ⟨v', w', hr, h2, h3, h4⟩ := run_append_own_string (P := P) w w.heap.size t u ty e i ht hu hi hz hsize hby (.slice none 0 0) 0 [] (World.ownsRow_nil w _ e 1) s h63 hbytes (Nat.le_refl _)
    exact ⟨v', w', hr, Ext.fresh (e := e) hown h2 h3 hbase⟩
  · by_cases hroom : n + s.size ≤ cap
    · have hf := run_firstCells_string (P := P) w 1 s
      have hst := run_storeCells_cells (P := P) g (off + n) (strCells s) 0 w (fun j hj => by rw [strCells_length] at hj; rw [Nat.add_zero, Nat.add_assoc]; exact (hfree _ (by omega)).1) (fun j hj => by rw [strCells_length] at hj; rw [Nat.add_zero, Nat.add_assoc]; exact (hfree _ (by omega)).2) (strCells_oneCell s)
      simp only [Nat.add_zero] at hst
      have hr : (Builtin.append_ #[t, u] ty #[.slice (some ⟨g, off, none⟩) n cap, .string s]).run P w = .ok (.slice (some ⟨g, off, none⟩) (n + s.size) cap) (w.setCells g (off + n) (strCells s)) := by
        simp [Builtin.append_, run_underlying ht, run_underlying hu, sizeOf, typeInfo, hi, hsize, Builtin.lenOf, hroom, hf, Addr.add_lit, hst]
      have := Ext.stored (m := s.size) hown (by rw [strCells_length, Nat.mul_one]) hroom
      rw [Nat.mul_one] at this
      exact ⟨_, _, hr, this⟩
    · have hlen : (xs ++ strCells s).length = (n + s.size) * 1 := by rw [List.length_append, hxl, strCells_length, Nat.mul_one]
      have hge := grownCap_ge w (n + s.size) cap e
      have hcm' : grownCap w (n + s.size) cap e ≤ maxLen := grownCap_le_maxLen w (n + s.size) cap e h63
      have hr := run_append_grow_string (P := P) w t u ty e i (.int .u8 0) ht hu hi hz ⟨g, off, none⟩ n cap xs (by rw [hsize]; simpa using hxl) hown.cells s (by omega) (by omega) (by rw [hby]; exact growslice_fits (by omega) (by omega))
      refine ⟨_, _, hr, Ext.fresh (e := e) hown ⟨hlen, .inr ⟨w.heap.size, _, _, rfl, Nat.le_refl _, heap_alloc_new w.drew _, hge, hcm', ?_, ?_⟩⟩ ⟨rfl, rfl, rfl, by simp, fun k hk _ => Below.heap_alloc w.drew _ k hk⟩ hbase⟩
      · have hz1 : (Value.int IntKind.u8 0).cells.size = 1 := rfl
        simp only [Array.size_append, List.size_toArray, size_zeroCells, hz1, hxl, strCells_length]
        omega
      · simp only [Array.toList_append, List.append_assoc]
        rw [← List.append_assoc, ← hlen]
        exact List.take_left

/-- 'append(v, s...)', s a text, for the walk. -/
theorem wpList_append_sl_string (w : World) {ops : Array Oper} {rest : List Oper} {o : Oper} {a : Act} {Q : Exit → Act → World → Prop} (hgd : o.guard = none) (sl x : Operand) (t u : TypeId)
    (ho : o.op = .call { callee := .builtin .append, args := #[sl, x], argTypes := #[t, u] })
    (base : Nat) (e : TypeId) (i : TypeInfo) (ht : P.underlying t = some (.slice e)) (hu : P.underlying u = some .string) (hi : P.info? e = some i) (hz : i.zero = some (.int .u8 0))
    (hsize : i.size = 1) (hby : i.bytes = 1)
    (v : Value) (n : Nat) (xs : List Value) (hs : a.eval sl = v) (hown : Sl w base 1 v n xs) (s : ByteArray) (hx : a.eval x = .string s)
    (h63 : n + s.size ≤ maxLen) (hbytes : n + s.size ≤ 140737488355328) (hbase : base ≤ w.heap.size)
    (h : ∀ v' w', Ext base 1 w v n xs w' v' (n + s.size) (xs ++ strCells s) → wpList P ops Q rest (a.put o.dst v') w') : wpList P ops Q (o :: rest) a w := by
  refine wpList_plain hgd fun K hK => ?_
  obtain ⟨v', w', hr, h2⟩ := run_append_sl_string (P := P) w base t u o.type e i ht hu hi hz hsize hby v n xs hown s h63 hbytes hbase
  unfold Oper.wp execOp
  simp only [ho, resolve, invoke, builtin, Sem.run_bind, Sem.run_pure, Result.andThen_ok, List.map_toArray, List.map_cons, List.map_nil, hs, hx, hr]
  exact hK _ _ (h v' w' h2)

/-- '[]byte(s)': what it leaves. -/
theorem Sl.of_text (w : World) (e : TypeId) (s : ByteArray) (hs : s.size ≤ maxLen) :
    Sl (w.drew.alloc (.cells (bytesRow s (grownCap w s.size 0 e)) e ((bytesRow s (grownCap w s.size 0 e)).size, (bytesRow s (grownCap w s.size 0 e)).size + 1))) w.heap.size 1 (.slice (some ⟨w.heap.size, 0, none⟩) s.size (grownCap w s.size 0 e)) s.size (strCells s) := by
  have hge := grownCap_ge w s.size 0 e
  have hcm : grownCap w s.size 0 e ≤ maxLen := grownCap_le_maxLen w s.size 0 e hs
  generalize grownCap w s.size 0 e = cap at *
  have hsz : (bytesRow s cap).size = cap := by
    simp only [bytesRow, Array.size_append, Array.size_map, Array.size_replicate]
    have : s.data.size = s.size := rfl
    omega
  have hblk : (w.drew.alloc (.cells (bytesRow s cap) e ((bytesRow s cap).size, (bytesRow s cap).size + 1))).heap[w.heap.size]? = some (.cells (bytesRow s cap) e ((bytesRow s cap).size, (bytesRow s cap).size + 1)) := heap_alloc_new w.drew _
  refine ⟨by rw [strCells_length, Nat.mul_one], .inr ⟨w.heap.size, 0, cap, rfl, Nat.le_refl _, by simp, hge, hcm, fun j hj => ⟨?_, ?_⟩, fun j hj => ?_⟩⟩
  · rw [cell_of_row _ _ (0 + j) _ _ _ hblk, Array.getElem?_eq_getElem (by omega)]
    rfl
  · have : ∀ W : World, W.heap[w.heap.size]? = some (.cells (bytesRow s cap) e ((bytesRow s cap).size, (bytesRow s cap).size + 1)) → W.frozen? ⟨w.heap.size, 0 + j, none⟩ = false := fun W hW => by
      simp only [World.frozen?, hW, hsz]
      simp
      omega
    exact this _ hblk
  · rw [cell_of_row _ _ (0 + j) _ _ _ hblk, Nat.zero_add]
    have hj' : j < s.size := by omega
    have hj2 : j < (s.data.map fun b => Value.int IntKind.u8 b.toNat).size := by
      have : s.data.size = s.size := rfl
      simp only [Array.size_map]; omega
    rw [bytesRow, Array.getElem?_append_left hj2]
    simp [strCells]

/-- The cells of bytes. -/
def cb (l : List UInt8) : List Value := l.map fun b => Value.int .u8 b.toNat
theorem cb_length (l : List UInt8) : (cb l).length = l.length := by simp [cb]
theorem cb_append (l m : List UInt8) : cb (l ++ m) = cb l ++ cb m := by simp [cb]
theorem strCells_eq (s : ByteArray) : strCells s = cb s.data.toList := rfl

/-- The first elements of bytes alone. -/
theorem Sl.cut {w : World} {base g off n m cap : Nat} {l : List UInt8} (h : Sl w base 1 (.slice (some ⟨g, off, none⟩) n cap) n (cb l)) (hm : m ≤ n) : Sl w base 1 (.slice (some ⟨g, off, none⟩) m cap) m (cb (l.take m)) := by
  have hl : l.length = n := by have := h.1; rw [cb_length] at this; omega
  rcases h.2 with ⟨h0, _⟩ | ⟨g', off', cap', he, hbg, hg, hnc, hcm, hfree, hcell⟩
  · cases h0
  · cases he
    refine ⟨by rw [cb_length, List.length_take]; omega, .inr ⟨g, off, cap, rfl, hbg, hg, by omega, hcm, hfree, fun j hj => ?_⟩⟩
    rw [hcell j (by omega)]
    simp only [cb, List.getElem?_map, List.getElem?_take]
    rw [if_pos (by omega)]

/-- What v's memory says stays, where all old blocks stay. -/
theorem Sl.on {w w' : World} {base size : Nat} {v : Value} {n : Nat} {xs : List Value} (h : Sl w base size v n xs) (hb : Below w.heap.size w w') : Sl w' base size v n xs :=
  h.below hb fun k hk => (h.lt k hk).2

/-- 'string(v)', v bytes: at whatever conversion to a text. -/
theorem run_text_of_sl (w : World) (base : Nat) (src dst e : TypeId) (hs : P.underlying src = some (.slice e)) (he : P.underlying e = some (.int .u8)) (hd : P.underlying dst = some .string)
    (v : Value) (n : Nat) (l : List UInt8) (h : Sl w base 1 v n (cb l)) : (convert src dst v).run P w = .ok (.string ⟨l.toArray⟩) w := by
  have hn : l.length = n := by have := h.1; rw [cb_length] at this; omega
  subst hn
  rcases h.2 with ⟨rfl, h0⟩ | ⟨g, off, cap, rfl, _, _, _, _, _, hcell⟩
  · have : l = [] := List.eq_nil_of_length_eq_zero h0
    subst this
    exact run_convert_bytes_nil w src e hs he 0 0 dst hd
  · refine run_convert_bytes_back w src dst e _ cap l hs he hd fun j hj => ?_
    rw [Addr.add_lit, hcell j (by omega)]
    simp [cb, List.getElem?_eq_getElem hj]
end

theorem bd_u64 {x : Int} (h : (Lit.int .u64 x).wf = true) : 0 ≤ x ∧ x < 18446744073709551616 := by
  simp [Lit.wf, IntKind.min, IntKind.max, IntKind.signed, IntKind.bits] at h
  omega
theorem bd_i64 {x : Int} (h : (Lit.int .i64 x).wf = true) : -9223372036854775808 ≤ x ∧ x ≤ 9223372036854775807 := by
  simp [Lit.wf, IntKind.min, IntKind.max, IntKind.signed, IntKind.bits] at h
  omega
theorem bd_u8 {x : Int} (h : (Lit.int .u8 x).wf = true) : 0 ≤ x ∧ x < 256 := by
  simp [Lit.wf, IntKind.min, IntKind.max, IntKind.signed, IntKind.bits] at h
  omega
theorem bd_u32 {x : Int} (h : (Lit.int .u32 x).wf = true) : 0 ≤ x ∧ x < 4294967296 := by
  simp [Lit.wf, IntKind.min, IntKind.max, IntKind.signed, IntKind.bits] at h
  omega

#print axioms run_append_sl
#print axioms run_append_sl_string
#print axioms run_text_of_sl
#print axioms Sl.of_text
end Go.Proofs.Ytkialkjhjenkhaa
