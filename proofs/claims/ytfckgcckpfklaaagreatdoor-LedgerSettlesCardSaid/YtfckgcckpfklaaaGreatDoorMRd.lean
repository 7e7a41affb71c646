/- Slices that are only read. An append of whatever slice; slices of truths; a slice laid out in full. Slices only read, appended to one's own; slices in a slice. Layer 14: samples and rows as cells; the document's Put in plain words. -/
import Derived.Test.YtfckgcckpfklaaaGreatDoorMSl2
import Derived.Lib.AppendZerosOnto
namespace Go.Proofs.YtfckgcckpfklaaaGreatDoor
open Go.RowKit Go.Lib

/-- v is a slice of n elements (each of so many cells) whose cells read as xs. -/
def Rd (w : World) (size : Nat) (v : Value) (n : Nat) (xs : List Value) : Prop :=
  xs.length = n * size ∧ ∃ a cap g off, v = .slice a n cap ∧ (0 < n → a = some ⟨g, off, none⟩ ∧ g < w.heap.size) ∧ ∀ j, j < n * size → w.cell? ⟨g, off + j, none⟩ = xs[j]?
theorem Rd.of_sl {w : World} {base size n : Nat} {v : Value} {xs : List Value} (h : Sl w base size v n xs) : Rd w size v n xs := by
  refine ⟨h.1, ?_⟩
  rcases h.2 with ⟨rfl, rfl⟩ | ⟨g, off, cap, rfl, h1, h2, _, _, _, h3⟩
  · exact ⟨none, 0, 0, 0, rfl, fun h => absurd h (by omega), fun j hj => absurd hj (by omega)⟩
  · exact ⟨_, cap, g, off, rfl, fun _ => ⟨rfl, h2⟩, h3⟩
theorem Rd.on {w w' : World} {size n : Nat} {v : Value} {xs : List Value} (h : Rd w size v n xs) (b : Below w.heap.size w w') : Rd w' size v n xs := by
  obtain ⟨h0, a, cap, g, off, hv, h1, h2⟩ := h
  refine ⟨h0, a, cap, g, off, hv, fun hn => ⟨(h1 hn).1, Nat.lt_of_lt_of_le (h1 hn).2 b.size⟩, fun j hj => ?_⟩
  have hn : 0 < n := by
    rcases Nat.eq_zero_or_pos n with rfl | hp
    · simp at hj
    · exact hp
  exact (b.cell (p := ⟨g, off + j, none⟩) (h1 hn).2).trans (h2 j hj)

end Go.Proofs.YtfckgcckpfklaaaGreatDoor

namespace Go.Proofs.YtfckgcckpfklaaaGreatDoor
open Go.RowKit Go.Lib

section
variable {P : Program}
theorem Sl.lit (w : World) (base size n : Nat) (cs : Array Value) (e : TypeId) (hb : base ≤ w.heap.size) (hm : n ≤ maxLen) (hs : cs.size = n * size) : Sl (w.alloc (.cells cs e)) base size (.slice (some ⟨w.heap.size, 0, none⟩) n n) n cs.toList :=
  Sl.of_owns (World.ownsRow_lit (e := e) w cs n hb hm hs)

theorem run_append_none_sl (w : World) (base : Nat) (t ty e : TypeId) (i : TypeInfo) (size : Nat) (ht : P.underlying t = some (.slice e)) (hi : P.info? e = some i) (v : Value) (n : Nat) (xs : List Value) (hown : Sl w base size v n xs) :
    (Builtin.append_ #[t, t] ty #[v, .slice none 0 0]).run P w = .ok v w := by
  rcases hown.2 with ⟨rfl, rfl⟩ | ⟨g, off, cap, rfl, _, _, hnc, _⟩
  · simp [Builtin.append_, run_underlying ht, sizeOf, typeInfo, hi, Builtin.lenOf, Builtin.firstCells]
  · simp [Builtin.append_, run_underlying ht, sizeOf, typeInfo, hi, Builtin.lenOf, Builtin.firstCells, hnc, storeCells]

/-- 'append(v, x..)', x whatever slice of one's own, for the walk. -/
theorem wpList_append_sl2 (w : World) {ops : Array Oper} {rest : List Oper} {o : Oper} {a : Act} {Q : Exit → Act → World → Prop} (hgd : o.guard = none) (s x : Operand) (t : TypeId)
    (ho : o.op = .call { callee := .builtin .append, args := #[s, x], argTypes := #[t, t] })
    (base : Nat) (e : TypeId) (i : TypeInfo) (z : Value) (size bytes : Nat) (ht : P.underlying t = some (.slice e)) (hi : P.info? e = some i) (hz : i.zero = some z)
    (hsize : i.size = size) (hby : i.bytes = bytes) (hzs : z.cells.size = size) (hsz : 0 < size)
    (v : Value) (n : Nat) (xs : List Value) (hs : a.eval s = v) (hown : Sl w base size v n xs)
    (b2 : Nat) (xv : Value) (m : Nat) (news : List Value) (hx : a.eval x = xv) (hnew : Sl w b2 size xv m news) (h1 : ∀ u ∈ news, u.oneCell' = true)
    (h63 : n + m ≤ maxLen) (hbytes : (n + m) * bytes ≤ 140737488355328) (hbase : base ≤ w.heap.size)
    (h : ∀ v' w', Ext base size w v n xs w' v' (n + m) (xs ++ news) → wpList P ops Q rest (a.put o.dst v') w') : wpList P ops Q (o :: rest) a w := by
  rcases hnew.2 with ⟨rfl, rfl⟩ | ⟨g, off, cap, rfl, _, _, _, _, _, _⟩
  · have hn : news = [] := List.eq_nil_of_length_eq_zero (by have := hnew.1; omega)
    subst hn
    refine wpList_plain hgd fun K hK => ?_
    have hr := run_append_none_sl (P := P) w base t o.type e i size ht hi v n xs hown
    unfold Oper.wp execOp
    simp only [ho, resolve, invoke, builtin, Sem.run_bind, Sem.run_pure, Result.andThen_ok, List.map_toArray, List.map_cons, List.map_nil, hs, hx, hr]
    have := h v w
    rw [Nat.add_zero, List.append_nil] at this
    exact hK _ _ (this (Ext.refl hown))
  · exact wpList_append_sl w hgd s x t ho base e i z size bytes ht hi hz hsize hby hzs hsz v n xs hs hown ⟨g, off, none⟩ m cap news hx hnew.1 hnew.cells h1 h63 hbytes hbase h
end

/-- The cells of truths. -/
def bc (l : List Bool) : List Value := l.map Value.bool
theorem bc_length (l : List Bool) : (bc l).length = l.length := by simp [bc]
theorem bc_append (l m : List Bool) : bc (l ++ m) = bc l ++ bc m := by simp [bc]
theorem bc_one (l : List Bool) : ∀ v ∈ bc l, v.oneCell' = true := by
  intro v hv
  simp only [bc, List.mem_map] at hv
  obtain ⟨b, _, rfl⟩ := hv
  rfl
theorem sl_bool {w : World} {base g off n cap : Nat} {l : List Bool} (h : Sl w base 1 (.slice (some ⟨g, off, none⟩) n cap) n (bc l)) (j : Nat) (c : Bool) (hj : l[j]? = some c) : w.cell? ⟨g, off + j, none⟩ = some (.bool c) := by
  rcases h.2 with ⟨h0, _⟩ | ⟨g', off', cap', he, _, _, _, _, _, hcell⟩
  · cases h0
  · cases he
    have hlt : j < l.length := (List.getElem?_eq_some_iff.1 hj).1
    have hn : l.length = n := by have := h.1; rw [bc_length] at this; omega
    rw [hcell j (by omega)]
    simp [bc, hj]
/-- A part of one. -/
theorem Sl.part {w : World} {base g off n cap : Nat} {xs : List Value} (h : Sl w base 1 (.slice (some ⟨g, off, none⟩) n cap) n xs) (i m c : Nat) (hm : i + m ≤ n) (hc : c + i = cap) : Sl w base 1 (.slice (some ⟨g, off + i, none⟩) m c) m ((xs.drop i).take m) := by
  have hl : xs.length = n := by have := h.1; omega
  rcases h.2 with ⟨h0, _⟩ | ⟨g', off', cap', he, hbg, hg, hnc, hcm, hfree, hcell⟩
  · cases h0
  · cases he
    refine ⟨by rw [List.length_take, List.length_drop]; omega, .inr ⟨g, off + i, c, rfl, hbg, hg, by omega, by omega, fun j hj => ?_, fun j hj => ?_⟩⟩
    · rw [Nat.add_assoc]; exact hfree (i + j) (by omega)
    · rw [Nat.add_assoc, hcell (i + j) (by omega), List.getElem?_take, if_pos (by omega), List.getElem?_drop]

/-- The answer is a slice of these truths, in new memory. -/
def MadeB (w : World) (l : List Bool) (e : Ending) (w' : World) : Prop :=
  ∃ v, e = .returned v ∧ Sl w' w.heap.size 1 v l.length (bc l) ∧ Below w.heap.size w w'
theorem bi_bool : (Tryz.prog.info? 4).map (fun i => (i.zero, i.size, i.bytes)) = some (some (.bool false), 1, 1) := by kernel_rfl
end Go.Proofs.YtfckgcckpfklaaaGreatDoor

namespace Go.Proofs.YtfckgcckpfklaaaGreatDoor
open Go.RowKit Go.Lib

section
variable {P : Program}
theorem run_append_none_rd (w : World) (base c : Nat) (t ty e : TypeId) (i : TypeInfo) (size : Nat) (ht : P.underlying t = some (.slice e)) (hi : P.info? e = some i) (v : Value) (n : Nat) (xs : List Value) (hown : Sl w base size v n xs) :
    (Builtin.append_ #[t, t] ty #[v, .slice none 0 c]).run P w = .ok v w := by
  rcases hown.2 with ⟨rfl, rfl⟩ | ⟨g, off, cap, rfl, _, _, hnc, _⟩
  · simp [Builtin.append_, run_underlying ht, sizeOf, typeInfo, hi, Builtin.lenOf, Builtin.firstCells]
  · simp [Builtin.append_, run_underlying ht, sizeOf, typeInfo, hi, Builtin.lenOf, Builtin.firstCells, hnc, storeCells]

/-- 'append(v, x..)', x a slice that is only read, for the walk. -/
theorem wpList_append_rd (w : World) {ops : Array Oper} {rest : List Oper} {o : Oper} {a : Act} {Q : Exit → Act → World → Prop} (hgd : o.guard = none) (s x : Operand) (t : TypeId)
    (ho : o.op = .call { callee := .builtin .append, args := #[s, x], argTypes := #[t, t] })
    (base : Nat) (e : TypeId) (i : TypeInfo) (z : Value) (size bytes : Nat) (ht : P.underlying t = some (.slice e)) (hi : P.info? e = some i) (hz : i.zero = some z)
    (hsize : i.size = size) (hby : i.bytes = bytes) (hzs : z.cells.size = size) (hsz : 0 < size)
    (v : Value) (n : Nat) (xs : List Value) (hs : a.eval s = v) (hown : Sl w base size v n xs)
    (xv : Value) (m : Nat) (news : List Value) (hx : a.eval x = xv) (hnew : Rd w size xv m news) (h1 : ∀ u ∈ news, u.oneCell' = true)
    (h63 : n + m ≤ maxLen) (hbytes : (n + m) * bytes ≤ 140737488355328) (hbase : base ≤ w.heap.size)
    (h : ∀ v' w', Ext base size w v n xs w' v' (n + m) (xs ++ news) → wpList P ops Q rest (a.put o.dst v') w') : wpList P ops Q (o :: rest) a w := by
  obtain ⟨hl, ax, cap, g, off, rfl, hg, hc⟩ := hnew
  cases ax with
  | none =>
    have hm : m = 0 := by
      rcases Nat.eq_zero_or_pos m with h0 | h0
      · exact h0
      · have := (hg h0).1; cases this
    subst hm
    have hn : news = [] := List.eq_nil_of_length_eq_zero (by omega)
    subst hn
    refine wpList_plain hgd fun K hK => ?_
    have hr := run_append_none_rd (P := P) w base cap t o.type e i size ht hi v n xs hown
    unfold Oper.wp execOp
    simp only [ho, resolve, invoke, builtin, Sem.run_bind, Sem.run_pure, Result.andThen_ok, List.map_toArray, List.map_cons, List.map_nil, hs, hx, hr]
    have := h v w
    rw [Nat.add_zero, List.append_nil] at this
    exact hK _ _ (this (Ext.refl hown))
  | some ad =>
    refine wpList_append_sl w hgd s x t ho base e i z size bytes ht hi hz hsize hby hzs hsz v n xs hs hown ad m cap news hx hl (fun j u hu => ?_) h1 h63 hbytes hbase h
    have hj : j < news.length := (List.getElem?_eq_some_iff.1 hu).1
    have hm : 0 < m := by
      rcases Nat.eq_zero_or_pos m with h0 | h0
      · subst h0; simp at hl; rw [hl] at hj; simp at hj
      · exact h0
    obtain ⟨he, _⟩ := hg hm
    obtain rfl : ad = ⟨g, off, none⟩ := Option.some.inj he
    rw [Addr.add_lit, hc j (by omega), hu]
end

/-- Slices in a slice, one cell each, only read. -/
def Rds (w : World) (v : Value) (ls : List (List Value)) : Prop :=
  ∃ a cap g off, v = .slice a ls.length cap ∧ (0 < ls.length → a = some ⟨g, off, none⟩ ∧ g < w.heap.size) ∧ ∀ j l, ls[j]? = some l → ∃ x, w.cell? ⟨g, off + j, none⟩ = some x ∧ Rd w 1 x l.length l
theorem rd_form {w : World} {size n : Nat} {v : Value} {xs : List Value} (h : Rd w size v n xs) : ∃ a cap, v = .slice a n cap := by
  obtain ⟨_, a, cap, _, _, hv, _⟩ := h
  exact ⟨a, cap, hv⟩
theorem flat_take (ls : List (List Value)) (i : Nat) (l : List Value) (h : ls[i]? = some l) : (ls.take (i + 1)).flatten = (ls.take i).flatten ++ l := by
  rw [List.take_add_one, h, List.flatten_append]; simp
theorem flat_take_le (ls : List (List Value)) (i : Nat) : (ls.take i).flatten.length ≤ ls.flatten.length := by
  have h : ls.flatten = (ls.take i).flatten ++ (ls.drop i).flatten := by rw [← List.flatten_append, List.take_append_drop]
  rw [h, List.length_append]; omega
end Go.Proofs.YtfckgcckpfklaaaGreatDoor

namespace Go.Proofs.YtfckgcckpfklaaaGreatDoor
open Go.RowKit Go.Lib

/-- A sample. -/
structure Sp where
  t : Int
  v : Int
deriving DecidableEq, Inhabited
def spc (l : List Sp) : List Value := l.flatMap fun s => [.int .i64 s.t, .int .u64 s.v]
theorem spc_append (l m : List Sp) : spc (l ++ m) = spc l ++ spc m := by simp [spc]
theorem spc_len (l : List Sp) : (spc l).length = l.length * 2 := by
  induction l with
  | nil => rfl
  | cons s l ih =>
    show ([Value.int .i64 s.t, .int .u64 s.v] ++ spc l).length = _
    rw [List.length_append, ih]
    simp only [List.length_cons, List.length_nil]
    omega
theorem spc_one (l : List Sp) : ∀ v ∈ spc l, v.oneCell' = true := by
  intro v hv
  simp only [spc, List.mem_flatMap, List.mem_cons, List.not_mem_nil, or_false] at hv
  obtain ⟨s, _, rfl | rfl⟩ := hv <;> rfl
theorem spc_at : ∀ (l : List Sp) (i : Nat) (s : Sp), l[i]? = some s → (spc l)[i * 2]? = some (.int .i64 s.t) ∧ (spc l)[i * 2 + 1]? = some (.int .u64 s.v)
  | [], i, s, h => by simp at h
  | x :: l, 0, s, h => by
    simp only [List.getElem?_cons_zero, Option.some.injEq] at h
    subst h
    exact ⟨rfl, rfl⟩
  | x :: l, i + 1, s, h => by
    have ih := spc_at l i s (by simpa using h)
    refine ⟨?_, ?_⟩
    · rw [show (i + 1) * 2 = i * 2 + 1 + 1 by omega]; exact ih.1
    · rw [show (i + 1) * 2 + 1 = i * 2 + 1 + 1 + 1 by omega]; exact ih.2

/-- One step of the document's Put: what stands so far, and is it in? -/
def stepS (s : Sp) (o : List Sp × Bool) (x : Sp) : List Sp × Bool :=
  let d := o.2 || decide (x.t = s.t)
  if d = false ∧ s.t < x.t then (o.1 ++ [s, x], true) else (o.1 ++ [x], d)
def sofarS (s : Sp) (l : List Sp) : List Sp × Bool := l.foldl (stepS s) ([], false)
theorem sofarS_nil (s : Sp) : sofarS s [] = ([], false) := rfl
theorem sofarS_snoc (s : Sp) (l : List Sp) (x : Sp) : sofarS s (l ++ [x]) = stepS s (sofarS s l) x := by simp [sofarS, List.foldl_append]
theorem sofarS_len (s : Sp) : ∀ (l : List Sp) (o : List Sp × Bool), (l.foldl (stepS s) o).1.length ≤ o.1.length + 2 * l.length
  | [], o => by simp
  | x :: l, o => by
    have := sofarS_len s l (stepS s o x)
    rw [List.foldl_cons]
    have h2 : (stepS s o x).1.length ≤ o.1.length + 2 := by
      unfold stepS
      simp only
      split <;> simp
    simp only [List.length_cons]
    omega
/-- Samples with one. -/
def putS (l : List Sp) (s : Sp) : List Sp := if (sofarS s l).2 = true then (sofarS s l).1 else (sofarS s l).1 ++ [s]
theorem putS_len (l : List Sp) (s : Sp) : (putS l s).length ≤ 2 * l.length + 1 := by
  have := sofarS_len s l ([], false)
  simp only [List.length_nil] at this
  unfold putS sofarS
  split
  · omega
  · simp; omega

def dn : Bool → Nat
  | true => 0
  | false => 1
theorem stepS_len (s : Sp) (o : List Sp × Bool) (x : Sp) : (stepS s o x).1.length + dn (stepS s o x).2 ≤ o.1.length + 1 + dn o.2 := by
  unfold stepS
  obtain ⟨o, d⟩ := o
  simp only
  split
  · rename_i h
    have : d = false := by
      have := h.1
      cases d
      · rfl
      · simp at this
    subst this
    simp [dn]
  · cases d
    · cases decide (x.t = s.t) <;> simp [dn]
    · simp [dn]
theorem foldS_len (s : Sp) : ∀ (l : List Sp) (o : List Sp × Bool), (l.foldl (stepS s) o).1.length + dn (l.foldl (stepS s) o).2 ≤ o.1.length + l.length + dn o.2
  | [], o => by simp
  | x :: l, o => by
    have h1 := foldS_len s l (stepS s o x)
    have h2 := stepS_len s o x
    rw [List.foldl_cons, List.length_cons]
    omega
theorem putS_one (l : List Sp) (s : Sp) : (putS l s).length ≤ l.length + 1 := by
  have h : (sofarS s l).1.length + dn (sofarS s l).2 ≤ ([] : List Sp).length + l.length + dn false := foldS_len s l ([], false)
  simp only [List.length_nil, dn] at h
  unfold putS
  split
  · rename_i hd; omega
  · rename_i hd
    have : (sofarS s l).2 = false := by simpa using hd
    rw [this] at h
    rw [List.length_append]
    simp only at h
    simp only [List.length_cons, List.length_nil]
    omega

/-- A cell elsewhere behind appends. -/
theorem Ext.cell_old {base size n0 n : Nat} {w w' : World} {v0 v : Value} {xs0 xs : List Value} (h : Ext base size w v0 n0 xs0 w' v n xs) (a : Addr) (ha : a.block < w.heap.size) (hne : ∀ k, v0.ownBlock = some k → k ≠ a.block) : w'.cell? a = w.cell? a :=
  World.cell?_of_block (w := w) (w' := w') (h.grown.block a.block ha (fun e => hne _ e.symm rfl))
theorem Ext.frozen_old {base size n0 n : Nat} {w w' : World} {v0 v : Value} {xs0 xs : List Value} (h : Ext base size w v0 n0 xs0 w' v n xs) (a : Addr) (ha : a.block < w.heap.size) (hne : ∀ k, v0.ownBlock = some k → k ≠ a.block) : w'.frozen? a = w.frozen? a :=
  World.frozen?_of_block (w := w) (w' := w') (h.grown.block a.block ha (fun e => hne _ e.symm rfl))
end Go.Proofs.YtfckgcckpfklaaaGreatDoor
