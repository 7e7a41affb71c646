/- An append of whatever slice; slices of truths; a slice laid out in full. -/
import Derived.Test.YtkialkjhjenkhaaMB0
namespace Go.Proofs.Ytkialkjhjenkhaa
open Go.RowKit Go.Lib

section
variable {P : Program}
theorem Sl.lit (w : World) (base size n : Nat) (cs : Array Value) (e : TypeId) (hb : base ≤ w.heap.size) (hm : n ≤ maxLen) (hs : cs.size = n * size) : Sl (w.alloc (.cells cs e)) base size (.slice (some ⟨w.heap.size, 0, none⟩) n n) n cs.toList :=
  Sl.of_owns (World.ownsRow_lit (e := e) w cs n hb hm hs)

theorem run_append_none_sl (w : World) (base : Nat) (t ty e : TypeId) (i : TypeInfo) (size : Nat) (ht : P.underlying t = some (.slice e)) (hi : P.info? e = some i) (v : Value) (n : Nat) (xs : List Value) (hown : Sl w base size v n xs) :
    (Builtin.append_ #[t, t] ty #[v, .slice none 0 0]).run P w = .ok v w := by
  rcases hown.2 with ⟨rfl, rfl⟩ | ⟨g, off, cap, rfl, _, _, hnc, _⟩
  · simp [Builtin.append_, run_underlying ht, sizeOf, typeInfo, hi, Builtin.lenOf, Builtin.firstCells]
  · simp [Builtin.append_, run_underlying ht, sizeOf, typeInfo, hi, Builtin.lenOf, Builtin.firstCells, hnc, storeCells]

/-- 'append(v, x..)', x whatever slice of one's own, for the walk. -/
theorem wpList_append_sl2 (w : World) {ops : Array Oper} {rest : List Oper} {o : Oper} {a : Act} {Q : Exit → Act → World → Prop} (hgd : o.guard = none) (s x : Operand) (t : TypeId)
    (ho : o.op = .call { callee := .builtin .append, args := #[s, x], argTypes := #[t, t] })
    (base : Nat) (e : TypeId) (i : TypeInfo) (z : Value) (size bytes : Nat) (ht : P.underlying t = some (.slice e)) (hi : P.info? e = some i) (hz : i.zero = some z)
    (hsize : i.size = size) (hby : i.bytes = bytes) (hzs : z.cells.size = size) (hsz : 0 < size)
    (v : Value) (n : Nat) (xs : List Value) (hs : a.eval s = v) (hown : Sl w base size v n xs)
    (b2 : Nat) (xv : Value) (m : Nat) (news : List Value) (hx : a.eval x = xv) (hnew : Sl w b2 size xv m news) (h1 : ∀ u ∈ news, u.oneCell' = true)
    (h63 : n + m ≤ maxLen) (hbytes : (n + m) * bytes ≤ 140737488355328) (hbase : base ≤ w.heap.size)
    (h : ∀ v' w', Ext base size w v n xs w' v' (n + m) (xs ++ news) → wpList P ops Q rest (a.put o.dst v') w') : wpList P ops Q (o :: rest) a w := by
  rcases hnew.2 with ⟨rfl, rfl⟩ | ⟨g, off, cap, rfl, _, _, _, _, _, _⟩
  · have hn : news = [] := List.eq_nil_of_length_eq_zero (by have := hnew.1; omega)
    subst hn
    refine wpList_plain hgd fun K hK => ?_
    have hr := run_append_none_sl (P := P) w base t o.type e i size ht hi v n xs hown
    unfold Oper.wp execOp
    simp only [ho, resolve, invoke, builtin, Sem.run_bind, Sem.run_pure, Result.andThen_ok, List.map_toArray, List.map_cons, List.map_nil, hs, hx, hr]
    have := h v w
    rw [Nat.add_zero, List.append_nil] at this
    exact hK _ _ (this (Ext.refl hown))
  · exact wpList_append_sl w hgd s x t ho base e i z size bytes ht hi hz hsize hby hzs hsz v n xs hs hown ⟨g, off, none⟩ m cap news hx hnew.1 hnew.cells h1 h63 hbytes hbase h
end

/-- The cells of truths. -/
def bc (l : List Bool) : List Value := l.map Value.bool
theorem bc_length (l : List Bool) : (bc l).length = l.length := by simp [bc]
theorem bc_append (l m : List Bool) : bc (l ++ m) = bc l ++ bc m := by simp [bc]
theorem bc_one (l : List Bool) : ∀ v ∈ bc l, v.oneCell' = true := by
  intro v hv
  simp only [bc, List.mem_map] at hv
  obtain ⟨b, _, rfl⟩ := hv
  rfl
theorem sl_bool {w : World} {base g off n cap : Nat} {l : List Bool} (h : Sl w base 1 (.slice (some ⟨g, off, none⟩) n cap) n (bc l)) (j : Nat) (c : Bool) (hj : l[j]? = some c) : w.cell? ⟨g, off + j, none⟩ = some (.bool c) := by
  rcases h.2 with ⟨h0, _⟩ | ⟨g', off', cap', he, _, _, _, _, _, hcell⟩
  · cases h0
  · cases he
    have hlt : j < l.length := (List.getElem?_eq_some_iff.1 hj).1
    have hn : l.length = n := by have := h.1; rw [bc_length] at this; omega
    rw [hcell j (by omega)]
    simp [bc, hj]
/-- A part of one. -/
theorem Sl.part {w : World} {base g off n cap : Nat} {xs : List Value} (h : Sl w base 1 (.slice (some ⟨g, off, none⟩) n cap) n xs) (i m c : Nat) (hm : i + m ≤ n) (hc : c + i = cap) : Sl w base 1 (.slice (some ⟨g, off + i, none⟩) m c) m ((xs.drop i).take m) := by
  have hl : xs.length = n := by have := h.1; omega
  rcases h.2 with ⟨h0, _⟩ | ⟨g', off', cap', he, hbg, hg, hnc, hcm, hfree, hcell⟩
  · cases h0
  · cases he
    refine ⟨by rw [List.length_take, List.length_drop]; omega, .inr ⟨g, off + i, c, rfl, hbg, hg, by omega, by omega, fun j hj => ?_, fun j hj => ?_⟩⟩
    · rw [Nat.add_assoc]; exact hfree (i + j) (by omega)
    · rw [Nat.add_assoc, hcell (i + j) (by omega), List.getElem?_take, if_pos (by omega), List.getElem?_drop]

/-- The answer is a slice of these truths, in new memory. -/
def MadeB (w : World) (l : List Bool) (e : Ending) (w' : World) : Prop :=
  ∃ v, e = .returned v ∧ Sl w' w.heap.size 1 v l.length (bc l) ∧ Below w.heap.size w w'
theorem bi_bool : (Try.prog.info? 4).map (fun i => (i.zero, i.size, i.bytes)) = some (some (.bool false), 1, 1) := by kernel_rfl
end Go.Proofs.Ytkialkjhjenkhaa
