/- Layer 9 in plain words: the metas that the statements make. No program's text. Layer 9: the taker's methods. Layer 9: Of, Meets, marks. Layer 9: a mark's bytes taken; the first known answers. An append of whatever slice; slices of truths; a slice laid out in full. -/
import Derived.Test.YtkialkjhjenkhaaMM0
import Derived.Test.YtkialkjhjenkhaaMZ2
import Derived.Test.YtkialkjhjenkhaaMStr
import Derived.IntWalk
import Derived.Test.YtkialkjhjenkhaaMB0
namespace Go.Proofs.Ytkialkjhjenkhaa.Mt

theorem isN_nam (a b : Nat) (ha : a < 1099511627776) (hb : b < 1099511627776) : isN (Idn.nam a b) = true := by
  unfold isN Idn.nam
  rw [List.take_left' (Idn.dg_len 8 a), List.drop_left' (Idn.dg_len 8 a), Idn.num_dg 8 a (Nat.lt_of_lt_of_le ha (by decide)), Idn.num_dg 8 b (Nat.lt_of_lt_of_le hb (by decide))]
  simp [Idn.dg_len]

/-- The meta that is made of another one's numbers. -/
def mdM (id : List UInt8) (mn mx lv se sa : Int) (ns : Nat) (tick seq : Int) : Me :=
  ⟨Idn.nam (1 + tick % 1024).toNat (seq % 1024).toNat, mn % 1048576, mn % 1048576 + 1 + mx % 65536, 1 + lv % 8, se % 1024, se % 1024 + sa % 1024,
    [⟨nmC, 1, Crc.sum [99]⟩, ⟨nmI, (id.take 20).length, Crc.sum (id.take 20)⟩], (List.range (min ns 9)).map (Idn.nam 0)⟩

theorem okSs_range (id : List UInt8) (hid : ∀ i, i < 1099511627776 → Idn.nam 0 i ≠ id) : ∀ (n k : Nat) (p : Option (List UInt8)), k + n ≤ 100 → (p = none ∨ ∃ j, p = some (Idn.nam 0 j) ∧ j < k) →
    okSs id p ((List.range' k n).map (Idn.nam 0)) = true
  | 0, _, _, _, _ => by simp [okSs]
  | n + 1, k, p, h, hp => by
    rw [List.range'_succ, List.map_cons]
    have ih := okSs_range id hid n (k + 1) (some (Idn.nam 0 k)) (by omega) (.inr ⟨k, rfl, by omega⟩)
    unfold okSs
    rw [ih, isN_nam 0 k (by omega) (by omega)]
    have h1 : decide (Idn.nam 0 k = id) = false := decide_eq_false (hid k (by omega))
    rw [h1]
    rcases hp with rfl | ⟨j, rfl, hj⟩
    · rfl
    · have h2 : Idn.nam 0 j < Idn.nam 0 k := (Idn.nam_lt 0 j 0 k (by omega) (by omega) (by omega) (by omega)).2 (.inr ⟨rfl, hj⟩)
      simp [h2]
theorem chk_mdM (id : List UInt8) (mn mx lv se sa : Int) (ns : Nat) (tick seq : Int) : chk (mdM id mn mx lv se sa ns tick seq) = true := by
  have h1 : isN (mdM id mn mx lv se sa ns tick seq).id = true := isN_nam _ _ (by omega) (by omega)
  have h2 : okT (mdM id mn mx lv se sa ns tick seq) = true := by
    unfold okT mdM
    simp only [Bool.and_eq_true, decide_eq_true_eq]
    omega
  have h3 : okN (mdM id mn mx lv se sa ns tick seq) = true := by
    unfold okN mdM
    simp only [Bool.and_eq_true, decide_eq_true_eq]
    omega
  have h4 : okFs (mdM id mn mx lv se sa ns tick seq).files = true := by
    have : (id.take 20).length ≤ 20 := by rw [List.length_take]; omega
    unfold mdM
    simp only [okFs, okF, Bool.and_eq_true, decide_eq_true_eq]
    exact ⟨⟨⟨trivial, by omega⟩, by omega⟩, ⟨trivial, by omega⟩, by omega⟩
  have h5 : okS (mdM id mn mx lv se sa ns tick seq) = true := by
    unfold okS mdM
    simp only [Bool.and_eq_true, decide_eq_true_eq]
    refine ⟨by simp; omega, ?_⟩
    rw [List.range_eq_range']
    refine okSs_range _ (fun i hi e => ?_) _ 0 none (by omega) (.inl rfl)
    have := ((Idn.nam_eq 0 i _ _ (by omega) hi (by omega) (by omega)).1 e).1
    omega
  unfold chk
  rw [h1, h2, h3, h4, h5]
  rfl
theorem sum_mdM (id : List UInt8) (mn mx lv se sa : Int) (ns : Nat) (tick seq : Int) : ∀ f ∈ (mdM id mn mx lv se sa ns tick seq).files, f.sum < 4294967296 := by
  intro f hf
  unfold mdM at hf
  simp only [List.mem_cons, List.not_mem_nil, or_false] at hf
  rcases hf with rfl | rfl <;> exact Crc.sum_lt _
end Go.Proofs.Ytkialkjhjenkhaa.Mt

namespace Go.Proofs.Ytkialkjhjenkhaa
open Go.RowKit Go.Lib

/-- A taker lies in block b. -/
def Tk (w : World) (b : Nat) (st : Mt.St) : Prop :=
  b < w.heap.size ∧ w.cell? ⟨b, 0, none⟩ = some (.string (bs st.1)) ∧ w.cell? ⟨b, 1, none⟩ = some (.int .i64 st.2) ∧ w.frozen? ⟨b, 0, none⟩ = false ∧ w.frozen? ⟨b, 1, none⟩ = false
theorem Tk.drewN {w : World} {b : Nat} {st : Mt.St} (h : Tk w b st) (n : Nat) : Tk (w.drewN n) b st := h
theorem Tk.turn {S : Nat → Prop} {w w' : World} {b : Nat} {st : Mt.St} (h : Tk w b st) (t : Turn S w w') (hS : ¬ S b) : Tk w' b st :=
  ⟨Nat.lt_of_lt_of_le h.1 t.size, (t.cell (p := ⟨b, 0, none⟩) h.1 hS).trans h.2.1, (t.cell (p := ⟨b, 1, none⟩) h.1 hS).trans h.2.2.1, (t.frozen (p := ⟨b, 0, none⟩) h.1 hS).trans h.2.2.2.1, (t.frozen (p := ⟨b, 1, none⟩) h.1 hS).trans h.2.2.2.2⟩
theorem Tk.below {w w' : World} {b : Nat} {st : Mt.St} (h : Tk w b st) (t : Below w.heap.size w w') : Tk w' b st := h.turn (S := fun _ => False) (Turn.of_below t) id
theorem tk_err {w : World} {b : Nat} {st : Mt.St} (h : Tk w b st) (n : Nat) : Tk (w.setCell ⟨b, 1, none⟩ (.int .i64 n)) b (st.1, n) := by
  refine ⟨by simpa [World.setCell] using h.1, ?_, ?_, ?_, ?_⟩
  · rw [cell_setCell_other _ _ _ _ _ (.inr (by simp))]; exact h.2.1
  · exact cell_setCell_same _ _ _ _ (by rw [h.2.2.1]; rfl)
  · rw [frozen_setCell]; exact h.2.2.2.1
  · rw [frozen_setCell]; exact h.2.2.2.2
theorem tk_rest {w : World} {b : Nat} {st : Mt.St} (h : Tk w b st) (l : List UInt8) : Tk (w.setCell ⟨b, 0, none⟩ (.string (bs l))) b (l, st.2) := by
  refine ⟨by simpa [World.setCell] using h.1, ?_, ?_, ?_, ?_⟩
  · exact cell_setCell_same _ _ _ _ (by rw [h.2.1]; rfl)
  · rw [cell_setCell_other _ _ _ _ _ (.inr (by simp))]; exact h.2.2.1
  · rw [frozen_setCell]; exact h.2.2.2.1
  · rw [frozen_setCell]; exact h.2.2.2.2

/-- An answer; the taker is at st'. -/
def TkP (b : Nat) (w : World) (v : Value) (st' : Mt.St) (e : Ending) (w' : World) : Prop := e = .returned v ∧ Tk w' b st' ∧ Turn (fun k => k = b) w w'

theorem turn_two (b : Nat) (w : World) (n : Nat) (u v : Value) : Turn (fun k => k = b) w (((w.drewN n).setCell ⟨b, 0, none⟩ u).setCell ⟨b, 1, none⟩ v) :=
  Turn.setCell (S := fun k => k = b) (Turn.setCell (S := fun k => k = b) (Turn.of_below (below_draw (Below.refl _ _) n)) ⟨b, 0, none⟩ u rfl) ⟨b, 1, none⟩ v rfl

/-- No answer; the taker is at st'. -/
def TkE (b : Nat) (w : World) (st' : Mt.St) (e : Ending) (w' : World) : Prop := e = .returned (.tuple #[]) ∧ Tk w' b st' ∧ Turn (fun k => k = b) w w'

theorem pars_isN (l : List UInt8) : (pars l).isSome = Mt.isN l := by
  unfold pars Mt.isN
  split
  · rename_i h
    rw [decide_eq_true h]
    cases Idn.num (l.take 8) 0 <;> cases Idn.num (l.drop 8) 0 <;> rfl
  · rename_i h
    rw [decide_eq_false h]
    rfl
end Go.Proofs.Ytkialkjhjenkhaa

namespace Go.Proofs.Ytkialkjhjenkhaa
open Go.RowKit Go.Lib

/-- How a taker is handed about. -/
def stV (st : Mt.St) : Value := .agg #[.string (bs st.1), .int .i64 st.2]
theorem tk_new (w : World) (l : List UInt8) (e : Nat) (t : TypeId) (b : Nat) (hb : b = w.heap.size) : Tk (w.alloc (.cells #[.string (bs l), .int .i64 e] t)) b (l, e) := by
  subst hb
  have h := heap_alloc_new w (.cells #[.string (bs l), .int .i64 e] t)
  refine ⟨by simp, ?_, ?_, ?_, ?_⟩
  · rw [Lib.cell_of_heap h]; rfl
  · rw [Lib.cell_of_heap h]; rfl
  · simp only [World.frozen?, h]; simp
  · simp only [World.frozen?, h]; simp

/-- What DecodeMark answers. -/
def dmkV (p : List UInt8 × Nat × Mt.St) : Value := if p.2.2.2 = 0 then .tuple #[.string (bs p.1), .int .i64 p.2.1, .int .i64 0] else .tuple #[.string (bs []), .int .i64 0, .int .i64 p.2.2.2]

theorem tn_len (st : Mt.St) (most : Int) : (Mt.tn st most).2.1.length ≤ st.1.length := by
  unfold Mt.tn
  split
  · exact Nat.le_refl _
  · show (Leb.takeM st.1 most).2.1.length ≤ _
    unfold Leb.takeM
    split
    · simp
    · split
      · simp
      · exact Leb.dec_left _ _ _
theorem tt_len (st : Mt.St) (most : Int) : (Mt.tt st most).2.1.length ≤ st.1.length := by
  unfold Mt.tt
  split
  · exact Nat.le_refl _
  · show (Leb.takeT st.1 most).2.1.length ≤ _
    unfold Leb.takeT
    split
    · simp
    · split
      · simp
      · have := tn_len (st.1, 0) most
        unfold Mt.tn at this
        rw [if_neg (by simp)] at this
        simp only at this ⊢
        rw [List.length_drop]
        omega
theorem opn_len (s : List UInt8) (k : UInt8) : (Mt.opn s k).1.length ≤ s.length := by
  have h : (Fr.next s).1.2.length ≤ s.length := by
    cases s with
    | nil => simp [Fr.next]
    | cons c l =>
      rw [Fr.next]
      split
      · simp
      · split
        · simp
        · split
          · simp
          · have := tn_len (l, 0) 1048576
            unfold Mt.tn at this
            rw [if_neg (by simp)] at this
            simp only at this
            simp only [List.length_take, List.length_drop, List.length_cons]
            omega
  unfold Mt.opn Mt.dem
  split <;> exact h
end Go.Proofs.Ytkialkjhjenkhaa

namespace Go.Proofs.Ytkialkjhjenkhaa
open Go.RowKit Go.Lib

theorem dmkV_ok (x : List UInt8) (n : Nat) (l : List UInt8) : dmkV (x, n, (l, 0)) = .tuple #[.string (bs x), .int .i64 n, .int .i64 0] := rfl
theorem dmkV_no (x : List UInt8) (n : Nat) (l : List UInt8) (e : Nat) (h : e ≠ 0) : dmkV (x, n, (l, e)) = .tuple #[.string (bs []), .int .i64 0, .int .i64 e] := by
  unfold dmkV; rw [if_neg h]

end Go.Proofs.Ytkialkjhjenkhaa

namespace Go.Proofs.Ytkialkjhjenkhaa
open Go.RowKit Go.Lib

section
variable {P : Program}
theorem Sl.lit (w : World) (base size n : Nat) (cs : Array Value) (e : TypeId) (hb : base ≤ w.heap.size) (hm : n ≤ maxLen) (hs : cs.size = n * size) : Sl (w.alloc (.cells cs e)) base size (.slice (some ⟨w.heap.size, 0, none⟩) n n) n cs.toList :=
  Sl.of_owns (World.ownsRow_lit (e := e) w cs n hb hm hs)

theorem run_append_none_sl (w : World) (base : Nat) (t ty e : TypeId) (i : TypeInfo) (size : Nat) (ht : P.underlying t = some (.slice e)) (hi : P.info? e = some i) (v : Value) (n : Nat) (xs : List Value) (hown : Sl w base size v n xs) :
    (Builtin.append_ #[t, t] ty #[v, .slice none 0 0]).run P w = .ok v w := by
  rcases hown.2 with ⟨rfl, rfl⟩ | ⟨g, off, cap, rfl, _, _, hnc, _⟩
  · simp [Builtin.append_, run_underlying ht, sizeOf, typeInfo, hi, Builtin.lenOf, Builtin.firstCells]
  · simp [Builtin.append_, run_underlying ht, sizeOf, typeInfo, hi, Builtin.lenOf, Builtin.firstCells, hnc, storeCells]

/-- 'append(v, x..)', x whatever slice of one's own, for the walk. -/
theorem wpList_append_sl2 (w : World) {ops : Array Oper} {rest : List Oper} {o : Oper} {a : Act} {Q : Exit → Act → World → Prop} (hgd : o.guard = none) (s x : Operand) (t : TypeId)
    (ho : o.op = .call { callee := .builtin .append, args := #[s, x], argTypes := #[t, t] })
    (base : Nat) (e : TypeId) (i : TypeInfo) (z : Value) (size bytes : Nat) (ht : P.underlying t = some (.slice e)) (hi : P.info? e = some i) (hz : i.zero = some z)
    (hsize : i.size = size) (hby : i.bytes = bytes) (hzs : z.cells.size = size) (hsz : 0 < size)
    (v : Value) (n : Nat) (xs : List Value) (hs : a.eval s = v) (hown : Sl w base size v n xs)
    (b2 : Nat) (xv : Value) (m : Nat) (news : List Value) (hx : a.eval x = xv) (hnew : Sl w b2 size xv m news) (h1 : ∀ u ∈ news, u.oneCell' = true)
    (h63 : n + m ≤ maxLen) (hbytes : (n + m) * bytes ≤ 140737488355328) (hbase : base ≤ w.heap.size)
    (h : ∀ v' w', Ext base size w v n xs w' v' (n + m) (xs ++ news) → wpList P ops Q rest (a.put o.dst v') w') : wpList P ops Q (o :: rest) a w := by
  rcases hnew.2 with ⟨rfl, rfl⟩ | ⟨g, off, cap, rfl, _, _, _, _, _, _⟩
  · have hn : news = [] := List.eq_nil_of_length_eq_zero (by have := hnew.1; omega)
    subst hn
    refine wpList_plain hgd fun K hK => ?_
    have hr := run_append_none_sl (P := P) w base t o.type e i size ht hi v n xs hown
    unfold Oper.wp execOp
    simp only [ho, resolve, invoke, builtin, Sem.run_bind, Sem.run_pure, Result.andThen_ok, List.map_toArray, List.map_cons, List.map_nil, hs, hx, hr]
    have := h v w
    rw [Nat.add_zero, List.append_nil] at this
    exact hK _ _ (this (Ext.refl hown))
  · exact wpList_append_sl w hgd s x t ho base e i z size bytes ht hi hz hsize hby hzs hsz v n xs hs hown ⟨g, off, none⟩ m cap news hx hnew.1 hnew.cells h1 h63 hbytes hbase h
end

/-- The cells of truths. -/
def bc (l : List Bool) : List Value := l.map Value.bool
theorem bc_length (l : List Bool) : (bc l).length = l.length := by simp [bc]
theorem bc_append (l m : List Bool) : bc (l ++ m) = bc l ++ bc m := by simp [bc]
theorem bc_one (l : List Bool) : ∀ v ∈ bc l, v.oneCell' = true := by
  intro v hv
  simp only [bc, List.mem_map] at hv
  obtain ⟨b, _, rfl⟩ := hv
  rfl
theorem sl_bool {w : World} {base g off n cap : Nat} {l : List Bool} (h : Sl w base 1 (.slice (some ⟨g, off, none⟩) n cap) n (bc l)) (j : Nat) (c : Bool) (hj : l[j]? = some c) : w.cell? ⟨g, off + j, none⟩ = some (.bool c) := by
  rcases h.2 with ⟨h0, _⟩ | ⟨g', off', cap', he, _, _, _, _, _, hcell⟩
  · cases h0
  · cases he
    have hlt : j < l.length := (List.getElem?_eq_some_iff.1 hj).1
    have hn : l.length = n := by have := h.1; rw [bc_length] at this; omega
    rw [hcell j (by omega)]
    simp [bc, hj]
/-- A part of one. -/
theorem Sl.part {w : World} {base g off n cap : Nat} {xs : List Value} (h : Sl w base 1 (.slice (some ⟨g, off, none⟩) n cap) n xs) (i m c : Nat) (hm : i + m ≤ n) (hc : c + i = cap) : Sl w base 1 (.slice (some ⟨g, off + i, none⟩) m c) m ((xs.drop i).take m) := by
  have hl : xs.length = n := by have := h.1; omega
  rcases h.2 with ⟨h0, _⟩ | ⟨g', off', cap', he, hbg, hg, hnc, hcm, hfree, hcell⟩
  · cases h0
  · cases he
    refine ⟨by rw [List.length_take, List.length_drop]; omega, .inr ⟨g, off + i, c, rfl, hbg, hg, by omega, by omega, fun j hj => ?_, fun j hj => ?_⟩⟩
    · rw [Nat.add_assoc]; exact hfree (i + j) (by omega)
    · rw [Nat.add_assoc, hcell (i + j) (by omega), List.getElem?_take, if_pos (by omega), List.getElem?_drop]

/-- The answer is a slice of these truths, in new memory. -/
def MadeB (w : World) (l : List Bool) (e : Ending) (w' : World) : Prop :=
  ∃ v, e = .returned v ∧ Sl w' w.heap.size 1 v l.length (bc l) ∧ Below w.heap.size w w'
theorem bi_bool : (Try.prog.info? 4).map (fun i => (i.zero, i.size, i.bytes)) = some (some (.bool false), 1, 1) := by kernel_rfl
end Go.Proofs.Ytkialkjhjenkhaa
