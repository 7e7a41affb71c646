/- Layer 9: a meta taken. Layer 9: Decode. Slices only read, appended to one's own; slices in a slice. -/
import Derived.Test.YtkialkjhjenkhaaMM9
import Derived.RegionTactic
import Derived.Test.YtkialkjhjenkhaaMM1
import Derived.Test.YtkialkjhjenkhaaMZ2
import Derived.Lib.AppendZerosOnto
namespace Go.Proofs.Ytkialkjhjenkhaa
open Go.RowKit Go.Lib

theorem frozen8 {w : World} {b : Nat} {cs : Array Value} {T : TypeId} (h : w.heap[b]? = some (.cells cs T (0, 0))) : w.frozen? ⟨b, 0, none⟩ = false ∧ w.frozen? ⟨b, 1, none⟩ = false ∧ w.frozen? ⟨b, 2, none⟩ = false ∧ w.frozen? ⟨b, 3, none⟩ = false ∧ w.frozen? ⟨b, 4, none⟩ = false ∧ w.frozen? ⟨b, 5, none⟩ = false ∧ w.frozen? ⟨b, 6, none⟩ = false ∧ w.frozen? ⟨b, 7, none⟩ = false :=
  ⟨Lib.frozen_of_heap h 0, Lib.frozen_of_heap h 1, Lib.frozen_of_heap h 2, Lib.frozen_of_heap h 3, Lib.frozen_of_heap h 4, Lib.frozen_of_heap h 5, Lib.frozen_of_heap h 6, Lib.frozen_of_heap h 7⟩

/-- The answer: a meta, its lists in new memory; the taker in block b is at st'. -/
def MeP (b : Nat) (w : World) (m : Mt.Me) (st' : Mt.St) (e : Ending) (w' : World) : Prop :=
  ∃ vf vs, e = .returned (meV m vf vs) ∧ Tk w' b st' ∧ Sl w' w.heap.size 3 vf m.files.length (flc m.files) ∧ Sl w' w.heap.size 1 vs m.src.length (sc m.src) ∧ Turn (fun k => k = b) w w'

theorem zc_file : (Try.prog.info? 57).map (fun i => (i.zero, i.size, i.bytes)) = some (some (.agg #[.string ⟨#[]⟩, .int .i64 0, .int .u32 0]), 3, 32) := by kernel_rfl

theorem turn_shrink {S S' : Nat → Prop} {a b : World} (h : Turn S a b) (hS : ∀ k, k < a.heap.size → S k → S' k) : Turn S' a b :=
  ⟨h.os, h.tape, h.output, h.size, fun i hi hr => h.block i hi fun e => hr (hS i hi e)⟩
theorem turn_of_belowB {B : Nat} {a b : World} (h : Below B a b) : Turn (fun k => B ≤ k) a b := ⟨h.os, h.tape, h.output, h.size, fun i _ hr => h.block i (by omega)⟩

/-- Files, one behind the other. -/
def fls : Nat → Mt.St → List Mt.Fl × Mt.St
  | 0, st => ([], st)
  | n + 1, st => ((fls n st).1 ++ [(Mt.fl (fls n st).2).1], (Mt.fl (fls n st).2).2)
theorem fls_len (st : Mt.St) : ∀ n, (fls n st).1.length = n ∧ (fls n st).2.1.length ≤ st.1.length
  | 0 => ⟨rfl, Nat.le_refl _⟩
  | n + 1 => by
    obtain ⟨h1, h2⟩ := fls_len st n
    exact ⟨by rw [fls, List.length_append, h1]; rfl, Nat.le_trans (fl_len _) h2⟩
theorem txs_snoc : ∀ (n : Nat) (st : Mt.St), Mt.txs (n + 1) st = ((Mt.txs n st).1 ++ [(Mt.tt (Mt.txs n st).2 16).1], (Mt.tt (Mt.txs n st).2 16).2)
  | 0, st => rfl
  | n + 1, st => by
    rw [Mt.txs, txs_snoc n]
    rfl
theorem txs_len (st : Mt.St) : ∀ n, (Mt.txs n st).1.length = n ∧ (Mt.txs n st).2.1.length ≤ st.1.length
  | 0 => ⟨rfl, Nat.le_refl _⟩
  | n + 1 => by
    obtain ⟨h1, h2⟩ := txs_len st n
    rw [txs_snoc]
    exact ⟨by rw [List.length_append, h1]; rfl, Nat.le_trans (tt_len _ _) h2⟩
theorem flc_append (a c : List Mt.Fl) : flc (a ++ c) = flc a ++ flc c := by simp [flc]
theorem flc_one (f : Mt.Fl) : flc [f] = [.string (bs f.name), .int .i64 f.size, .int .u32 f.sum] := rfl
theorem three_cells (w : World) (a b c : Value) (t : TypeId) : ∀ j u, [a, b, c][j]? = some u → (w.alloc (.cells #[a, b, c] t)).cell? ((⟨w.heap.size, 0, none⟩ : Addr).add j) = some u := by
  intro j u hu
  exact (Sl.lit w w.heap.size 3 1 #[a, b, c] t (Nat.le_refl _) (by decide) rfl).cells j u hu

/-- The local box and the taker while a meta is taken. -/
structure MeL (b c sb : Nat) (w w' : World) (m : Mt.Me) (vf vs : Value) (st : Mt.St) : Prop where
  tk : Tk w' b st
  box : w'.heap[c]? = some (.cells #[.string (bs m.id), .int .i64 m.mn, .int .i64 m.mx, .int .i64 m.lv, .int .i64 m.se, .int .i64 m.sa, vf, vs] 53 (0, 0))
  fs : Sl w' (w.heap.size + 2) 3 vf m.files.length (flc m.files)
  ss : Sl w' sb 1 vs m.src.length (sc m.src)
  turn : Turn (fun k => k = b ∨ k = c) w w'
  len : st.1.length ≤ 140737488350000
  few : m.files.length ≤ 2 ∧ m.src.length ≤ 60

end Go.Proofs.Ytkialkjhjenkhaa

namespace Go.Proofs.Ytkialkjhjenkhaa
open Go.RowKit Go.Lib

def zMeV : Value := .agg #[.string ⟨#[]⟩, .int .i64 0, .int .i64 0, .int .i64 0, .int .i64 0, .int .i64 0, .slice none 0 0, .slice none 0 0]
/-- The answer: a meta; or an error. -/
def DecO (w : World) (m : Mt.Me) (e : Ending) (w' : World) : Prop :=
  ∃ vf vs, e = .returned (.tuple #[meV m vf vs, .int .i64 0]) ∧ Sl w' w.heap.size 3 vf m.files.length (flc m.files) ∧ Sl w' w.heap.size 1 vs m.src.length (sc m.src) ∧ Below w.heap.size w w'
def DecN (w : World) (n : Nat) (e : Ending) (w' : World) : Prop := e = .returned (.tuple #[zMeV, .int .i64 n]) ∧ Below w.heap.size w w'
/-- The one or the other. -/
def DecP (w : World) (m : Mt.Me) (n : Nat) (e : Ending) (w' : World) : Prop := if n = 0 then DecO w m e w' else DecN w n e w'

theorem decP_ok {w w' : World} {m : Mt.Me} {e : Ending} (h : DecO w m e w') : DecP w m 0 e w' := by unfold DecP; rw [if_pos rfl]; exact h
theorem decP_no {w w' : World} {m : Mt.Me} {n : Nat} {e : Ending} (hn : n ≠ 0) (h : DecN w n e w') : DecP w m n e w' := by unfold DecP; rw [if_neg hn]; exact h

end Go.Proofs.Ytkialkjhjenkhaa

namespace Go.Proofs.Ytkialkjhjenkhaa
open Go.RowKit Go.Lib

section
variable {P : Program}
theorem run_append_none_rd (w : World) (base c : Nat) (t ty e : TypeId) (i : TypeInfo) (size : Nat) (ht : P.underlying t = some (.slice e)) (hi : P.info? e = some i) (v : Value) (n : Nat) (xs : List Value) (hown : Sl w base size v n xs) :
    (Builtin.append_ #[t, t] ty #[v, .slice none 0 c]).run P w = .ok v w := by
  rcases hown.2 with ⟨rfl, rfl⟩ | ⟨g, off, cap, rfl, _, _, hnc, _⟩
  · simp [Builtin.append_, run_underlying ht, sizeOf, typeInfo, hi, Builtin.lenOf, Builtin.firstCells]
  · simp [Builtin.append_, run_underlying ht, sizeOf, typeInfo, hi, Builtin.lenOf, Builtin.firstCells, hnc, storeCells]

/-- 'append(v, x..)', x a slice that is only read, for the walk. -/
theorem wpList_append_rd (w : World) {ops : Array Oper} {rest : List Oper} {o : Oper} {a : Act} {Q : Exit → Act → World → Prop} (hgd : o.guard = none) (s x : Operand) (t : TypeId)
    (ho : o.op = .call { callee := .builtin .append, args := #[s, x], argTypes := #[t, t] })
    (base : Nat) (e : TypeId) (i : TypeInfo) (z : Value) (size bytes : Nat) (ht : P.underlying t = some (.slice e)) (hi : P.info? e = some i) (hz : i.zero = some z)
    (hsize : i.size = size) (hby : i.bytes = bytes) (hzs : z.cells.size = size) (hsz : 0 < size)
    (v : Value) (n : Nat) (xs : List Value) (hs : a.eval s = v) (hown : Sl w base size v n xs)
    (xv : Value) (m : Nat) (news : List Value) (hx : a.eval x = xv) (hnew : Rd w size xv m news) (h1 : ∀ u ∈ news, u.oneCell' = true)
    (h63 : n + m ≤ maxLen) (hbytes : (n + m) * bytes ≤ 140737488355328) (hbase : base ≤ w.heap.size)
    (h : ∀ v' w', Ext base size w v n xs w' v' (n + m) (xs ++ news) → wpList P ops Q rest (a.put o.dst v') w') : wpList P ops Q (o :: rest) a w := by
  obtain ⟨hl, ax, cap, g, off, rfl, hg, hc⟩ := hnew
  cases ax with
  | none =>
    have hm : m = 0 := by
      rcases Nat.eq_zero_or_pos m with h0 | h0
      · exact h0
      · have := (hg h0).1; cases this
    subst hm
    have hn : news = [] := List.eq_nil_of_length_eq_zero (by omega)
    subst hn
    refine wpList_plain hgd fun K hK => ?_
    have hr := run_append_none_rd (P := P) w base cap t o.type e i size ht hi v n xs hown
    unfold Oper.wp execOp
    simp only [ho, resolve, invoke, builtin, Sem.run_bind, Sem.run_pure, Result.andThen_ok, List.map_toArray, List.map_cons, List.map_nil, hs, hx, hr]
    have := h v w
    rw [Nat.add_zero, List.append_nil] at this
    exact hK _ _ (this (Ext.refl hown))
  | some ad =>
    refine wpList_append_sl w hgd s x t ho base e i z size bytes ht hi hz hsize hby hzs hsz v n xs hs hown ad m cap news hx hl (fun j u hu => ?_) h1 h63 hbytes hbase h
    have hj : j < news.length := (List.getElem?_eq_some_iff.1 hu).1
    have hm : 0 < m := by
      rcases Nat.eq_zero_or_pos m with h0 | h0
      · subst h0; simp at hl; rw [hl] at hj; simp at hj
      · exact h0
    obtain ⟨he, _⟩ := hg hm
    obtain rfl : ad = ⟨g, off, none⟩ := Option.some.inj he
    rw [Addr.add_lit, hc j (by omega), hu]
end

/-- Slices in a slice, one cell each, only read. -/
def Rds (w : World) (v : Value) (ls : List (List Value)) : Prop :=
  ∃ a cap g off, v = .slice a ls.length cap ∧ (0 < ls.length → a = some ⟨g, off, none⟩ ∧ g < w.heap.size) ∧ ∀ j l, ls[j]? = some l → ∃ x, w.cell? ⟨g, off + j, none⟩ = some x ∧ Rd w 1 x l.length l
theorem rd_form {w : World} {size n : Nat} {v : Value} {xs : List Value} (h : Rd w size v n xs) : ∃ a cap, v = .slice a n cap := by
  obtain ⟨_, a, cap, _, _, hv, _⟩ := h
  exact ⟨a, cap, hv⟩
theorem flat_take (ls : List (List Value)) (i : Nat) (l : List Value) (h : ls[i]? = some l) : (ls.take (i + 1)).flatten = (ls.take i).flatten ++ l := by
  rw [List.take_add_one, h, List.flatten_append]; simp
theorem flat_take_le (ls : List (List Value)) (i : Nat) : (ls.take i).flatten.length ≤ ls.flatten.length := by
  have h : ls.flatten = (ls.take i).flatten ++ (ls.drop i).flatten := by rw [← List.flatten_append, List.take_append_drop]
  rw [h, List.length_append]; omega
end Go.Proofs.Ytkialkjhjenkhaa
