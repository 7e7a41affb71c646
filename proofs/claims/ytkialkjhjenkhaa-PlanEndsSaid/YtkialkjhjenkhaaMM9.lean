/- Layer 9: Check, whole. Layer 9: a file, a meta taken. An append to whatever slice of one's own, as one step of a region that draws its order. -/
import Derived.Test.YtkialkjhjenkhaaMM5
import Derived.Laws.Rows
import Derived.Test.YtkialkjhjenkhaaMM1
import Derived.Deep.RegionLaw
namespace Go.Proofs.Ytkialkjhjenkhaa
open Go.RowKit Go.Lib

theorem mless_lt : ∀ (a b : List UInt8), Op.bytesLess a b = true ↔ a < b
  | [], [] => by simp [Op.bytesLess]
  | [], _ :: _ => by simp [Op.bytesLess]
  | _ :: _, [] => by simp [Op.bytesLess]
  | x :: a, y :: b => by
    rw [Op.bytesLess, List.cons_lt_cons_iff]
    simp [mless_lt a b]
theorem mless_dec (a b : List UInt8) : Op.bytesLess a b = decide (a < b) := by
  rw [Bool.eq_iff_iff, mless_lt, decide_eq_true_iff]
/-- The text ahead of place i. -/
def prevS (l : List (List UInt8)) (i : Nat) : Option (List UInt8) := match i with
  | 0 => none
  | i + 1 => l[i]?
theorem okSs_none (id x : List UInt8) (l : List (List UInt8)) : Mt.okSs id none (x :: l) = (Mt.isN x && !decide (x = id) && Mt.okSs id (some x) l) := by
  conv => lhs; unfold Mt.okSs
  simp
theorem okSs_some (id q x : List UInt8) (l : List (List UInt8)) : Mt.okSs id (some q) (x :: l) = (Mt.isN x && !decide (x = id) && decide (q < x) && Mt.okSs id (some x) l) := by
  conv => lhs; unfold Mt.okSs
theorem okSs_nil (id : List UInt8) (p : Option (List UInt8)) : Mt.okSs id p [] = true := by cases p <;> rfl
theorem sc_at (l : List (List UInt8)) (i : Nat) (x : List UInt8) (h : l[i]? = some x) : (sc l)[i]? = some (.string (bs x)) := by simp [sc, h]

theorem cells8 {w : World} {b : Nat} {v0 v1 v2 v3 v4 v5 v6 v7 : Value} {T : TypeId} (h : w.heap[b]? = some (.cells #[v0, v1, v2, v3, v4, v5, v6, v7] T)) :
    w.cell? ⟨b, 0, none⟩ = some v0 ∧ w.cell? ⟨b, 1, none⟩ = some v1 ∧ w.cell? ⟨b, 2, none⟩ = some v2 ∧ w.cell? ⟨b, 3, none⟩ = some v3 ∧ w.cell? ⟨b, 4, none⟩ = some v4 ∧ w.cell? ⟨b, 5, none⟩ = some v5 ∧ w.cell? ⟨b, 6, none⟩ = some v6 ∧ w.cell? ⟨b, 7, none⟩ = some v7 :=
  ⟨Lib.cell_of_heap h 0, Lib.cell_of_heap h 1, Lib.cell_of_heap h 2, Lib.cell_of_heap h 3, Lib.cell_of_heap h 4, Lib.cell_of_heap h 5, Lib.cell_of_heap h 6, Lib.cell_of_heap h 7⟩

/-- Check's answer. -/
def ckE (b : Bool) : Int := if b = true then 0 else 3

end Go.Proofs.Ytkialkjhjenkhaa

namespace Go.Proofs.Ytkialkjhjenkhaa
open Go.RowKit Go.Lib

theorem tn_le (st : Mt.St) (most : Int) (hm : 0 ≤ most) : ((Mt.tn st most).1 : Int) ≤ most := by
  unfold Mt.tn
  split
  · simpa using hm
  · show ((Leb.takeM st.1 most).1 : Int) ≤ most
    unfold Leb.takeM
    split
    · simpa using hm
    · split
      · simpa using hm
      · rename_i h1 h2
        omega
theorem tn_lt (st : Mt.St) (most : Int) : (Mt.tn st most).1 < 18446744073709551616 := by
  unfold Mt.tn
  split
  · simp
  · show (Leb.takeM st.1 most).1 < _
    unfold Leb.takeM
    split
    · simp
    · split
      · simp
      · exact Leb.takeU_lt _

/-- A file as a value. -/
def flV (f : Mt.Fl) : Value := .agg #[.string (bs f.name), .int .i64 f.size, .int .u32 f.sum]
theorem fl_len (st : Mt.St) : (Mt.fl st).2.1.length ≤ st.1.length := by
  unfold Mt.fl
  exact Nat.le_trans (tn_len _ _) (Nat.le_trans (tn_len _ _) (tt_len _ _))
theorem cells3 {w : World} {b : Nat} {v0 v1 v2 : Value} {T : TypeId} (h : w.heap[b]? = some (.cells #[v0, v1, v2] T)) :
    (w.cell? ⟨b, 0, none⟩ = some v0 ∧ w.cell? ⟨b, 1, none⟩ = some v1 ∧ w.cell? ⟨b, 2, none⟩ = some v2) ∧ w.frozen? ⟨b, 0, none⟩ = false ∧ w.frozen? ⟨b, 1, none⟩ = false ∧ w.frozen? ⟨b, 2, none⟩ = false :=
  ⟨⟨Lib.cell_of_heap h 0, Lib.cell_of_heap h 1, Lib.cell_of_heap h 2⟩, Lib.frozen_of_heap h 0, Lib.frozen_of_heap h 1, Lib.frozen_of_heap h 2⟩

end Go.Proofs.Ytkialkjhjenkhaa

namespace Go.Proofs.Ytkialkjhjenkhaa
open Go.RowKit Go.Lib

theorem step_append_sl {P : Program} {ops : Array Oper} {o : Oper} {a : Act} {w : World} {K : Act → World → Prop} {Q : Exit → Act → World → Prop} {E : Prop}
    (hg : o.guard = none) (s x : Operand) (t : TypeId) (ho : o.op = Op.call { callee := Callee.builtin Builtin.append, args := #[s, x], argTypes := #[t, t] })
    (base : Nat) (e : TypeId) (i : TypeInfo) (z : Value) (size bytes : Nat) (ht : P.underlying t = some (.slice e)) (hi : P.info? e = some i) (hz : i.zero = some z)
    (hsize : i.size = size) (hby : i.bytes = bytes) (hzs : z.cells.size = size) (hsz : 0 < size)
    (v : Value) (n : Nat) (xs : List Value) (hs : a.eval s = v) (hown : Sl w base size v n xs)
    (ad : Addr) (m c : Nat) (news : List Value) (hx : a.eval x = .slice (some ad) m c) (hl : news.length = m * size) (hnews : ∀ j u, news[j]? = some u → w.cell? (ad.add j) = some u) (h1 : ∀ u ∈ news, u.oneCell' = true)
    (h63 : n + m ≤ maxLen) (hbytes : (n + m) * bytes ≤ 140737488355328) (hbase : base ≤ w.heap.size)
    (hK : ∀ v' w', Ext base size w v n xs w' v' (n + m) (xs ++ news) → K (a.put o.dst v') w') :
    if Region.wanted o (yielded ops a.tmps) = true then Oper.wp P o a w K Q else E := by
  have hw : Region.wanted o (yielded ops a.tmps) = true := by simp [Region.wanted, hg]
  rw [if_pos hw]
  obtain ⟨v', w', hr, h2⟩ := run_append_sl (P := P) w base t o.type e i z size bytes ht hi hz hsize hby hzs hsz v n xs hown ad m c news hl hnews h1 h63 hbytes hbase
  unfold Oper.wp
  simp [execOp, ho, resolve, invoke, builtin, hs, hx, hr, Result.andThen]
  exact hK v' w' h2
end Go.Proofs.Ytkialkjhjenkhaa
