/- Layer 9: a file, a meta taken. -/
import Derived.Test.YtoihkeilofpcjaaDoorMM9
import Derived.Laws.Rows
namespace Go.Proofs.YtoihkeilofpcjaaDoor
open Go.RowKit Go.Lib

theorem tn_le (st : Mt.St) (most : Int) (hm : 0 ≤ most) : ((Mt.tn st most).1 : Int) ≤ most := by
  unfold Mt.tn
  split
  · simpa using hm
  · show ((Leb.takeM st.1 most).1 : Int) ≤ most
    unfold Leb.takeM
    split
    · simpa using hm
    · split
      · simpa using hm
      · rename_i h1 h2
        omega
theorem tn_lt (st : Mt.St) (most : Int) : (Mt.tn st most).1 < 18446744073709551616 := by
  unfold Mt.tn
  split
  · simp
  · show (Leb.takeM st.1 most).1 < _
    unfold Leb.takeM
    split
    · simp
    · split
      · simp
      · exact Leb.takeU_lt _

/-- A file as a value. -/
def flV (f : Mt.Fl) : Value := .agg #[.string (bs f.name), .int .i64 f.size, .int .u32 f.sum]
theorem fl_len (st : Mt.St) : (Mt.fl st).2.1.length ≤ st.1.length := by
  unfold Mt.fl
  exact Nat.le_trans (tn_len _ _) (Nat.le_trans (tn_len _ _) (tt_len _ _))
theorem cells3 {w : World} {b : Nat} {v0 v1 v2 : Value} {T : TypeId} (h : w.heap[b]? = some (.cells #[v0, v1, v2] T)) :
    (w.cell? ⟨b, 0, none⟩ = some v0 ∧ w.cell? ⟨b, 1, none⟩ = some v1 ∧ w.cell? ⟨b, 2, none⟩ = some v2) ∧ w.frozen? ⟨b, 0, none⟩ = false ∧ w.frozen? ⟨b, 1, none⟩ = false ∧ w.frozen? ⟨b, 2, none⟩ = false :=
  ⟨⟨Lib.cell_of_heap h 0, Lib.cell_of_heap h 1, Lib.cell_of_heap h 2⟩, Lib.frozen_of_heap h 0, Lib.frozen_of_heap h 1, Lib.frozen_of_heap h 2⟩

end Go.Proofs.YtoihkeilofpcjaaDoor
