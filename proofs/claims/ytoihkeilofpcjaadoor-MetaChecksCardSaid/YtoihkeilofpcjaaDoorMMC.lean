/- Layer 9: Decode. -/
import Derived.Test.YtoihkeilofpcjaaDoorMMB
import Derived.RegionTactic
namespace Go.Proofs.YtoihkeilofpcjaaDoor
open Go.RowKit Go.Lib

def zMeV : Value := .agg #[.string ⟨#[]⟩, .int .i64 0, .int .i64 0, .int .i64 0, .int .i64 0, .int .i64 0, .slice none 0 0, .slice none 0 0]
/-- The answer: a meta; or an error. -/
def DecO (w : World) (m : Mt.Me) (e : Ending) (w' : World) : Prop :=
  ∃ vf vs, e = .returned (.tuple #[meV m vf vs, .int .i64 0]) ∧ Sl w' w.heap.size 3 vf m.files.length (flc m.files) ∧ Sl w' w.heap.size 1 vs m.src.length (sc m.src) ∧ Below w.heap.size w w'
def DecN (w : World) (n : Nat) (e : Ending) (w' : World) : Prop := e = .returned (.tuple #[zMeV, .int .i64 n]) ∧ Below w.heap.size w w'
/-- The one or the other. -/
def DecP (w : World) (m : Mt.Me) (n : Nat) (e : Ending) (w' : World) : Prop := if n = 0 then DecO w m e w' else DecN w n e w'

theorem decP_ok {w w' : World} {m : Mt.Me} {e : Ending} (h : DecO w m e w') : DecP w m 0 e w' := by unfold DecP; rw [if_pos rfl]; exact h
theorem decP_no {w w' : World} {m : Mt.Me} {n : Nat} {e : Ending} (hn : n ≠ 0) (h : DecN w n e w') : DecP w m n e w' := by unfold DecP; rw [if_neg hn]; exact h

end Go.Proofs.YtoihkeilofpcjaaDoor
