/- '[]byte(s)', for the walks. -/
import Derived.Test.YtbebgdjlabincaaW4
namespace Go.Proofs.Ytbebgdjlabincaa
open Go.RowKit Go.Lib

/-- '[]byte(s)'. -/
theorem bytes_conv (w : World) (t : List UInt8) (ht : t.length ≤ maxLen) :
    ∃ b W, (convert 9 24 (.string (bs t))).run Try.prog w = .ok b W ∧ Sl W w.heap.size 1 b t.length (cb t) ∧ Below w.heap.size w W := by
  have hcv := run_bytes_of_string (P := Try.prog) w 9 24 5 (bs t) Try.underlying9 Try.underlying24 Try.underlying5
  have hsl := Sl.of_text w 5 (bs t) (by rw [bs_size]; exact ht)
  have e1 : strCells (bs t) = cb t := rfl
  rw [e1, bs_size] at hsl
  rw [bs_size] at hcv
  exact ⟨_, _, hcv, hsl, (Below.refl _ w).drew.alloc (Nat.le_refl _) _⟩

end Go.Proofs.Ytbebgdjlabincaa
