/- Layer 2's records as new bytes; '[]byte(s)'. -/
import Derived.Test.YtiegokjdnlhlcaaMZ4
namespace Go.Proofs.Ytiegokjdnlhlcaa
open Go.RowKit Go.Lib

/-- '[]byte(s)'. -/
theorem bytes_conv (w : World) (t : List UInt8) (ht : t.length ≤ maxLen) :
    ∃ b W, (convert 9 51 (.string (bs t))).run Try.prog w = .ok b W ∧ Sl W w.heap.size 1 b t.length (cb t) ∧ Below w.heap.size w W := by
  have hcv := run_bytes_of_string (P := Try.prog) w 9 51 5 (bs t) Try.underlying9 Try.underlying51 Try.underlying5
  have hsl := Sl.of_text w 5 (bs t) (by rw [bs_size]; exact ht)
  have e1 : strCells (bs t) = cb t := rfl
  rw [e1, bs_size] at hsl
  rw [bs_size] at hcv
  exact ⟨_, _, hcv, hsl, (Below.refl _ w).drew.alloc (Nat.le_refl _) _⟩

theorem append_new (k : UInt8) (d xs : List UInt8) (m : Nat) (he : Fr.rec k d = xs) (hm : xs.length = m) (h0 : 0 < m) (w : World) (hd : d.length ≤ 140737488350000) :
    Calls Try.prog 28 #[.slice none 0 0, .agg #[.int .u8 k.toNat, .string (bs d)]] w (MadeAt w xs m) := by
  subst he
  subst hm
  refine (append_any w.heap.size none 0 0 [] k d w (Sl.nil _ _ _) (by omega)).mono fun e w' ⟨a, cap, he, hs, hb⟩ => madeAt_of h0 ?_
  rw [List.nil_append] at he hs
  exact ⟨a, cap, he, hs, hb⟩

/-- '[]byte(s)', s not empty. -/
theorem bytes_at (w : World) (t : List UInt8) (ht : t.length ≤ maxLen) (h0 : 0 < t.length) :
    ∃ g off cap W, (convert 9 51 (.string (bs t))).run Try.prog w = .ok (.slice (some ⟨g, off, none⟩) t.length cap) W ∧ t.length ≤ cap ∧ cap ≤ maxLen ∧ Sl W w.heap.size 1 (.slice (some ⟨g, off, none⟩) t.length cap) t.length (cb t) ∧ Below w.heap.size w W := by
  obtain ⟨b, W, hr, hs, hb⟩ := bytes_conv w t ht
  rcases hs.2 with ⟨h1, h2⟩ | ⟨g, off, cap, he, _, _, hn, hc, _, _⟩
  · omega
  · subst he
    exact ⟨g, off, cap, W, hr, hn, hc, hs, hb⟩

end Go.Proofs.Ytiegokjdnlhlcaa
