/- Layer 4: Read. -/
import Derived.Test.YtfjihookoilnnaaD8
namespace Go.Proofs.Ytfjihookoilnnaa
open Go.Conc Go.RowKit

theorem read_none (base d f c m : Nat) (room : Int) (fs : List Fl) (A : List Ft) (clock : Nat) (name : ByteArray) (w : World) (h : DiskAt base d f c m room fs A clock w) (hl : lookF name fs = none) :
    Calls Try.prog 29 #[.pointer (some ⟨d, 0, none⟩), .string name] w fun e w' => e = .returned (.tuple #[.string ByteArray.empty, .int .i64 5]) ∧ Below w.heap.size w w' := by
  have c3 := h.c3
  have hl0 := run_look (P := Try.prog) (w := w) Try.underlying72 Try.underlying9 (fval (.slice none 0 0) 0) zero_file h.map name true
  rw [look_en, hl] at hl0
  simp only [if_true, Option.map_none, Option.getD_none, Option.isSome_none] at hl0
  unfold fval at hl0
  go_enter Try.func29, Try.ntmps29
  go_wp2
  go_ret2
  exact ⟨rfl, (Below.refl _ w).alloc (Nat.le_refl _) _⟩

theorem read_go (base d f c m : Nat) (room : Int) (fs : List Fl) (A : List Ft) (clock : Nat) (name : ByteArray) (w : World) (h : DiskAt base d f c m room fs A clock w) (x : Fl) (hl : lookF name fs = some x) :
    Calls Try.prog 29 #[.pointer (some ⟨d, 0, none⟩), .string name] w fun e w' => e = .returned (.tuple #[.string ⟨x.data.toArray⟩, .int .i64 0]) ∧ Below w.heap.size w w' := by
  obtain ⟨hx, hxn⟩ := look_mem name fs x hl
  obtain ⟨a, cap, hv⟩ := (h.files.sl x hx).slice
  have c3 := h.c3
  have hl0 := run_look (P := Try.prog) (w := w) Try.underlying72 Try.underlying9 (fval (.slice none 0 0) 0) zero_file h.map name true
  rw [look_en, hl] at hl0
  simp only [if_true, Option.map_some, Option.getD_some, Option.isSome_some, Fl.en, hv] at hl0
  unfold fval at hl0
  have hsl := h.files.sl x hx
  rw [hv] at hsl
  obtain ⟨n, hn⟩ : ∃ n, n = x.data.length := ⟨_, rfl⟩
  rw [← hn] at hsl hl0
  obtain ⟨W1, hW1⟩ : ∃ W1, W1 = w.alloc (.cells #[.slice a n cap, .int .i64 x.sure] 129) := ⟨_, rfl⟩
  have b1 : Below w.heap.size w W1 := by rw [hW1]; exact (Below.refl _ w).alloc (Nat.le_refl _) _
  have ht := run_text_of_sl (P := Try.prog) W1 base 127 9 5 Try.underlying127 Try.underlying5 Try.underlying9 _ n x.data (hsl.on b1)
  rw [hW1] at ht b1
  have HN := Lib.hid hn
  have HV := Lib.hid hv
  clear hn hv hW1
  go_enter Try.func29, Try.ntmps29
  go_wp2
  go_ret2
  exact ⟨rfl, b1⟩
end Go.Proofs.Ytfjihookoilnnaa
