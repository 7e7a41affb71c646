/- Layer 4: Read. Layer 4: does a name begin so? -/
import Derived.Test.YtiegokjdnlhlcaaMD8
namespace Go.Proofs.Ytiegokjdnlhlcaa
open Go.Conc Go.RowKit

theorem read_none (base d f c m : Nat) (room : Int) (fs : List Fl) (A : List Ft) (clock : Nat) (name : ByteArray) (w : World) (h : DiskAt base d f c m room fs A clock w) (hl : lookF name fs = none) :
    Calls Try.prog 21 #[.pointer (some ⟨d, 0, none⟩), .string name] w fun e w' => e = .returned (.tuple #[.string ByteArray.empty, .int .i64 5]) ∧ Below w.heap.size w w' := by
  have c3 := h.c3
  have hl0 := run_look (P := Try.prog) (w := w) Try.underlying30 Try.underlying9 (fval (.slice none 0 0) 0) zero_file h.map name true
  rw [look_en, hl] at hl0
  simp only [if_true, Option.map_none, Option.getD_none, Option.isSome_none] at hl0
  unfold fval at hl0
  go_enter Try.func21, Try.ntmps21
  go_wp2
  go_ret2
  exact ⟨rfl, (Below.refl _ w).alloc (Nat.le_refl _) _⟩

theorem read_go (base d f c m : Nat) (room : Int) (fs : List Fl) (A : List Ft) (clock : Nat) (name : ByteArray) (w : World) (h : DiskAt base d f c m room fs A clock w) (x : Fl) (hl : lookF name fs = some x) :
    Calls Try.prog 21 #[.pointer (some ⟨d, 0, none⟩), .string name] w fun e w' => e = .returned (.tuple #[.string ⟨x.data.toArray⟩, .int .i64 0]) ∧ Below w.heap.size w w' := by
  obtain ⟨hx, hxn⟩ := look_mem name fs x hl
  obtain ⟨a, cap, hv⟩ := (h.files.sl x hx).slice
  have c3 := h.c3
  have hl0 := run_look (P := Try.prog) (w := w) Try.underlying30 Try.underlying9 (fval (.slice none 0 0) 0) zero_file h.map name true
  rw [look_en, hl] at hl0
  simp only [if_true, Option.map_some, Option.getD_some, Option.isSome_some, Fl.en, hv] at hl0
  unfold fval at hl0
  have hsl := h.files.sl x hx
  rw [hv] at hsl
  obtain ⟨n, hn⟩ : ∃ n, n = x.data.length := ⟨_, rfl⟩
  rw [← hn] at hsl hl0
  obtain ⟨W1, hW1⟩ : ∃ W1, W1 = w.alloc (.cells #[.slice a n cap, .int .i64 x.sure] 53) := ⟨_, rfl⟩
  have b1 : Below w.heap.size w W1 := by rw [hW1]; exact (Below.refl _ w).alloc (Nat.le_refl _) _
  have ht := run_text_of_sl (P := Try.prog) W1 base 51 9 5 Try.underlying51 Try.underlying5 Try.underlying9 _ n x.data (hsl.on b1)
  rw [hW1] at ht b1
  have HN := Lib.hid hn
  have HV := Lib.hid hv
  clear hn hv hW1
  go_enter Try.func21, Try.ntmps21
  go_wp2
  go_ret2
  exact ⟨rfl, b1⟩
end Go.Proofs.Ytiegokjdnlhlcaa

namespace Go.Proofs.Ytiegokjdnlhlcaa
open Go.Conc Go.RowKit

/-- Does s begin with p? -/
def pre (p s : List UInt8) : Bool := decide (p <+: s)
theorem ext_toList (s : ByteArray) (n : Nat) : (s.extract 0 n).toList = s.data.toList.take n := by
  rw [ByteArray.toList_eq, ByteArray.data_extract, Array.toList_extract]
  simp
theorem ext_is (s p : ByteArray) : ((s.extract 0 p.size).toList == p.toList) = pre p.data.toList s.data.toList := by
  rw [ext_toList, ByteArray.toList_eq p]
  unfold pre
  have hl : p.data.toList.length = p.size := Array.length_toList
  rw [Bool.eq_iff_iff]
  simp only [beq_iff_eq, decide_eq_true_eq]
  rw [List.prefix_iff_eq_take, hl]
  exact eq_comm

theorem has0_any (s p : ByteArray) (w : World) :
    Calls Try.prog 43 #[.string s, .string p] w fun e w' => e = .returned (.bool (pre p.data.toList s.data.toList)) ∧ w = w' := by
  have he := Lib.hid (ext_is s p)
  by_cases h : p.size ≤ s.size
  · go_enter Try.func43, Try.ntmps43
    go_wp2
    go_ret
    exact ⟨by rw [← he.out]; rfl, rfl⟩
  · have hd : decide ((p.size : Int) ≤ (s.size : Int)) = false := by simp; omega
    have hf : pre p.data.toList s.data.toList = false := by
      unfold pre
      rw [decide_eq_false_iff_not]
      intro hp
      have := hp.length_le
      have h1 : p.data.toList.length = p.size := Array.length_toList
      have h2 : s.data.toList.length = s.size := Array.length_toList
      omega
    have hf' := Lib.hid hf
    clear hf he
    go_enter Try.func43, Try.ntmps43
    go_wp2
    go_ret
    exact ⟨by rw [hf'.out]; rfl, rfl⟩
theorem has_any (s p : ByteArray) (w : World) :
    Calls Try.prog 31 #[.string s, .string p] w fun e w' => e = .returned (.bool (pre p.data.toList s.data.toList)) ∧ w = w' := by
  have H := Lib.hid (fun W => has0_any s p W)
  go_enter Try.func31, Try.ntmps31
  go_wp2_with fail
  refine (H.out _).mono ?_
  rintro e w1 ⟨rfl, rfl⟩
  go_wp2
  go_ret
  exact ⟨rfl, rfl⟩
end Go.Proofs.Ytiegokjdnlhlcaa
