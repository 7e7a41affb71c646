/- A slice of acts that came in, opened; a slice of truths. -/
import Derived.Test.YtiegokjdnlhlcaaME2
import Derived.Deep.SlicePairs
namespace Go.Proofs.Ytiegokjdnlhlcaa
open Go.RowKit Go.Lib Go.Deep Go.ChangeShapes Go.WideShapes

/-- An act; cv is the slice of its choices. -/
structure Ac where
  k : Int
  n : Int
  a : ByteArray
  b : ByteArray
  dn : Bool
  av : Option Addr
  lv : Nat
  cv : Nat
  ch : List Int
structure Ac.Fits (w : World) (t : Ac) : Prop where
  k0 : -9223372036854775808 ≤ t.k
  k1 : t.k ≤ 9223372036854775807
  n0 : -9223372036854775808 ≤ t.n
  n1 : t.n ≤ 9223372036854775807
  a1 : t.a.size ≤ maxLen
  b1 : t.b.size ≤ maxLen
  ints : IntsAt w t.av t.lv t.cv t.ch
instance : Inhabited Ac := ⟨⟨0, 0, ByteArray.empty, ByteArray.empty, false, none, 0, 0, []⟩⟩
/-- Acts read from cells: the first 40. -/
def ActsAt (w : World) (ao : Option Addr) (len : Nat) (ts : List Ac) : Prop :=
  ts.length = min len 40 ∧ (∀ t ∈ ts, t.Fits w) ∧ (0 < len → ∃ b off, ao = some ⟨b, off, none⟩ ∧ b < w.heap.size ∧ ∀ i t, ts[i]? = some t →
    w.cell? ⟨b, off + i * 6, none⟩ = some (.int .i64 t.k) ∧ w.cell? ⟨b, off + i * 6 + 1, none⟩ = some (.int .i64 t.n) ∧ w.cell? ⟨b, off + i * 6 + 2, none⟩ = some (.string t.a) ∧
    w.cell? ⟨b, off + i * 6 + 3, none⟩ = some (.string t.b) ∧ w.cell? ⟨b, off + i * 6 + 4, none⟩ = some (.bool t.dn) ∧ w.cell? ⟨b, off + i * 6 + 5, none⟩ = some (.slice t.av t.lv t.cv))

theorem six {α : Type} (l : List α) (h : l.length = 6) : ∃ a b c d e f, l = [a, b, c, d, e, f] := by
  match l, h with
  | [a, b, c, d, e, f], _ => exact ⟨a, b, c, d, e, f, rfl⟩
theorem ints_one {H : Type} {enc : TypeId × Value → H} {W : World} {base : Nat} {spare : Nat → Bool} {held : Bool} {fuel : Nat} {v : Value} {x : DataW H × List MemPlace}
    (h : DataW.trod enc Try.prog W base spare held fuel 22 [v] = some x) : ∃ a len cap zs, v = .slice a len cap ∧ IntsAt W a len cap zs := by
  have ce : Try.prog.cellsOf 3 = 1 := by kernel_rfl
  have h2 : ∃ a len cap, v = .slice a len cap := by
    rcases open_ints Try.underlying22 Try.underlying3 ce h with ⟨hcs, _⟩ | ⟨a, len', cap', zs, hcs, _⟩
    · simp only [List.cons.injEq, and_true] at hcs
      exact ⟨_, _, _, hcs⟩
    · simp only [List.cons.injEq, and_true] at hcs
      exact ⟨_, _, _, hcs⟩
  obtain ⟨a, len, cap, rfl⟩ := h2
  obtain ⟨zs, _, hz⟩ := ints_open h
  exact ⟨a, len, cap, zs, rfl, hz⟩

end Go.Proofs.Ytiegokjdnlhlcaa
