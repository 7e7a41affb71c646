/- Texts: the first place of a byte, a text cut at it (strings.Index, strings.Cut at a text of one byte). -/
import Derived.Test.YtiegokjdnlhlcaaMB0
import Derived.Lib.Bytealg
import Derived.Laws.Externs
namespace Go.Proofs.Ytiegokjdnlhlcaa
open Go.RowKit Go.Lib

set_option maxHeartbeats 1000000 in
set_option maxRecDepth 100000 in
theorem ibyte_any (s : ByteArray) (c : UInt8) (w : World) : Calls Try.prog 67 #[.string s, .int .u8 c.toNat] w fun e w' => e = .returned (.int .i64 (Lib.indexByte s.data.toList c)) ∧ w = w' := by
  go_enter Try.func67, Try.ntmps67
  go_wp2
  rw [run_callFunc_extern Try.func75 (by kernel_rfl) (by kernel_rfl) (by kernel_rfl) (e := Extern.BytealgIndexByte.indexByte) (by kernel_rfl), Lib.run_indexByteString]
  simp only [Result.andThen]
  rw [Oper.upon_value]
  go_wp2
  go_ret
  refine ⟨?_, rfl⟩
  simp

theorem size_list (s : ByteArray) : s.data.toList.length = s.size := by rw [Array.length_toList]; rfl
theorem indexB_bounds : ∀ (l : List UInt8) (c : UInt8), (Lib.indexByte l c = -1 ∧ c ∉ l) ∨ ∃ i : Nat, Lib.indexByte l c = i ∧ i < l.length ∧ l[i]? = some c ∧ c ∉ l.take i
  | [], _ => .inl ⟨rfl, by simp⟩
  | b :: l, c => by
    unfold Lib.indexByte
    by_cases h : b = c
    · subst h
      exact .inr ⟨0, by simp, by simp, by simp, by simp⟩
    · have hb : (b == c) = false := by simpa using h
      rw [hb]
      rcases indexB_bounds l c with ⟨h1, h2⟩ | ⟨i, h1, h2, h3, h4⟩
      · rw [h1]
        exact .inl ⟨rfl, by simp only [List.mem_cons, not_or]; exact ⟨fun e => h e.symm, h2⟩⟩
      · rw [h1]
        refine .inr ⟨i + 1, ?_, by simpa using h2, by simpa using h3, ?_⟩
        · have : ((i : Int) == -1) = false := by simp
          simp [this]
        · simp only [List.take_succ_cons, List.mem_cons, not_or]; exact ⟨fun e => h e.symm, h4⟩

/-- A text cut at its first c. -/
def cutL (l : List UInt8) (c : UInt8) : Option (List UInt8 × List UInt8) :=
  if c ∈ l then some (l.take (Lib.indexByte l c).toNat, l.drop ((Lib.indexByte l c).toNat + 1)) else none
def cutV (s : ByteArray) : Option (List UInt8 × List UInt8) → Value
  | none => .tuple #[.string s, .string (bs []), .bool false]
  | some (a, b) => .tuple #[.string (bs a), .string (bs b), .bool true]

theorem index_app (l r : List UInt8) (c : UInt8) (h : c ∉ l) : Lib.indexByte (l ++ c :: r) c = l.length := by
  induction l with
  | nil => simp [Lib.indexByte]
  | cons x l ih =>
    have hx : x ≠ c := fun e => h (by simp [e])
    have hl : c ∉ l := fun e => h (by simp [e])
    rw [List.cons_append, Lib.indexByte, ih hl]
    have h1 : (x == c) = false := by simpa using hx
    have h2 : ((l.length : Int) == -1) = false := by
      rw [beq_eq_false_iff_ne]; omega
    simp [h1, h2]
theorem cut_app (l r : List UInt8) (c : UInt8) (h : c ∉ l) : cutL (l ++ c :: r) c = some (l, r) := by
  unfold cutL
  rw [if_pos (by simp), index_app l r c h, Int.toNat_natCast, List.take_left' rfl]
  rw [show l ++ c :: r = (l ++ [c]) ++ r by simp, List.drop_left' (by simp)]
end Go.Proofs.Ytiegokjdnlhlcaa
