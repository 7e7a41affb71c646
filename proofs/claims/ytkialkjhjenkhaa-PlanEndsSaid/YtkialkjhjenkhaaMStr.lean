/- Texts: the first place of a byte, a text cut at it (strings.Index, strings.Cut at a text of one byte). Layer 8, the program: digits, numbers, names. Layer 8, the program: a number's digits. Layer 8, the program: numbers of digits; names made and read. Layer 8, the program: names made, read, split. -/
import Derived.Test.YtkialkjhjenkhaaMB0
import Derived.Lib.Bytealg
import Derived.Laws.Externs
import Derived.Test.YtkialkjhjenkhaaMI0
namespace Go.Proofs.Ytkialkjhjenkhaa
open Go.RowKit Go.Lib

theorem size_list (s : ByteArray) : s.data.toList.length = s.size := by rw [Array.length_toList]; rfl
theorem indexB_bounds : ∀ (l : List UInt8) (c : UInt8), (Lib.indexByte l c = -1 ∧ c ∉ l) ∨ ∃ i : Nat, Lib.indexByte l c = i ∧ i < l.length ∧ l[i]? = some c ∧ c ∉ l.take i
  | [], _ => .inl ⟨rfl, by simp⟩
  | b :: l, c => by
    unfold Lib.indexByte
    by_cases h : b = c
    · subst h
      exact .inr ⟨0, by simp, by simp, by simp, by simp⟩
    · have hb : (b == c) = false := by simpa using h
      rw [hb]
      rcases indexB_bounds l c with ⟨h1, h2⟩ | ⟨i, h1, h2, h3, h4⟩
      · rw [h1]
        exact .inl ⟨rfl, by simp only [List.mem_cons, not_or]; exact ⟨fun e => h e.symm, h2⟩⟩
      · rw [h1]
        refine .inr ⟨i + 1, ?_, by simpa using h2, by simpa using h3, ?_⟩
        · have : ((i : Int) == -1) = false := by simp
          simp [this]
        · simp only [List.take_succ_cons, List.mem_cons, not_or]; exact ⟨fun e => h e.symm, h4⟩

/-- A text cut at its first c. -/
def cutL (l : List UInt8) (c : UInt8) : Option (List UInt8 × List UInt8) :=
  if c ∈ l then some (l.take (Lib.indexByte l c).toNat, l.drop ((Lib.indexByte l c).toNat + 1)) else none
def cutV (s : ByteArray) : Option (List UInt8 × List UInt8) → Value
  | none => .tuple #[.string s, .string (bs []), .bool false]
  | some (a, b) => .tuple #[.string (bs a), .string (bs b), .bool true]

theorem index_app (l r : List UInt8) (c : UInt8) (h : c ∉ l) : Lib.indexByte (l ++ c :: r) c = l.length := by
  induction l with
  | nil => simp [Lib.indexByte]
  | cons x l ih =>
    have hx : x ≠ c := fun e => h (by simp [e])
    have hl : c ∉ l := fun e => h (by simp [e])
    rw [List.cons_append, Lib.indexByte, ih hl]
    have h1 : (x == c) = false := by simpa using hx
    have h2 : ((l.length : Int) == -1) = false := by
      rw [beq_eq_false_iff_ne]; omega
    simp [h1, h2]
theorem cut_app (l r : List UInt8) (c : UInt8) (h : c ∉ l) : cutL (l ++ c :: r) c = some (l, r) := by
  unfold cutL
  rw [if_pos (by simp), index_app l r c h, Int.toNat_natCast, List.take_left' rfl]
  rw [show l ++ c :: r = (l ++ [c]) ++ r by simp, List.drop_left' (by simp)]
end Go.Proofs.Ytkialkjhjenkhaa

namespace Go.Proofs.Ytkialkjhjenkhaa
open Go.RowKit Go.Lib

theorem goes_yes (v : Nat) (w : World) (h : v < 1099511627776) : Calls Try.prog 32 #[.int .i64 v] w fun e w' => e = .returned (.bool true) ∧ w = w' := by
  have h1 : decide ((v : Int) < 1099511627776) = true := by simp; omega
  go_enter Try.func32, Try.ntmps32
  go_wp2
  go_ret
  exact ⟨rfl, rfl⟩
theorem goes_no (v : Int) (w : World) (h : v < 0 ∨ 1099511627776 ≤ v) : Calls Try.prog 32 #[.int .i64 v] w fun e w' => e = .returned (.bool false) ∧ w = w' := by
  rcases h with h | h
  · have h1 : decide (0 ≤ v) = false := by simp; omega
    go_enter Try.func32, Try.ntmps32
    go_wp2
    go_ret
    exact ⟨rfl, rfl⟩
  · have h0 : decide (0 ≤ v) = true := by simp; omega
    have h1 : decide (v < 1099511627776) = false := by simp; omega
    go_enter Try.func32, Try.ntmps32
    go_wp2
    go_ret
    exact ⟨rfl, rfl⟩

end Go.Proofs.Ytkialkjhjenkhaa

namespace Go.Proofs.Ytkialkjhjenkhaa
open Go.RowKit Go.Lib

theorem sg_at (d : Nat) (h : d < 32) : Idn.alpha[d]? = some (Idn.sg d) := by
  unfold Idn.sg
  rw [List.getD_eq_getElem?_getD, List.getElem?_eq_getElem (by rw [Idn.alpha_len]; omega)]
  rfl

theorem dig_get (d : Nat) (h : d < (ByteArray.mk #[48, 49, 50, 51, 52, 53, 54, 55, 56, 57, 97, 98, 99, 100, 101, 102, 103, 104, 106, 107, 109, 110, 112, 113, 114, 115, 116, 118, 119, 120, 121, 122]).size) : (ByteArray.mk #[48, 49, 50, 51, 52, 53, 54, 55, 56, 57, 97, 98, 99, 100, 101, 102, 103, 104, 106, 107, 109, 110, 112, 113, 114, 115, 116, 118, 119, 120, 121, 122])[d] = Idn.sg d := by
  have : ∀ d : Fin 32, (ByteArray.mk #[48, 49, 50, 51, 52, 53, 54, 55, 56, 57, 97, 98, 99, 100, 101, 102, 103, 104, 106, 107, 109, 110, 112, 113, 114, 115, 116, 118, 119, 120, 121, 122])[d.val]'(d.isLt) = Idn.sg d.val := by decide
  exact this ⟨d, h⟩

theorem sl_box (w : World) (l : List UInt8) (e : TypeId) (hl : l.length ≤ 1000) : Sl (w.alloc (.cells (cb l).toArray e)) w.heap.size 1 (.slice (some ⟨w.heap.size, 0, none⟩) l.length l.length) l.length (cb l) := by
  have h : (w.alloc (.cells (cb l).toArray e)).ownsRow w.heap.size e 1 (.slice (some ⟨w.heap.size, 0, none⟩) l.length l.length) l.length (cb l) :=
    ⟨by rw [cb_length, Nat.mul_one], .inr ⟨w.heap.size, l.length, (cb l).toArray, rfl, Nat.le_refl _, heap_alloc_new w _, Nat.le_refl _, by unfold maxLen; omega, by simp [cb_length], by simp [cb_length, List.take_of_length_le]⟩⟩
  exact Sl.of_owns h

set_option maxHeartbeats 1000000 in
set_option maxRecDepth 100000 in
theorem spell_any (v : Nat) (w : World) (hv : v < 1099511627776) :
    Calls Try.prog 33 #[.int .i64 v] w fun e w' => e = .returned (.string (bs (Idn.dg 8 v))) ∧ Below w.heap.size w w' := by
  obtain ⟨W, hW⟩ : ∃ W, W = w.alloc (.cells #[.int .u8 0, .int .u8 0, .int .u8 0, .int .u8 0, .int .u8 0, .int .u8 0, .int .u8 0, .int .u8 0] 101) := ⟨_, rfl⟩
  have hs0 : Sl W w.heap.size 1 (.slice (some ⟨w.heap.size, 0, none⟩) 8 8) 8 (cb (List.replicate 8 0)) := by rw [hW]; exact sl_box w (List.replicate 8 0) _ (by simp)
  have b0 : Below w.heap.size w W := by rw [hW]; exact (Below.refl _ _).alloc (Nat.le_refl _) _
  have HW := Lib.hid hW
  clear hW
  go_enter Try.func33, Try.ntmps33
  go_wp2_with fail
  rw [← HW.out]
  obtain ⟨S, hS⟩ : ∃ S, S = w.heap.size := ⟨_, rfl⟩
  rw [← hS] at hs0 b0 ⊢
  have HS := Lib.hid hS
  clear hS
  go_loopw [0, 4] (fun v' i' wr => ∃ (m u : Nat) (l lo : List UInt8), v' = .int .i64 u ∧ i' = .int .i64 ((m : Int) - 1) ∧ m ≤ 8 ∧ u < 1099511627776 ∧ Hid (l = List.replicate m 0 ++ lo) ∧ Hid (Idn.dg m u ++ lo = Idn.dg 8 v) ∧ Sl wr S 1 (.slice (some ⟨S, 0, none⟩) 8 8) 8 (cb l) ∧ Below S w wr) (fun _ i' _ => (intOf i' + 1).toNat)
  case atStart => exact ⟨8, v, _, [], rfl, rfl, by omega, hv, rfl, by rw [List.append_nil]; rfl, hs0, b0⟩
  case round =>
    obtain ⟨m, u, l, lo, rfl, rfl, hm, hu, hl, hd, hsl, hb⟩ := hrel
    match m, hm, hl, hd with
    | 0, hm, hl, hd =>
      have he : l = Idn.dg 8 v := by rw [hl.out, ← hd.out]; rfl
      subst he
      have c1 := text_conv hsl
      clear hs0 b0
      go_wp2
      go_ret
      exact ⟨rfl, by rw [HS.out] at hb; exact hb⟩
    | m + 1, hm, hl, hd =>
      have e1 : (((m + 1 : Nat) : Int) - 1) = (m : Int) := by omega
      rw [e1]
      obtain ⟨c0, f0⟩ : wr.cell? ⟨S, m, none⟩ = some (.int .u8 0) ∧ wr.frozen? ⟨S, m, none⟩ = false := by
        have hc := sl_cell hsl m 0 (by rw [hl.out]; simp [List.getElem?_append])
        rw [Nat.zero_add] at hc
        refine ⟨hc, ?_⟩
        rcases hsl.2 with ⟨h0, _⟩ | ⟨g', off', cap', he, _, _, _, _, hfree, _⟩
        · cases h0
        · cases he; have := (hfree m (by omega)).2; rwa [Nat.zero_add] at this
      clear hs0 b0 e1
      go_wp2_with fail
      have hs2 := sl_set hsl (Idn.sg (u % 32)) (c := m) (by omega)
      rw [Nat.zero_add] at hs2
      rw [dig_get]
      refine ⟨⟨m, u / 32, _, Idn.sg (u % 32) :: lo, by simp, rfl, by omega, by omega, ?_, ?_, hs2, hb.setCell (Nat.le_refl _) _⟩, by simp [intOf]⟩
      · show _ = _
        rw [hl.out, List.replicate_succ', List.append_assoc, List.set_append_right _ _ (by simp)]
        simp
      · show _ = _
        rw [← hd.out, Idn.dg]
        simp
end Go.Proofs.Ytkialkjhjenkhaa

namespace Go.Proofs.Ytkialkjhjenkhaa
open Go.RowKit Go.Lib

theorem idx_F (c : UInt8) : ∀ (l : List UInt8) (i : Nat), Lib.indexByte l c = match Idn.ixF c l i with | none => -1 | some d => (d : Int) - i
  | [], _ => rfl
  | x :: l, i => by
    have ih := idx_F c l (i + 1)
    unfold Lib.indexByte Idn.ixF
    by_cases h : x = c
    · simp [h]
    · have hb : (x == c) = false := by simpa using h
      rw [hb, if_neg h, ih]
      cases hx : Idn.ixF c l (i + 1) with
      | none => simp
      | some d =>
        have := (Idn.ixF_some c l (i + 1) d hx).1
        have h1 : ((d : Int) - ((i + 1 : Nat) : Int) == -1) = false := by simp; omega
        simp only [h1]
        simp; omega
theorem idx_none {c : UInt8} (h : Idn.ix c = none) : Lib.indexByte Idn.alpha c = -1 := by
  rw [idx_F c Idn.alpha 0]
  unfold Idn.ix at h
  rw [h]
theorem idx_some {c : UInt8} {d : Nat} (h : Idn.ix c = some d) : Lib.indexByte Idn.alpha c = d := by
  rw [idx_F c Idn.alpha 0]
  unfold Idn.ix at h
  rw [h]
  simp

/-- What number answers. -/
def numV : Option Nat → Value
  | none => .tuple #[.int .i64 0, .bool false]
  | some n => .tuple #[.int .i64 n, .bool true]

end Go.Proofs.Ytkialkjhjenkhaa

namespace Go.Proofs.Ytkialkjhjenkhaa
open Go.RowKit Go.Lib

set_option maxHeartbeats 1000000 in
set_option maxRecDepth 100000 in
theorem make_ok (t s : Nat) (w : World) (ht : t < 1099511627776) (hs : s < 1099511627776) :
    Calls Try.prog 18 #[.int .i64 t, .int .i64 s] w fun e w' => e = .returned (.tuple #[.string (bs (Idn.nam t s)), .int .i64 0]) ∧ Below w.heap.size w w' := by
  go_enter Try.func18, Try.ntmps18
  go_wp2_with fail
  refine (goes_yes t _ ht).mono ?_
  rintro e w1 ⟨rfl, rfl⟩
  go_wp2_with fail
  refine (goes_yes s _ hs).mono ?_
  rintro e w1 ⟨rfl, rfl⟩
  go_wp2_with fail
  refine (spell_any t _ ht).mono ?_
  rintro e w1 ⟨rfl, b1⟩
  go_wp2_with fail
  refine (spell_any s _ hs).mono ?_
  rintro e w2 ⟨rfl, b2⟩
  have hA := bs_append
  have l1 := bs_size_le (Idn.dg 8 t) 8 (by rw [Idn.dg_len]; omega)
  have l2 := bs_size_le (Idn.dg 8 s) 8 (by rw [Idn.dg_len]; omega)
  go_wp2
  go_ret2
  exact ⟨rfl, below_step b1 b2⟩
theorem make_no (t s : Int) (w : World) (h : t < 0 ∨ 1099511627776 ≤ t ∨ s < 0 ∨ 1099511627776 ≤ s) :
    Calls Try.prog 18 #[.int .i64 t, .int .i64 s] w fun e w' => e = .returned (.tuple #[.string (bs []), .int .i64 1]) ∧ w = w' := by
  by_cases h1 : t < 0 ∨ 1099511627776 ≤ t
  · go_enter Try.func18, Try.ntmps18
    go_wp2_with fail
    refine (goes_no t _ h1).mono ?_
    rintro e w1 ⟨rfl, rfl⟩
    go_wp2
    go_ret2
    exact ⟨rfl, rfl⟩
  · obtain ⟨t, rfl⟩ := Int.eq_ofNat_of_zero_le (show 0 ≤ t by omega)
    have h2 : s < 0 ∨ 1099511627776 ≤ s := by omega
    go_enter Try.func18, Try.ntmps18
    go_wp2_with fail
    refine (goes_yes t _ (by omega)).mono ?_
    rintro e w1 ⟨rfl, rfl⟩
    go_wp2_with fail
    refine (goes_no s _ h2).mono ?_
    rintro e w1 ⟨rfl, rfl⟩
    go_wp2
    go_ret2
    exact ⟨rfl, rfl⟩

/-- What a name says. -/
def par2 : Option Nat → Option Nat → Option (Nat × Nat)
  | some a, some b => some (a, b)
  | _, _ => none
def pars (l : List UInt8) : Option (Nat × Nat) :=
  if l.length = 16 then par2 (Idn.num (l.take 8) 0) (Idn.num (l.drop 8) 0) else none
def parsV : Option (Nat × Nat) → Value
  | none => .tuple #[.int .i64 0, .int .i64 0, .int .i64 3]
  | some (a, b) => .tuple #[.int .i64 a, .int .i64 b, .int .i64 0]

end Go.Proofs.Ytkialkjhjenkhaa
