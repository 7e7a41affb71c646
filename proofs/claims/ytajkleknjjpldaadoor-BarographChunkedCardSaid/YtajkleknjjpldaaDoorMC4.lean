/- The document's answers for layer 3, walked. The document's answers for layer 3, walked: numbers, bits of a text, texts; widths. -/
import Derived.Test.YtajkleknjjpldaaDoorMC3
import Derived.Test.YtajkleknjjpldaaDoorMSl3
namespace Go.Proofs.YtajkleknjjpldaaDoor
open Go.RowKit Go.Lib

theorem Bt.bitsN_succ (v i : Nat) : Bt.bitsN v (i + 1) = (v / 2 ^ i % 2 == 1) :: Bt.bitsN v i := rfl
theorem rem_test (u : Nat) : (((u : Int) % 2) == 1) = (u % 2 == 1) := by
  rcases Nat.mod_two_eq_zero_or_one u with h | h <;> (have : (u : Int) % 2 = ((u % 2 : Nat) : Int) := by omega) <;> rw [this, h] <;> rfl




theorem unary_is (n most : Int) (k : Nat) (hk : (k : Int) = max (min n most) 0) : Bt.unary n most = List.replicate k true ++ (if (k : Int) < most then [false] else []) := by
  unfold Bt.unary
  rw [← hk, Int.toNat_natCast]

end Go.Proofs.YtajkleknjjpldaaDoor

namespace Go.Proofs.YtajkleknjjpldaaDoor
open Go.RowKit Go.Lib

theorem number_take (l : List Bool) (i : Nat) (h : i < l.length) : Bt.number (l.take (i + 1)) = 2 * Bt.number (l.take i) + Bt.b2n l[i] := by
  rw [List.take_succ_eq_append_getElem h, Bt.number_snoc]

theorem Bt.bitsN8 (c : UInt8) : Bt.bitsN c.toNat 8 = (List.range 8).map fun j => c.toNat / 2 ^ (7 - j) % 2 == 1 := rfl
theorem bitsOf_snoc (s : List UInt8) (c : UInt8) : Bt.bitsOf (s ++ [c]) = Bt.bitsOf s ++ Bt.bitsN c.toNat 8 := by
  rw [Bt.bitsN8]
  apply List.ext_getElem?
  intro i
  by_cases h : i < 8 * s.length
  · rw [List.getElem?_append_left (by rw [Bt.bitsOf_length]; exact h), Bt.bitsOf_get _ _ h, Bt.bitsOf_get _ _ (by rw [List.length_append]; omega)]
    unfold Bt.bitAt
    rw [List.getD_eq_getElem?_getD, List.getD_eq_getElem?_getD, List.getElem?_append_left (by omega)]
  · rw [List.getElem?_append_right (by rw [Bt.bitsOf_length]; omega), Bt.bitsOf_length]
    by_cases h2 : i < 8 * s.length + 8
    · rw [Bt.bitsOf_get _ _ (by rw [List.length_append, List.length_singleton]; omega), List.getElem?_map, List.getElem?_range (by omega), Option.map_some]
      unfold Bt.bitAt
      rw [List.getD_eq_getElem?_getD, List.getElem?_append_right (by omega), show i / 8 - s.length = 0 by omega, show i % 8 = i - 8 * s.length by omega]
      rfl
    · rw [List.getElem?_eq_none (by rw [Bt.bitsOf_length, List.length_append, List.length_singleton]; omega), List.getElem?_eq_none (by simp; omega)]

theorem bs_get (s : List UInt8) (i : Nat) (_h : i < (bs s).size) (h' : i < s.length) : (bs s)[i] = s[i] := rfl

/-- 'string([]byte{x})'. -/
theorem run_text_lit (W : World) (x : Int) (c : UInt8) (hx : x = (c.toNat : Int)) :
    (convert 28 9 (.slice (some ⟨W.heap.size, 0, none⟩) 1 1)).run Tryd.prog (W.alloc (.cells #[.int .u8 x] 5)) = .ok (.string (bs [c])) (W.alloc (.cells #[.int .u8 x] 5)) := by
  subst hx
  refine run_convert_bytes_back _ 28 9 5 ⟨W.heap.size, 0, none⟩ 1 [c] Tryd.underlying28 Tryd.underlying5 Tryd.underlying9 fun j hj => ?_
  have : j = 0 := by simp at hj; omega
  subst this
  exact cell_one_new _ _ _ 0 _ rfl

def part8 (l : List Bool) (k j : Nat) : Nat := Bt.number ((List.range j).map fun t => l.getD (8 * k + t) false)
theorem part8_succ (l : List Bool) (k j : Nat) : part8 l k (j + 1) = 2 * part8 l k j + Bt.b2n (l.getD (8 * k + j) false) := by
  unfold part8
  rw [List.range_succ, List.map_append, List.map_singleton, Bt.number_snoc]
theorem part8_eight (l : List Bool) (k : Nat) : part8 l k 8 = Bt.byteAt l k := by
  unfold Bt.byteAt Bt.oct
  dsimp only
  have h0 : part8 l k 0 = 0 := rfl
  have h1 : part8 l k 1 = 2 * part8 l k 0 + Bt.b2n (l.getD (8 * k + 0) false) := part8_succ l k 0
  have h2 : part8 l k 2 = 2 * part8 l k 1 + Bt.b2n (l.getD (8 * k + 1) false) := part8_succ l k 1
  have h3 : part8 l k 3 = 2 * part8 l k 2 + Bt.b2n (l.getD (8 * k + 2) false) := part8_succ l k 2
  have h4 : part8 l k 4 = 2 * part8 l k 3 + Bt.b2n (l.getD (8 * k + 3) false) := part8_succ l k 3
  have h5 : part8 l k 5 = 2 * part8 l k 4 + Bt.b2n (l.getD (8 * k + 4) false) := part8_succ l k 4
  have h6 : part8 l k 6 = 2 * part8 l k 5 + Bt.b2n (l.getD (8 * k + 5) false) := part8_succ l k 5
  have h7 : part8 l k 7 = 2 * part8 l k 6 + Bt.b2n (l.getD (8 * k + 6) false) := part8_succ l k 6
  have h8 : part8 l k 8 = 2 * part8 l k 7 + Bt.b2n (l.getD (8 * k + 7) false) := part8_succ l k 7
  omega
theorem part8_lt (l : List Bool) (k j : Nat) (h : j ≤ 8) : part8 l k j < 256 := by
  have := Bt.number_lt ((List.range j).map fun t => l.getD (8 * k + t) false)
  rw [List.length_map, List.length_range] at this
  exact Nat.lt_of_lt_of_le this (Nat.pow_le_pow_right (n := 2) (by decide) h)
def packN (l : List Bool) (k : Nat) : List UInt8 := (List.range k).map fun k => UInt8.ofNat (Bt.byteAt l k)

end Go.Proofs.YtajkleknjjpldaaDoor
