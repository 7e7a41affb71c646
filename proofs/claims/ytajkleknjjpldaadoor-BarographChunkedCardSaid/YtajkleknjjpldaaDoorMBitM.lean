/- Rows of bits: plain maths. No program's text. -/
import Derived.WalkKit
namespace Go.Proofs.YtajkleknjjpldaaDoor.Bt

def b2n (b : Bool) : Nat := if b then 1 else 0
/-- A byte of eight bits, the highest first. -/
def oct (f : Nat → Bool) : Nat := b2n (f 0) * 128 + b2n (f 1) * 64 + b2n (f 2) * 32 + b2n (f 3) * 16 + b2n (f 4) * 8 + b2n (f 5) * 4 + b2n (f 6) * 2 + b2n (f 7)
def byteAt (l : List Bool) (k : Nat) : Nat := oct fun j => l.getD (8 * k + j) false
def pack (l : List Bool) : List UInt8 := (List.range ((l.length + 7) / 8)).map fun k => UInt8.ofNat (byteAt l k)
theorem pack_length (l : List Bool) : (pack l).length = (l.length + 7) / 8 := by simp [pack]
theorem b2n_le (b : Bool) : b2n b ≤ 1 := by cases b <;> decide
theorem oct_lt (f : Nat → Bool) : oct f < 256 := by
  unfold oct
  have := b2n_le (f 0); have := b2n_le (f 1); have := b2n_le (f 2); have := b2n_le (f 3)
  have := b2n_le (f 4); have := b2n_le (f 5); have := b2n_le (f 6); have := b2n_le (f 7)
  omega
theorem oct_congr {f g : Nat → Bool} (h : ∀ j, j < 8 → f j = g j) : oct f = oct g := by
  unfold oct
  rw [h 0 (by omega), h 1 (by omega), h 2 (by omega), h 3 (by omega), h 4 (by omega), h 5 (by omega), h 6 (by omega), h 7 (by omega)]

theorem getD_snoc_false (l : List Bool) (i : Nat) : (l ++ [false]).getD i false = l.getD i false := by
  simp only [List.getD_eq_getElem?_getD]
  by_cases h : i < l.length
  · rw [List.getElem?_append_left h]
  · rw [List.getElem?_append_right (by omega), List.getElem?_eq_none (show l.length ≤ i by omega)]
    rcases Nat.lt_or_ge (i - l.length) 1 with h1 | h1
    · rw [show i - l.length = 0 by omega]; rfl
    · rw [List.getElem?_eq_none (by simpa using h1)]
theorem getD_snoc_true (l : List Bool) (i : Nat) : (l ++ [true]).getD i false = if i = l.length then true else l.getD i false := by
  simp only [List.getD_eq_getElem?_getD]
  by_cases h : i < l.length
  · rw [List.getElem?_append_left h, if_neg (by omega)]
  · rw [List.getElem?_append_right (by omega), List.getElem?_eq_none (show l.length ≤ i by omega)]
    by_cases h1 : i = l.length
    · rw [if_pos h1, h1, Nat.sub_self]; rfl
    · rw [if_neg h1, List.getElem?_eq_none (by simp; omega)]

theorem byteAt_snoc_false (l : List Bool) (k : Nat) : byteAt (l ++ [false]) k = byteAt l k := by
  unfold byteAt
  congr 1
  funext j
  exact getD_snoc_false l _
theorem byteAt_past (l : List Bool) (k : Nat) (h : l.length ≤ 8 * k) : byteAt l k = 0 := by
  unfold byteAt
  rw [show oct (fun j => l.getD (8 * k + j) false) = oct (fun _ => false) from oct_congr fun j _ => by
    rw [List.getD_eq_getElem?_getD, List.getElem?_eq_none (by omega)]; rfl]
  rfl

/-- A zero more. -/
theorem pack_zero_new (l : List Bool) (h : l.length % 8 = 0) : pack (l ++ [false]) = pack l ++ [0] := by
  unfold pack
  rw [List.length_append, List.length_singleton, show (l.length + 1 + 7) / 8 = (l.length + 7) / 8 + 1 by omega, List.range_succ, List.map_append, List.map_singleton]
  rw [byteAt_snoc_false, byteAt_past l _ (by omega)]
  congr 1
  apply List.map_congr_left
  intro k _
  rw [byteAt_snoc_false]
theorem pack_zero_old (l : List Bool) (h : l.length % 8 ≠ 0) : pack (l ++ [false]) = pack l := by
  unfold pack
  rw [List.length_append, List.length_singleton, show (l.length + 1 + 7) / 8 = (l.length + 7) / 8 by omega]
  apply List.map_congr_left
  intro k _
  rw [byteAt_snoc_false]

theorem or_oct : ∀ b0 b1 b2 b3 b4 b5 b6 b7 : Bool, ∀ r : Fin 8, (match r with | 0 => b0 | 1 => b1 | 2 => b2 | 3 => b3 | 4 => b4 | 5 => b5 | 6 => b6 | 7 => b7) = false →
    (b2n b0 * 128 + b2n b1 * 64 + b2n b2 * 32 + b2n b3 * 16 + b2n b4 * 8 + b2n b5 * 4 + b2n b6 * 2 + b2n b7) ||| (128 / 2 ^ r.val) =
    (b2n (b0 || r == 0) * 128 + b2n (b1 || r == 1) * 64 + b2n (b2 || r == 2) * 32 + b2n (b3 || r == 3) * 16 + b2n (b4 || r == 4) * 8 + b2n (b5 || r == 5) * 4 + b2n (b6 || r == 6) * 2 + b2n (b7 || r == 7)) := by decide +kernel
theorem oct_or (f : Nat → Bool) (r : Nat) (hr : r < 8) (hf : f r = false) : oct f ||| (128 / 2 ^ r) = oct fun j => if j = r then true else f j := by
  have := or_oct (f 0) (f 1) (f 2) (f 3) (f 4) (f 5) (f 6) (f 7) ⟨r, hr⟩ (by
    match r, hr, hf with
    | 0, _, h => exact h
    | 1, _, h => exact h
    | 2, _, h => exact h
    | 3, _, h => exact h
    | 4, _, h => exact h
    | 5, _, h => exact h
    | 6, _, h => exact h
    | 7, _, h => exact h)
  unfold oct
  refine this.trans ?_
  match r, hr with
  | 0, _ => simp
  | 1, _ => simp
  | 2, _ => simp
  | 3, _ => simp
  | 4, _ => simp
  | 5, _ => simp
  | 6, _ => simp
  | 7, _ => simp

/-- A one more: the last zero's bit is set. -/
theorem pack_one (l : List Bool) : pack (l ++ [true]) = (pack (l ++ [false])).set (l.length / 8) (UInt8.ofNat (byteAt l (l.length / 8) ||| (128 / 2 ^ (l.length % 8)))) := by
  apply List.ext_getElem?
  intro k
  have hlen : (pack (l ++ [true])).length = (pack (l ++ [false])).length := by rw [pack_length, pack_length]; simp
  rw [List.getElem?_set]
  by_cases hk : k < (pack (l ++ [true])).length
  · have hk0 : k < (l.length + 1 + 7) / 8 := by rw [pack_length] at hk; simpa using hk
    by_cases hkk : l.length / 8 = k
    · rw [if_pos hkk, if_pos (by rw [hkk, ← hlen]; exact hk)]
      subst hkk
      simp only [pack, List.getElem?_map, List.length_append, List.length_singleton, List.getElem?_range hk0, Option.map_some]
      congr 2
      unfold byteAt
      rw [oct_or _ _ (by omega) (by rw [List.getD_eq_getElem?_getD, List.getElem?_eq_none (by omega)]; rfl)]
      apply oct_congr
      intro j hj
      rw [getD_snoc_true]
      by_cases h : 8 * (l.length / 8) + j = l.length
      · rw [if_pos h, if_pos (by omega)]
      · rw [if_neg h, if_neg (by omega)]
    · rw [if_neg hkk]
      simp only [pack, List.getElem?_map, List.length_append, List.length_singleton, List.getElem?_range hk0, Option.map_some]
      congr 2
      rw [byteAt_snoc_false]
      unfold byteAt
      apply oct_congr
      intro j hj
      rw [getD_snoc_true, if_neg (by omega)]
  · have h2 : ¬ k < (pack (l ++ [false])).length := by omega
    rw [List.getElem?_eq_none (by omega), List.getElem?_eq_none (by omega : (pack (l ++ [false])).length ≤ k)]
    by_cases hkk : l.length / 8 = k
    · rw [if_pos hkk, if_neg (by omega)]
    · rw [if_neg hkk]

/-- A number's lowest n bits, the highest first. -/
def bitsN (v : Nat) : Nat → List Bool
  | 0 => []
  | n + 1 => (v / 2 ^ n % 2 == 1) :: bitsN v n
theorem bitsN_length (v : Nat) : ∀ n, (bitsN v n).length = n
  | 0 => rfl
  | n + 1 => by rw [bitsN, List.length_cons, bitsN_length v n]
theorem bitsN_split (v : Nat) : ∀ k m, bitsN v (m + k) = bitsN (v / 2 ^ m) k ++ bitsN v m
  | 0, m => rfl
  | k + 1, m => by
    rw [show m + (k + 1) = m + k + 1 by omega, bitsN, bitsN, bitsN_split v k m, Nat.div_div_eq_div_mul, ← Nat.pow_add]
    rfl

def unary (n most : Int) : List Bool := List.replicate (max (min n most) 0).toNat true ++ (if max (min n most) 0 < most then [false] else [])

/-- The number that bits are. -/
def number (l : List Bool) : Nat := l.foldl (fun v b => 2 * v + b2n b) 0
theorem number_snoc (l : List Bool) (b : Bool) : number (l ++ [b]) = 2 * number l + b2n b := by simp [number, List.foldl_append]
theorem fold_lt : ∀ (l : List Bool) (a : Nat), l.foldl (fun v b => 2 * v + b2n b) a + 1 ≤ (a + 1) * 2 ^ l.length
  | [], a => by simp
  | b :: l, a => by
    have := fold_lt l (2 * a + b2n b)
    have hb := b2n_le b
    rw [List.foldl_cons, List.length_cons, Nat.pow_succ]
    have h2 : (2 * a + b2n b + 1) * 2 ^ l.length ≤ (2 * (a + 1)) * 2 ^ l.length := Nat.mul_le_mul_right _ (by omega)
    have h3 : (a + 1) * (2 ^ l.length * 2) = (2 * (a + 1)) * 2 ^ l.length := by rw [Nat.mul_comm (2 ^ l.length) 2, ← Nat.mul_assoc, Nat.mul_comm (a + 1) 2]
    omega
theorem number_lt (l : List Bool) : number l < 2 ^ l.length := by
  have := fold_lt l 0
  unfold number
  omega
theorem number_cons (b : Bool) (l : List Bool) : number (b :: l) = b2n b * 2 ^ l.length + number l := by
  have h : ∀ (l : List Bool) (a : Nat), l.foldl (fun v b => 2 * v + b2n b) a = a * 2 ^ l.length + number l := by
    intro l
    induction l with
    | nil => intro a; simp [number]
    | cons c l ih =>
      intro a
      unfold number
      rw [List.foldl_cons, List.foldl_cons, ih, ih (2 * 0 + b2n c), List.length_cons, Nat.pow_succ, Nat.add_mul, Nat.mul_assoc, Nat.mul_comm 2 (a * _), Nat.mul_assoc, Nat.mul_comm (2 ^ l.length) 2]
      simp only [Nat.mul_zero, Nat.zero_add]
      have : 2 * (a * 2 ^ l.length) = a * (2 * 2 ^ l.length) := by rw [← Nat.mul_assoc, Nat.mul_comm 2 a, Nat.mul_assoc]
      omega
  unfold number
  rw [List.foldl_cons, h]
  simp [number]
theorem number_bitsN (v : Nat) : ∀ n, number (bitsN v n) = v % 2 ^ n
  | 0 => by simp [bitsN, number, Nat.mod_one]
  | n + 1 => by
    rw [bitsN, number_cons, bitsN_length, number_bitsN v n, Nat.pow_succ, Nat.mod_mul]
    rcases Nat.mod_two_eq_zero_or_one (v / 2 ^ n) with h | h <;> simp [h, b2n] <;> omega

/-- The bits of bytes. -/
def bitAt (s : List UInt8) (i : Nat) : Bool := (s.getD (i / 8) 0).toNat / 2 ^ (7 - i % 8) % 2 == 1
def bitsOf (s : List UInt8) : List Bool := (List.range (8 * s.length)).map (bitAt s)
theorem bitsOf_length (s : List UInt8) : (bitsOf s).length = 8 * s.length := by simp [bitsOf]
theorem bitsOf_get (s : List UInt8) (i : Nat) (h : i < 8 * s.length) : (bitsOf s)[i]? = some (bitAt s i) := by simp [bitsOf, h]

theorem oct_bit_all : ∀ b0 b1 b2 b3 b4 b5 b6 b7 : Bool, ∀ r : Fin 8,
    ((b2n b0 * 128 + b2n b1 * 64 + b2n b2 * 32 + b2n b3 * 16 + b2n b4 * 8 + b2n b5 * 4 + b2n b6 * 2 + b2n b7) / 2 ^ (7 - r.val) % 2 == 1) =
    (match r with | 0 => b0 | 1 => b1 | 2 => b2 | 3 => b3 | 4 => b4 | 5 => b5 | 6 => b6 | 7 => b7) := by decide +kernel
theorem oct_bit (f : Nat → Bool) (r : Nat) (hr : r < 8) : (oct f / 2 ^ (7 - r) % 2 == 1) = f r := by
  refine (oct_bit_all (f 0) (f 1) (f 2) (f 3) (f 4) (f 5) (f 6) (f 7) ⟨r, hr⟩).trans ?_
  match r, hr with
  | 0, _ => rfl
  | 1, _ => rfl
  | 2, _ => rfl
  | 3, _ => rfl
  | 4, _ => rfl
  | 5, _ => rfl
  | 6, _ => rfl
  | 7, _ => rfl
theorem toNat_ofNat (x : Nat) (h : x < 256) : (UInt8.ofNat x).toNat = x := by
  rw [UInt8.toNat_ofNat']; omega
theorem bitAt_pack (l : List Bool) (i : Nat) : bitAt (pack l) i = l.getD i false := by
  unfold bitAt
  by_cases h : i / 8 < (l.length + 7) / 8
  · have : (pack l).getD (i / 8) 0 = UInt8.ofNat (byteAt l (i / 8)) := by
      simp [pack, List.getD_eq_getElem?_getD, List.getElem?_range h]
    rw [this, toNat_ofNat _ (by unfold byteAt; exact oct_lt _), byteAt, oct_bit _ _ (by omega)]
    congr 1
    omega
  · have : (pack l).getD (i / 8) 0 = 0 := by
      rw [List.getD_eq_getElem?_getD, List.getElem?_eq_none (by rw [pack_length]; omega)]; rfl
    rw [this, List.getD_eq_getElem?_getD, List.getElem?_eq_none (by omega)]
    simp
/-- The bits of a packed row: its own, then zeros. -/
theorem bitsOf_pack (l : List Bool) : bitsOf (pack l) = l ++ List.replicate (8 * ((l.length + 7) / 8) - l.length) false := by
  apply List.ext_getElem?
  intro i
  by_cases h : i < 8 * (pack l).length
  · rw [bitsOf_get _ _ h, bitAt_pack]
    rw [pack_length] at h
    by_cases h2 : i < l.length
    · rw [List.getElem?_append_left h2, List.getD_eq_getElem?_getD, List.getElem?_eq_getElem h2]; rfl
    · rw [List.getElem?_append_right (by omega), List.getD_eq_getElem?_getD, List.getElem?_eq_none (by omega), List.getElem?_replicate, if_pos (by omega)]; rfl
  · rw [List.getElem?_eq_none (by rw [bitsOf_length]; omega), List.getElem?_eq_none (by rw [pack_length] at h; simp; omega)]
theorem and_bit_all : ∀ x : Fin 256, ∀ r : Fin 8, (x.val &&& (128 / 2 ^ r.val) = 0) = ((x.val / 2 ^ (7 - r.val) % 2 == 1) = false) := by
  intro x r
  have : ∀ x : Fin 256, ∀ r : Fin 8, decide (x.val &&& (128 / 2 ^ r.val) = 0) = decide ((x.val / 2 ^ (7 - r.val) % 2 == 1) = false) := by decide +kernel
  exact propext (decide_eq_decide.1 (this x r))
theorem and_bit (x r : Nat) (hx : x < 256) (hr : r < 8) : (x &&& (128 / 2 ^ r) = 0) ↔ (x / 2 ^ (7 - r) % 2 == 1) = false := by
  rw [and_bit_all ⟨x, hx⟩ ⟨r, hr⟩]
end Go.Proofs.YtajkleknjjpldaaDoor.Bt
