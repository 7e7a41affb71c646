/- Layer 7 in plain words: samples as bits, bits as samples; there and back. No program's text. Layer 7 in plain words: bits read as samples. No program's text. -/
import Derived.Test.YtajkleknjjpldaaDoorMBitM
import Derived.Test.YtajkleknjjpldaaDoorMLebM
import Derived.Lib.BitFns
import Derived.Lib.TrailingZeros
namespace Go.Proofs.YtajkleknjjpldaaDoor.Xo

/-- Lists from behind. -/
theorem snoc_ind {α : Type} {P : List α → Prop} (h0 : P []) (h1 : ∀ l s, P l → P (l ++ [s])) (l : List α) : P l := by
  have : ∀ m : List α, P m.reverse := by
    intro m
    induction m with
    | nil => exact h0
    | cons s m ih => rw [List.reverse_cons]; exact h1 _ _ ih
  simpa using this l.reverse

theorem lt_bitLenAux : ∀ (f x : Nat), x < 2 ^ f → x < 2 ^ Lib.bitLenAux f x
  | 0, x, h => h
  | f + 1, x, h => by
    unfold Lib.bitLenAux
    split
    · rename_i h0; subst h0; simp
    · have := lt_bitLenAux f (x / 2) (by rw [Nat.pow_succ] at h; omega)
      rw [Nat.add_comm, Nat.pow_succ]
      omega
theorem lt_bitLen (x : Nat) (h : x < 18446744073709551616) : x < 2 ^ Lib.bitLen x := lt_bitLenAux 64 x h
theorem bitLen_64 (x : Nat) (h : x < 18446744073709551616) : Lib.bitLen x ≤ 64 := Lib.bitLen_le x 64 (by decide) h
theorem bitLen_pos (x : Nat) (h : x < 18446744073709551616) (h0 : x ≠ 0) : 0 < Lib.bitLen x := by
  have := lt_bitLen x h
  rcases Nat.eq_zero_or_pos (Lib.bitLen x) with e | e
  · rw [e] at this; simp at this; omega
  · exact e
theorem ctz_spec (x : Nat) (h : x < 18446744073709551616) (h0 : x ≠ 0) : ∃ m, x = 2 ^ Lib.ctz 64 x * (2 * m + 1) ∧ Lib.ctz 64 x < 64 := by
  unfold Lib.ctz
  rw [if_neg h0]
  exact Lib.ctzFrom_spec 64 x (by omega) h
theorem ctz_lt (x : Nat) (h : x < 18446744073709551616) (h0 : x ≠ 0) : Lib.ctz 64 x < Lib.bitLen x := by
  obtain ⟨m, hm, _⟩ := ctz_spec x h h0
  have h1 := lt_bitLen x h
  apply Nat.lt_of_not_le
  intro hle
  have h2 : 2 ^ Lib.bitLen x ≤ 2 ^ Lib.ctz 64 x := Nat.pow_le_pow_right (by decide) hle
  have h3 : 2 ^ Lib.ctz 64 x ≤ x := by
    conv => rhs; rw [hm]
    exact Nat.le_mul_of_pos_right _ (by omega)
  omega
theorem ctz_div (x b : Nat) (h : x < 18446744073709551616) (h0 : x ≠ 0) (hb : b ≤ Lib.ctz 64 x) : x / 2 ^ b * 2 ^ b = x := by
  obtain ⟨m, hm, _⟩ := ctz_spec x h h0
  apply Nat.div_mul_cancel
  rw [hm]
  exact Nat.dvd_trans (Nat.pow_dvd_pow 2 hb) (Nat.dvd_mul_right _ _)

/-- A time, the bits of a value. -/
abbrev Sm := Int × Nat

/-- In how many bits a change goes, by the ones ahead of it. -/
def wd : Nat → Nat
  | 0 => 0
  | 1 => 7
  | 2 => 12
  | 3 => 20
  | _ => 64
def onesOf (u : Nat) : Nat := if Lib.bitLen u ≤ 0 then 0 else if Lib.bitLen u ≤ 7 then 1 else if Lib.bitLen u ≤ 12 then 2 else if Lib.bitLen u ≤ 20 then 3 else 4
theorem onesOf_le (u : Nat) : onesOf u ≤ 4 := by unfold onesOf; split; omega; split; omega; split; omega; split <;> omega
theorem ones_lt (u k : Nat) (hk : k < onesOf u) : wd k < Lib.bitLen u := by
  unfold onesOf at hk
  have : k = 0 ∨ k = 1 ∨ k = 2 ∨ k = 3 := by
    split at hk; omega; split at hk; omega; split at hk; omega; split at hk <;> omega
  rcases this with rfl | rfl | rfl | rfl <;> simp only [wd] <;> (split at hk; omega; try (split at hk; omega; try (split at hk; omega; try (split at hk <;> omega))))
theorem ones_fit (u : Nat) (h : u < 18446744073709551616) : Lib.bitLen u ≤ wd (onesOf u) := by
  have := bitLen_64 u h
  unfold onesOf
  split
  · simp only [wd]; omega
  · split
    · simp only [wd]; omega
    · split
      · simp only [wd]; omega
      · split
        · simp only [wd]; omega
        · simp only [wd]; omega
theorem ones_pow (u : Nat) (h : u < 18446744073709551616) : u < 2 ^ wd (onesOf u) :=
  Nat.lt_of_lt_of_le (lt_bitLen u h) (Nat.pow_le_pow_right (by decide) (ones_fit u h))
theorem wd_le (k : Nat) : wd k ≤ 64 := by
  unfold wd; split <;> omega

def chBits (d : Int) : List Bool := Bt.unary (onesOf (Leb.foldN d)) 4 ++ Bt.bitsN (Leb.foldN d) (wd (onesOf (Leb.foldN d)))

/-- From its first one to its last: how many bits are ahead, how many are in it. -/
def own (x : Nat) : Nat × Nat := (64 - Lib.bitLen x, Lib.bitLen x - Lib.ctz 64 x)
def covers (w v : Nat × Nat) : Bool := decide (w.1 ≤ v.1) && decide (64 - w.1 - w.2 ≤ 64 - v.1 - v.2)
def winAfter (w : Nat × Nat) (x : Nat) : Nat × Nat := if x = 0 then w else if covers w (own x) then w else own x
def winBits (w : Nat × Nat) (x : Nat) : List Bool :=
  if x = 0 then [false]
  else if covers w (own x) then [true, false] ++ Bt.bitsN (x / 2 ^ (64 - w.1 - w.2)) w.2
  else [true, true] ++ Bt.bitsN (own x).1 6 ++ Bt.bitsN ((own x).2 - 1) 6 ++ Bt.bitsN (x / 2 ^ (64 - (own x).1 - (own x).2)) (own x).2

/-- What a sample's bits hang on. -/
structure Tr where
  T : Int
  V : Nat
  st : Int
  a : Nat
  z : Nat
def tr0 : Tr := ⟨0, 0, 0, 0, 0⟩
def firstBits (s : Sm) : List Bool := Bt.bitsN s.1.toNat 41 ++ Bt.bitsN s.2 64
def nextBits (t : Tr) (s : Sm) : List Bool := chBits (s.1 - t.T - t.st) ++ winBits (t.a, t.z) (s.2 ^^^ t.V)
def firstTr (s : Sm) : Tr := ⟨s.1, s.2, 0, 0, 0⟩
def nextTr (t : Tr) (s : Sm) : Tr := ⟨s.1, s.2, s.1 - t.T, (winAfter (t.a, t.z) (s.2 ^^^ t.V)).1, (winAfter (t.a, t.z) (s.2 ^^^ t.V)).2⟩
def stepT (p : Nat × List Bool × Tr) (s : Sm) : Nat × List Bool × Tr :=
  if p.1 = 0 then (1, p.2.1 ++ firstBits s, firstTr s) else (p.1 + 1, p.2.1 ++ nextBits p.2.2 s, nextTr p.2.2 s)
def enc (l : List Sm) : Nat × List Bool × Tr := l.foldl stepT (0, [], tr0)
def bitsL (l : List Sm) : List Bool := (enc l).2.1
def trL (l : List Sm) : Tr := (enc l).2.2
theorem enc_snoc (l : List Sm) (s : Sm) : enc (l ++ [s]) = stepT (enc l) s := by simp [enc, List.foldl_append]
theorem enc_len (l : List Sm) : (enc l).1 = l.length := by
  induction l using snoc_ind with
  | h0 => rfl
  | h1 l s ih => 
    rw [enc_snoc, List.length_append, List.length_singleton]
    unfold stepT
    split
    · rename_i h; rw [ih] at h; simp only; omega
    · simp only; omega
theorem bitsL_nil : bitsL [] = [] := rfl
theorem trL_nil : trL [] = tr0 := rfl
theorem bitsL_one (s : Sm) : bitsL [s] = firstBits s := by simp [bitsL, enc, stepT]
theorem trL_one (s : Sm) : trL [s] = firstTr s := by simp [trL, enc, stepT]
theorem bitsL_snoc (l : List Sm) (s : Sm) (h : l ≠ []) : bitsL (l ++ [s]) = bitsL l ++ nextBits (trL l) s := by
  have hl : (enc l).1 ≠ 0 := by rw [enc_len]; intro e; exact h (List.length_eq_zero_iff.1 e)
  unfold bitsL trL
  rw [enc_snoc, stepT, if_neg hl]
theorem trL_snoc (l : List Sm) (s : Sm) (h : l ≠ []) : trL (l ++ [s]) = nextTr (trL l) s := by
  have hl : (enc l).1 ≠ 0 := by rw [enc_len]; intro e; exact h (List.length_eq_zero_iff.1 e)
  unfold trL
  rw [enc_snoc, stepT, if_neg hl]
theorem bitsL_prefix (l : List Sm) : ∀ (m : List Sm), ∃ b, bitsL (l ++ m) = bitsL l ++ b
  | [] => ⟨[], by simp⟩
  | s :: m => by
    obtain ⟨b, hb⟩ := bitsL_prefix (l ++ [s]) m
    rw [List.append_assoc, List.singleton_append] at hb
    rw [hb]
    by_cases h : l = []
    · subst h; exact ⟨bitsL ([] ++ [s]) ++ b, by simp [bitsL_nil]⟩
    · rw [bitsL_snoc l s h, List.append_assoc]; exact ⟨_, rfl⟩
termination_by m => m.length

theorem unary_len (k : Nat) (hk : k ≤ 4) : (Bt.unary k 4).length ≤ 5 := by
  unfold Bt.unary
  rw [List.length_append, List.length_replicate]
  split <;> simp <;> omega
theorem own_bd (x : Nat) (h : x < 18446744073709551616) (h0 : x ≠ 0) : (own x).1 ≤ 63 ∧ 1 ≤ (own x).2 ∧ (own x).1 + (own x).2 ≤ 64 ∧ 64 - (own x).1 - (own x).2 = Lib.ctz 64 x := by
  have h1 := bitLen_64 x h
  have h2 := bitLen_pos x h h0
  have h3 := ctz_lt x h h0
  unfold own
  simp only
  omega
theorem winAfter_bd (w : Nat × Nat) (x : Nat) (h : x < 18446744073709551616) (hw : w.1 + w.2 ≤ 64) : (winAfter w x).1 + (winAfter w x).2 ≤ 64 := by
  unfold winAfter
  split
  · exact hw
  · rename_i h0
    split
    · exact hw
    · exact (own_bd x h h0).2.2.1
theorem winBits_len (w : Nat × Nat) (x : Nat) (h : x < 18446744073709551616) (hw : w.1 + w.2 ≤ 64) : (winBits w x).length ≤ 80 := by
  unfold winBits
  split
  · simp
  · rename_i h0
    split
    · simp [Bt.bitsN_length]; omega
    · have := own_bd x h h0
      simp [Bt.bitsN_length]; omega
theorem nextBits_len (t : Tr) (s : Sm) (h : s.2 ^^^ t.V < 18446744073709551616) (hw : t.a + t.z ≤ 64) : (nextBits t s).length ≤ 150 := by
  unfold nextBits chBits
  have h1 := winBits_len (t.a, t.z) _ h hw
  have h2 := unary_len _ (onesOf_le (Leb.foldN (s.1 - t.T - t.st)))
  have h3 := wd_le (onesOf (Leb.foldN (s.1 - t.T - t.st)))
  simp only [List.length_append, Bt.bitsN_length]
  omega

/-- What stands in the way of a sample more. -/
def err (l : List Sm) (s : Sm) : Nat :=
  if s.1 < 0 ∨ 1099511627776 < s.1 then 1
  else match l.getLast? with
    | some p => if s.1 ≤ p.1 then 10 else if l.length = 120 then 7 else 0
    | none => 0
/-- Samples of a chunk. -/
def Good : List Sm → Prop
  | l => l.length ≤ 120 ∧ (∀ s ∈ l, 0 ≤ s.1 ∧ s.1 ≤ 1099511627776 ∧ s.2 < 18446744073709551616) ∧ l.Pairwise (fun a b => a.1 < b.1)
theorem good_nil : Good [] := ⟨by simp, by simp, List.Pairwise.nil⟩
theorem good_snoc {l : List Sm} {s : Sm} (h : Good l) (hv : s.2 < 18446744073709551616) (he : err l s = 0) : Good (l ++ [s]) := by
  obtain ⟨h1, h2, h3⟩ := h
  unfold err at he
  split at he
  · cases he
  · rename_i hb
    have hs : 0 ≤ s.1 ∧ s.1 ≤ 1099511627776 := by omega
    refine ⟨?_, ?_, ?_⟩
    · split at he
      · split at he
        · cases he
        · split at he
          · cases he
          · simp; omega
      · rename_i hn
        rw [List.getLast?_eq_none_iff] at hn
        subst hn; simp
    · intro x hx
      rcases List.mem_append.1 hx with hx | hx
      · exact h2 x hx
      · rw [List.mem_singleton.1 hx]; exact ⟨hs.1, hs.2, hv⟩
    · rw [List.pairwise_append]
      refine ⟨h3, List.pairwise_singleton _ _, ?_⟩
      intro a ha b hb
      rw [List.mem_singleton.1 hb]
      split at he
      · rename_i p hp
        split at he
        · cases he
        · rename_i hlt
          obtain ⟨m, rfl⟩ := List.getLast?_eq_some_iff.1 hp
          rcases List.mem_append.1 ha with ha | ha
          · have := (List.pairwise_append.1 h3).2.2 a ha p (by simp)
            omega
          · rw [List.mem_singleton.1 ha]; omega
      · rename_i hn
        rw [List.getLast?_eq_none_iff] at hn
        subst hn; cases ha
theorem good_init {l : List Sm} {s : Sm} (h : Good (l ++ [s])) : Good l := by
  obtain ⟨h1, h2, h3⟩ := h
  exact ⟨by simp at h1; omega, fun x hx => h2 x (by simp [hx]), (List.pairwise_append.1 h3).1⟩
theorem good_prefix {l m : List Sm} (h : Good (l ++ m)) : Good l := by
  obtain ⟨h1, h2, h3⟩ := h
  exact ⟨by simp at h1; omega, fun x hx => h2 x (by simp [hx]), (List.pairwise_append.1 h3).1⟩
theorem good_err {l : List Sm} {s : Sm} (h : Good (l ++ [s])) : err l s = 0 := by
  obtain ⟨h1, h2, h3⟩ := h
  have hs := h2 s (by simp)
  unfold err
  rw [if_neg (by omega)]
  split
  · rename_i p hp
    obtain ⟨m, rfl⟩ := List.getLast?_eq_some_iff.1 hp
    have := (List.pairwise_append.1 h3).2.2 p (by simp) s (by simp)
    simp at h1
    rw [if_neg (by omega), if_neg (by simp; omega)]
  · rfl

theorem xor_lt {a b : Nat} (ha : a < 18446744073709551616) (hb : b < 18446744073709551616) : a ^^^ b < 18446744073709551616 := Nat.xor_lt_two_pow (n := 64) ha hb
/-- What a trail is, behind samples. -/
structure TrOk (t : Tr) : Prop where
  T0 : 0 ≤ t.T
  T1 : t.T ≤ 1099511627776
  V : t.V < 18446744073709551616
  s0 : -1099511627776 ≤ t.st
  s1 : t.st ≤ 1099511627776
  w : t.a + t.z ≤ 64
theorem tr0_ok : TrOk tr0 := ⟨by decide, by decide, by decide, by decide, by decide, by decide⟩
theorem trL_ok (l : List Sm) : Good l → TrOk (trL l) := by
  induction l using snoc_ind with
  | h0 => intro _; exact tr0_ok
  | h1 l s ih =>
    intro h
    have hs := h.2.1 s (by simp)
    by_cases hl : l = []
    · subst hl
      rw [List.nil_append, trL_one]
      exact ⟨hs.1, hs.2.1, hs.2.2, by simp [firstTr], by simp [firstTr], by simp [firstTr]⟩
    · have i := ih (good_init h)
      rw [trL_snoc l s hl]
      refine ⟨hs.1, hs.2.1, hs.2.2, ?_, ?_, ?_⟩
      · show -1099511627776 ≤ s.1 - _; have := i.T1; omega
      · show s.1 - _ ≤ 1099511627776; have := i.T0; omega
      · exact winAfter_bd ((trL l).a, (trL l).z) _ (xor_lt hs.2.2 i.V) i.w
theorem trL_last (l : List Sm) (s : Sm) : (trL (l ++ [s])).T = s.1 ∧ (trL (l ++ [s])).V = s.2 := by
  by_cases hl : l = []
  · subst hl; rw [List.nil_append, trL_one]; exact ⟨rfl, rfl⟩
  · rw [trL_snoc l s hl]; exact ⟨rfl, rfl⟩
theorem bitsL_len (l : List Sm) : Good l → (bitsL l).length ≤ 150 * l.length := by
  induction l using snoc_ind with
  | h0 => intro _; simp [bitsL_nil]
  | h1 l s ih =>
    intro h
    have i := ih (good_init h)
    have hs := h.2.1 s (by simp)
    by_cases hl : l = []
    · subst hl
      rw [List.nil_append, bitsL_one]
      simp [firstBits, Bt.bitsN_length]
    · rw [bitsL_snoc l s hl, List.length_append, List.length_append, List.length_singleton]
      have t := trL_ok l (good_init h)
      have := nextBits_len (trL l) s (xor_lt hs.2.2 t.V) t.w
      omega

/-- A chunk's bytes. -/
def text (l : List Sm) : List UInt8 := Leb.encU l.length ++ Leb.encU (bitsL l).length ++ Bt.pack (bitsL l)
theorem text_len (l : List Sm) (h : Good l) : (text l).length ≤ 3000 := by
  have h1 := bitsL_len l h
  have h2 := h.1
  have h3 := Leb.encU_len l.length
  have h4 := Leb.encU_len (bitsL l).length
  unfold text
  simp only [List.length_append, Bt.pack_length]
  omega
end Go.Proofs.YtajkleknjjpldaaDoor.Xo

namespace Go.Proofs.YtajkleknjjpldaaDoor.Xo

/-- So many bits from place p on. -/
def aheadB (s : List UInt8) (p k : Nat) : List Bool := (List.range k).map fun j => Bt.bitAt s (p + j)
theorem aheadB_length (s : List UInt8) (p k : Nat) : (aheadB s p k).length = k := by simp [aheadB]
/-- From place p on, ahead of place n, stand these bits. -/
def At (s : List UInt8) (n p : Nat) (b : List Bool) : Prop := p + b.length ≤ n ∧ ∀ j, j < b.length → Bt.bitAt s (p + j) = b.getD j false
theorem at_append {s : List UInt8} {n p : Nat} {a b : List Bool} (h : At s n p (a ++ b)) : At s n p a ∧ At s n (p + a.length) b := by
  obtain ⟨h1, h2⟩ := h
  rw [List.length_append] at h1 h2
  refine ⟨⟨by omega, fun j hj => ?_⟩, ⟨by omega, fun j hj => ?_⟩⟩
  · rw [h2 j (by omega)]
    simp [List.getD_eq_getElem?_getD, List.getElem?_append_left hj]
  · rw [Nat.add_assoc, h2 (a.length + j) (by omega)]
    simp [List.getD_eq_getElem?_getD, List.getElem?_append_right]
theorem at_ahead {s : List UInt8} {n p : Nat} {b : List Bool} (h : At s n p b) : aheadB s p b.length = b := by
  apply List.ext_getElem
  · rw [aheadB_length]
  · intro i h1 h2
    simp only [aheadB, List.getElem_map, List.getElem_range]
    rw [h.2 i h2, List.getD_eq_getElem?_getD, List.getElem?_eq_getElem h2]; rfl

/-- An eye: where it is, its error. -/
abbrev Ey := Nat × Nat
def eBit (s : List UInt8) (n : Nat) (e : Ey) : Bool × Ey := if e.2 = 0 ∧ e.1 < n then (Bt.bitAt s e.1, (e.1 + 1, 0)) else (false, (e.1, 2))
def eBits (s : List UInt8) (n k : Nat) (e : Ey) : Nat × Ey := if e.2 = 0 ∧ e.1 + k ≤ n then (Bt.number (aheadB s e.1 k), (e.1 + k, 0)) else (0, (e.1, 2))
theorem eBits_lt (s : List UInt8) (n k : Nat) (e : Ey) : (eBits s n k e).1 < 2 ^ k := by
  unfold eBits
  split
  · have := Bt.number_lt (aheadB s e.1 k)
    rw [aheadB_length] at this
    exact this
  · exact Nat.two_pow_pos k
/-- How many ones there are, of at most m. -/
def onesAt (s : List UInt8) (n : Nat) : Nat → Nat → Nat
  | _, 0 => 0
  | p, m + 1 => if p < n ∧ Bt.bitAt s p = true then onesAt s n (p + 1) m + 1 else 0
def eUn (s : List UInt8) (n m : Nat) (e : Ey) : Nat × Ey :=
  if e.2 ≠ 0 then (0, (e.1, 2))
  else if onesAt s n e.1 m = m then (m, (e.1 + m, 0))
  else if e.1 + onesAt s n e.1 m < n then (onesAt s n e.1 m, (e.1 + onesAt s n e.1 m + 1, 0))
  else (0, (n, 2))
theorem onesAt_le (s : List UInt8) (n : Nat) : ∀ (m p : Nat), onesAt s n p m ≤ m
  | 0, p => by simp [onesAt]
  | m + 1, p => by
    unfold onesAt
    split
    · have := onesAt_le s n m (p + 1); omega
    · omega
theorem onesAt_true (s : List UInt8) (n : Nat) : ∀ (m p j : Nat), j < onesAt s n p m → p + j < n ∧ Bt.bitAt s (p + j) = true
  | 0, p, j, h => by simp [onesAt] at h
  | m + 1, p, j, h => by
    unfold onesAt at h
    split at h
    · rename_i hb
      cases j with
      | zero => simpa using hb
      | succ j =>
        have := onesAt_true s n m (p + 1) j (by omega)
        rw [show p + (j + 1) = p + 1 + j by omega]
        exact this
    · omega
theorem onesAt_end (s : List UInt8) (n : Nat) : ∀ (m p : Nat), onesAt s n p m < m → p + onesAt s n p m < n → Bt.bitAt s (p + onesAt s n p m) = false
  | 0, p, h, _ => by omega
  | m + 1, p, h, h2 => by
    unfold onesAt at h h2 ⊢
    split
    · rename_i hb
      rw [if_pos hb] at h h2
      have := onesAt_end s n m (p + 1) (by omega) (by omega)
      rw [show p + (onesAt s n (p + 1) m + 1) = p + 1 + onesAt s n (p + 1) m by omega]
      exact this
    · rename_i hb
      rw [if_neg hb] at h2
      simp only [Nat.add_zero] at h2 ⊢
      cases hc : Bt.bitAt s p
      · rfl
      · exact absurd ⟨h2, hc⟩ hb

theorem eBit_at {s : List UInt8} {n p : Nat} {b : Bool} (h : At s n p [b]) : eBit s n (p, 0) = (b, (p + 1, 0)) := by
  obtain ⟨h1, h2⟩ := h
  simp only [List.length_singleton] at h1 h2
  unfold eBit
  rw [if_pos ⟨rfl, by simp only; omega⟩]
  have := h2 0 (by omega)
  simp at this
  simp [this]
theorem eBits_at {s : List UInt8} {n p k v : Nat} (h : At s n p (Bt.bitsN v k)) (hv : v < 2 ^ k) : eBits s n k (p, 0) = (v, (p + k, 0)) := by
  have h1 := h.1
  rw [Bt.bitsN_length] at h1
  unfold eBits
  rw [if_pos ⟨rfl, h1⟩]
  have := at_ahead h
  rw [Bt.bitsN_length] at this
  simp only
  rw [this, Bt.number_bitsN, Nat.mod_eq_of_lt hv]
theorem onesAt_rep {s : List UInt8} {n : Nat} : ∀ (k p m : Nat), At s n p (List.replicate k true) → k ≤ m → onesAt s n p m = k + onesAt s n (p + k) (m - k)
  | 0, p, m, _, _ => by simp
  | k + 1, p, m, h, hk => by
    obtain ⟨m, rfl⟩ : ∃ m', m = m' + 1 := ⟨m - 1, by omega⟩
    rw [List.replicate_succ] at h
    have h' := at_append (a := [true]) h
    have hb := eBit_at h'.1
    have h1 := h'.1.1
    simp only [List.length_singleton] at h1
    have h2 := h'.1.2 0 (by simp)
    simp at h2
    rw [onesAt, if_pos ⟨by omega, h2⟩, onesAt_rep k (p + 1) m (by simpa using h'.2) (by omega)]
    rw [show p + 1 + k = p + (k + 1) by omega, show m + 1 - (k + 1) = m - k by omega]
    omega
theorem eUn_at {s : List UInt8} {n p k m : Nat} (h : At s n p (Bt.unary k m)) (hk : k ≤ m) : eUn s n m (p, 0) = (k, (p + (Bt.unary k m).length, 0)) := by
  unfold Bt.unary at h ⊢
  rw [show (max (min (k : Int) (m : Int)) 0) = (k : Int) by omega, Int.toNat_natCast] at h ⊢
  have hs := at_append h
  have hr := onesAt_rep k p m hs.1 hk
  unfold eUn
  rw [if_neg (by simp)]
  by_cases hkm : k = m
  · subst hkm
    simp only [Nat.sub_self, onesAt, Nat.add_zero] at hr
    rw [if_pos (by simpa using hr)]
    simp
  · have hc : (k : Int) < m := by omega
    rw [if_pos hc] at hs ⊢
    have h2 := hs.2
    rw [List.length_replicate] at h2
    have h3 := h2.2 0 (by simp)
    have h4 := h2.1
    simp at h3 h4
    have h5 : onesAt s n (p + k) (m - k) = 0 := by
      obtain ⟨q, hq⟩ : ∃ q, m - k = q + 1 := ⟨m - k - 1, by omega⟩
      rw [hq, onesAt, if_neg (by simp [h3])]
    rw [h5, Nat.add_zero] at hr
    simp only [hr]
    rw [if_neg hkm, if_pos (by omega)]
    simp
    omega

def wrapI (x : Int) : Int := (x + 9223372036854775808) % 18446744073709551616 - 9223372036854775808
theorem wrapI_id (x : Int) (h0 : -9223372036854775808 ≤ x) (h1 : x ≤ 9223372036854775807) : wrapI x = x := by unfold wrapI; omega

def takeCh (s : List UInt8) (n : Nat) (e : Ey) : Int × Ey :=
  (Leb.unfoldN (eBits s n (wd (eUn s n 4 e).1) (eUn s n 4 e).2).1, (eBits s n (wd (eUn s n 4 e).1) (eUn s n 4 e).2).2)
/-- An x, the window, the eye. -/
def takeWin (s : List UInt8) (n : Nat) (w : Nat × Nat) (e : Ey) : Nat × (Nat × Nat) × Ey :=
  if (eBit s n e).1 = false then (0, w, (eBit s n e).2)
  else if (eBit s n (eBit s n e).2).1 = false then
    ((eBits s n w.2 (eBit s n (eBit s n e).2).2).1 * 2 ^ (64 - w.1 - w.2) % 18446744073709551616, w, (eBits s n w.2 (eBit s n (eBit s n e).2).2).2)
  else
    let r := eBits s n 6 (eBit s n (eBit s n e).2).2
    let q := eBits s n 6 r.2
    let z := min (q.1 + 1) (64 - r.1)
    ((eBits s n z q.2).1 * 2 ^ (64 - r.1 - z) % 18446744073709551616, (r.1, z), (eBits s n z q.2).2)
def takeFirst (s : List UInt8) (n : Nat) (e : Ey) : Tr × Ey :=
  (⟨(eBits s n 41 e).1, (eBits s n 64 (eBits s n 41 e).2).1, 0, 0, 0⟩, (eBits s n 64 (eBits s n 41 e).2).2)
def takeNext (s : List UInt8) (n : Nat) (t : Tr) (e : Ey) : Tr × Ey :=
  let c := takeCh s n e
  let st := wrapI (t.st + c.1)
  let x := takeWin s n (t.a, t.z) c.2
  (⟨wrapI (t.T + st), t.V ^^^ x.1, st, x.2.1.1, x.2.1.2⟩, x.2.2)
/-- k samples more, behind l. -/
def readM (s : List UInt8) (n : Nat) : Nat → List Sm → Tr → Ey → Nat × List Sm
  | 0, l, _, _ => (0, l)
  | k + 1, l, t, e =>
    let r := if l = [] then takeFirst s n e else takeNext s n t e
    if r.2.2 ≠ 0 then (r.2.2, [])
    else if err l (r.1.T, r.1.V) ≠ 0 then (3, [])
    else readM s n k (l ++ [(r.1.T, r.1.V)]) r.1 r.2

theorem takeCh_at {s : List UInt8} {n p : Nat} {d : Int} (h0 : -9223372036854775808 ≤ d) (h1 : d ≤ 9223372036854775807) (h : At s n p (chBits d)) : takeCh s n (p, 0) = (d, (p + (chBits d).length, 0)) := by
  unfold chBits at h ⊢
  have hs := at_append h
  have hu : eUn s n 4 (p, 0) = (onesOf (Leb.foldN d), (p + (Bt.unary (onesOf (Leb.foldN d)) 4).length, 0)) := eUn_at (m := 4) hs.1 (onesOf_le _)
  have hlt := Leb.fold_lt d h0 h1
  have hb := eBits_at hs.2 (ones_pow _ hlt)
  unfold takeCh
  rw [hu]
  simp only
  rw [hb, Leb.unfold_fold, List.length_append, Bt.bitsN_length, Nat.add_assoc]
theorem takeWin_at {s : List UInt8} {n p x : Nat} {w : Nat × Nat} (hx : x < 18446744073709551616) (hw : w.1 + w.2 ≤ 64) (h : At s n p (winBits w x)) : takeWin s n w (p, 0) = (x, winAfter w x, (p + (winBits w x).length, 0)) := by
  unfold winBits at h ⊢
  unfold winAfter takeWin
  by_cases h0 : x = 0
  · rw [if_pos h0] at h ⊢
    rw [eBit_at h]
    subst h0
    simp
  · rw [if_neg h0] at h ⊢
    rw [if_neg h0]
    by_cases hc : covers w (own x) = true
    · rw [if_pos hc] at h ⊢
      rw [if_pos hc]
      have h1 := at_append (a := [true]) (b := [false] ++ Bt.bitsN (x / 2 ^ (64 - w.1 - w.2)) w.2) h
      have h2 := at_append h1.2
      have hb1 := eBit_at h1.1
      have hb2 := eBit_at h2.1
      simp only [List.length_singleton] at hb2
      have hd := own_bd x hx h0
      unfold covers at hc
      simp only [Bool.and_eq_true, decide_eq_true_eq] at hc
      have hlt : x / 2 ^ (64 - w.1 - w.2) < 2 ^ w.2 := by
        apply Nat.div_lt_of_lt_mul
        rw [← Nat.pow_add]
        refine Nat.lt_of_lt_of_le (lt_bitLen x hx) (Nat.pow_le_pow_right (by decide) ?_)
        have : (own x).1 = 64 - Lib.bitLen x := rfl
        have := bitLen_64 x hx
        omega
      have hb3 := eBits_at h2.2 hlt
      simp only [List.length_singleton] at hb3
      rw [hb1]
      simp only
      rw [hb2]
      simp only
      rw [hb3]
      simp only
      rw [ctz_div x _ hx h0 (by omega), Nat.mod_eq_of_lt hx]
      simp [Bt.bitsN_length]
      omega
    · rw [if_neg hc] at h ⊢
      rw [if_neg hc]
      have hd := own_bd x hx h0
      rw [List.append_assoc, List.append_assoc] at h
      have h1 := at_append (a := [true]) (b := [true] ++ (Bt.bitsN (own x).1 6 ++ (Bt.bitsN ((own x).2 - 1) 6 ++ Bt.bitsN (x / 2 ^ (64 - (own x).1 - (own x).2)) (own x).2))) h
      have h2 := at_append h1.2
      have h3 := at_append h2.2
      have h4 := at_append h3.2
      have hb1 := eBit_at h1.1
      have hb2 := eBit_at h2.1
      have hb3 := eBits_at h3.1 (by omega)
      have hb4 := eBits_at h4.1 (by omega)
      have hlt : x / 2 ^ (64 - (own x).1 - (own x).2) < 2 ^ (own x).2 := by
        apply Nat.div_lt_of_lt_mul
        rw [← Nat.pow_add]
        refine Nat.lt_of_lt_of_le (lt_bitLen x hx) (Nat.pow_le_pow_right (by decide) ?_)
        have : (own x).1 = 64 - Lib.bitLen x := rfl
        have := bitLen_64 x hx
        omega
      have hb5 := eBits_at h4.2 hlt
      have hz : min ((own x).2 - 1 + 1) (64 - (own x).1) = (own x).2 := by omega
      simp only [List.length_singleton, Bt.bitsN_length] at hb1 hb2 hb3 hb4 hb5
      rw [hb1]
      simp only
      rw [hb2]
      simp only
      rw [hb3]
      simp only
      rw [hb4]
      simp only
      rw [hz, hb5]
      simp only
      rw [ctz_div x _ hx h0 (by omega), Nat.mod_eq_of_lt hx]
      simp [Bt.bitsN_length]
      omega

theorem takeFirst_at {s : List UInt8} {n p : Nat} {x : Sm} (h0 : 0 ≤ x.1) (h1 : x.1 ≤ 1099511627776) (hv : x.2 < 18446744073709551616) (h : At s n p (firstBits x)) : takeFirst s n (p, 0) = (firstTr x, (p + (firstBits x).length, 0)) := by
  unfold firstBits at h ⊢
  have hs := at_append h
  have hb1 := eBits_at hs.1 (by omega)
  have hb2 := eBits_at hs.2 hv
  rw [Bt.bitsN_length] at hb2
  unfold takeFirst
  rw [hb1]
  simp only
  rw [hb2]
  have : ((x.1.toNat : Nat) : Int) = x.1 := by omega
  simp [firstTr, this, Bt.bitsN_length]
theorem takeNext_at {s : List UInt8} {n p : Nat} {t : Tr} {x : Sm} (ht : TrOk t) (h0 : 0 ≤ x.1) (h1 : x.1 ≤ 1099511627776) (hv : x.2 < 18446744073709551616) (h : At s n p (nextBits t x)) : takeNext s n t (p, 0) = (nextTr t x, (p + (nextBits t x).length, 0)) := by
  obtain ⟨a1, a2, a3, a4, a5, a6⟩ := ht
  unfold nextBits at h ⊢
  have hs := at_append h
  have hb1 := takeCh_at (by omega) (by omega) hs.1
  have hxv := xor_lt hv a3
  have hb2 := takeWin_at (w := (t.a, t.z)) hxv a6 hs.2
  unfold takeNext
  rw [hb1]
  simp only
  rw [hb2]
  have e1 : wrapI (t.st + (x.1 - t.T - t.st)) = x.1 - t.T := by unfold wrapI; omega
  rw [e1]
  have e2 : wrapI (t.T + (x.1 - t.T)) = x.1 := by unfold wrapI; omega
  rw [e2]
  have e3 : t.V ^^^ (x.2 ^^^ t.V) = x.2 := by rw [Nat.xor_comm x.2, ← Nat.xor_assoc, Nat.xor_self, Nat.zero_xor]
  rw [e3]
  simp [nextTr, Nat.add_assoc]

/-- There and back. -/
theorem readM_back (s : List UInt8) (n : Nat) : ∀ (R P : List Sm), Good (P ++ R) → At s n 0 (bitsL (P ++ R)) → readM s n R.length P (trL P) ((bitsL P).length, 0) = (0, P ++ R)
  | [], P, _, _ => by simp [readM]
  | x :: R, P, hg, ha => by
    rw [← List.singleton_append, ← List.append_assoc] at hg ha
    have ih := readM_back s n R (P ++ [x]) hg ha
    have hg1 := good_prefix hg
    have hx := hg1.2.1 x (by simp)
    have he := good_err hg1
    obtain ⟨b, hb⟩ := bitsL_prefix (P ++ [x]) R
    rw [hb] at ha
    have ha1 := (at_append ha).1
    rw [List.length_cons, readM]
    by_cases hP : P = []
    · subst hP
      simp only [List.nil_append] at ha1 ih
      rw [bitsL_one] at ha1
      rw [if_pos rfl, bitsL_nil, List.length_nil, takeFirst_at hx.1 hx.2.1 hx.2.2 ha1]
      simp only [Nat.zero_add]
      rw [if_neg (by simp)]
      have e : ((firstTr x).T, (firstTr x).V) = x := rfl
      rw [e, if_neg (by rw [he]; simp), List.nil_append, ← bitsL_one, ← trL_one, ih]
      simp
    · rw [bitsL_snoc P x hP] at ha1
      have ha2 := (at_append ha1).2
      rw [Nat.zero_add] at ha2
      rw [if_neg hP, takeNext_at (trL_ok P (good_init hg1)) hx.1 hx.2.1 hx.2.2 ha2]
      simp only
      rw [if_neg (by simp)]
      have e : ((nextTr (trL P) x).T, (nextTr (trL P) x).V) = x := rfl
      rw [e, if_neg (by rw [he]; simp), ← trL_snoc P x hP, ← List.length_append, ← bitsL_snoc P x hP, ih]
      simp
theorem at_pack (b : List Bool) : At (Bt.pack b) b.length 0 b := ⟨by simp, fun j _ => by rw [Nat.zero_add, Bt.bitAt_pack]⟩

/-- Bytes as samples. -/
def samplesM (s : List UInt8) : Nat × List Sm :=
  if (Leb.takeM s 120).2.2 ≠ 0 then ((Leb.takeM s 120).2.2, [])
  else
    let r := Leb.takeM (Leb.takeM s 120).2.1 9223372036854775807
    if r.2.2 ≠ 0 then (r.2.2, [])
    else
      let q := readM r.2.1 (min r.1 (8 * r.2.1.length)) (Leb.takeM s 120).1 [] tr0 (0, 0)
      if q.1 ≠ 0 then (q.1, []) else if text q.2 ≠ s then (3, []) else (0, q.2)
theorem takeM_enc (v : Nat) (t : List UInt8) (most : Int) (h : v < Leb.two64) (hm : (v : Int) ≤ most) : Leb.takeM (Leb.encU v ++ t) most = (v, t, 0) := by
  unfold Leb.takeM
  rw [Leb.takeU_enc v h t]
  simp only
  rw [if_neg (by simp), if_neg (by omega)]
theorem samplesM_text (l : List Sm) (h : Good l) : samplesM (text l) = (0, l) := by
  have h1 := h.1
  have h2 := bitsL_len l h
  have e1 : Leb.takeM (text l) 120 = (l.length, Leb.encU (bitsL l).length ++ Bt.pack (bitsL l), 0) := by
    unfold text
    rw [List.append_assoc]
    exact takeM_enc _ _ _ (by unfold Leb.two64; omega) (by omega)
  have e2 := takeM_enc (bitsL l).length (Bt.pack (bitsL l)) 9223372036854775807 (by unfold Leb.two64; omega) (by omega)
  have hb := readM_back (Bt.pack (bitsL l)) (bitsL l).length l [] (by simpa using h) (by simpa using at_pack (bitsL l))
  have hn : min (bitsL l).length (8 * (Bt.pack (bitsL l)).length) = (bitsL l).length := by rw [Bt.pack_length]; omega
  unfold samplesM
  rw [e1]
  simp only
  rw [if_neg (by simp), e2]
  simp only
  rw [if_neg (by simp), hn]
  rw [trL_nil, bitsL_nil, List.length_nil, List.nil_append] at hb
  rw [hb]
  simp
theorem readM_good (s : List UInt8) (n : Nat) : ∀ (k : Nat) (l : List Sm) (t : Tr) (e : Ey) (m : List Sm), Good l → t.V < 18446744073709551616 → readM s n k l t e = (0, m) → Good m ∧ m.length = l.length + k
  | 0, l, t, e, m, h, _, hr => by
    simp only [readM, Prod.mk.injEq, true_and] at hr
    subst hr; exact ⟨h, rfl⟩
  | k + 1, l, t, e, m, h, hv, hr => by
    rw [readM] at hr
    have hx : (if l = [] then takeFirst s n e else takeNext s n t e).1.V < 18446744073709551616 := by
      split
      · exact eBits_lt s n 64 _
      · unfold takeNext
        simp only
        apply xor_lt hv
        unfold takeWin
        split
        · simp
        · split <;> exact Nat.mod_lt _ (by decide)
    generalize (if l = [] then takeFirst s n e else takeNext s n t e) = r at hr hx
    split at hr
    · rename_i h0
      simp only [Prod.mk.injEq] at hr
      exact absurd hr.1 h0
    · split at hr
      · simp at hr
      · rename_i h0 he
        have he' : err l (r.1.T, r.1.V) = 0 := by omega
        have := readM_good s n k _ _ _ m (good_snoc h hx he') hx hr
        simp only [List.length_append, List.length_singleton] at this
        exact ⟨this.1, by omega⟩
theorem samplesM_good (s : List UInt8) (l : List Sm) (h : samplesM s = (0, l)) : Good l ∧ text l = s := by
  unfold samplesM at h
  split at h
  · rename_i h0
    simp only [Prod.mk.injEq] at h
    exact absurd h.1 h0
  · simp only at h
    split at h
    · rename_i h0
      simp only [Prod.mk.injEq] at h
      exact absurd h.1 h0
    · split at h
      · rename_i h0
        simp only [Prod.mk.injEq] at h
        exact absurd h.1 h0
      · split at h
        · simp at h
        · rename_i h1 h2 h3 h4
          simp only [Prod.mk.injEq, true_and] at h
          rw [← h]
          exact ⟨(readM_good _ _ _ _ _ _ _ good_nil (by decide) (Prod.ext (by simpa using h3) rfl)).1, by simpa using h4⟩
end Go.Proofs.YtajkleknjjpldaaDoor.Xo
