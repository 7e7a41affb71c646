/- Layer 7 in plain words: samples as bits, bits as samples; there and back. No program's text. -/
import Derived.Test.YtieaiecoiononaaDoorBitM
import Derived.Test.YtieaiecoiononaaDoorLebM
import Derived.Lib.BitFns
import Derived.Lib.TrailingZeros
namespace Go.Proofs.YtieaiecoiononaaDoor.Xo

/-- Lists from behind. -/
theorem snoc_ind {α : Type} {P : List α → Prop} (h0 : P []) (h1 : ∀ l s, P l → P (l ++ [s])) (l : List α) : P l := by
  have : ∀ m : List α, P m.reverse := by
    intro m
    induction m with
    | nil => exact h0
    | cons s m ih => rw [List.reverse_cons]; exact h1 _ _ ih
  simpa using this l.reverse

theorem lt_bitLenAux : ∀ (f x : Nat), x < 2 ^ f → x < 2 ^ Lib.bitLenAux f x
  | 0, x, h => h
  | f + 1, x, h => by
    unfold Lib.bitLenAux
    split
    · rename_i h0; subst h0; simp
    · have := lt_bitLenAux f (x / 2) (by rw [Nat.pow_succ] at h; omega)
      rw [Nat.add_comm, Nat.pow_succ]
      omega
theorem lt_bitLen (x : Nat) (h : x < 18446744073709551616) : x < 2 ^ Lib.bitLen x := lt_bitLenAux 64 x h
theorem bitLen_64 (x : Nat) (h : x < 18446744073709551616) : Lib.bitLen x ≤ 64 := Lib.bitLen_le x 64 (by decide) h
theorem bitLen_pos (x : Nat) (h : x < 18446744073709551616) (h0 : x ≠ 0) : 0 < Lib.bitLen x := by
  have := lt_bitLen x h
  rcases Nat.eq_zero_or_pos (Lib.bitLen x) with e | e
  · rw [e] at this; simp at this; omega
  · exact e
theorem ctz_spec (x : Nat) (h : x < 18446744073709551616) (h0 : x ≠ 0) : ∃ m, x = 2 ^ Lib.ctz 64 x * (2 * m + 1) ∧ Lib.ctz 64 x < 64 := by
  unfold Lib.ctz
  rw [if_neg h0]
  exact Lib.ctzFrom_spec 64 x (by omega) h
theorem ctz_lt (x : Nat) (h : x < 18446744073709551616) (h0 : x ≠ 0) : Lib.ctz 64 x < Lib.bitLen x := by
  obtain ⟨m, hm, _⟩ := ctz_spec x h h0
  have h1 := lt_bitLen x h
  apply Nat.lt_of_not_le
  intro hle
  have h2 : 2 ^ Lib.bitLen x ≤ 2 ^ Lib.ctz 64 x := Nat.pow_le_pow_right (by decide) hle
  have h3 : 2 ^ Lib.ctz 64 x ≤ x := by
    conv => rhs; rw [hm]
    exact Nat.le_mul_of_pos_right _ (by omega)
  omega
theorem ctz_div (x b : Nat) (h : x < 18446744073709551616) (h0 : x ≠ 0) (hb : b ≤ Lib.ctz 64 x) : x / 2 ^ b * 2 ^ b = x := by
  obtain ⟨m, hm, _⟩ := ctz_spec x h h0
  apply Nat.div_mul_cancel
  rw [hm]
  exact Nat.dvd_trans (Nat.pow_dvd_pow 2 hb) (Nat.dvd_mul_right _ _)

/-- A time, the bits of a value. -/
abbrev Sm := Int × Nat

/-- In how many bits a change goes, by the ones ahead of it. -/
def wd : Nat → Nat
  | 0 => 0
  | 1 => 7
  | 2 => 12
  | 3 => 20
  | _ => 64
def onesOf (u : Nat) : Nat := if Lib.bitLen u ≤ 0 then 0 else if Lib.bitLen u ≤ 7 then 1 else if Lib.bitLen u ≤ 12 then 2 else if Lib.bitLen u ≤ 20 then 3 else 4
theorem onesOf_le (u : Nat) : onesOf u ≤ 4 := by unfold onesOf; split; omega; split; omega; split; omega; split <;> omega
theorem ones_lt (u k : Nat) (hk : k < onesOf u) : wd k < Lib.bitLen u := by
  unfold onesOf at hk
  have : k = 0 ∨ k = 1 ∨ k = 2 ∨ k = 3 := by
    split at hk; omega; split at hk; omega; split at hk; omega; split at hk <;> omega
  rcases this with rfl | rfl | rfl | rfl <;> simp only [wd] <;> (split at hk; omega; try (split at hk; omega; try (split at hk; omega; try (split at hk <;> omega))))
theorem ones_fit (u : Nat) (h : u < 18446744073709551616) : Lib.bitLen u ≤ wd (onesOf u) := by
  have := bitLen_64 u h
  unfold onesOf
  split
  · simp only [wd]; omega
  · split
    · simp only [wd]; omega
    · split
      · simp only [wd]; omega
      · split
        · simp only [wd]; omega
        · simp only [wd]; omega
theorem ones_pow (u : Nat) (h : u < 18446744073709551616) : u < 2 ^ wd (onesOf u) :=
  Nat.lt_of_lt_of_le (lt_bitLen u h) (Nat.pow_le_pow_right (by decide) (ones_fit u h))
theorem wd_le (k : Nat) : wd k ≤ 64 := by
  unfold wd; split <;> omega

def chBits (d : Int) : List Bool := Bt.unary (onesOf (Leb.foldN d)) 4 ++ Bt.bitsN (Leb.foldN d) (wd (onesOf (Leb.foldN d)))

/-- From its first one to its last: how many bits are ahead, how many are in it. -/
def own (x : Nat) : Nat × Nat := (64 - Lib.bitLen x, Lib.bitLen x - Lib.ctz 64 x)
def covers (w v : Nat × Nat) : Bool := decide (w.1 ≤ v.1) && decide (64 - w.1 - w.2 ≤ 64 - v.1 - v.2)
def winAfter (w : Nat × Nat) (x : Nat) : Nat × Nat := if x = 0 then w else if covers w (own x) then w else own x
def winBits (w : Nat × Nat) (x : Nat) : List Bool :=
  if x = 0 then [false]
  else if covers w (own x) then [true, false] ++ Bt.bitsN (x / 2 ^ (64 - w.1 - w.2)) w.2
  else [true, true] ++ Bt.bitsN (own x).1 6 ++ Bt.bitsN ((own x).2 - 1) 6 ++ Bt.bitsN (x / 2 ^ (64 - (own x).1 - (own x).2)) (own x).2

/-- What a sample's bits hang on. -/
structure Tr where
  T : Int
  V : Nat
  st : Int
  a : Nat
  z : Nat
def tr0 : Tr := ⟨0, 0, 0, 0, 0⟩
def firstBits (s : Sm) : List Bool := Bt.bitsN s.1.toNat 41 ++ Bt.bitsN s.2 64
def nextBits (t : Tr) (s : Sm) : List Bool := chBits (s.1 - t.T - t.st) ++ winBits (t.a, t.z) (s.2 ^^^ t.V)
def firstTr (s : Sm) : Tr := ⟨s.1, s.2, 0, 0, 0⟩
def nextTr (t : Tr) (s : Sm) : Tr := ⟨s.1, s.2, s.1 - t.T, (winAfter (t.a, t.z) (s.2 ^^^ t.V)).1, (winAfter (t.a, t.z) (s.2 ^^^ t.V)).2⟩
def stepT (p : Nat × List Bool × Tr) (s : Sm) : Nat × List Bool × Tr :=
  if p.1 = 0 then (1, p.2.1 ++ firstBits s, firstTr s) else (p.1 + 1, p.2.1 ++ nextBits p.2.2 s, nextTr p.2.2 s)
def enc (l : List Sm) : Nat × List Bool × Tr := l.foldl stepT (0, [], tr0)
def bitsL (l : List Sm) : List Bool := (enc l).2.1
def trL (l : List Sm) : Tr := (enc l).2.2
theorem enc_snoc (l : List Sm) (s : Sm) : enc (l ++ [s]) = stepT (enc l) s := by simp [enc, List.foldl_append]
theorem enc_len (l : List Sm) : (enc l).1 = l.length := by
  induction l using snoc_ind with
  | h0 => rfl
  | h1 l s ih => 
    rw [enc_snoc, List.length_append, List.length_singleton]
    unfold stepT
    split
    · rename_i h; rw [ih] at h; simp only; omega
    · simp only; omega
theorem bitsL_nil : bitsL [] = [] := rfl
theorem trL_nil : trL [] = tr0 := rfl
theorem bitsL_one (s : Sm) : bitsL [s] = firstBits s := by simp [bitsL, enc, stepT]
theorem trL_one (s : Sm) : trL [s] = firstTr s := by simp [trL, enc, stepT]
theorem bitsL_snoc (l : List Sm) (s : Sm) (h : l ≠ []) : bitsL (l ++ [s]) = bitsL l ++ nextBits (trL l) s := by
  have hl : (enc l).1 ≠ 0 := by rw [enc_len]; intro e; exact h (List.length_eq_zero_iff.1 e)
  unfold bitsL trL
  rw [enc_snoc, stepT, if_neg hl]
theorem trL_snoc (l : List Sm) (s : Sm) (h : l ≠ []) : trL (l ++ [s]) = nextTr (trL l) s := by
  have hl : (enc l).1 ≠ 0 := by rw [enc_len]; intro e; exact h (List.length_eq_zero_iff.1 e)
  unfold trL
  rw [enc_snoc, stepT, if_neg hl]
theorem bitsL_prefix (l : List Sm) : ∀ (m : List Sm), ∃ b, bitsL (l ++ m) = bitsL l ++ b
  | [] => ⟨[], by simp⟩
  | s :: m => by
    obtain ⟨b, hb⟩ := bitsL_prefix (l ++ [s]) m
    rw [List.append_assoc, List.singleton_append] at hb
    rw [hb]
    by_cases h : l = []
    · subst h; exact ⟨bitsL ([] ++ [s]) ++ b, by simp [bitsL_nil]⟩
    · rw [bitsL_snoc l s h, List.append_assoc]; exact ⟨_, rfl⟩
termination_by m => m.length

theorem unary_len (k : Nat) (hk : k ≤ 4) : (Bt.unary k 4).length ≤ 5 := by
  unfold Bt.unary
  rw [List.length_append, List.length_replicate]
  split <;> simp <;> omega
theorem own_bd (x : Nat) (h : x < 18446744073709551616) (h0 : x ≠ 0) : (own x).1 ≤ 63 ∧ 1 ≤ (own x).2 ∧ (own x).1 + (own x).2 ≤ 64 ∧ 64 - (own x).1 - (own x).2 = Lib.ctz 64 x := by
  have h1 := bitLen_64 x h
  have h2 := bitLen_pos x h h0
  have h3 := ctz_lt x h h0
  unfold own
  simp only
  omega
theorem winAfter_bd (w : Nat × Nat) (x : Nat) (h : x < 18446744073709551616) (hw : w.1 + w.2 ≤ 64) : (winAfter w x).1 + (winAfter w x).2 ≤ 64 := by
  unfold winAfter
  split
  · exact hw
  · rename_i h0
    split
    · exact hw
    · exact (own_bd x h h0).2.2.1
theorem winBits_len (w : Nat × Nat) (x : Nat) (h : x < 18446744073709551616) (hw : w.1 + w.2 ≤ 64) : (winBits w x).length ≤ 80 := by
  unfold winBits
  split
  · simp
  · rename_i h0
    split
    · simp [Bt.bitsN_length]; omega
    · have := own_bd x h h0
      simp [Bt.bitsN_length]; omega
theorem nextBits_len (t : Tr) (s : Sm) (h : s.2 ^^^ t.V < 18446744073709551616) (hw : t.a + t.z ≤ 64) : (nextBits t s).length ≤ 150 := by
  unfold nextBits chBits
  have h1 := winBits_len (t.a, t.z) _ h hw
  have h2 := unary_len _ (onesOf_le (Leb.foldN (s.1 - t.T - t.st)))
  have h3 := wd_le (onesOf (Leb.foldN (s.1 - t.T - t.st)))
  simp only [List.length_append, Bt.bitsN_length]
  omega

/-- What stands in the way of a sample more. -/
def err (l : List Sm) (s : Sm) : Nat :=
  if s.1 < 0 ∨ 1099511627776 < s.1 then 1
  else match l.getLast? with
    | some p => if s.1 ≤ p.1 then 10 else if l.length = 120 then 7 else 0
    | none => 0
/-- Samples of a chunk. -/
def Good : List Sm → Prop
  | l => l.length ≤ 120 ∧ (∀ s ∈ l, 0 ≤ s.1 ∧ s.1 ≤ 1099511627776 ∧ s.2 < 18446744073709551616) ∧ l.Pairwise (fun a b => a.1 < b.1)
theorem good_nil : Good [] := ⟨by simp, by simp, List.Pairwise.nil⟩
theorem good_snoc {l : List Sm} {s : Sm} (h : Good l) (hv : s.2 < 18446744073709551616) (he : err l s = 0) : Good (l ++ [s]) := by
  obtain ⟨h1, h2, h3⟩ := h
  unfold err at he
  split at he
  · cases he
  · rename_i hb
    have hs : 0 ≤ s.1 ∧ s.1 ≤ 1099511627776 := by omega
    refine ⟨?_, ?_, ?_⟩
    · split at he
      · split at he
        · cases he
        · split at he
          · cases he
          · simp; omega
      · rename_i hn
        rw [List.getLast?_eq_none_iff] at hn
        subst hn; simp
    · intro x hx
      rcases List.mem_append.1 hx with hx | hx
      · exact h2 x hx
      · rw [List.mem_singleton.1 hx]; exact ⟨hs.1, hs.2, hv⟩
    · rw [List.pairwise_append]
      refine ⟨h3, List.pairwise_singleton _ _, ?_⟩
      intro a ha b hb
      rw [List.mem_singleton.1 hb]
      split at he
      · rename_i p hp
        split at he
        · cases he
        · rename_i hlt
          obtain ⟨m, rfl⟩ := List.getLast?_eq_some_iff.1 hp
          rcases List.mem_append.1 ha with ha | ha
          · have := (List.pairwise_append.1 h3).2.2 a ha p (by simp)
            omega
          · rw [List.mem_singleton.1 ha]; omega
      · rename_i hn
        rw [List.getLast?_eq_none_iff] at hn
        subst hn; cases ha
theorem good_init {l : List Sm} {s : Sm} (h : Good (l ++ [s])) : Good l := by
  obtain ⟨h1, h2, h3⟩ := h
  exact ⟨by simp at h1; omega, fun x hx => h2 x (by simp [hx]), (List.pairwise_append.1 h3).1⟩
theorem good_prefix {l m : List Sm} (h : Good (l ++ m)) : Good l := by
  obtain ⟨h1, h2, h3⟩ := h
  exact ⟨by simp at h1; omega, fun x hx => h2 x (by simp [hx]), (List.pairwise_append.1 h3).1⟩
theorem good_err {l : List Sm} {s : Sm} (h : Good (l ++ [s])) : err l s = 0 := by
  obtain ⟨h1, h2, h3⟩ := h
  have hs := h2 s (by simp)
  unfold err
  rw [if_neg (by omega)]
  split
  · rename_i p hp
    obtain ⟨m, rfl⟩ := List.getLast?_eq_some_iff.1 hp
    have := (List.pairwise_append.1 h3).2.2 p (by simp) s (by simp)
    simp at h1
    rw [if_neg (by omega), if_neg (by simp; omega)]
  · rfl

theorem xor_lt {a b : Nat} (ha : a < 18446744073709551616) (hb : b < 18446744073709551616) : a ^^^ b < 18446744073709551616 := Nat.xor_lt_two_pow (n := 64) ha hb
/-- What a trail is, behind samples. -/
structure TrOk (t : Tr) : Prop where
  T0 : 0 ≤ t.T
  T1 : t.T ≤ 1099511627776
  V : t.V < 18446744073709551616
  s0 : -1099511627776 ≤ t.st
  s1 : t.st ≤ 1099511627776
  w : t.a + t.z ≤ 64
theorem tr0_ok : TrOk tr0 := ⟨by decide, by decide, by decide, by decide, by decide, by decide⟩
theorem trL_ok (l : List Sm) : Good l → TrOk (trL l) := by
  induction l using snoc_ind with
  | h0 => intro _; exact tr0_ok
  | h1 l s ih =>
    intro h
    have hs := h.2.1 s (by simp)
    by_cases hl : l = []
    · subst hl
      rw [List.nil_append, trL_one]
      exact ⟨hs.1, hs.2.1, hs.2.2, by simp [firstTr], by simp [firstTr], by simp [firstTr]⟩
    · have i := ih (good_init h)
      rw [trL_snoc l s hl]
      refine ⟨hs.1, hs.2.1, hs.2.2, ?_, ?_, ?_⟩
      · show -1099511627776 ≤ s.1 - _; have := i.T1; omega
      · show s.1 - _ ≤ 1099511627776; have := i.T0; omega
      · exact winAfter_bd ((trL l).a, (trL l).z) _ (xor_lt hs.2.2 i.V) i.w
theorem trL_last (l : List Sm) (s : Sm) : (trL (l ++ [s])).T = s.1 ∧ (trL (l ++ [s])).V = s.2 := by
  by_cases hl : l = []
  · subst hl; rw [List.nil_append, trL_one]; exact ⟨rfl, rfl⟩
  · rw [trL_snoc l s hl]; exact ⟨rfl, rfl⟩
theorem bitsL_len (l : List Sm) : Good l → (bitsL l).length ≤ 150 * l.length := by
  induction l using snoc_ind with
  | h0 => intro _; simp [bitsL_nil]
  | h1 l s ih =>
    intro h
    have i := ih (good_init h)
    have hs := h.2.1 s (by simp)
    by_cases hl : l = []
    · subst hl
      rw [List.nil_append, bitsL_one]
      simp [firstBits, Bt.bitsN_length]
    · rw [bitsL_snoc l s hl, List.length_append, List.length_append, List.length_singleton]
      have t := trL_ok l (good_init h)
      have := nextBits_len (trL l) s (xor_lt hs.2.2 t.V) t.w
      omega

/-- A chunk's bytes. -/
def text (l : List Sm) : List UInt8 := Leb.encU l.length ++ Leb.encU (bitsL l).length ++ Bt.pack (bitsL l)
theorem text_len (l : List Sm) (h : Good l) : (text l).length ≤ 3000 := by
  have h1 := bitsL_len l h
  have h2 := h.1
  have h3 := Leb.encU_len l.length
  have h4 := Leb.encU_len (bitsL l).length
  unfold text
  simp only [List.length_append, Bt.pack_length]
  omega
end Go.Proofs.YtieaiecoiononaaDoor.Xo
