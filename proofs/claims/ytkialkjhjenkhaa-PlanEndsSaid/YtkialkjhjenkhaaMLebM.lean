/- Layer 1 in plain words: numbers as bytes, bytes as numbers. No program's text. -/
import Derived.WalkKit
import Derived.Lib.Hide
namespace Go.Proofs.Ytkialkjhjenkhaa.Leb

def two64 : Nat := 18446744073709551616

/-- The bytes of v, at most k and one more. -/
def enc : Nat → Nat → List UInt8
  | 0, v => [UInt8.ofNat v]
  | k + 1, v => if v < 128 then [UInt8.ofNat v] else UInt8.ofNat (v % 128 + 128) :: enc k (v / 128)
def encU (v : Nat) : List UInt8 := enc 9 v

theorem enc_stop (k v : Nat) (h : v < 128) : enc k v = [UInt8.ofNat v] := by
  cases k with
  | zero => rfl
  | succ k => rw [enc, if_pos h]
theorem enc_step (k v : Nat) (h : ¬ v < 128) : enc (k + 1) v = UInt8.ofNat (v % 128 + 128) :: enc k (v / 128) := by rw [enc, if_neg h]

theorem enc_len (k : Nat) : ∀ v, 1 ≤ (enc k v).length ∧ (enc k v).length ≤ k + 1 := by
  induction k with
  | zero => intro v; simp [enc]
  | succ k ih =>
    intro v
    by_cases h : v < 128
    · rw [enc_stop _ _ h]; simp
    · rw [enc_step _ _ h]
      have := ih (v / 128)
      simp only [List.length_cons]
      omega
theorem encU_len (v : Nat) : 1 ≤ (encU v).length ∧ (encU v).length ≤ 10 := enc_len 9 v

/-- The number, what is left, the error: from place i on, of which the bytes ahead said acc. -/
def dec : Nat → Nat → List UInt8 → Nat × List UInt8 × Nat
  | _, _, [] => (0, [], 2)
  | i, acc, c :: r =>
    if i = 9 ∧ 1 < c.toNat then (0, [], 3)
    else if 0 < i ∧ c.toNat = 0 then (0, [], 3)
    else if c.toNat < 128 then (acc + c.toNat % 128 * 128 ^ i, r, 0)
    else dec (i + 1) (acc + c.toNat % 128 * 128 ^ i) r
def takeU (l : List UInt8) : Nat × List UInt8 × Nat := dec 0 0 l

/-- A signed number as one that isn't. -/
def foldN (v : Int) : Nat := if v < 0 then (-2 * v - 1).toNat else (2 * v).toNat
def unfoldN (u : Nat) : Int := if u % 2 = 1 then -((u / 2 : Nat) : Int) - 1 else ((u / 2 : Nat) : Int)
theorem fold_lt (v : Int) (h0 : -9223372036854775808 ≤ v) (h1 : v ≤ 9223372036854775807) : foldN v < two64 := by
  unfold foldN two64; split <;> omega
theorem unfold_fold (v : Int) : unfoldN (foldN v) = v := by
  unfold foldN unfoldN
  split <;> split <;> omega
theorem fold_unfold (u : Nat) : foldN (unfoldN u) = u := by
  unfold foldN unfoldN
  split <;> split <;> omega
theorem unfold_bd (u : Nat) (h : u < two64) : -9223372036854775808 ≤ unfoldN u ∧ unfoldN u ≤ 9223372036854775807 := by
  unfold two64 at h
  unfold unfoldN
  split <;> omega

theorem toNat_ofNat (n : Nat) (h : n < 256) : (UInt8.ofNat n).toNat = n := by
  simp [Nat.mod_eq_of_lt h]

/-- What was written is read again, from any place on. -/
theorem dec_enc (t : List UInt8) : ∀ (k i acc v : Nat), i + k = 9 → v < 2 * 128 ^ k → (0 < i → 0 < v) → dec i acc (enc k v ++ t) = (acc + v * 128 ^ i, t, 0) := by
  intro k
  induction k with
  | zero =>
    intro i acc v hi hv h0
    have h1 : v < 2 := by simpa using hv
    have ht := toNat_ofNat v (by omega)
    rw [enc, List.cons_append, List.nil_append, dec, if_neg (by rw [ht]; omega), if_neg (by rw [ht]; omega), if_pos (by rw [ht]; omega), ht, Nat.mod_eq_of_lt (by omega)]
  | succ k ih =>
    intro i acc v hi hv h0
    by_cases h : v < 128
    · have ht := toNat_ofNat v (by omega)
      rw [enc_stop _ _ h, List.cons_append, List.nil_append, dec, if_neg (by rw [ht]; omega), if_neg (by rw [ht]; omega), if_pos (by rw [ht]; omega), ht, Nat.mod_eq_of_lt (by omega)]
    · have ht := toNat_ofNat (v % 128 + 128) (by omega)
      rw [enc_step _ _ h, List.cons_append, dec, if_neg (by rw [ht]; omega), if_neg (by rw [ht]; omega), if_neg (by rw [ht]; omega), ht]
      have hlt : v / 128 < 2 * 128 ^ k := by
        rw [Nat.pow_succ] at hv
        exact Nat.div_lt_of_lt_mul (by rw [Nat.mul_comm 128, Nat.mul_assoc]; exact hv)
      rw [ih (i + 1) _ (v / 128) (by omega) hlt (by omega)]
      have e1 : (v % 128 + 128) % 128 = v % 128 := by omega
      rw [e1, Nat.pow_succ]
      congr 1
      have e2 : v = 128 * (v / 128) + v % 128 := (Nat.div_add_mod v 128).symm
      generalize v / 128 = q at *
      generalize v % 128 = r at *
      subst e2
      generalize 128 ^ i = p
      rw [Nat.add_mul, Nat.add_assoc, Nat.add_comm (r * p), Nat.mul_comm p 128, ← Nat.mul_assoc, Nat.mul_comm q 128]

theorem takeU_enc (v : Nat) (h : v < two64) (t : List UInt8) : takeU (encU v ++ t) = (v, t, 0) := by
  have := dec_enc t 9 0 0 v rfl (by unfold two64 at h; omega) (by omega)
  simpa [takeU, encU] using this

theorem enc_inj (u v : Nat) (hu : u < two64) (hv : v < two64) (h : encU u = encU v) : u = v := by
  have h1 := takeU_enc u hu []
  have h2 := takeU_enc v hv []
  rw [h, h2] at h1
  exact (congrArg Prod.fst h1).symm

/-- Lesser numbers have no more bytes. -/
theorem enc_mono (k : Nat) : ∀ u v, u ≤ v → (enc k u).length ≤ (enc k v).length := by
  induction k with
  | zero => intro u v _; simp [enc]
  | succ k ih =>
    intro u v h
    by_cases hu : u < 128
    · rw [enc_stop _ _ hu]
      have := (enc_len (k + 1) v).1
      simpa using this
    · rw [enc_step _ _ hu, enc_step _ _ (by omega)]
      have := ih (u / 128) (v / 128) (Nat.div_le_div_right h)
      simp only [List.length_cons]
      omega

/-- Of bytes that are a number: the bytes are its. -/
theorem dec_one (l : List UInt8) : ∀ (k i acc v : Nat) (r : List UInt8), i + k = 9 → dec i acc l = (v, r, 0) → ∃ u, v = acc + u * 128 ^ i ∧ enc k u ++ r = l ∧ u < 2 * 128 ^ k ∧ (0 < i → 0 < u) := by
  induction l with
  | nil => intro k i acc v r _ h; simp [dec] at h
  | cons c l ih =>
    intro k i acc v r hi h
    have hc := c.toNat_lt
    rw [dec] at h
    split at h
    · simp at h
    · split at h
      · simp at h
      · split at h
        · rename_i g1 g2 g3
          simp only [Prod.mk.injEq] at h
          obtain ⟨rfl, rfl, _⟩ := h
          refine ⟨c.toNat, by rw [Nat.mod_eq_of_lt g3], ?_, ?_, by omega⟩
          · rw [enc_stop _ _ g3, UInt8.ofNat_toNat]; rfl
          · cases k with
            | zero => have : i = 9 := by omega
                      simp; omega
            | succ k => rw [Nat.pow_succ]; have := Nat.pow_pos (n := k) (show 0 < 128 by decide); omega
        · rename_i g1 g2 g3
          have hik : i ≠ 9 := by intro e; apply g1; exact ⟨e, by omega⟩
          obtain ⟨k, rfl⟩ : ∃ k', k = k' + 1 := ⟨k - 1, by omega⟩
          obtain ⟨u, e1, e2, e3, e4⟩ := ih k (i + 1) _ v r (by omega) h
          have hu := e4 (by omega)
          refine ⟨128 * u + c.toNat % 128, ?_, ?_, ?_, by omega⟩
          · rw [e1, Nat.pow_succ, Nat.add_mul]
            generalize 128 ^ i = p
            rw [Nat.mul_comm p 128, ← Nat.mul_assoc, Nat.mul_comm u 128]
            omega
          · rw [enc_step _ _ (by omega)]
            have a1 : (128 * u + c.toNat % 128) % 128 + 128 = c.toNat := by omega
            have a2 : (128 * u + c.toNat % 128) / 128 = u := by omega
            rw [a1, a2, UInt8.ofNat_toNat, List.cons_append, e2]
          · rw [Nat.pow_succ]; omega

theorem takeU_one (l r : List UInt8) (v : Nat) (h : takeU l = (v, r, 0)) : encU v ++ r = l ∧ v < two64 := by
  obtain ⟨u, e1, e2, e3, _⟩ := dec_one l 9 0 0 v r rfl h
  have : v = u := by simpa using e1
  subst this
  exact ⟨e2, by unfold two64; omega⟩

/-- Its parts. -/
theorem dec_err (l : List UInt8) : ∀ (i acc : Nat), (dec i acc l).2.2 ≠ 0 → (dec i acc l).1 = 0 ∧ (dec i acc l).2.1 = [] := by
  induction l with
  | nil => intro i acc _; simp [dec]
  | cons c l ih =>
    intro i acc
    rw [dec]
    split
    · simp
    · split
      · simp
      · split
        · simp
        · exact ih _ _
theorem dec_errs (l : List UInt8) : ∀ (i acc : Nat), (dec i acc l).2.2 = 0 ∨ (dec i acc l).2.2 = 2 ∨ (dec i acc l).2.2 = 3 := by
  induction l with
  | nil => intro i acc; simp [dec]
  | cons c l ih =>
    intro i acc
    rw [dec]
    split
    · simp
    · split
      · simp
      · split
        · simp
        · exact ih _ _
theorem takeU_lt (l : List UInt8) : (takeU l).1 < two64 := by
  by_cases h : (takeU l).2.2 = 0
  · exact (takeU_one l (takeU l).2.1 (takeU l).1 (by rw [← h])).2
  · have := (dec_err l 0 0 h).1; unfold takeU; rw [this]; decide
theorem dec_left (l : List UInt8) : ∀ (i acc : Nat), (dec i acc l).2.1.length ≤ l.length := by
  induction l with
  | nil => intro i acc; simp [dec]
  | cons c l ih =>
    intro i acc
    rw [dec]
    split
    · simp
    · split
      · simp
      · split
        · simp
        · have := ih (i + 1) (acc + c.toNat % 128 * 128 ^ i); simp only [List.length_cons]; omega

/-- Bytes of a number that are cut off end too soon. -/
theorem dec_cut : ∀ (k i acc v cut : Nat), i + k = 9 → (0 < i → 0 < v) → cut < (enc k v).length → dec i acc ((enc k v).take cut) = (0, [], 2) := by
  intro k
  induction k with
  | zero =>
    intro i acc v cut _ _ h
    have : cut = 0 := by simp [enc] at h; omega
    subst this; rfl
  | succ k ih =>
    intro i acc v cut hi h0 h
    by_cases hv : v < 128
    · rw [enc_stop _ _ hv] at h ⊢
      have : cut = 0 := by simp at h; omega
      subst this; rfl
    · rw [enc_step _ _ hv] at h ⊢
      cases cut with
      | zero => rfl
      | succ cut =>
        have ht := toNat_ofNat (v % 128 + 128) (by omega)
        rw [List.take_succ_cons, dec, if_neg (by rw [ht]; omega), if_neg (by rw [ht]; omega), if_neg (by rw [ht]; omega)]
        exact ih _ _ _ _ (by omega) (by omega) (by simpa using h)
theorem takeU_cut (v cut : Nat) (h : cut < (encU v).length) : takeU ((encU v).take cut) = (0, [], 2) := dec_cut 9 0 0 v cut rfl (by omega) h

/-- The number, of at most so much. -/
def takeM (l : List UInt8) (most : Int) : Nat × List UInt8 × Nat :=
  if (takeU l).2.2 ≠ 0 then (0, [], (takeU l).2.2)
  else if (takeU l).1 > (max most 0).toNat then (0, [], 16)
  else takeU l
/-- The text, what is left, the error. -/
def takeT (l : List UInt8) (most : Int) : List UInt8 × List UInt8 × Nat :=
  if (takeM l most).2.2 ≠ 0 then ([], [], (takeM l most).2.2)
  else if (takeM l most).1 > (takeM l most).2.1.length then ([], [], 2)
  else ((takeM l most).2.1.take (takeM l most).1, (takeM l most).2.1.drop (takeM l most).1, 0)
/-- A text's bytes. -/
def encT (s : List UInt8) : List UInt8 := encU s.length ++ s

theorem takeT_enc (s t : List UInt8) (most : Int) (h : (s.length : Int) ≤ most) (hl : s.length < two64) : takeT (encT s ++ t) most = (s, t, 0) := by
  have h1 : takeU (encT s ++ t) = (s.length, s ++ t, 0) := by rw [encT, List.append_assoc]; exact takeU_enc _ hl _
  have h2 : takeM (encT s ++ t) most = (s.length, s ++ t, 0) := by
    unfold takeM
    rw [h1, if_neg (by simp), if_neg (by simp; omega)]
  unfold takeT
  rw [h2, if_neg (by simp), if_neg (by simp)]
  simp

theorem takeT_cut (s : List UInt8) (most : Int) (cut : Nat) (h : (s.length : Int) ≤ most) (hl : s.length < two64) (hc : cut < (encT s).length) : (takeT ((encT s).take cut) most).2.2 = 2 := by
  by_cases hcut : cut < (encU s.length).length
  · have h1 : takeU ((encT s).take cut) = (0, [], 2) := by
      rw [encT, List.take_append_of_le_length (by omega)]; exact takeU_cut _ _ hcut
    have h2 : takeM ((encT s).take cut) most = (0, [], 2) := by
      unfold takeM; rw [h1, if_pos (by simp)]
    unfold takeT
    rw [h2, if_pos (by simp)]
  · have h1 : takeU ((encT s).take cut) = (s.length, s.take (cut - (encU s.length).length), 0) := by
      rw [encT, List.take_append, List.take_of_length_le (by omega)]; exact takeU_enc _ hl _
    have h2 : takeM ((encT s).take cut) most = (s.length, s.take (cut - (encU s.length).length), 0) := by
      unfold takeM
      rw [h1, if_neg (by simp), if_neg (by simp; omega)]
    unfold takeT
    rw [h2, if_neg (by simp), if_pos]
    simp only [List.length_take]
    simp only [encT, List.length_append] at hc
    omega
end Go.Proofs.Ytkialkjhjenkhaa.Leb
