/- Names' digits: plain maths. -/
namespace Go.Proofs.Ytkialkjhjenkhaa
namespace Idn
/-- The digits' bytes. -/
def alpha : List UInt8 := [48,49,50,51,52,53,54,55,56,57,97,98,99,100,101,102,103,104,106,107,109,110,112,113,114,115,116,118,119,120,121,122]
theorem alpha_len : alpha.length = 32 := by decide
def sg (d : Nat) : UInt8 := alpha.getD d 0
/-- A number's digits, k of them. -/
def dg : Nat → Nat → List UInt8
  | 0, _ => []
  | k + 1, v => dg k (v / 32) ++ [sg (v % 32)]
theorem dg_len : ∀ k v, (dg k v).length = k
  | 0, _ => rfl
  | k + 1, v => by simp [dg, dg_len k]
/-- The digit's number. -/
def ixF (c : UInt8) : List UInt8 → Nat → Option Nat
  | [], _ => none
  | x :: l, i => if x = c then some i else ixF c l (i + 1)
def ix (c : UInt8) : Option Nat := ixF c alpha 0
theorem ix_sg (d : Nat) (h : d < 32) : ix (sg d) = some d := by
  have : ∀ d : Fin 32, ix (sg d.val) = some d.val := by decide
  exact this ⟨d, h⟩
theorem ixF_some (c : UInt8) : ∀ (l : List UInt8) (i d : Nat), ixF c l i = some d → i ≤ d ∧ d < i + l.length ∧ l.getD (d - i) 0 = c
  | [], _, _, h => by cases h
  | x :: l, i, d, h => by
    unfold ixF at h
    split at h
    · obtain rfl := Option.some.inj h
      simp; assumption
    · obtain ⟨h1, h2, h3⟩ := ixF_some c l (i + 1) d h
      refine ⟨by omega, by simp; omega, ?_⟩
      rw [← h3, show d - i = (d - (i + 1)) + 1 by omega]
      rfl
theorem ix_some {c : UInt8} {d : Nat} (h : ix c = some d) : d < 32 ∧ sg d = c := by
  obtain ⟨_, h2, h3⟩ := ixF_some c alpha 0 d h
  exact ⟨by rw [alpha_len] at h2; omega, h3⟩
/-- The number of digits; none: one is none. -/
def num : List UInt8 → Nat → Option Nat
  | [], v => some v
  | c :: l, v => match ix c with
    | none => none
    | some d => num l (v * 32 + d)
theorem num_append (a b : List UInt8) : ∀ v, num (a ++ b) v = (num a v).bind (num b)
  := by
  induction a with
  | nil => intro v; rfl
  | cons c a ih => intro v; simp only [List.cons_append, num]; cases ix c <;> simp [ih]
theorem num_dg : ∀ k v, v < 32 ^ k → num (dg k v) 0 = some v
  | 0, v, h => by simp at h; subst h; rfl
  | k + 1, v, h => by
    have h1 : v / 32 < 32 ^ k := by rw [Nat.div_lt_iff_lt_mul (by decide)]; rw [Nat.pow_succ] at h; omega
    rw [dg, num_append, num_dg k _ h1]
    show num [sg (v % 32)] (v / 32) = _
    unfold num
    rw [ix_sg _ (Nat.mod_lt _ (by decide))]
    show num [] _ = _
    unfold num
    congr 1; omega
theorem dg_num_snoc (k v d : Nat) (h : d < 32) : dg (k + 1) (v * 32 + d) = dg k v ++ [sg d] := by
  rw [dg, show (v * 32 + d) / 32 = v by omega, show (v * 32 + d) % 32 = d by omega]
theorem num_lt : ∀ (l : List UInt8) (k a v : Nat), a < 32 ^ k → num l a = some v → v < 32 ^ (k + l.length) ∧ dg (k + l.length) v = dg k a ++ l
  | [], k, a, v, ha, h => by obtain rfl := Option.some.inj h; exact ⟨ha, by simp⟩
  | c :: l, k, a, v, ha, h => by
    unfold num at h
    cases hc : ix c with
    | none => rw [hc] at h; cases h
    | some d =>
      rw [hc] at h
      obtain ⟨h1, h2⟩ := ix_some hc
      have h3 : a * 32 + d < 32 ^ (k + 1) := by rw [Nat.pow_succ]; omega
      obtain ⟨h4, h5⟩ := num_lt l (k + 1) _ v h3 h
      rw [dg_num_snoc k a d h1, h2] at h5
      have e : k + (c :: l).length = k + 1 + l.length := by simp; omega
      rw [e]
      exact ⟨h4, by rw [h5]; simp⟩
theorem num_some {l : List UInt8} {v : Nat} (h : num l 0 = some v) : v < 32 ^ l.length ∧ dg l.length v = l := by
  have := num_lt l 0 0 v (by decide) h
  simpa [dg] using this
theorem dg_inj {k a b : Nat} (ha : a < 32 ^ k) (hb : b < 32 ^ k) (h : dg k a = dg k b) : a = b := by
  have h1 := num_dg k a ha
  rw [h, num_dg k b hb] at h1
  exact (Option.some.inj h1).symm
theorem sg_lt {a b : Nat} (hb : b < 32) (h : a < b) : sg a < sg b := by
  have : ∀ b : Fin 32, ∀ a : Fin 32, a.val < b.val → sg a.val < sg b.val := by decide
  exact this ⟨b, hb⟩ ⟨a, by omega⟩ h
theorem lt_append_left {a b : List UInt8} (x y : List UInt8) (hl : a.length = b.length) (h : a < b) : a ++ x < b ++ y := by
  induction a generalizing b with
  | nil => cases b with
    | nil => exact absurd h (List.lt_irrefl _)
    | cons _ _ => cases hl
  | cons c a ih => cases b with
    | nil => cases hl
    | cons d b =>
      rw [List.cons_append, List.cons_append, List.cons_lt_cons_iff]
      rw [List.cons_lt_cons_iff] at h
      rcases h with h | ⟨h, k⟩
      · exact .inl h
      · exact .inr ⟨h, ih (by simpa using hl) k⟩
theorem lt_append_right (p : List UInt8) {x y : List UInt8} (h : x < y) : p ++ x < p ++ y := by
  induction p with
  | nil => exact h
  | cons c p ih => rw [List.cons_append, List.cons_append, List.cons_lt_cons_iff]; exact .inr ⟨rfl, ih⟩
theorem dg_lt : ∀ k a b, a < b → b < 32 ^ k → dg k a < dg k b
  | 0, a, b, h, hb => by simp at hb; omega
  | k + 1, a, b, h, hb => by
    have h1 : b / 32 < 32 ^ k := by rw [Nat.div_lt_iff_lt_mul (by decide)]; rw [Nat.pow_succ] at hb; omega
    rw [dg, dg]
    by_cases he : a / 32 = b / 32
    · rw [he]
      refine lt_append_right _ ?_
      rw [List.cons_lt_cons_iff]
      exact .inl (sg_lt (Nat.mod_lt _ (by decide)) (by omega))
    · exact lt_append_left _ _ (by rw [dg_len, dg_len]) (dg_lt k _ _ (by omega) h1)
/-- A name. -/
def nam (t s : Nat) : List UInt8 := dg 8 t ++ dg 8 s
theorem nam_len (t s : Nat) : (nam t s).length = 16 := by simp [nam, dg_len]
theorem nam_lt (a b c d : Nat) (ha : a < 1099511627776) (hb : b < 1099511627776) (hc : c < 1099511627776) (hd : d < 1099511627776) : nam a b < nam c d ↔ a < c ∨ a = c ∧ b < d := by
  have e : (1099511627776 : Nat) = 32 ^ 8 := by decide
  rw [e] at ha hb hc hd
  have hlt : ∀ a b c d, a < 32 ^ 8 → b < 32 ^ 8 → c < 32 ^ 8 → d < 32 ^ 8 → (a < c ∨ a = c ∧ b < d) → nam a b < nam c d := by
    intro a b c d ha hb hc hd h
    rcases h with h | ⟨rfl, h⟩
    · exact lt_append_left _ _ (by rw [dg_len, dg_len]) (dg_lt 8 a c h hc)
    · exact lt_append_right _ (dg_lt 8 b d h hd)
  constructor
  · intro h
    by_cases hk : a < c ∨ a = c ∧ b < d
    · exact hk
    · exfalso
      by_cases h2 : c < a ∨ c = a ∧ d < b
      · exact List.lt_irrefl _ (List.lt_trans h (hlt c d a b hc hd ha hb h2))
      · have h3 : a = c ∧ b = d := by omega
        obtain ⟨rfl, rfl⟩ := h3
        exact List.lt_irrefl _ h
  · exact hlt a b c d ha hb hc hd
theorem nam_eq (a b c d : Nat) (ha : a < 1099511627776) (hb : b < 1099511627776) (hc : c < 1099511627776) (hd : d < 1099511627776) : nam a b = nam c d ↔ a = c ∧ b = d := by
  have e : (1099511627776 : Nat) = 32 ^ 8 := by decide
  rw [e] at ha hb hc hd
  constructor
  · intro h
    obtain ⟨h1, h2⟩ := List.append_inj h (by rw [dg_len, dg_len])
    exact ⟨dg_inj ha hc h1, dg_inj hb hd h2⟩
  · rintro ⟨rfl, rfl⟩; rfl
end Idn
end Go.Proofs.Ytkialkjhjenkhaa
