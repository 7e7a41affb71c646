/- Layer 14: a heap in plain words: what up and down leave. Layer 14: numbers compared; the first that isn't nought; walked. Layer 14, rows: rows only read; which of two comes first; walked. -/
import Derived.Test.YtfckgcckpfklaaaGreatDoorMSl2
import Derived.Test.YtfckgcckpfklaaaGreatDoorMA7
namespace Go.Proofs.YtfckgcckpfklaaaGreatDoor.Hp

variable {α : Type}
/-- Two places exchanged. -/
def swp (f : Nat → α) (i j : Nat) : Nat → α := fun k => if k = i then f j else if k = j then f i else f k
theorem swp_l (f : Nat → α) (i j : Nat) : swp f i j i = f j := by simp [swp]
theorem swp_r (f : Nat → α) (i j : Nat) : swp f i j j = f i := by
  unfold swp
  by_cases h : j = i
  · subst h; simp
  · simp [h]
theorem swp_o (f : Nat → α) (i j k : Nat) (h1 : k ≠ i) (h2 : k ≠ j) : swp f i j k = f k := by simp [swp, h1, h2]
/-- Is x among the first n? -/
def Has (f : Nat → α) (n : Nat) (x : α) : Prop := ∃ k, k < n ∧ f k = x
def Inj (f : Nat → α) (n : Nat) : Prop := ∀ i j, i < n → j < n → f i = f j → i = j
theorem swp_has (f : Nat → α) (n i j : Nat) (hi : i < n) (hj : j < n) (x : α) : Has (swp f i j) n x ↔ Has f n x := by
  constructor
  · rintro ⟨k, hk, rfl⟩
    by_cases h1 : k = i
    · subst h1; exact ⟨j, hj, (swp_l f k j).symm⟩
    · by_cases h2 : k = j
      · subst h2; exact ⟨i, hi, (swp_r f i k).symm⟩
      · exact ⟨k, hk, (swp_o f i j k h1 h2).symm⟩
  · rintro ⟨k, hk, rfl⟩
    by_cases h1 : k = i
    · subst h1; exact ⟨j, hj, swp_r f k j⟩
    · by_cases h2 : k = j
      · subst h2; exact ⟨i, hi, swp_l f i k⟩
      · exact ⟨k, hk, swp_o f i j k h1 h2⟩
theorem swp_inj (f : Nat → α) (n i j : Nat) (hi : i < n) (hj : j < n) (h : Inj f n) : Inj (swp f i j) n := by
  intro a b ha hb e
  by_cases a1 : a = i <;> by_cases b1 : b = i
  · omega
  · subst a1
    rw [swp_l] at e
    by_cases b2 : b = j
    · subst b2; rw [swp_r] at e; exact (h _ _ hj hi e).symm
    · rw [swp_o f a j b b1 b2] at e
      exact absurd (h _ _ hj hb e) (fun h => b2 h.symm)
  · subst b1
    rw [swp_l] at e
    by_cases a2 : a = j
    · subst a2; rw [swp_r] at e; exact (h _ _ hi hj e).symm
    · rw [swp_o f b j a a1 a2] at e
      exact absurd (h _ _ ha hj e) a2
  · by_cases a2 : a = j <;> by_cases b2 : b = j
    · omega
    · subst a2
      rw [swp_r, swp_o f i a b b1 b2] at e
      exact absurd (h _ _ hi hb e) (fun h => b1 h.symm)
    · subst b2
      rw [swp_r, swp_o f i b a a1 a2] at e
      exact absurd (h _ _ ha hi e) a1
    · rw [swp_o f i j a a1 a2, swp_o f i j b b1 b2] at e
      exact h _ _ ha hb e

/-- A strict weak order. -/
structure Swo (lt : α → α → Bool) : Prop where
  asym : ∀ a b, lt a b = true → lt b a = false
  trans : ∀ a b c, lt b a = false → lt c b = false → lt c a = false

/-- No one comes ahead of the one above it. -/
def Ok (lt : α → α → Bool) (f : Nat → α) (k : Nat) : Prop := lt (f k) (f ((k - 1) / 2)) = false
def Heap (lt : α → α → Bool) (f : Nat → α) (n : Nat) : Prop := ∀ k, 0 < k → k < n → Ok lt f k

/-- As the library's 'up'. -/
def up (lt : α → α → Bool) (f : Nat → α) (j : Nat) : Nat → α :=
  if h : j = 0 then f
  else if lt (f j) (f ((j - 1) / 2)) = true then up lt (swp f ((j - 1) / 2) j) ((j - 1) / 2) else f
termination_by j
decreasing_by omega

theorem up_has (lt : α → α → Bool) (n : Nat) : ∀ (j : Nat) (f : Nat → α), j < n → ∀ x, Has (up lt f j) n x ↔ Has f n x := by
  intro j
  induction j using Nat.strongRecOn with
  | ind j ih =>
    intro f hj x
    unfold up
    split
    · exact Iff.rfl
    · split
      · rw [ih ((j - 1) / 2) (by omega) _ (by omega) x]
        exact swp_has f n _ _ (by omega) hj x
      · exact Iff.rfl
theorem up_inj (lt : α → α → Bool) (n : Nat) : ∀ (j : Nat) (f : Nat → α), j < n → Inj f n → Inj (up lt f j) n := by
  intro j
  induction j using Nat.strongRecOn with
  | ind j ih =>
    intro f hj h
    unfold up
    split
    · exact h
    · split
      · exact ih ((j - 1) / 2) (by omega) _ (by omega) (swp_inj f n _ _ (by omega) hj h)
      · exact h

/-- But for place j all is in order, and what hangs below j comes behind what is above j: then up makes a heap. -/
theorem up_heap (lt : α → α → Bool) (hs : Swo lt) (n : Nat) : ∀ (j : Nat) (f : Nat → α), j < n → (∀ k, 0 < k → k < n → k ≠ j → Ok lt f k) →
    (∀ k, 0 < k → k < n → (k - 1) / 2 = j → 0 < j → lt (f k) (f ((j - 1) / 2)) = false) → Heap lt (up lt f j) n := by
  intro j
  induction j using Nat.strongRecOn with
  | ind j ih =>
    intro f hj h1 h2
    unfold up
    split
    · rename_i h0
      intro k hk hkn
      exact h1 k hk hkn (by omega)
    · rename_i h0
      obtain ⟨p, hp⟩ : ∃ p, p = (j - 1) / 2 := ⟨_, rfl⟩
      rw [← hp]
      have hpj : p < j := by omega
      split
      · rename_i hlt
        refine ih p hpj (swp f p j) (by omega) (fun k hk hkn hkp => ?_) (fun k hk hkn hkp hp0 => ?_)
        · unfold Ok
          by_cases hkj : k = j
          · subst hkj
            rw [swp_r, ← hp, swp_l]
            exact hs.asym _ _ hlt
          · rw [swp_o f p j k hkp hkj]
            by_cases hq : (k - 1) / 2 = p
            · rw [hq, swp_l]
              have := h1 k hk hkn hkj
              unfold Ok at this
              rw [hq] at this
              exact hs.trans _ _ _ (hs.asym _ _ hlt) this
            · by_cases hq2 : (k - 1) / 2 = j
              · rw [hq2, swp_r]
                have := h2 k hk hkn hq2 (by omega)
                rw [← hp] at this
                exact this
              · rw [swp_o f p j _ hq hq2]
                exact h1 k hk hkn hkj
        · have hpp : (p - 1) / 2 ≠ p := by omega
          have hppj : (p - 1) / 2 ≠ j := by omega
          rw [swp_o f p j _ hpp hppj]
          have hpok := h1 p hp0 (by omega) (by omega)
          unfold Ok at hpok
          by_cases hkj : k = j
          · subst hkj
            rw [swp_r]
            exact hpok
          · rw [swp_o f p j k (by omega) hkj]
            have := h1 k hk hkn hkj
            unfold Ok at this
            rw [hkp] at this
            exact hs.trans _ _ _ hpok this
      · rename_i hlt
        intro k hk hkn
        by_cases hkj : k = j
        · subst hkj
          unfold Ok
          rw [← hp]
          simpa using hlt
        · exact h1 k hk hkn hkj

/-- The lesser of the two below i, of the first n. -/
def less2 (lt : α → α → Bool) (f : Nat → α) (i n : Nat) : Nat := if 2 * i + 2 < n ∧ lt (f (2 * i + 2)) (f (2 * i + 1)) = true then 2 * i + 2 else 2 * i + 1
theorem less2_or (lt : α → α → Bool) (f : Nat → α) (i n : Nat) : less2 lt f i n = 2 * i + 1 ∨ less2 lt f i n = 2 * i + 2 := by
  unfold less2; split
  · exact .inr rfl
  · exact .inl rfl
theorem less2_lt (lt : α → α → Bool) (f : Nat → α) (i n : Nat) (h : 2 * i + 1 < n) : less2 lt f i n < n := by
  unfold less2; split
  · rename_i h; exact h.1
  · exact h
/-- As the library's 'down'. -/
def down (lt : α → α → Bool) (f : Nat → α) (i n : Nat) : Nat → α :=
  if _h : 2 * i + 1 < n then
    if lt (f (less2 lt f i n)) (f i) = true then down lt (swp f i (less2 lt f i n)) (less2 lt f i n) n else f
  else f
termination_by n - i
decreasing_by
  have := less2_lt lt f i n _h
  have := less2_or lt f i n
  omega

theorem down_has (lt : α → α → Bool) (n : Nat) : ∀ (m i : Nat) (f : Nat → α), n - i = m → i < n → ∀ x, Has (down lt f i n) n x ↔ Has f n x := by
  intro m
  induction m using Nat.strongRecOn with
  | ind m ih =>
    intro i f hm hi x
    unfold down
    split
    · rename_i h
      have h1 := less2_lt lt f i n h
      have h2 := less2_or lt f i n
      split
      · rw [ih (n - less2 lt f i n) (by omega) _ _ rfl h1 x]
        exact swp_has f n _ _ hi h1 x
      · exact Iff.rfl
    · exact Iff.rfl
theorem down_inj (lt : α → α → Bool) (n : Nat) : ∀ (m i : Nat) (f : Nat → α), n - i = m → i < n → Inj f n → Inj (down lt f i n) n := by
  intro m
  induction m using Nat.strongRecOn with
  | ind m ih =>
    intro i f hm hi hj
    unfold down
    split
    · rename_i h
      have h1 := less2_lt lt f i n h
      have h2 := less2_or lt f i n
      split
      · exact ih (n - less2 lt f i n) (by omega) _ _ rfl h1 (swp_inj f n _ _ hi h1 hj)
      · exact hj
    · exact hj
/-- Places from n on are as they were. -/
theorem down_out (lt : α → α → Bool) (n : Nat) : ∀ (m i : Nat) (f : Nat → α), n - i = m → i < n → ∀ k, n ≤ k → down lt f i n k = f k := by
  intro m
  induction m using Nat.strongRecOn with
  | ind m ih =>
    intro i f hm hi k hk
    unfold down
    split
    · rename_i h
      have h1 := less2_lt lt f i n h
      have h2 := less2_or lt f i n
      split
      · rw [ih (n - less2 lt f i n) (by omega) _ _ rfl h1 k hk]
        exact swp_o f _ _ k (by omega) (by omega)
      · rfl
    · rfl
/-- But for what hangs below i all is in order, and what hangs below i comes behind what is above i: then down makes a heap. -/
theorem down_heap (lt : α → α → Bool) (hs : Swo lt) (n : Nat) : ∀ (m i : Nat) (f : Nat → α), n - i = m → i < n → (∀ k, 0 < k → k < n → (k - 1) / 2 ≠ i → Ok lt f k) →
    (∀ k, 0 < k → k < n → (k - 1) / 2 = i → 0 < i → lt (f k) (f ((i - 1) / 2)) = false) → Heap lt (down lt f i n) n := by
  intro m
  induction m using Nat.strongRecOn with
  | ind m ih =>
    intro i f hm hi h1 h2
    unfold down
    split
    · rename_i h
      obtain ⟨c, hc⟩ : ∃ c, c = less2 lt f i n := ⟨_, rfl⟩
      have c1 := less2_lt lt f i n h
      have c2 := less2_or lt f i n
      -- the lesser one comes ahead of both
      have c3 : ∀ k, 0 < k → k < n → (k - 1) / 2 = i → lt (f k) (f c) = false := by
        intro k hk hkn hki
        have hself : ∀ a : α, lt a a = false := fun a => by
          cases h : lt a a
          · rfl
          · exact absurd (hs.asym _ _ h) (by simp [h])
        have hk2 : k = 2 * i + 1 ∨ k = 2 * i + 2 := by omega
        rw [hc]
        unfold less2
        split
        · rename_i hh
          rcases hk2 with rfl | rfl
          · exact hs.asym _ _ hh.2
          · exact hself _
        · rename_i hh
          rcases hk2 with rfl | rfl
          · exact hself _
          · cases hq : lt (f (2 * i + 2)) (f (2 * i + 1))
            · rfl
            · exact absurd ⟨hkn, hq⟩ hh
      rw [← hc] at c1 c2 ⊢
      have hci : (c - 1) / 2 = i := by omega
      split
      · rename_i hlt
        refine ih (n - c) (by omega) c (swp f i c) rfl c1 (fun k hk hkn hkc => ?_) (fun k hk hkn hkc hc0 => ?_)
        · unfold Ok
          by_cases hki : k = i
          · subst hki
            rw [swp_l]
            have hpi : (k - 1) / 2 ≠ k := by omega
            have hpc : (k - 1) / 2 ≠ c := by omega
            rw [swp_o f k c _ hpi hpc]
            exact h2 c (by omega) c1 hci hk
          · by_cases hkc2 : k = c
            · subst hkc2
              rw [swp_r, hci, swp_l]
              exact hs.asym _ _ hlt
            · rw [swp_o f i c k hki hkc2]
              by_cases hp : (k - 1) / 2 = i
              · rw [hp, swp_l]
                exact c3 k hk hkn hp
              · rw [swp_o f i c _ hp hkc]
                exact h1 k hk hkn hp
        · rw [hci, swp_l]
          have hki : k ≠ i := by omega
          have hkc2 : k ≠ c := by omega
          rw [swp_o f i c k hki hkc2]
          have := h1 k hk hkn (by omega)
          unfold Ok at this
          rw [hkc] at this
          exact this
      · rename_i hlt
        have hlt : lt (f c) (f i) = false := by simpa using hlt
        intro k hk hkn
        by_cases hp : (k - 1) / 2 = i
        · unfold Ok
          rw [hp]
          exact hs.trans _ _ _ hlt (c3 k hk hkn hp)
        · exact h1 k hk hkn hp
    · rename_i h
      intro k hk hkn
      exact h1 k hk hkn (by omega)
/-- None comes ahead of the one on top. -/
theorem heap_top (lt : α → α → Bool) (hs : Swo lt) (f : Nat → α) (n : Nat) (h : Heap lt f n) : ∀ k, k < n → lt (f k) (f 0) = false := by
  intro k
  induction k using Nat.strongRecOn with
  | ind k ih =>
    intro hk
    by_cases h0 : k = 0
    · subst h0
      cases hq : lt (f 0) (f 0)
      · rfl
      · exact absurd (hs.asym _ _ hq) (by simp [hq])
    · exact hs.trans _ _ _ (ih ((k - 1) / 2) (by omega) (by omega)) (h k (by omega) hk)
end Go.Proofs.YtfckgcckpfklaaaGreatDoor.Hp

namespace Go.Proofs.YtfckgcckpfklaaaGreatDoor
open Go.RowKit Go.Lib
set_option linter.unusedVariables false

def cmpI (a b : Int) : Int := if a < b then -1 else if b < a then 1 else 0

theorem isnan_i (a : Int) (w : World) : Calls Tryz.prog 161 #[.int .i64 a] w fun e w' => e = .returned (.bool false) ∧ w = w' := by
  go_enter Tryz.func161, Tryz.ntmps161
  go_wp2
  go_ret
  exact ⟨by simp, rfl⟩
set_option maxRecDepth 100000 in
theorem compare_i (a b : Int) (w : World) : Calls Tryz.prog 160 #[.int .i64 a, .int .i64 b] w fun e w' => e = .returned (.int .i64 (cmpI a b)) ∧ w = w' := by
  have C0 := Lib.hid (fun W => isnan_i a W)
  have C1 := Lib.hid (fun W => isnan_i b W)
  by_cases h : a < b
  · have h1 : decide (a < b) = true := decide_eq_true h
    have HR := Lib.hid (show cmpI a b = -1 by simp [cmpI, h])
    clear h
    go_enter Tryz.func160, Tryz.ntmps160
    go_wp2_with fail
    refine (C0.out _).mono ?_
    rintro e w1 ⟨rfl, rfl⟩
    go_wp2_with fail
    refine (C1.out _).mono ?_
    rintro e w1 ⟨rfl, rfl⟩
    go_wp2
    go_ret
    exact ⟨by rw [HR.out]; rfl, rfl⟩
  · by_cases h2 : b < a
    · have h1 : decide (a < b) = false := decide_eq_false h
      have h3 : decide (b < a) = true := decide_eq_true h2
      have HR := Lib.hid (show cmpI a b = 1 by simp [cmpI, h, h2])
      clear h h2
      go_enter Tryz.func160, Tryz.ntmps160
      go_wp2_with fail
      refine (C0.out _).mono ?_
      rintro e w1 ⟨rfl, rfl⟩
      go_wp2_with fail
      refine (C1.out _).mono ?_
      rintro e w1 ⟨rfl, rfl⟩
      go_wp2
      go_ret
      exact ⟨by rw [HR.out]; rfl, rfl⟩
    · have h1 : decide (a < b) = false := decide_eq_false h
      have h3 : decide (b < a) = false := decide_eq_false h2
      have HR := Lib.hid (show cmpI a b = 0 by simp [cmpI, h, h2])
      clear h h2
      go_enter Tryz.func160, Tryz.ntmps160
      go_wp2_with fail
      refine (C0.out _).mono ?_
      rintro e w1 ⟨rfl, rfl⟩
      go_wp2_with fail
      refine (C1.out _).mono ?_
      rintro e w1 ⟨rfl, rfl⟩
      go_wp2
      go_ret
      exact ⟨by rw [HR.out]; rfl, rfl⟩

theorem isnan_j (a : Int) (w : World) : Calls Tryz.prog 91 #[.int .i64 a] w fun e w' => e = .returned (.bool false) ∧ w = w' := by
  go_enter Tryz.func91, Tryz.ntmps91
  go_wp2
  go_ret
  exact ⟨by simp, rfl⟩
set_option maxRecDepth 100000 in
theorem compare_j (a b : Int) (w : World) : Calls Tryz.prog 68 #[.int .i64 a, .int .i64 b] w fun e w' => e = .returned (.int .i64 (cmpI a b)) ∧ w = w' := by
  have C0 := Lib.hid (fun W => isnan_j a W)
  have C1 := Lib.hid (fun W => isnan_j b W)
  by_cases h : a < b
  · have h1 : decide (a < b) = true := decide_eq_true h
    have HR := Lib.hid (show cmpI a b = -1 by simp [cmpI, h])
    clear h
    go_enter Tryz.func68, Tryz.ntmps68
    go_wp2_with fail
    refine (C0.out _).mono ?_
    rintro e w1 ⟨rfl, rfl⟩
    go_wp2_with fail
    refine (C1.out _).mono ?_
    rintro e w1 ⟨rfl, rfl⟩
    go_wp2
    go_ret
    exact ⟨by rw [HR.out]; rfl, rfl⟩
  · by_cases h2 : b < a
    · have h1 : decide (a < b) = false := decide_eq_false h
      have h3 : decide (b < a) = true := decide_eq_true h2
      have HR := Lib.hid (show cmpI a b = 1 by simp [cmpI, h, h2])
      clear h h2
      go_enter Tryz.func68, Tryz.ntmps68
      go_wp2_with fail
      refine (C0.out _).mono ?_
      rintro e w1 ⟨rfl, rfl⟩
      go_wp2_with fail
      refine (C1.out _).mono ?_
      rintro e w1 ⟨rfl, rfl⟩
      go_wp2
      go_ret
      exact ⟨by rw [HR.out]; rfl, rfl⟩
    · have h1 : decide (a < b) = false := decide_eq_false h
      have h3 : decide (b < a) = false := decide_eq_false h2
      have HR := Lib.hid (show cmpI a b = 0 by simp [cmpI, h, h2])
      clear h h2
      go_enter Tryz.func68, Tryz.ntmps68
      go_wp2_with fail
      refine (C0.out _).mono ?_
      rintro e w1 ⟨rfl, rfl⟩
      go_wp2_with fail
      refine (C1.out _).mono ?_
      rintro e w1 ⟨rfl, rfl⟩
      go_wp2
      go_ret
      exact ⟨by rw [HR.out]; rfl, rfl⟩

/-- Of two the first that isn't nought. -/
def orI (x y : Int) : Int := if x = 0 then y else x
set_option maxHeartbeats 1000000 in
set_option maxRecDepth 100000 in
theorem or2_any (x y : Int) (g off : Nat) (w : World) (h0 : w.cell? ⟨g, off, none⟩ = some (.int .i64 x)) (h1 : w.cell? ⟨g, off + 1, none⟩ = some (.int .i64 y)) :
    Calls Tryz.prog 159 #[.slice (some ⟨g, off, none⟩) 2 2] w fun e w' => e = .returned (.int .i64 (orI x y)) ∧ w = w' := by
  by_cases hx : x = 0
  · by_cases hy : y = 0
    · have HR := Lib.hid (show orI x y = 0 by simp [orI, hx, hy])
      subst hx hy
      go_enter Tryz.func159, Tryz.ntmps159
      go_wp2_with fail
      go_loopw [5, 8] (fun _ i' wr => (i' = .int .i64 0 ∨ i' = .int .i64 1 ∨ i' = .int .i64 2) ∧ w = wr) (fun _ i' _ => 2 - (intOf i').toNat)
      case atStart => exact ⟨.inl rfl, rfl⟩
      case round =>
        obtain ⟨hi, rfl⟩ := hrel
        rcases hi with rfl | rfl | rfl
        · go_wp2
          exact ⟨⟨by simp, by trivial⟩, by simp [intOf]⟩
        · go_wp2
          exact ⟨⟨by simp, by trivial⟩, by simp [intOf]⟩
        · go_wp2
          go_ret
          exact ⟨by rw [HR.out]; rfl, rfl⟩
    · have HR := Lib.hid (show orI x y = y by simp [orI, hx])
      have hyb : (y == 0) = false := beq_eq_false_iff_ne.2 hy
      have hyb2 : (y != 0) = true := by simp [bne, hyb]
      subst hx
      clear hy
      go_enter Tryz.func159, Tryz.ntmps159
      go_wp2_with fail
      go_loopw [5, 8] (fun _ i' wr => (i' = .int .i64 0 ∨ i' = .int .i64 1) ∧ w = wr) (fun _ i' _ => 2 - (intOf i').toNat)
      case atStart => exact ⟨.inl rfl, rfl⟩
      case round =>
        obtain ⟨hi, rfl⟩ := hrel
        rcases hi with rfl | rfl
        · go_wp2
          exact ⟨⟨by simp, by trivial⟩, by simp [intOf]⟩
        · go_wp2
          go_ret
          exact ⟨by rw [HR.out]; rfl, rfl⟩
  · have HR := Lib.hid (show orI x y = x by simp [orI, hx])
    have hxb : (x == 0) = false := beq_eq_false_iff_ne.2 hx
    have hxb2 : (x != 0) = true := by simp [bne, hxb]
    clear hx
    go_enter Tryz.func159, Tryz.ntmps159
    go_wp2_with fail
    go_loopw [5, 8] (fun _ i' wr => i' = .int .i64 0 ∧ w = wr) (fun _ i' _ => 2 - (intOf i').toNat)
    case atStart => exact ⟨rfl, rfl⟩
    case round =>
      obtain ⟨rfl, rfl⟩ := hrel
      go_wp2
      go_ret
      exact ⟨by rw [HR.out]; rfl, rfl⟩

theorem bytime_any (x y : Sp) (w : World) : Calls Tryz.prog 77 #[.agg #[.int .i64 x.t, .int .u64 x.v], .agg #[.int .i64 y.t, .int .u64 y.v]] w fun e w' => e = .returned (.int .i64 (cmpI x.t y.t)) ∧ Below w.heap.size w w' := by
  obtain ⟨xt, xv⟩ := x
  obtain ⟨yt, yv⟩ := y
  have C := Lib.hid (fun W => compare_j xt yt W)
  go_enter Tryz.func77, Tryz.ntmps77
  go_wp2_with fail
  refine (C.out _).mono ?_
  rintro e w1 ⟨rfl, rfl⟩
  go_wp2
  go_ret
  exact ⟨rfl, ((Below.refl _ _).alloc (Nat.le_refl _) _).alloc (by simp) _⟩
end Go.Proofs.YtfckgcckpfklaaaGreatDoor

namespace Go.Proofs.YtfckgcckpfklaaaGreatDoor
open Go.RowKit Go.Lib
set_option linter.unusedVariables false

instance : Inhabited Rq := ⟨⟨.int .i64 0, .int .i64 0, ⟨[], []⟩⟩⟩
/-- Rows in a slice, only read. -/
def RdQ (w : World) (v : Value) (l : List Rq) : Prop := Rd w 2 v l.length (rqc l) ∧ ∀ q ∈ l, RowOk w 100000 q
theorem RdQ.slice {w : World} {v : Value} {l : List Rq} (h : RdQ w v l) : ∃ a cap, v = .slice a l.length cap := h.1.slice
theorem RdQ.on {w w' : World} {v : Value} {l : List Rq} (h : RdQ w v l) (b : Below w.heap.size w w') : RdQ w' v l := ⟨h.1.on b, fun q hq => (h.2 q hq).on b⟩
theorem zc_mrow : (Tryz.prog.info? 43).map (fun i => (i.zero, i.size, i.bytes)) = some (some (.agg #[.slice none 0 0, .slice none 0 0]), 2, 48) := by kernel_rfl
theorem RowOk.mono {w : World} {K K' : Nat} {q : Rq} (h : RowOk w K q) (hk : K ≤ K') : RowOk w K' q := ⟨h.l, h.s, h.hl, Nat.le_trans h.hs hk⟩

set_option maxHeartbeats 1000000 in
set_option maxRecDepth 100000 in
theorem bylabels_any (x y : Rq) (w : World) (hx : RowOk w 100000 x) (hy : RowOk w 100000 y) : Calls Tryz.prog 28 #[.agg #[x.a, x.b], .agg #[y.a, y.b]] w fun e w' => e = .returned (.int .i64 (cmpS x.r.ls y.r.ls)) ∧ Below w.heap.size w w' := by
  obtain ⟨xl, xs, hxl, _⟩ := hx
  obtain ⟨yl, ys, hyl, _⟩ := hy
  obtain ⟨xa, xb, xr⟩ := x
  obtain ⟨ya, yb, yr⟩ := y
  simp only at xl xs hxl yl ys hyl ⊢
  have C := Lib.hid (fun W (bb : Below w.heap.size w W) => cmp_lb xa ya xr.ls yr.ls W (xl.on bb) (yl.on bb) (by omega) (by omega))
  have bA : Below w.heap.size w ((w.alloc (.cells #[xa, xb] 43)).alloc (.cells #[ya, yb] 43)) := ((Below.refl _ _).alloc (Nat.le_refl _) _).alloc (by simp) _
  obtain ⟨c, hc⟩ : ∃ c, c = cmpS xr.ls yr.ls := ⟨_, rfl⟩
  rw [← hc] at C ⊢
  have BA := Lib.hid bA
  obtain ⟨a1, c1, e1⟩ := xl.slice
  obtain ⟨a2, c2, e2⟩ := xs.slice
  obtain ⟨a3, c3, e3⟩ := yl.slice
  obtain ⟨a4, c4, e4⟩ := ys.slice
  subst e1 e2 e3 e4
  clear xl xs hxl yl ys hyl hc bA
  go_enter Tryz.func28, Tryz.ntmps28
  go_wp2_with fail
  refine (C.out _ BA.out).mono ?_
  rintro e w1 ⟨rfl, b1⟩
  go_wp2
  go_ret
  exact ⟨rfl, BA.out.trans (b1.mono BA.out.size)⟩
end Go.Proofs.YtfckgcckpfklaaaGreatDoor
