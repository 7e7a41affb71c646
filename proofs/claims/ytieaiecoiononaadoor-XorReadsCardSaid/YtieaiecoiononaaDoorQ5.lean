/- The document's reader of samples in plain words; samples' own bits are read as those samples. -/
import Derived.Test.YtieaiecoiononaaDoorQ3
namespace Go.Proofs.YtieaiecoiononaaDoor.Xo
open Go.RowKit Go.Lib

/-- The ones from place p on, at most f. -/
def kF (l : List Bool) : Nat → Nat → Nat
  | 0, _ => 0
  | f + 1, p => if l[p]? = some true then kF l f (p + 1) + 1 else 0
def dAt (l : List Bool) (p : Nat) : Nat := p + kF l 4 p + (if kF l 4 p < 4 then 1 else 0)
def dCh (l : List Bool) (p : Nat) : Nat × Nat := tkB l (dAt l p) (wd (kF l 4 p))
/-- The window (where it begins, how wide it is), the place behind. -/
def dHd (l : List Bool) (fr wi p : Nat) : Nat × Nat × Nat :=
  if (tkB l p 1).1 = 1 then ((tkB l (tkB l p 1).2 6).1, (tkB l (tkB l (tkB l p 1).2 6).2 6).1 + 1, (tkB l (tkB l (tkB l p 1).2 6).2 6).2) else (fr, wi, (tkB l p 1).2)
def dX (l : List Bool) (fr wi p : Nat) : Option (Nat × Nat × Nat × Nat) :=
  if (tkB l p 1).1 = 1 then
    if (dHd l fr wi (tkB l p 1).2).2.1 = 0 ∨ (dHd l fr wi (tkB l p 1).2).1 + (dHd l fr wi (tkB l p 1).2).2.1 > 64 then none
    else some ((tkB l (dHd l fr wi (tkB l p 1).2).2.2 (dHd l fr wi (tkB l p 1).2).2.1).1 * 2 ^ (64 - (dHd l fr wi (tkB l p 1).2).1 - (dHd l fr wi (tkB l p 1).2).2.1), (dHd l fr wi (tkB l p 1).2).1, (dHd l fr wi (tkB l p 1).2).2.1, (tkB l (dHd l fr wi (tkB l p 1).2).2.2 (dHd l fr wi (tkB l p 1).2).2.1).2)
  else some (0, fr, wi, (tkB l p 1).2)
/-- The next sample's trail, the place behind; none: its window can't be. -/
def dNext (l : List Bool) (t : Tr) (p : Nat) : Option (Tr × Nat) :=
  match dX l t.a t.z (dCh l p).2 with
  | none => none
  | some x => some (⟨wrapI (t.T + wrapI (t.st + Leb.unfoldN (dCh l p).1)), t.V ^^^ x.1, wrapI (t.st + Leb.unfoldN (dCh l p).1), x.2.1, x.2.2.1⟩, x.2.2.2)
def dFirst (l : List Bool) (p : Nat) : Tr × Nat := (⟨(tkB l p 41).1, (tkB l (tkB l p 41).2 64).1, 0, 0, 0⟩, (tkB l (tkB l p 41).2 64).2)

theorem tkB_lt (l : List Bool) (p n : Nat) : (tkB l p n).1 < 2 ^ n := by
  unfold tkB
  split
  · exact Nat.two_pow_pos n
  · exact Nat.lt_of_lt_of_le (Bt.number_lt _) (Nat.pow_le_pow_right (by decide) (by rw [List.length_take]; omega))
theorem tkB_at_le (l : List Bool) (p n : Nat) : (tkB l p n).2 ≤ l.length + 1 := by
  unfold tkB
  split
  · exact Nat.le_refl _
  · simp only; omega
theorem kF_le (l : List Bool) : ∀ f p, kF l f p ≤ f
  | 0, _ => Nat.le_refl _
  | f + 1, p => by
    unfold kF
    split
    · have := kF_le l f (p + 1); omega
    · omega
theorem kF_in (l : List Bool) : ∀ f p, p ≤ l.length → p + kF l f p ≤ l.length
  | 0, p, h => by simpa [kF] using h
  | f + 1, p, h => by
    unfold kF
    split
    · rename_i hc
      have h1 := (List.getElem?_eq_some_iff.1 hc).1
      have := kF_in l f (p + 1) (by omega)
      omega
    · omega
theorem dAt_in (l : List Bool) (p : Nat) (h : p ≤ l.length) : dAt l p ≤ l.length + 1 := by
  have := kF_in l 4 p h
  unfold dAt
  split <;> omega

/-- The loop over the ones: on, or behind them. -/
theorem kF_dec (l : List Bool) (p q pq N : Nat) (hN : N = l.length) (hq : q ≤ 4) (hpq : pq ≤ N) (e1 : pq = p + q) (e2 : kF l 4 p = q + kF l (4 - q) pq) :
    (q < 4 ∧ pq < N ∧ l[pq]? = some true ∧ kF l 4 p = (q + 1) + kF l (4 - (q + 1)) (pq + 1)) ∨ (∃ P1, kF l 4 p = q ∧ dAt l p = P1 ∧ P1 ≤ N + 1 ∧ ((q = 4 ∧ P1 = pq) ∨ (q < 4 ∧ pq < N ∧ l[pq]? = some false ∧ (pq : Int) + 1 = P1) ∨ (q < 4 ∧ ¬ pq < N ∧ (pq : Int) + 1 = P1))) := by
  unfold dAt
  generalize kF l 4 p = K at *
  by_cases h4 : q < 4
  · obtain ⟨f, hf⟩ : ∃ f, 4 - q = f + 1 := ⟨4 - q - 1, by omega⟩
    rw [hf, kF] at e2
    by_cases hpN : pq < N
    · obtain ⟨c, hc⟩ : ∃ c, l[pq]? = some c := ⟨l[pq]'(by omega), List.getElem?_eq_getElem (by omega)⟩
      cases c
      · right
        rw [hc, if_neg (by simp)] at e2
        exact ⟨pq + 1, by omega, by rw [if_pos (by omega)]; omega, by omega, .inr (.inl ⟨h4, hpN, hc, by omega⟩)⟩
      · left
        rw [hc, if_pos rfl] at e2
        exact ⟨h4, hpN, hc, by rw [show 4 - (q + 1) = f by omega]; omega⟩
    · right
      rw [List.getElem?_eq_none (by omega), if_neg (by simp)] at e2
      exact ⟨pq + 1, by omega, by rw [if_pos (by omega)]; omega, by omega, .inr (.inr ⟨h4, hpN, by omega⟩)⟩
  · have : q = 4 := by omega
    subst this
    right
    rw [show 4 - 4 = 0 from rfl, kF] at e2
    exact ⟨pq, by omega, by rw [if_neg (by omega)]; omega, by omega, .inl ⟨rfl, rfl⟩⟩

/-- From place p on stand these bits. -/
def AtL (l : List Bool) (p : Nat) (b : List Bool) : Prop := ∃ pre post, l = pre ++ (b ++ post) ∧ pre.length = p
theorem atL_append {l : List Bool} {p : Nat} {a b : List Bool} (h : AtL l p (a ++ b)) : AtL l p a ∧ AtL l (p + a.length) b := by
  obtain ⟨pre, post, rfl, rfl⟩ := h
  exact ⟨⟨pre, b ++ post, by simp, rfl⟩, ⟨pre ++ a, post, by simp, by simp⟩⟩
theorem tkB_at {l : List Bool} {p k v : Nat} (h : AtL l p (Bt.bitsN v k)) (hv : v < 2 ^ k) : tkB l p k = (v, p + k) := by
  obtain ⟨pre, post, rfl, rfl⟩ := h
  unfold tkB
  rw [if_neg (by simp [Bt.bitsN_length]), List.drop_left' rfl, List.take_left' (Bt.bitsN_length _ _), Bt.number_bitsN, Nat.mod_eq_of_lt hv]
theorem tkB_bit {l : List Bool} {p : Nat} {b : Bool} (h : AtL l p [b]) : tkB l p 1 = (Bt.b2n b, p + 1) := by
  refine tkB_at (v := Bt.b2n b) ?_ (by cases b <;> decide)
  have : Bt.bitsN (Bt.b2n b) 1 = [b] := by cases b <;> decide
  rw [this]; exact h
theorem atL_get {l : List Bool} {p : Nat} {b : Bool} {r : List Bool} (h : AtL l p (b :: r)) : l[p]? = some b := by
  obtain ⟨pre, post, rfl, rfl⟩ := h
  rw [List.getElem?_append_right (by omega), Nat.sub_self]; rfl
theorem kF_rep {l : List Bool} : ∀ (k f p : Nat) (r : List Bool), AtL l p (List.replicate k true ++ r) → k ≤ f → kF l f p = k + kF l (f - k) (p + k)
  | 0, f, p, r, _, _ => by simp
  | k + 1, f, p, r, h, hk => by
    obtain ⟨f, rfl⟩ : ∃ f', f = f' + 1 := ⟨f - 1, by omega⟩
    rw [List.replicate_succ, List.cons_append] at h
    have h' := atL_append (a := [true]) h
    rw [kF, if_pos (atL_get h), kF_rep k f (p + 1) r (by simpa using h'.2) (by omega)]
    rw [show p + 1 + k = p + (k + 1) by omega, show f + 1 - (k + 1) = f - k by omega]
    omega
theorem kF_at {l : List Bool} {p k : Nat} {r : List Bool} (h : AtL l p (Bt.unary k 4 ++ r)) (hk : k ≤ 4) : kF l 4 p = k ∧ dAt l p = p + (Bt.unary k 4).length := by
  have e : Bt.unary (k : Int) 4 = List.replicate k true ++ (if k < 4 then [false] else []) := by
    unfold Bt.unary
    rw [show (max (min (k : Int) 4) 0) = (k : Int) by omega, Int.toNat_natCast]
    congr 1
    by_cases h : k < 4
    · rw [if_pos h, if_pos (by omega)]
    · rw [if_neg h, if_neg (by omega)]
  rw [e] at h ⊢
  rw [List.append_assoc] at h
  have hr := kF_rep k 4 p _ h hk
  have h2 := (atL_append h).2
  rw [List.length_replicate] at h2
  have hz : kF l (4 - k) (p + k) = 0 := by
    by_cases hk4 : k < 4
    · rw [if_pos hk4] at h2
      obtain ⟨q, hq⟩ : ∃ q, 4 - k = q + 1 := ⟨4 - k - 1, by omega⟩
      have := atL_get h2
      rw [hq, kF, this, if_neg (by simp)]
    · rw [show 4 - k = 0 by omega]; rfl
  rw [hz, Nat.add_zero] at hr
  refine ⟨hr, ?_⟩
  unfold dAt
  rw [hr, List.length_append, List.length_replicate]
  by_cases hk4 : k < 4
  · rw [if_pos hk4, if_pos hk4]; simp; omega
  · rw [if_neg hk4, if_neg hk4]; simp

theorem dCh_at {l : List Bool} {p : Nat} {d : Int} {r : List Bool} (h0 : -9223372036854775808 ≤ d) (h1 : d ≤ 9223372036854775807) (h : AtL l p (chBits d ++ r)) : dCh l p = (Leb.foldN d, p + (chBits d).length) := by
  unfold chBits at h ⊢
  rw [List.append_assoc] at h
  obtain ⟨hk, ha⟩ := kF_at h (onesOf_le _)
  have h2 := (atL_append (atL_append h).2).1
  rw [← ha] at h2
  unfold dCh
  rw [hk, tkB_at h2 (ones_pow _ (Leb.fold_lt d h0 h1)), ha, List.length_append, Bt.bitsN_length, Nat.add_assoc]

theorem win_lt (x a z : Nat) (hx : x < 18446744073709551616) (h : a ≤ 64 - Lib.bitLen x) (haz : a + z ≤ 64) : x / 2 ^ (64 - a - z) < 2 ^ z := by
  apply Nat.div_lt_of_lt_mul
  rw [← Nat.pow_add]
  refine Nat.lt_of_lt_of_le (lt_bitLen x hx) (Nat.pow_le_pow_right (by decide) ?_)
  have := bitLen_64 x hx
  omega
theorem dX_at {l : List Bool} {p x fr wi : Nat} (hx : x < 18446744073709551616) (hw : fr + wi ≤ 64) (h : AtL l p (winBits (fr, wi) x)) :
    dX l fr wi p = some (x, (winAfter (fr, wi) x).1, (winAfter (fr, wi) x).2, p + (winBits (fr, wi) x).length) := by
  unfold winBits at h ⊢
  unfold winAfter dX
  by_cases h0 : x = 0
  · rw [if_pos h0] at h ⊢
    rw [tkB_bit h, if_neg (by simp [Bt.b2n])]
    subst h0
    simp
  · rw [if_neg h0] at h ⊢
    rw [if_neg h0]
    have hd := own_bd x hx h0
    have e1 : (own x).1 = 64 - Lib.bitLen x := rfl
    by_cases hc : covers (fr, wi) (own x) = true
    · rw [if_pos hc] at h ⊢
      rw [if_pos hc]
      have h1 := atL_append (a := [true]) (b := [false] ++ Bt.bitsN (x / 2 ^ (64 - fr - wi)) wi) h
      have h2 := atL_append h1.2
      have hb1 := tkB_bit h1.1
      have hb2 := tkB_bit h2.1
      simp only [List.length_singleton] at hb2
      unfold covers at hc
      simp only [Bool.and_eq_true, decide_eq_true_eq] at hc
      have hlt := win_lt x fr wi hx (by omega) hw
      have hb3 := tkB_at h2.2 hlt
      simp only [List.length_singleton] at hb3
      have hh : dHd l fr wi (p + 1) = (fr, wi, p + 1 + 1) := by unfold dHd; rw [hb2]; rfl
      rw [hb1]
      simp only [Bt.b2n, if_true]
      rw [hh]
      simp only
      rw [if_neg (by omega), hb3]
      simp only
      rw [ctz_div x _ hx h0 (by omega)]
      simp [Bt.bitsN_length]
      omega
    · rw [if_neg hc] at h ⊢
      rw [if_neg hc]
      rw [List.append_assoc, List.append_assoc] at h
      have h1 := atL_append (a := [true]) (b := [true] ++ (Bt.bitsN (own x).1 6 ++ (Bt.bitsN ((own x).2 - 1) 6 ++ Bt.bitsN (x / 2 ^ (64 - (own x).1 - (own x).2)) (own x).2))) h
      have h2 := atL_append h1.2
      have h3 := atL_append h2.2
      have h4 := atL_append h3.2
      have hb1 := tkB_bit h1.1
      have hb2 := tkB_bit h2.1
      have hb3 := tkB_at h3.1 (by omega)
      have hb4 := tkB_at h4.1 (by omega)
      have hlt := win_lt x (own x).1 (own x).2 hx (by omega) (by omega)
      have hb5 := tkB_at h4.2 hlt
      simp only [List.length_singleton, Bt.bitsN_length] at hb1 hb2 hb3 hb4 hb5
      have hh : dHd l fr wi (p + 1) = ((own x).1, (own x).2, p + 1 + 1 + 6 + 6) := by
        unfold dHd
        rw [hb2]
        simp only [Bt.b2n, if_true]
        rw [hb3]
        simp only
        rw [hb4]
        simp only
        rw [show (own x).2 - 1 + 1 = (own x).2 by omega]
      rw [hb1]
      simp only [Bt.b2n, if_true]
      rw [hh]
      simp only
      rw [if_neg (by omega), hb5]
      simp only
      rw [ctz_div x _ hx h0 (by omega)]
      simp [Bt.bitsN_length]
      omega
theorem dNext_at {l : List Bool} {p : Nat} {t : Tr} {x : Sm} (ht : TrOk t) (h0 : 0 ≤ x.1) (h1 : x.1 ≤ 1099511627776) (hv : x.2 < 18446744073709551616) (h : AtL l p (nextBits t x)) : dNext l t p = some (nextTr t x, p + (nextBits t x).length) := by
  obtain ⟨a1, a2, a3, a4, a5, a6⟩ := ht
  unfold nextBits at h ⊢
  have hs := atL_append h
  have hb1 := dCh_at (by omega) (by omega) h
  have hxv := xor_lt hv a3
  have hb2 := dX_at hxv a6 hs.2
  unfold dNext
  rw [hb1]
  simp only
  rw [hb2]
  simp only
  rw [Leb.unfold_fold]
  have e1 : wrapI (t.st + (x.1 - t.T - t.st)) = x.1 - t.T := by unfold wrapI; omega
  rw [e1]
  have e2 : wrapI (t.T + (x.1 - t.T)) = x.1 := by unfold wrapI; omega
  rw [e2]
  have e3 : t.V ^^^ (x.2 ^^^ t.V) = x.2 := by rw [Nat.xor_comm x.2, ← Nat.xor_assoc, Nat.xor_self, Nat.zero_xor]
  rw [e3]
  simp [nextTr, Nat.add_assoc]
theorem dFirst_at {l : List Bool} {p : Nat} {x : Sm} (h0 : 0 ≤ x.1) (h1 : x.1 ≤ 1099511627776) (hv : x.2 < 18446744073709551616) (h : AtL l p (firstBits x)) : dFirst l p = (firstTr x, p + (firstBits x).length) := by
  unfold firstBits at h ⊢
  have hs := atL_append h
  have hb1 := tkB_at hs.1 (show x.1.toNat < 2 ^ 41 by omega)
  have h2 := hs.2
  rw [Bt.bitsN_length] at h2
  have hb2 := tkB_at h2 (show x.2 < 2 ^ 64 by simpa using hv)
  unfold dFirst
  rw [hb1]
  simp only
  rw [hb2]
  simp only [List.length_append, Bt.bitsN_length]
  rw [show ((x.1.toNat : Nat) : Int) = x.1 by omega]
  simp [firstTr, Nat.add_assoc]

/-- What is read so far, if the bits are those of samples. -/
def Sofar (l : List Bool) (o : List Sm) (t : Tr) (p : Nat) : Prop := ∀ q, Good q → l = bitsL q → o.length ≤ q.length → o = q.take o.length ∧ t = trL o ∧ p = (bitsL o).length
theorem sofar_nil (l : List Bool) : Sofar l [] tr0 0 := fun _ _ _ _ => ⟨rfl, rfl, rfl⟩
theorem sofar_step {q : List Sm} {i : Nat} {x : Sm} (hx : q[i]? = some x) (hi : i ≠ 0) : AtL (bitsL q) (bitsL (q.take i)).length (nextBits (trL (q.take i)) x) := by
  have hlt := (List.getElem?_eq_some_iff.1 hx).1
  have htk : q.take (i + 1) = q.take i ++ [x] := by rw [List.take_add_one, hx]; rfl
  have hne : q.take i ≠ [] := by intro e; have := congrArg List.length e; rw [List.length_take, List.length_nil] at this; omega
  obtain ⟨b, hb⟩ := bitsL_prefix (q.take (i + 1)) (q.drop (i + 1))
  rw [List.take_append_drop, htk, bitsL_snoc _ _ hne] at hb
  exact ⟨bitsL (q.take i), b, by rw [hb, List.append_assoc], rfl⟩
theorem sofar_first {l : List Bool} : Sofar l [((dFirst l 0).1.T, (dFirst l 0).1.V)] (dFirst l 0).1 (dFirst l 0).2 := by
  intro q hg hl hlen
  obtain ⟨x, r, rfl⟩ : ∃ x r, q = x :: r := by
    cases q with
    | nil => simp at hlen
    | cons x r => exact ⟨x, r, rfl⟩
  have hx := hg.2.1 x (by simp)
  obtain ⟨b, hb⟩ := bitsL_prefix [x] r
  rw [bitsL_one] at hb
  have h1 : AtL l 0 (firstBits x) := ⟨[], b, by rw [hl, ← List.singleton_append, hb]; rfl, rfl⟩
  have h2 := dFirst_at hx.1 hx.2.1 hx.2.2 h1
  rw [h2]
  refine ⟨by simp [firstTr], ?_, ?_⟩
  · show firstTr x = trL [x]
    rw [trL_one]
  · show _ = (bitsL [x]).length
    rw [bitsL_one, Nat.zero_add]
theorem sofar_next {l : List Bool} {o : List Sm} {t t' : Tr} {p p' : Nat} (h : Sofar l o t p) (h0 : o ≠ []) (hn : dNext l t p = some (t', p')) : Sofar l (o ++ [(t'.T, t'.V)]) t' p' := by
  intro q hg hl hlen
  rw [List.length_append, List.length_singleton] at hlen ⊢
  obtain ⟨ho, ht, hp⟩ := h q hg hl (by omega)
  obtain ⟨x, hx⟩ : ∃ x, q[o.length]? = some x := ⟨q[o.length]'(by omega), List.getElem?_eq_getElem (by omega)⟩
  have hmem := hg.2.1 x (List.mem_of_getElem? hx)
  have hne : o.length ≠ 0 := by intro e; exact h0 (List.length_eq_zero_iff.1 e)
  have hat := sofar_step hx hne
  rw [← ho, ← hp, ← ht, ← hl] at hat
  have hok : TrOk t := by rw [ht]; exact trL_ok o (by rw [ho]; exact good_prefix (m := q.drop o.length) (by rw [List.take_append_drop]; exact hg))
  have := dNext_at hok hmem.1 hmem.2.1 hmem.2.2 hat
  rw [this] at hn
  simp only [Option.some.injEq, Prod.mk.injEq] at hn
  obtain ⟨rfl, rfl⟩ := hn
  have e : ((nextTr t x).T, (nextTr t x).V) = x := rfl
  rw [e]
  refine ⟨by rw [List.take_add_one, hx, ← ho]; rfl, by rw [trL_snoc o x h0, ht], by rw [bitsL_snoc o x h0, List.length_append, hp, ht]⟩
theorem sofar_none {l : List Bool} {o : List Sm} {t : Tr} {p : Nat} (h : Sofar l o t p) (h0 : o ≠ []) (hn : dNext l t p = none) : ∀ q, Good q → l = bitsL q → q.length ≤ o.length := by
  intro q hg hl
  apply Nat.le_of_not_lt
  intro hlt
  obtain ⟨ho, ht, hp⟩ := h q hg hl (by omega)
  obtain ⟨x, hx⟩ : ∃ x, q[o.length]? = some x := ⟨q[o.length]'(by omega), List.getElem?_eq_getElem (by omega)⟩
  have hmem := hg.2.1 x (List.mem_of_getElem? hx)
  have hne : o.length ≠ 0 := by intro e; exact h0 (List.length_eq_zero_iff.1 e)
  have hat := sofar_step hx hne
  rw [← ho, ← hp, ← ht, ← hl] at hat
  have hok : TrOk t := by rw [ht]; exact trL_ok o (by rw [ho]; exact good_prefix (m := q.drop o.length) (by rw [List.take_append_drop]; exact hg))
  have := dNext_at hok hmem.1 hmem.2.1 hmem.2.2 hat
  rw [this] at hn
  cases hn
end Go.Proofs.YtieaiecoiononaaDoor.Xo
