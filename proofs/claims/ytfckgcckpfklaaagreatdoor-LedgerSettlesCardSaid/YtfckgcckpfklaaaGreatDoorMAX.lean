/- Layer 14: lists of samples merged are the document's, in plain words. -/
import Derived.Test.YtfckgcckpfklaaaGreatDoorMAR
namespace Go.Proofs.YtfckgcckpfklaaaGreatDoor
open Go.RowKit Go.Lib Hp
set_option linter.unusedVariables false

def insS : List Sp → Sp → List Sp
  | [], s => [s]
  | x :: l, s => if x.t = s.t then x :: l else if s.t < x.t then s :: x :: l else x :: insS l s
theorem stepS_done (s : Sp) : ∀ (l o : List Sp), l.foldl (stepS s) (o, true) = (o ++ l, true)
  | [], o => by simp
  | x :: l, o => by
    rw [List.foldl_cons, show stepS s (o, true) x = (o ++ [x], true) by simp [stepS], stepS_done s l]
    simp
theorem stepS_ins (s : Sp) : ∀ (l o : List Sp), (if (l.foldl (stepS s) (o, false)).2 = true then (l.foldl (stepS s) (o, false)).1 else (l.foldl (stepS s) (o, false)).1 ++ [s]) = o ++ insS l s
  | [], o => by simp [insS]
  | x :: l, o => by
    rw [List.foldl_cons]
    unfold insS
    by_cases h1 : x.t = s.t
    · rw [show stepS s (o, false) x = (o ++ [x], true) by simp [stepS, h1], stepS_done, if_pos h1]
      simp
    · by_cases h2 : s.t < x.t
      · rw [show stepS s (o, false) x = (o ++ [s, x], true) by simp [stepS, h1, h2], stepS_done, if_neg h1, if_pos h2]
        simp
      · rw [show stepS s (o, false) x = (o ++ [x], false) by simp [stepS, h1, h2], stepS_ins s l, if_neg h1, if_neg h2]
        simp
theorem putS_ins (l : List Sp) (s : Sp) : putS l s = insS l s := by
  have := stepS_ins s l []
  rw [List.nil_append] at this
  exact this

/-- By rising times. -/
def Up (l : List Sp) : Prop := l.Pairwise fun a b => a.t < b.t
def Upw (l : List Sp) : Prop := l.Pairwise fun a b => a.t ≤ b.t
/-- The first of a time. -/
def look : List Sp → Int → Option Sp
  | [], _ => none
  | x :: l, a => if x.t = a then some x else look l a
theorem look_none {l : List Sp} {a : Int} (h : ∀ x ∈ l, x.t ≠ a) : look l a = none := by
  induction l with
  | nil => rfl
  | cons x l ih => rw [look, if_neg (h x (by simp)), ih (fun y hy => h y (by simp [hy]))]
theorem ins_mem {l : List Sp} {s y : Sp} (h : y ∈ insS l s) : y = s ∨ y ∈ l := by
  induction l with
  | nil => simp [insS] at h; exact .inl h
  | cons x l ih =>
    unfold insS at h
    split at h
    · exact .inr h
    · split at h
      · simp only [List.mem_cons] at h
        rcases h with h | h | h
        · exact .inl h
        · exact .inr (by simp [h])
        · exact .inr (by simp [h])
      · simp only [List.mem_cons] at h
        rcases h with h | h
        · exact .inr (by simp [h])
        · rcases ih h with h | h
          · exact .inl h
          · exact .inr (by simp [h])
theorem ins_up {l : List Sp} (s : Sp) (h : Up l) : Up (insS l s) := by
  induction l with
  | nil => simp [insS, Up]
  | cons x l ih =>
    obtain ⟨h1, h2⟩ := List.pairwise_cons.1 h
    unfold insS
    split
    · exact h
    · rename_i hn
      split
      · rename_i hl
        refine List.pairwise_cons.2 ⟨fun y hy => ?_, h⟩
        simp only [List.mem_cons] at hy
        rcases hy with rfl | hy
        · exact hl
        · have := h1 y hy; omega
      · rename_i hl
        refine List.pairwise_cons.2 ⟨fun y hy => ?_, ih h2⟩
        rcases ins_mem hy with rfl | hy
        · omega
        · exact h1 y hy
theorem ins_look {l : List Sp} (s : Sp) (h : Up l) (a : Int) : look (insS l s) a = (look l a).or (if s.t = a then some s else none) := by
  induction l with
  | nil => simp [insS, look]
  | cons x l ih =>
    obtain ⟨h1, h2⟩ := List.pairwise_cons.1 h
    unfold insS
    split
    · rename_i he
      simp only [look]
      by_cases hx : x.t = a
      · simp [hx]
      · rw [if_neg hx, if_neg (by omega)]; simp
    · rename_i hn
      split
      · rename_i hl
        simp only [look]
        by_cases hs : s.t = a
        · rw [if_pos hs, if_neg (by omega), look_none (fun y hy => by have := h1 y hy; omega)]
          simp [hs]
        · rw [if_neg hs, if_neg hs]; simp
      · simp only [look]
        by_cases hx : x.t = a
        · simp [hx]
        · rw [if_neg hx, if_neg hx, ih h2]
theorem putF_up {l : List Sp} : ∀ (m : List Sp), Up l → Up (m.foldl putS l) := by
  intro m
  induction m generalizing l with
  | nil => exact id
  | cons x m ih => exact fun h => ih (by rw [putS_ins]; exact ins_up x h)
theorem putF_look {l : List Sp} : ∀ (m : List Sp), Up l → ∀ a, look (m.foldl putS l) a = (look l a).or (look m a) := by
  intro m
  induction m generalizing l with
  | nil => intro h a; simp [look]
  | cons x m ih =>
    intro h a
    rw [List.foldl_cons, ih (by rw [putS_ins]; exact ins_up x h), putS_ins, ins_look x h, Option.or_assoc]
    congr 1
    simp only [look]
    split <;> simp
theorem up_one {a b : List Sp} (ha : Up a) (hb : Up b) (h : ∀ t, look a t = look b t) : a = b := by
  induction a generalizing b with
  | nil =>
    cases b with
    | nil => rfl
    | cons y b => have := h y.t; simp [look] at this
  | cons x a ih =>
    cases b with
    | nil => have := h x.t; simp [look] at this
    | cons y b =>
      obtain ⟨a1, a2⟩ := List.pairwise_cons.1 ha
      obtain ⟨b1, b2⟩ := List.pairwise_cons.1 hb
      have hxy : x.t = y.t := by
        rcases Int.lt_trichotomy x.t y.t with hlt | he | hgt
        · have := h x.t
          rw [look_none (l := y :: b) (fun z hz => by
            simp only [List.mem_cons] at hz
            rcases hz with rfl | hz
            · omega
            · have := b1 z hz; omega)] at this
          simp [look] at this
        · exact he
        · have := h y.t
          rw [look_none (l := x :: a) (fun z hz => by
            simp only [List.mem_cons] at hz
            rcases hz with rfl | hz
            · omega
            · have := a1 z hz; omega)] at this
          simp [look] at this
      have hx := h x.t
      simp only [look, hxy, if_true] at hx
      obtain rfl : x = y := Option.some.inj hx
      congr 1
      refine ih a2 b2 fun t => ?_
      by_cases ht : x.t = t
      · rw [look_none (fun z hz => by have := a1 z hz; omega), look_none (fun z hz => by have := b1 z hz; omega)]
      · have := h t
        simpa [look, ht] using this

/-- Of those of one time that stand beside each other the first. -/
def compFrom (t : Int) : List Sp → List Sp
  | [] => []
  | y :: l => if t = y.t then compFrom t l else y :: compFrom y.t l
def compS : List Sp → List Sp
  | [] => []
  | x :: l => x :: compFrom x.t l
theorem compFrom_ge {t : Int} {l : List Sp} (h : Upw l) (ht : ∀ y ∈ l, t ≤ y.t) : Up (compFrom t l) ∧ (∀ y ∈ compFrom t l, t < y.t) ∧ ∀ a, t < a → look (compFrom t l) a = look l a := by
  induction l generalizing t with
  | nil => exact ⟨List.Pairwise.nil, by simp [compFrom], fun _ _ => rfl⟩
  | cons y l ih =>
    obtain ⟨h1, h2⟩ := List.pairwise_cons.1 h
    unfold compFrom
    by_cases hy : t = y.t
    · obtain ⟨i1, i2, i3⟩ := ih (t := t) h2 (fun z hz => ht z (by simp [hz]))
      rw [if_pos hy]
      refine ⟨i1, i2, fun a ha => ?_⟩
      rw [i3 a ha, look, if_neg (by omega)]
    · have hlt : t < y.t := by have := ht y (by simp); omega
      obtain ⟨i1, i2, i3⟩ := ih (t := y.t) h2 h1
      rw [if_neg hy]
      refine ⟨List.pairwise_cons.2 ⟨i2, i1⟩, fun z hz => ?_, fun a ha => ?_⟩
      · simp only [List.mem_cons] at hz
        rcases hz with rfl | hz
        · exact hlt
        · have := i2 z hz; omega
      · simp only [look]
        by_cases e : y.t = a
        · simp [e]
        · rw [if_neg e, if_neg e]
          rcases Int.lt_or_gt_of_ne e with e | e
          · exact i3 a e
          · rw [look_none (fun z hz => by have := i2 z hz; omega), look_none (fun z hz => by have := h1 z hz; omega)]
theorem compS_up {l : List Sp} (h : Upw l) : Up (compS l) ∧ ∀ a, look (compS l) a = look l a := by
  cases l with
  | nil => exact ⟨List.Pairwise.nil, fun _ => rfl⟩
  | cons x l =>
    obtain ⟨h1, h2⟩ := List.pairwise_cons.1 h
    obtain ⟨i1, i2, i3⟩ := compFrom_ge (t := x.t) h2 h1
    refine ⟨List.pairwise_cons.2 ⟨i2, i1⟩, fun a => ?_⟩
    simp only [compS, look]
    by_cases e : x.t = a
    · simp [e]
    · rw [if_neg e, if_neg e]
      rcases Int.lt_or_gt_of_ne e with e | e
      · exact i3 a e
      · rw [look_none (fun z hz => by have := i2 z hz; omega), look_none (fun z hz => by have := h1 z hz; omega)]

/-- The first list's that has the time. -/
def fo (cur : Nat → List Sp) : Nat → Int → Option Sp
  | 0, _ => none
  | k + 1, a => (fo cur k a).or (look (cur k) a)
theorem fo_congr {cur cur' : Nat → List Sp} {a : Int} : ∀ k, (∀ q, q < k → look (cur q) a = look (cur' q) a) → fo cur k a = fo cur' k a
  | 0, _ => rfl
  | k + 1, h => by rw [fo, fo, fo_congr k (fun q hq => h q (by omega)), h k (by omega)]
theorem fo_none {cur : Nat → List Sp} {a : Int} : ∀ k, (∀ q, q < k → look (cur q) a = none) → fo cur k a = none
  | 0, _ => rfl
  | k + 1, h => by rw [fo, fo_none k (fun q hq => h q (by omega)), h k (by omega)]; rfl
theorem fo_first {cur : Nat → List Sp} {a : Int} {p : Nat} {x : Sp} : ∀ k, p < k → look (cur p) a = some x → (∀ q, q < p → look (cur q) a = none) → fo cur k a = some x
  | 0, h, _, _ => absurd h (Nat.not_lt_zero _)
  | k + 1, h, hx, hq => by
    by_cases hp : p = k
    · subst hp
      rw [fo, fo_none p hq, hx]; rfl
    · rw [fo, fo_first k (by omega) hx hq]; rfl
theorem tot_pos {cur : Nat → List Sp} {k : Nat} (h : 0 < tot cur k) : ∃ p, LeastS cur k p := by
  cases hp : pickS cur k with
  | some p => exact ⟨p, pickS_some cur k p hp⟩
  | none =>
    have : tot cur k = 0 := tot_end cur k fun q hq => by
      rcases Nat.eq_zero_or_pos (cur q).length with h0 | h0
      · exact h0
      · exact absurd hp (pickS_some.pickS_none cur k q hq h0)
    omega
theorem upd_at (cur : Nat → List Sp) (p q : Nat) (l : List Sp) : updS cur p l q = if q = p then l else cur q := rfl
theorem kmg_look {k : Nat} : ∀ (T : Nat) (cur : Nat → List Sp), tot cur k = T → (∀ p, p < k → Up (cur p)) → ∀ a, look (kmg cur k T) a = fo cur k a
  | 0, cur, ht, hu, a => by
    rw [kmg, fo_none k (fun q hq => ?_)]
    · rfl
    · have : (cur q).length = 0 := by
        rcases Nat.eq_zero_or_pos (cur q).length with h0 | h0
        · exact h0
        · have := tot_upd cur q k hq h0; omega
      rw [List.eq_nil_of_length_eq_zero this]; rfl
  | T + 1, cur, ht, hu, a => by
    obtain ⟨p, hp⟩ := tot_pos (cur := cur) (k := k) (by omega)
    obtain ⟨x, xs, hx⟩ : ∃ x xs, cur p = x :: xs := List.exists_cons_of_length_pos hp.2.1
    have hup := List.pairwise_cons.1 (hx ▸ hu p hp.1 : Up (x :: xs))
    have ih := kmg_look (k := k) T (updS cur p xs) (by have := tot_upd cur p k hp.1 hp.2.1; rw [hx] at this; simp only [List.tail_cons] at this; omega) (fun q hq => by
      rw [upd_at]
      split
      · exact hup.2
      · exact hu q hq) a
    rw [kmg_step hp, hx]
    show look (x :: kmg (updS cur p xs) k T) a = fo cur k a
    rw [look]
    by_cases e : x.t = a
    · rw [if_pos e]
      refine (fo_first k hp.1 (by rw [hx]; simp [look, e]) fun q hq => ?_).symm
      rcases Nat.eq_zero_or_pos (cur q).length with h0 | h0
      · rw [List.eq_nil_of_length_eq_zero h0]; rfl
      · obtain ⟨y, ys, hy⟩ : ∃ y ys, cur q = y :: ys := List.exists_cons_of_length_pos h0
        have h3 := hp.2.2 q (by have := hp.1; omega) h0
        rw [ltS_not, hx, hy] at h3
        simp only [List.headD_cons] at h3
        have hyu := List.pairwise_cons.1 (hy ▸ hu q (by have := hp.1; omega) : Up (y :: ys))
        rw [hy]
        refine look_none fun z hz => ?_
        simp only [List.mem_cons] at hz
        rcases hz with rfl | hz
        · omega
        · have := hyu.1 z hz; omega
    · rw [if_neg e, ih]
      refine fo_congr k fun q hq => ?_
      rw [upd_at]
      split
      · rename_i hqp
        subst hqp
        rw [hx, look, if_neg e]
      · rfl
theorem kmg_len (k : Nat) : ∀ (T : Nat) (cur : Nat → List Sp), (kmg cur k T).length ≤ T
  | 0, _ => by simp [kmg]
  | T + 1, cur => by
    unfold kmg
    split
    · simp
    · have := kmg_len k T
      simp only [List.length_cons]
      exact Nat.succ_le_succ (this _)
theorem kmg_ge {k : Nat} {b : Int} : ∀ (T : Nat) (cur : Nat → List Sp), (∀ p, p < k → ∀ x ∈ cur p, b ≤ x.t) → ∀ x ∈ kmg cur k T, b ≤ x.t
  | 0, cur, h, x, hx => by simp [kmg] at hx
  | T + 1, cur, h, x, hx => by
    cases hp : pickS cur k with
    | none => simp [kmg, hp] at hx
    | some p =>
      have hl := pickS_some cur k p hp
      obtain ⟨y, ys, hy⟩ : ∃ y ys, cur p = y :: ys := List.exists_cons_of_length_pos hl.2.1
      rw [kmg_step hl, hy] at hx
      simp only [List.headD_cons, List.tail_cons, List.mem_cons] at hx
      rcases hx with rfl | hx
      · exact h p hl.1 x (by rw [hy]; simp)
      · refine kmg_ge T (updS cur p ys) (fun q hq z hz => ?_) x hx
        rw [upd_at] at hz
        split at hz
        · exact h p hl.1 z (by rw [hy]; simp [hz])
        · exact h q hq z hz
theorem kmg_upw {k : Nat} : ∀ (T : Nat) (cur : Nat → List Sp), (∀ p, p < k → Up (cur p)) → Upw (kmg cur k T)
  | 0, cur, h => List.Pairwise.nil
  | T + 1, cur, h => by
    cases hp : pickS cur k with
    | none => simp [kmg, hp, Upw]
    | some p =>
      have hl := pickS_some cur k p hp
      obtain ⟨y, ys, hy⟩ : ∃ y ys, cur p = y :: ys := List.exists_cons_of_length_pos hl.2.1
      have hup := List.pairwise_cons.1 (hy ▸ h p hl.1 : Up (y :: ys))
      rw [kmg_step hl, hy]
      simp only [List.headD_cons, List.tail_cons]
      refine List.pairwise_cons.2 ⟨kmg_ge T _ fun q hq z hz => ?_, kmg_upw T _ fun q hq => ?_⟩
      · rw [upd_at] at hz
        split at hz
        · have := hup.1 z hz; omega
        · have hlen : 0 < (cur q).length := List.length_pos_of_mem hz
          obtain ⟨u, us, hu⟩ : ∃ u us, cur q = u :: us := List.exists_cons_of_length_pos hlen
          have h3 := hl.2.2 q hq hlen
          rw [ltS_not, hy, hu] at h3
          simp only [List.headD_cons] at h3
          have huu := List.pairwise_cons.1 (hu ▸ h q hq : Up (u :: us))
          rw [hu] at hz
          simp only [List.mem_cons] at hz
          rcases hz with rfl | hz
          · omega
          · have := huu.1 z hz; omega
      · rw [upd_at]
        split
        · exact hup.2
        · exact h q hq
/-- The document's: one list behind the other put in. -/
def wantS (cur : Nat → List Sp) : Nat → List Sp
  | 0 => []
  | k + 1 => (cur k).foldl putS (wantS cur k)
theorem wantS_up (cur : Nat → List Sp) : ∀ k, Up (wantS cur k)
  | 0 => List.Pairwise.nil
  | k + 1 => putF_up _ (wantS_up cur k)
theorem wantS_look (cur : Nat → List Sp) (a : Int) : ∀ k, look (wantS cur k) a = fo cur k a
  | 0 => rfl
  | k + 1 => by rw [wantS, putF_look _ (wantS_up cur k), wantS_look cur a k, fo]
/-- Lists merged, of one time the first list's: the document's. -/
theorem merged_want (cur : Nat → List Sp) (k : Nat) (h : ∀ p, p < k → Up (cur p)) : compS (kmg cur k (tot cur k)) = wantS cur k := by
  obtain ⟨h1, h2⟩ := compS_up (kmg_upw (tot cur k) cur h)
  refine up_one h1 (wantS_up cur k) fun a => ?_
  rw [h2, kmg_look _ cur rfl h, wantS_look]
end Go.Proofs.YtfckgcckpfklaaaGreatDoor
