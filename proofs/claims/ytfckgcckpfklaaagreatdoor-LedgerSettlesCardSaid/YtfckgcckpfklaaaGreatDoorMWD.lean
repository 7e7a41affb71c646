/- Layer 14: tables merged are the document's, in plain words. Layer 14: what Tables makes, in plain words. -/
import Derived.Test.YtfckgcckpfklaaaGreatDoorMWB
namespace Go.Proofs.YtfckgcckpfklaaaGreatDoor
open Go.RowKit Go.Lib Hp
set_option linter.unusedVariables false

/-- A table's sample of labels and a time: the first row's that has it. -/
def lookT : List Rw → List Pr → Int → Option Sp
  | [], _, _ => none
  | r :: l, ls, a => (if r.ls = ls then look r.ss a else none).or (lookT l ls a)
theorem lookT_append (m : List Rw) (ls : List Pr) (a : Int) : ∀ l : List Rw, lookT (l ++ m) ls a = (lookT l ls a).or (lookT m ls a)
  | [] => rfl
  | r :: l => by simp only [List.cons_append, lookT]; rw [lookT_append m ls a l, Option.or_assoc]
theorem lookT_none {l : List Rw} {ls : List Pr} {a : Int} (h : ∀ r ∈ l, r.ls ≠ ls) : lookT l ls a = none := by
  induction l with
  | nil => rfl
  | cons r l ih => rw [lookT, if_neg (h r (by simp)), ih (fun y hy => h y (by simp [hy]))]; rfl
/-- By rising labels, each row by rising times. -/
def UpT (l : List Rw) : Prop := (l.Pairwise fun a b => cmpS a.ls b.ls < 0) ∧ ∀ r ∈ l, Up r.ss
theorem cmp_ne {a b : List Pr} (h : cmpS a b ≠ 0) : a ≠ b := fun e => by subst e; exact h (cmpS_self a)
theorem cmp_tr {a b c : List Pr} (h : cmpS a b < 0) (k : cmpS b c ≤ 0) : cmpS a c < 0 := by
  have h1 := cmpS_trans a b c (by omega) k
  rcases Int.lt_or_le (cmpS a c) 0 with h2 | h2
  · exact h2
  · have h0 : cmpS a c = 0 := by omega
    obtain rfl := cmpS_zero _ _ h0
    have := cmpS_neg a b
    omega
theorem cmp_tr2 {a b c : List Pr} (h : cmpS a b ≤ 0) (k : cmpS b c < 0) : cmpS a c < 0 := by
  have h1 := cmpS_trans a b c h (by omega)
  rcases Int.lt_or_le (cmpS a c) 0 with h2 | h2
  · exact h2
  · have h0 : cmpS a c = 0 := by omega
    obtain rfl := cmpS_zero _ _ h0
    have := cmpS_neg a b
    omega

/-- The document's Add, row by row. -/
def insT : List Rw → List Pr → Sp → List Rw
  | [], ls, s => [⟨ls, [s]⟩]
  | r :: l, ls, s => if cmpS ls r.ls = 0 then ⟨r.ls, putS r.ss s⟩ :: l else if cmpS ls r.ls < 0 then ⟨ls, [s]⟩ :: r :: l else r :: insT l ls s
theorem stepT_done (ls : List Pr) (s : Sp) : ∀ (l o : List Rw), (∀ r ∈ l, cmpS ls r.ls ≠ 0) → l.foldl (stepT ls s) (o, true) = (o ++ l, true)
  | [], o, _ => by simp
  | x :: l, o, h => by
    rw [List.foldl_cons, show stepT ls s (o, true) x = (o ++ [x], true) by simp [stepT, h x (by simp)], stepT_done ls s l _ (fun r hr => h r (by simp [hr]))]
    simp
theorem stepT_ins (ls : List Pr) (s : Sp) : ∀ (l o : List Rw), UpT l → (if (l.foldl (stepT ls s) (o, false)).2 = true then (l.foldl (stepT ls s) (o, false)).1 else (l.foldl (stepT ls s) (o, false)).1 ++ [⟨ls, [s]⟩]) = o ++ insT l ls s
  | [], o, _ => by simp [insT]
  | x :: l, o, hu => by
    obtain ⟨h1, h2⟩ := List.pairwise_cons.1 hu.1
    have hul : UpT l := ⟨h2, fun r hr => hu.2 r (by simp [hr])⟩
    rw [List.foldl_cons]
    unfold insT
    by_cases c1 : cmpS ls x.ls = 0
    · rw [show stepT ls s (o, false) x = (o ++ [⟨x.ls, putS x.ss s⟩], true) by simp [stepT, c1], stepT_done ls s l _ (fun r hr => by
        obtain rfl := cmpS_zero _ _ c1
        have := h1 r hr; omega), if_pos c1]
      simp
    · by_cases c2 : cmpS ls x.ls < 0
      · rw [show stepT ls s (o, false) x = (o ++ [⟨ls, [s]⟩, x], true) by simp [stepT, c1, c2], stepT_done ls s l _ (fun r hr => by
          have := cmp_tr c2 (Int.le_of_lt (h1 r hr)); omega), if_neg c1, if_pos c2]
        simp
      · rw [show stepT ls s (o, false) x = (o ++ [x], false) by simp [stepT, c1, c2], stepT_ins ls s l _ hul, if_neg c1, if_neg c2]
        simp
theorem addT_ins (l : List Rw) (ls : List Pr) (s : Sp) (h : UpT l) : addT l ls s = insT l ls s := by
  have := stepT_ins ls s l [] h
  rw [List.nil_append] at this
  exact this
theorem insT_mem {l : List Rw} {ls : List Pr} {s : Sp} {y : Rw} (h : y ∈ insT l ls s) : y.ls = ls ∨ y ∈ l := by
  induction l with
  | nil => simp [insT] at h; exact .inl (by rw [h])
  | cons x l ih =>
    unfold insT at h
    split at h
    · rename_i h0
      simp only [List.mem_cons] at h
      rcases h with h | h
      · exact .inl (by rw [h]; exact (cmpS_zero _ _ h0).symm)
      · exact .inr (by simp [h])
    · split at h
      · simp only [List.mem_cons] at h
        rcases h with h | h | h
        · exact .inl (by rw [h])
        · exact .inr (by simp [h])
        · exact .inr (by simp [h])
      · simp only [List.mem_cons] at h
        rcases h with h | h
        · exact .inr (by simp [h])
        · rcases ih h with h | h
          · exact .inl h
          · exact .inr (by simp [h])
theorem insT_up {l : List Rw} (ls : List Pr) (s : Sp) (h : UpT l) : UpT (insT l ls s) := by
  induction l with
  | nil => exact ⟨by simp [insT], fun r hr => by simp [insT] at hr; subst hr; simp [Up]⟩
  | cons x l ih =>
    obtain ⟨h1, h2⟩ := List.pairwise_cons.1 h.1
    have hul : UpT l := ⟨h2, fun r hr => h.2 r (by simp [hr])⟩
    unfold insT
    split
    · rename_i h0
      refine ⟨List.pairwise_cons.2 ⟨h1, h2⟩, fun r hr => ?_⟩
      simp only [List.mem_cons] at hr
      rcases hr with rfl | hr
      · show Up (putS x.ss s)
        rw [putS_ins]; exact ins_up s (h.2 x (by simp))
      · exact hul.2 r hr
    · split
      · rename_i h0 hl
        refine ⟨List.pairwise_cons.2 ⟨fun y hy => ?_, h.1⟩, fun r hr => ?_⟩
        · simp only [List.mem_cons] at hy
          rcases hy with rfl | hy
          · exact hl
          · exact cmp_tr hl (Int.le_of_lt (h1 y hy))
        · simp only [List.mem_cons] at hr
          rcases hr with rfl | hr
          · simp [Up]
          · exact h.2 r (by simpa using hr)
      · rename_i h0 hl
        have ih' := ih hul
        refine ⟨List.pairwise_cons.2 ⟨fun y hy => ?_, ih'.1⟩, fun r hr => ?_⟩
        · rcases insT_mem hy with hy | hy
          · rw [hy, cmpS_neg]; omega
          · exact h1 y hy
        · simp only [List.mem_cons] at hr
          rcases hr with rfl | hr
          · exact h.2 r (by simp)
          · exact ih'.2 r hr
theorem insT_look {l : List Rw} (ls : List Pr) (s : Sp) (h : UpT l) (ks : List Pr) (a : Int) : lookT (insT l ls s) ks a = (lookT l ks a).or (if ls = ks ∧ s.t = a then some s else none) := by
  induction l with
  | nil =>
    simp only [insT, lookT, look]
    by_cases h1 : ls = ks <;> by_cases h2 : s.t = a <;> simp [h1, h2]
  | cons x l ih =>
    obtain ⟨h1, h2⟩ := List.pairwise_cons.1 h.1
    have hul : UpT l := ⟨h2, fun r hr => h.2 r (by simp [hr])⟩
    unfold insT
    split
    · rename_i h0
      obtain rfl := cmpS_zero _ _ h0
      simp only [lookT]
      by_cases hk : x.ls = ks
      · subst hk
        rw [if_pos rfl, if_pos rfl, putS_ins, ins_look s (h.2 x (by simp)), lookT_none (l := l) (fun r hr e => by have := h1 r hr; rw [e, cmpS_self] at this; omega)]
        simp
      · simp [hk]
    · rename_i h0
      split
      · rename_i hl
        simp only [lookT, look]
        by_cases hk : ls = ks
        · subst hk
          have hn : x.ls ≠ ls := fun e => by rw [e, cmpS_self] at h0; exact h0 rfl
          rw [if_pos rfl, if_neg hn, lookT_none (l := l) (fun r hr e => by have := cmp_tr hl (Int.le_of_lt (h1 r hr)); rw [e, cmpS_self] at this; omega)]
          by_cases ht : s.t = a <;> simp [ht]
        · simp [hk]
      · simp only [lookT]
        rw [ih hul, Option.or_assoc]
theorem lookT_none2 {l : List Rw} {ls : List Pr} (h : ∀ r ∈ l, cmpS ls r.ls < 0) (a : Int) : lookT l ls a = none :=
  lookT_none fun r hr e => by have := h r hr; rw [e, cmpS_self] at this; omega
/-- Tables that say the same of each labels and time, no row of which is empty, are the same. -/
theorem upT_one {a b : List Rw} (ha : UpT a) (hb : UpT b) (na : ∀ r ∈ a, r.ss ≠ []) (nb : ∀ r ∈ b, r.ss ≠ []) (h : ∀ ls t, lookT a ls t = lookT b ls t) : a = b := by
  induction a generalizing b with
  | nil =>
    cases b with
    | nil => rfl
    | cons y b =>
      obtain ⟨s, ss, hs⟩ := List.exists_cons_of_ne_nil (nb y (by simp))
      have := h y.ls s.t
      simp [lookT, look, hs] at this
  | cons x a ih =>
    obtain ⟨s, ss, hs⟩ := List.exists_cons_of_ne_nil (na x (by simp))
    cases b with
    | nil =>
      have := h x.ls s.t
      simp [lookT, look, hs] at this
    | cons y b =>
      obtain ⟨u, us, hu⟩ := List.exists_cons_of_ne_nil (nb y (by simp))
      obtain ⟨a1, a2⟩ := List.pairwise_cons.1 ha.1
      obtain ⟨b1, b2⟩ := List.pairwise_cons.1 hb.1
      have hxy : cmpS x.ls y.ls = 0 := by
        rcases cmpS_val x.ls y.ls with hlt | he | hgt
        · have := h x.ls s.t
          rw [lookT_none2 (l := y :: b) (fun z hz => by
            simp only [List.mem_cons] at hz
            rcases hz with rfl | hz
            · omega
            · exact cmp_tr (b := y.ls) (by omega) (Int.le_of_lt (b1 z hz)))] at this
          simp [lookT, look, hs] at this
        · exact he
        · have := h y.ls u.t
          have hlt : cmpS y.ls x.ls < 0 := by rw [cmpS_neg]; omega
          rw [lookT_none2 (l := x :: a) (fun z hz => by
            simp only [List.mem_cons] at hz
            rcases hz with rfl | hz
            · exact hlt
            · exact cmp_tr hlt (Int.le_of_lt (a1 z hz)))] at this
          simp [lookT, look, hu] at this
      have hls := cmpS_zero _ _ hxy
      have hss : x.ss = y.ss := by
        refine up_one (ha.2 x (by simp)) (hb.2 y (by simp)) fun t => ?_
        have := h x.ls t
        simp only [lookT, if_true, hls] at this
        rw [lookT_none2 (l := a) (fun z hz => by rw [← hls]; exact a1 z hz), lookT_none2 (l := b) b1] at this
        simpa using this
      have hr : x = y := by
        obtain ⟨xl, xs⟩ := x
        obtain ⟨yl, ys⟩ := y
        simp only at hls hss
        subst hls hss
        rfl
      subst hr
      congr 1
      refine ih ⟨a2, fun r hr => ha.2 r (by simp [hr])⟩ ⟨b2, fun r hr => hb.2 r (by simp [hr])⟩ (fun r hr => na r (by simp [hr])) (fun r hr => nb r (by simp [hr])) fun ls t => ?_
      by_cases hl : x.ls = ls
      · subst hl
        rw [lookT_none2 (l := a) a1, lookT_none2 (l := b) b1]
      · have := h ls t
        simpa [lookT, hl] using this

/-- The first that is there. -/
def fo' (vals : Nat → Option Sp) : Nat → Option Sp
  | 0 => none
  | k + 1 => (fo' vals k).or (vals k)
theorem fo'_congr {v v' : Nat → Option Sp} : ∀ k, (∀ q, q < k → v q = v' q) → fo' v k = fo' v' k
  | 0, _ => rfl
  | k + 1, h => by rw [fo', fo', fo'_congr k (fun q hq => h q (by omega)), h k (by omega)]
theorem fo'_none {v : Nat → Option Sp} : ∀ k, (∀ q, q < k → v q = none) → fo' v k = none
  | 0, _ => rfl
  | k + 1, h => by rw [fo', fo'_none k (fun q hq => h q (by omega)), h k (by omega)]; rfl
theorem fo'_head {v v' : Nat → Option Sp} {p : Nat} {a : Option Sp} (hp : v p = a.or (v' p)) (ho : ∀ q, q ≠ p → v q = v' q) (hn : ∀ q, q < p → v q = none) : ∀ k, p < k → fo' v k = a.or (fo' v' k)
  | 0, h => absurd h (Nat.not_lt_zero _)
  | k + 1, h => by
    by_cases hk : p = k
    · subst hk
      rw [fo', fo', fo'_none p hn, fo'_none p (fun q hq => by rw [← ho q (by omega)]; exact hn q hq), hp]; rfl
    · rw [fo', fo', fo'_head hp ho hn k (by omega), ho k (by omega), Option.or_assoc]

theorem totR_pos {cur : Nat → List Rq} {k : Nat} (h : 0 < totR cur k) : ∃ p, LeastSR cur k p := by
  cases hp : pickSR cur k with
  | some p => exact ⟨p, pickS_someR cur k p hp⟩
  | none =>
    have : totR cur k = 0 := tot_endR cur k fun q hq => by
      rcases Nat.eq_zero_or_pos (cur q).length with h0 | h0
      · exact h0
      · exact absurd hp (pickS_someR.pickS_none cur k q hq h0)
    omega
theorem kmgR_look {k : Nat} (ls : List Pr) (a : Int) : ∀ (T : Nat) (cur : Nat → List Rq), totR cur k = T → (∀ p, p < k → UpT (rws (cur p))) → lookT (rws (kmgR cur k T)) ls a = fo' (fun p => lookT (rws (cur p)) ls a) k
  | 0, cur, ht, hu => by
    rw [kmgR, fo'_none k (fun q hq => ?_)]
    · rfl
    · have : (cur q).length = 0 := by
        rcases Nat.eq_zero_or_pos (cur q).length with h0 | h0
        · exact h0
        · have := tot_updR cur q k hq h0; omega
      rw [List.eq_nil_of_length_eq_zero this]; rfl
  | T + 1, cur, ht, hu => by
    obtain ⟨p, hp⟩ := totR_pos (cur := cur) (k := k) (by omega)
    obtain ⟨x, xs, hx⟩ : ∃ x xs, cur p = x :: xs := List.exists_cons_of_length_pos hp.2.1
    have hup : UpT (x.r :: rws xs) := (hx ▸ hu p hp.1 : UpT (rws (x :: xs)))
    obtain ⟨h1, h2⟩ := List.pairwise_cons.1 hup.1
    have hupx : UpT (rws xs) := ⟨h2, fun r hr => hup.2 r (by simp [hr])⟩
    have ih := kmgR_look (k := k) ls a T (updSR cur p xs) (by have := tot_updR cur p k hp.1 hp.2.1; rw [hx] at this; simp only [List.tail_cons] at this; omega) (fun q hq => by
      rw [updR_at]
      split
      · exact hupx
      · exact hu q hq)
    rw [kmg_stepR hp, hx]
    show lookT (x.r :: rws (kmgR (updSR cur p xs) k T)) ls a = _
    rw [lookT, ih]
    have hoth : ∀ q, q ≠ p → lookT (rws (cur q)) ls a = lookT (rws (updSR cur p xs q)) ls a := fun q hq => by rw [updR_at, if_neg hq]
    have hpp : lookT (rws (cur p)) ls a = (if x.r.ls = ls then look x.r.ss a else none).or (lookT (rws (updSR cur p xs p)) ls a) := by
      rw [updR_at, if_pos rfl, hx]; rfl
    by_cases e : x.r.ls = ls
    · subst e
      refine (fo'_head hpp hoth (fun q hq => ?_) k hp.1).symm
      rcases Nat.eq_zero_or_pos (cur q).length with h0 | h0
      · rw [List.eq_nil_of_length_eq_zero h0]; rfl
      · obtain ⟨y, ys, hy⟩ : ∃ y ys, cur q = y :: ys := List.exists_cons_of_length_pos h0
        have h3 := hp.2.2 q (by have := hp.1; omega) h0
        rw [ltS_notR, hx, hy] at h3
        simp only [List.headD_cons] at h3
        have hyu : UpT (y.r :: rws ys) := (hy ▸ hu q (by have := hp.1; omega) : UpT (rws (y :: ys)))
        obtain ⟨y1, y2⟩ := List.pairwise_cons.1 hyu.1
        have hlt : cmpS x.r.ls y.r.ls < 0 := by
          have e1 := cmpS_neg x.r.ls y.r.ls
          have e2 := cmpS_val x.r.ls y.r.ls
          omega
        rw [hy]
        refine lookT_none2 (l := y.r :: rws ys) (fun z hz => ?_) a
        simp only [List.mem_cons] at hz
        rcases hz with rfl | hz
        · exact hlt
        · exact cmp_tr hlt (Int.le_of_lt (y1 z hz))
    · rw [if_neg e]
      rw [if_neg e] at hpp
      show fo' _ k = fo' _ k
      exact (fo'_congr k fun q hq => by
        by_cases hqp : q = p
        · subst hqp; rw [hpp]; rfl
        · exact (hoth q hqp)).symm
/-- By rising labels, some alike. -/
def UpwT (l : List Rq) : Prop := l.Pairwise fun a b => cmpS a.r.ls b.r.ls ≤ 0
theorem kmgR_upw {k : Nat} : ∀ (T : Nat) (cur : Nat → List Rq), (∀ p, p < k → UpT (rws (cur p))) → UpwT (kmgR cur k T)
  | 0, cur, h => List.Pairwise.nil
  | T + 1, cur, h => by
    cases hp : pickSR cur k with
    | none => simp [kmgR, hp, UpwT]
    | some p =>
      have hl := pickS_someR cur k p hp
      obtain ⟨y, ys, hy⟩ : ∃ y ys, cur p = y :: ys := List.exists_cons_of_length_pos hl.2.1
      have hup : UpT (y.r :: rws ys) := (hy ▸ h p hl.1 : UpT (rws (y :: ys)))
      obtain ⟨h1, h2⟩ := List.pairwise_cons.1 hup.1
      have hupx : UpT (rws ys) := ⟨h2, fun r hr => hup.2 r (by simp [hr])⟩
      rw [kmg_stepR hl, hy]
      simp only [List.headD_cons, List.tail_cons]
      refine List.pairwise_cons.2 ⟨fun z hz => ?_, kmgR_upw T _ fun q hq => ?_⟩
      · obtain ⟨q, hq, hz⟩ := kmgR_mem _ _ _ hz
        rw [updR_at] at hz
        split at hz
        · exact Int.le_of_lt (h1 z.r (List.mem_map.2 ⟨z, hz, rfl⟩))
        · have hlen : 0 < (cur q).length := List.length_pos_of_mem hz
          obtain ⟨u, us, hu⟩ : ∃ u us, cur q = u :: us := List.exists_cons_of_length_pos hlen
          have h3 := hl.2.2 q hq hlen
          rw [ltS_notR, hy, hu] at h3
          simp only [List.headD_cons] at h3
          have huu : UpT (u.r :: rws us) := (hu ▸ h q hq : UpT (rws (u :: us)))
          obtain ⟨u1, u2⟩ := List.pairwise_cons.1 huu.1
          have hle : cmpS y.r.ls u.r.ls ≤ 0 := by
            have e1 := cmpS_neg y.r.ls u.r.ls
            have e2 := cmpS_val y.r.ls u.r.ls
            omega
          rw [hu] at hz
          simp only [List.mem_cons] at hz
          rcases hz with rfl | hz
          · exact hle
          · exact cmpS_trans _ _ _ hle (Int.le_of_lt (u1 z.r (List.mem_map.2 ⟨z, hz, rfl⟩)))
      · rw [updR_at]
        split
        · exact hupx
        · exact h q hq
end Go.Proofs.YtfckgcckpfklaaaGreatDoor

namespace Go.Proofs.YtfckgcckpfklaaaGreatDoor
open Go.RowKit Go.Lib Hp
set_option linter.unusedVariables false

theorem fo_rws {l : List Rq} {ls : List Pr} (h : ∀ q ∈ l, q.r.ls = ls) (a : Int) : ∀ k, k ≤ l.length → fo (curS l) k a = lookT (rws (l.take k)) ls a
  | 0, _ => rfl
  | k + 1, hk => by
    have hq : l[k]? = some l[k] := List.getElem?_eq_getElem (by omega)
    rw [fo, fo_rws h a k (by omega), List.take_add_one, hq]
    show _ = lookT (rws (l.take k ++ [l[k]])) ls a
    have e : rws (l.take k ++ [l[k]]) = rws (l.take k) ++ [l[k].r] := by unfold rws; rw [List.map_append]; rfl
    rw [e, lookT_append]
    congr 1
    have hc : curS l k = l[k].r.ss := by
      unfold curS
      have : l.getD k default = l[k] := by simp [show k < l.length by omega]
      rw [this]
    rw [hc]
    simp [lookT, h l[k] (List.getElem_mem _)]
theorem oneS_look {l : List Rq} {ls : List Pr} (h : ∀ q ∈ l, q.r.ls = ls) (hu : ∀ q ∈ l, Up q.r.ss) : Up (oneS l) ∧ ∀ a, look (oneS l) a = lookT (rws l) ls a := by
  have hup : ∀ p, p < l.length → Up (curS l p) := fun p hp => by
    unfold curS
    have : l.getD p default = l[p] := by simp [hp]
    rw [this]
    exact hu _ (List.getElem_mem _)
  obtain ⟨h1, h2⟩ := compS_up (kmg_upw (tot (curS l) l.length) (curS l) hup)
  refine ⟨h1, fun a => ?_⟩
  show look (compS _) a = _
  rw [h2, kmg_look _ _ rfl hup, fo_rws h a l.length (Nat.le_refl _), List.take_length]
theorem upw_drop {l : List Rq} (h : UpwT l) (n : Nat) : UpwT (l.drop n) := List.Pairwise.sublist (List.drop_sublist n l) h
theorem upw_at {l : List Rq} (h : UpwT l) {i j : Nat} {x y : Rq} (hij : i < j) (hx : l[i]? = some x) (hy : l[j]? = some y) : cmpS x.r.ls y.r.ls ≤ 0 := by
  obtain ⟨h1, rfl⟩ := List.getElem?_eq_some_iff.1 hx
  obtain ⟨h2, rfl⟩ := List.getElem?_eq_some_iff.1 hy
  exact List.pairwise_iff_getElem.1 h i j h1 h2 hij
theorem alike_take {l : List Rq} {n : Nat} {q0 : Rq} (h : AlikeN l n) (h0 : l[0]? = some q0) : ∀ q ∈ l.take n, q.r.ls = q0.r.ls := by
  intro q hq
  obtain ⟨j, hj, rfl⟩ := List.mem_iff_getElem.1 hq
  rw [List.length_take] at hj
  rw [List.getElem_take]
  rcases Nat.eq_zero_or_pos j with rfl | hp
  · have : l[0]? = some l[0] := List.getElem?_eq_getElem (by omega)
    rw [this] at h0
    rw [Option.some.inj h0]
  · exact (cmpS_zero _ _ (h.2.2.1 q0 j _ h0 hp (by omega) (List.getElem?_eq_getElem (by omega)))).symm
theorem alike_drop {l : List Rq} {n : Nat} {q0 : Rq} (hu : UpwT l) (h : AlikeN l n) (h0 : l[0]? = some q0) : ∀ q ∈ l.drop n, cmpS q0.r.ls q.r.ls < 0 := by
  intro q hq
  obtain ⟨j, hj, rfl⟩ := List.mem_iff_getElem.1 hq
  rw [List.length_drop] at hj
  rw [List.getElem_drop]
  have hn : l[n]? = some l[n] := List.getElem?_eq_getElem (by omega)
  have h1 := upw_at hu (show 0 < n from h.1) h0 hn
  have h2 := h.2.2.2 q0 _ h0 hn
  have h3 : cmpS q0.r.ls l[n].r.ls < 0 := by omega
  rcases Nat.eq_zero_or_pos j with rfl | hp
  · exact h3
  · exact cmp_tr h3 (upw_at hu (show n < n + j by omega) hn (List.getElem?_eq_getElem (by omega)))
theorem tbl_look {l : List Rq} {t : List Rw} (h : Tbl l t) : UpwT l → (∀ q ∈ l, Up q.r.ss) → UpT t ∧ (∀ ls a, lookT t ls a = lookT (rws l) ls a) ∧ (∀ r ∈ t, ∃ q ∈ l, r.ls = q.r.ls) ∧ ((∀ q ∈ l, q.r.ss ≠ []) → ∀ r ∈ t, r.ss ≠ []) := by
  induction h with
  | nil => exact fun _ _ => ⟨⟨List.Pairwise.nil, fun r hr => absurd hr (by simp)⟩, fun _ _ => rfl, fun r hr => absurd hr (by simp), fun _ r hr => absurd hr (by simp)⟩
  | @cons l n q0 t ha h0 ht ih =>
    intro hu hs
    obtain ⟨i1, i2, i3, i4⟩ := ih (upw_drop hu n) (fun q hq => hs q (List.mem_of_mem_drop hq))
    have htk := alike_take ha h0
    have hdr := alike_drop hu ha h0
    obtain ⟨o1, o2⟩ := oneS_look htk (fun q hq => hs q (List.mem_of_mem_take hq))
    have hm0 : q0 ∈ l := List.mem_of_getElem? h0
    have hm0t : q0 ∈ l.take n := List.mem_of_getElem? (i := 0) (by rw [List.getElem?_take, if_pos (show 0 < n from ha.1)]; exact h0)
    refine ⟨⟨List.pairwise_cons.2 ⟨fun r hr => ?_, i1.1⟩, fun r hr => ?_⟩, fun ls a => ?_, fun r hr => ?_, fun hne r hr => ?_⟩
    · obtain ⟨q, hq, e⟩ := i3 r hr
      rw [e]
      exact hdr q hq
    · simp only [List.mem_cons] at hr
      rcases hr with rfl | hr
      · exact o1
      · exact i1.2 r hr
    · have e : rws l = rws (l.take n) ++ rws (l.drop n) := by
        unfold rws
        rw [← List.map_append, List.take_append_drop]
      rw [lookT, e, lookT_append, i2]
      congr 1
      by_cases hl : q0.r.ls = ls
      · subst hl
        simp only [if_true]
        exact o2 a
      · rw [if_neg hl]
        refine (lookT_none fun r hr => ?_).symm
        obtain ⟨q, hq, rfl⟩ := List.mem_map.1 hr
        rw [htk q hq]
        exact hl
    · simp only [List.mem_cons] at hr
      rcases hr with rfl | hr
      · exact ⟨q0, hm0, rfl⟩
      · obtain ⟨q, hq, e⟩ := i3 r hr
        exact ⟨q, List.mem_of_mem_drop hq, e⟩
    · simp only [List.mem_cons] at hr
      rcases hr with rfl | hr
      · intro e0
        obtain ⟨s, ss, hs0⟩ := List.exists_cons_of_ne_nil (hne q0 hm0)
        have := o2 s.t
        simp only at e0
        rw [e0] at this
        obtain ⟨i, hi, e⟩ := List.mem_iff_getElem.1 hm0t
        have hsome : ∀ (m : List Rw), q0.r ∈ m → lookT m q0.r.ls s.t ≠ none := by
          intro m hm
          induction m with
          | nil => simp at hm
          | cons y m ihm =>
            simp only [List.mem_cons] at hm
            rw [lookT]
            rcases hm with rfl | hm
            · simp [look, hs0]
            · intro hn
              rw [Option.or_eq_none_iff] at hn
              exact ihm hm hn.2
        exact hsome (rws (l.take n)) (List.mem_map.2 ⟨q0, hm0t, rfl⟩) this.symm
      · exact i4 (fun q hq => hne q (List.mem_of_mem_drop hq)) r hr
/-- What Tables makes of tables. -/
theorem tables_look {k : Nat} {cur : Nat → List Rq} {t : List Rw} (hu : ∀ p, p < k → UpT (rws (cur p))) (h : Tbl (kmgR cur k (totR cur k)) t) :
    UpT t ∧ (∀ ls a, lookT t ls a = fo' (fun p => lookT (rws (cur p)) ls a) k) ∧ ((∀ p, p < k → ∀ q ∈ cur p, q.r.ss ≠ []) → ∀ r ∈ t, r.ss ≠ []) := by
  obtain ⟨h1, h2, _, h4⟩ := tbl_look h (kmgR_upw _ _ hu) (fun q hq => by
    obtain ⟨p, hp, hq⟩ := kmgR_mem _ _ _ hq
    exact (hu p hp).2 q.r (List.mem_map.2 ⟨q, hq, rfl⟩))
  refine ⟨h1, fun ls a => ?_, fun hn => h4 fun q hq => ?_⟩
  · rw [h2, kmgR_look ls a _ cur rfl hu]
  · obtain ⟨p, hp, hq⟩ := kmgR_mem _ _ _ hq
    exact hn p hp q hq

/-- Samples put in, one by one. -/
def addF (t : List Rw) (ps : List (List Pr × Sp)) : List Rw := ps.foldl (fun t p => addT t p.1 p.2) t
/-- What pairs say of labels and a time: the first one's. -/
def lookP : List (List Pr × Sp) → List Pr → Int → Option Sp
  | [], _, _ => none
  | p :: ps, ls, a => (if p.1 = ls ∧ p.2.t = a then some p.2 else none).or (lookP ps ls a)
theorem insT_ne {l : List Rw} (ls : List Pr) (s : Sp) (h : ∀ r ∈ l, r.ss ≠ []) : ∀ r ∈ insT l ls s, r.ss ≠ [] := by
  induction l with
  | nil => intro r hr; simp [insT] at hr; subst hr; simp
  | cons x l ih =>
    intro r hr
    unfold insT at hr
    split at hr
    · simp only [List.mem_cons] at hr
      rcases hr with rfl | hr
      · show putS x.ss s ≠ []
        rw [putS_ins]
        intro e
        have hx := h x (by simp)
        cases hxs : x.ss with
        | nil => exact hx hxs
        | cons y ys =>
          rw [hxs] at e
          unfold insS at e
          split at e
          · cases e
          · split at e <;> cases e
      · exact h r (by simp [hr])
    · split at hr
      · simp only [List.mem_cons] at hr
        rcases hr with rfl | rfl | hr
        · simp
        · exact h _ (by simp)
        · exact h r (by simp [hr])
      · simp only [List.mem_cons] at hr
        rcases hr with rfl | hr
        · exact h _ (by simp)
        · exact ih (fun r hr => h r (by simp [hr])) r hr
theorem addF_look : ∀ (ps : List (List Pr × Sp)) (t : List Rw), UpT t → (∀ r ∈ t, r.ss ≠ []) → UpT (addF t ps) ∧ (∀ r ∈ addF t ps, r.ss ≠ []) ∧ ∀ ls a, lookT (addF t ps) ls a = (lookT t ls a).or (lookP ps ls a)
  | [], t, h, hn => ⟨h, hn, fun ls a => by simp [addF, lookP]⟩
  | p :: ps, t, h, hn => by
    have e : addF t (p :: ps) = addF (insT t p.1 p.2) ps := by rw [← addT_ins t p.1 p.2 h]; rfl
    obtain ⟨i1, i2, i3⟩ := addF_look ps (insT t p.1 p.2) (insT_up p.1 p.2 h) (insT_ne p.1 p.2 hn)
    rw [e]
    refine ⟨i1, i2, fun ls a => ?_⟩
    rw [i3, insT_look p.1 p.2 h, lookP, Option.or_assoc]
theorem upT_nil : UpT [] := ⟨List.Pairwise.nil, fun r hr => absurd hr (by simp)⟩
/-- A made table. -/
theorem tableZ_addF (zs : List On) : tableZ zs = addF [] (zs.map fun z => (labs z.n, ⟨t1000 z.t, z.v⟩)) := by
  unfold tableZ addF
  rw [List.foldl_map]
  rfl
theorem tableZ_up (zs : List On) : UpT (tableZ zs) ∧ (∀ r ∈ tableZ zs, r.ss ≠ []) := by
  rw [tableZ_addF]
  obtain ⟨h1, h2, _⟩ := addF_look (zs.map fun z => (labs z.n, ⟨t1000 z.t, z.v⟩)) [] upT_nil (fun r hr => absurd hr (by simp))
  exact ⟨h1, h2⟩
end Go.Proofs.YtfckgcckpfklaaaGreatDoor
