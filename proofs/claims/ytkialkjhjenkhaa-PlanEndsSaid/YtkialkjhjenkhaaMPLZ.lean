/- Layer 20: the document's free blocks are the program's: plain maths. Layer 20, the document's own plan of a free block: plain maths. -/
import Derived.Test.YtkialkjhjenkhaaMPLY
namespace Go.Proofs.Ytkialkjhjenkhaa
open Go.RowKit Go.Lib
set_option linter.unusedVariables false

theorem fold_sorted : ∀ (l : List (Mq × Int)) (o : List Mq), (o.map Mq.m).Pairwise ltM → l.Pairwise (fun a b => a.1.m.id ≠ b.1.m.id) → (∀ q ∈ o, ∀ p ∈ l, q.m.id ≠ p.1.m.id) → ((l.foldl (fun out p => insQ p.1 out) o).map Mq.m).Pairwise ltM
  | [], o, h, _, _ => h
  | p :: l, o, h, hp, hd => by
    rw [List.pairwise_cons] at hp
    rw [List.foldl_cons]
    refine fold_sorted l _ (insQ_sorted p.1 o h (fun q hq => hd q hq p (List.mem_cons_self ..))) hp.2 (fun q hq p' hp' => ?_)
    rcases (insQ_mem p.1 o q).1 hq with rfl | hq
    · exact hp.1 p' hp'
    · exact hd q hq p' (List.mem_cons_of_mem _ hp')
theorem freeT_is (ts : List (Mq × Int)) (K : List (List UInt8)) (hd : ts.Pairwise (fun a b => a.1.m.id ≠ b.1.m.id)) (hk : ∀ p ∈ ts, p.1.m.id ∈ K ↔ ¬ p.2 < 0) : FreeIs (ts.map fun p => p.1.m) K ((freeT ts ts).map Mq.m) := by
  refine ⟨fold_sorted (ts.filter (liveT ts)) [] List.Pairwise.nil (hd.filter _) (by simp), fun m => ?_⟩
  have hsrc : ∀ x, madeN x ts = 0 ↔ ¬ ∃ p ∈ ts.map (fun p => p.1.m), x ∈ p.src := by
    intro x
    rw [madeN_zero]
    simp only [List.mem_map]
    constructor
    · rintro h ⟨_, ⟨p, hp, rfl⟩, hx⟩; exact h ⟨p, hp, hx⟩
    · rintro h ⟨p, hp, hx⟩; exact h ⟨_, ⟨p, hp, rfl⟩, hx⟩
  constructor
  · intro hm
    obtain ⟨q, hq, rfl⟩ := List.mem_map.1 hm
    obtain ⟨p, hp, hl, rfl⟩ := (freeT_in ts ts q).1 hq
    unfold liveT at hl
    simp only [Bool.and_eq_true, decide_eq_true_eq] at hl
    exact ⟨List.mem_map.2 ⟨p, hp, rfl⟩, (hsrc _).1 hl.2, fun h => (hk p hp).1 h hl.1⟩
  · rintro ⟨h1, h2, h3⟩
    obtain ⟨p, hp, rfl⟩ := List.mem_map.1 h1
    refine List.mem_map.2 ⟨p.1, (freeT_in ts ts p.1).2 ⟨p, hp, ?_, rfl⟩, rfl⟩
    unfold liveT
    simp only [Bool.and_eq_true, decide_eq_true_eq]
    refine ⟨?_, (hsrc _).2 h2⟩
    by_cases h : p.2 < 0
    · exact h
    · exact absurd ((hk p hp).2 h) h3
/-- The told blocks of the statements: which names are marked, and that they differ. -/
theorem told_is (wd : Int) (l : List Og) (i : Nat) (hi : i ≤ l.length) (h12 : i ≤ 1000000) (ts : List (Mq × Int)) (hm : ts.map (fun p => p.1.m) = msO wd l i) (hk : ts.map Prod.snd = mkO l i) :
    (ts.Pairwise (fun a b => a.1.m.id < b.1.m.id)) ∧ ∀ p ∈ ts, p.1.m.id ∈ ksO l i ↔ ¬ p.2 < 0 := by
  have hlen : ts.length = i := by
    have := congrArg List.length hm
    rw [List.length_map, msO_len wd l i hi] at this; exact this
  have mk_get : ∀ j, j ≤ l.length → ∀ k x, k < j → l[k]? = some x → (mkO l j)[k]? = some (if x.md then 3 else -1) := by
    intro j
    induction j with
    | zero => intro _ k x hk; omega
    | succ j ih =>
      intro hj k x hk hx
      have hl : (mkO l j).length = j := by
        have key : ∀ j, j ≤ l.length → (mkO l j).length = j := by
          intro j
          induction j with
          | zero => intro _; rfl
          | succ j ih => intro h; rw [mkO_succ l j _ (List.getElem?_eq_getElem (by omega)), List.length_append, ih (by omega)]; rfl
        exact key j (by omega)
      rw [mkO_succ l j _ (List.getElem?_eq_getElem (by omega))]
      rcases Nat.lt_or_ge k j with h1 | h1
      · rw [List.getElem?_append_left (by omega)]
        exact ih (by omega) k x h1 hx
      · have : k = j := by omega
        subst this
        rw [List.getElem?_append_right (by omega), hl, Nat.sub_self]
        have e : l[k]'(by omega) = x := by
          rw [List.getElem?_eq_getElem (by omega)] at hx
          exact Option.some.inj hx
        rw [e]; rfl
  have each : ∀ k p, ts[k]? = some p → ∃ x, l[k]? = some x ∧ k < i ∧ p.1.m.id = Idn.nam 1 k ∧ p.2 = if x.md then 3 else -1 := by
    intro k p hp
    have hk' : k < i := by rw [← hlen]; exact (List.getElem?_eq_some_iff.1 hp).1
    have hx : l[k]? = some (l[k]'(by omega)) := List.getElem?_eq_getElem (by omega)
    have h1 : (ts.map (fun p => p.1.m))[k]? = some p.1.m := by rw [List.getElem?_map, hp]; rfl
    have h2 : (ts.map Prod.snd)[k]? = some p.2 := by rw [List.getElem?_map, hp]; rfl
    rw [hm, msO_get wd l i hi k _ hk' hx] at h1
    rw [hk, mk_get i hi k _ hk' hx] at h2
    exact ⟨_, hx, hk', by rw [← Option.some.inj h1]; rfl, (Option.some.inj h2).symm⟩
  refine ⟨?_, fun p hp => ?_⟩
  · rw [List.pairwise_iff_getElem]
    intro a b ha hb hab
    obtain ⟨_, _, _, e1, _⟩ := each a _ (List.getElem?_eq_getElem ha)
    obtain ⟨_, _, _, e2, _⟩ := each b _ (List.getElem?_eq_getElem hb)
    rw [e1, e2, Idn.nam_lt 1 a 1 b (by decide) (by omega) (by decide) (by omega)]
    exact .inr ⟨rfl, hab⟩
  · obtain ⟨k, hk2, rfl⟩ := List.getElem_of_mem hp
    obtain ⟨x, hx, hki, e1, e2⟩ := each k _ (List.getElem?_eq_getElem hk2)
    rw [e1, e2]
    unfold ksO
    rw [List.mem_filterMap]
    constructor
    · rintro ⟨j, hj, h⟩
      rw [List.mem_range] at hj
      cases hlj : l[j]? with
      | none => rw [hlj] at h; cases h
      | some y =>
        rw [hlj] at h
        simp only at h
        cases hy : y.md with
        | false => rw [hy] at h; simp at h
        | true =>
          rw [hy] at h
          simp only [if_true, Option.some.injEq] at h
          have : j = k := ((Idn.nam_eq 1 j 1 k (by decide) (by omega) (by decide) (by omega)).1 h).2
          subst this
          rw [hlj] at hx
          rw [← Option.some.inj hx, hy]; decide
    · intro h
      have hmd : x.md = true := by
        cases hx' : x.md with
        | true => rfl
        | false => rw [hx'] at h; exact absurd (by decide) h
      refine ⟨k, List.mem_range.2 hki, ?_⟩
      rw [hx]
      simp [hmd]
/-- What the document marks is what the program marks, in their order. -/
theorem tom_told (K : List (List UInt8)) (qs : List Mq) (ts : List (Mq × Int)) (hm : ts.map (fun p => p.1.m) = qs.map Mq.m) (hk : ∀ p ∈ ts, p.1.m.id ∈ K ↔ ¬ p.2 < 0) : ids (tomQ K qs) = rtomT (restT ts) (restT ts) := by
  have e1 : (unmQ K qs).map Mq.m = (restT ts).map (fun p => p.1.m) := by
    have a1 : (unmQ K qs).map Mq.m = (qs.map Mq.m).filter (fun m => decide (m.id ∉ K)) := by unfold unmQ; rw [List.filter_map]; rfl
    have a2 : (restT ts).map (fun p => p.1.m) = (ts.map (fun p => p.1.m)).filter (fun m => decide (m.id ∉ K)) := by
      unfold restT
      rw [List.filter_map]
      congr 1
      refine List.filter_congr (fun p hp => ?_)
      have := hk p hp
      simp only [Function.comp]
      by_cases h : p.2 < 0
      · simp [h, mt this.1 (by simpa using h)]
      · simp [h, this.2 h]
    rw [a1, a2, hm]
  have e2 : ids (tomQ K qs) = (((unmQ K qs).map Mq.m).filter (fun m => decide (∃ p ∈ (unmQ K qs).map Mq.m, m.id ∈ p.src))).map Mt.Me.id := by
    unfold ids tomQ srcs
    rw [List.filter_map, List.map_map]
    congr 1
    refine List.filter_congr (fun q hq => ?_)
    simp only [Function.comp, List.mem_map, decide_eq_decide]
    constructor
    · rintro ⟨p, hp, h⟩; exact ⟨_, ⟨p, hp, rfl⟩, h⟩
    · rintro ⟨_, ⟨p, hp, rfl⟩, h⟩; exact ⟨p, hp, h⟩
  have e3 : rtomT (restT ts) (restT ts) = (((restT ts).map (fun p => p.1.m)).filter (fun m => decide (∃ p ∈ (restT ts).map (fun p => p.1.m), m.id ∈ p.src))).map Mt.Me.id := by
    unfold rtomT idT
    rw [List.filter_map, List.map_map]
    congr 1
    refine List.filter_congr (fun q hq => ?_)
    have := madeN_zero q.1.m.id (restT ts)
    simp only [Function.comp, List.mem_map, decide_eq_decide]
    constructor
    · intro h
      have h1 : ¬ ¬ ∃ p ∈ restT ts, q.1.m.id ∈ p.1.m.src := fun h2 => by rw [this.2 h2] at h; omega
      obtain ⟨p, hp, hx⟩ := Classical.not_not.1 h1
      exact ⟨_, ⟨p, hp, rfl⟩, hx⟩
    · rintro ⟨_, ⟨p, hp, rfl⟩, hx⟩
      have h1 : madeN q.1.m.id (restT ts) ≠ 0 := fun e => this.1 e ⟨p, hp, hx⟩
      omega
  rw [e2, e3, e1]
end Go.Proofs.Ytkialkjhjenkhaa

namespace Go.Proofs.Ytkialkjhjenkhaa
open Go.RowKit Go.Lib
set_option linter.unusedVariables false

/-- As the document counts: what isn't of the range is passed over. -/
def tryG (wd r0 : Int) : List Mq → Tot → List Mq → List Mq
  | [], _, acc => acc
  | q :: r, t, acc => if q.m.mn / wd ≠ r0 ∨ (r0 + 1) * wd < q.m.mx then tryG wd r0 r t acc else if (t.with q.m).fits then tryG wd r0 r (t.with q.m) (acc ++ [q]) else acc
theorem tryG_skip (wd r0 : Int) : ∀ (l : List Mq) (t : Tot) (acc : List Mq), (∀ q ∈ l, q.m.mn / wd ≠ r0) → tryG wd r0 l t acc = acc
  | [], _, _, _ => rfl
  | q :: r, t, acc, h => by
    unfold tryG
    rw [if_pos (.inl (h q (List.mem_cons_self ..)))]
    exact tryG_skip wd r0 r t acc (fun x hx => h x (List.mem_cons_of_mem _ hx))
theorem in_range (wd r0 x : Int) (hw : 0 < wd) (h : r0 * wd ≤ x) : x / wd = r0 ↔ x - r0 * wd < wd := by
  constructor
  · intro e
    have h1 := Int.lt_ediv_add_one_mul_self x hw
    rw [e, Int.add_mul, Int.one_mul] at h1
    omega
  · intro e
    apply Int.le_antisymm
    · exact Int.lt_add_one_iff.1 (Int.ediv_lt_of_lt_mul hw (by rw [Int.add_mul, Int.one_mul]; omega))
    · exact Int.le_ediv_of_mul_le hw h
/-- The document's plan of a block is the program's. -/
theorem try_first (wd r0 : Int) (hw : 0 < wd) : ∀ (l : List Mq) (t : Tot) (acc : List Mq), (l.map Mq.m).Pairwise ltM → (∀ q ∈ l, r0 * wd ≤ q.m.mn) → tryG wd r0 l t acc = fstG wd (r0 * wd) l t acc
  | [], _, _, _, _ => rfl
  | q :: r, t, acc, hs, hl => by
    have hq := hl q (List.mem_cons_self ..)
    rw [List.map_cons, List.pairwise_cons] at hs
    have hr : ∀ x ∈ r, r0 * wd ≤ x.m.mn := fun x hx => hl x (List.mem_cons_of_mem _ hx)
    have hin := in_range wd r0 q.m.mn hw hq
    have hmx : (r0 + 1) * wd < q.m.mx ↔ wd < q.m.mx - r0 * wd := by rw [Int.add_mul, Int.one_mul]; omega
    unfold tryG fstG
    by_cases h1 : wd ≤ q.m.mn - r0 * wd
    · have hne : q.m.mn / wd ≠ r0 := fun e => by have := hin.1 e; omega
      rw [if_pos h1, if_pos (.inl hne)]
      refine tryG_skip wd r0 r t acc (fun x hx e => ?_)
      have h2 := (in_range wd r0 x.m.mn hw (hr x hx)).1 e
      rcases hs.1 x.m (List.mem_map_of_mem hx) with h3 | h3 <;> omega
    · have he : q.m.mn / wd = r0 := hin.2 (by omega)
      rw [if_neg h1]
      by_cases h2 : wd < q.m.mx - r0 * wd
      · rw [if_pos h2, if_pos (.inr (hmx.2 h2))]
        exact try_first wd r0 hw r t acc hs.2 hr
      · rw [if_neg h2, if_neg (fun h => h.elim (fun h => h he) (fun h => h2 (hmx.1 h)))]
        split
        · exact try_first wd r0 hw r _ _ hs.2 hr
        · rfl
/-- The document's plan of the first of some free blocks. -/
def tryQ (wd : Int) (l : List Mq) : List Mq := match l with
  | [] => []
  | q :: r => tryG wd (q.m.mn / wd) (q :: r) ⟨0, 0, 0, 0⟩ []
theorem tryQ_is (wd : Int) (hw : 0 < wd) (l : List Mq) (hs : (l.map Mq.m).Pairwise ltM) (h0 : ∀ q ∈ l, 0 ≤ q.m.mn) : tryQ wd l = fstQ wd l := by
  cases l with
  | nil => rfl
  | cons q r =>
    unfold tryQ fstQ
    simp only
    have hfrm : frmOf wd q.m.mn = q.m.mn / wd * wd := by
      unfold frmOf
      have := Int.emod_add_mul_ediv q.m.mn wd
      rw [Int.mul_comm] at this
      omega
    rw [hfrm]
    refine try_first wd _ hw (q :: r) _ _ hs (fun x hx => ?_)
    have h1 : q.m.mn / wd * wd ≤ q.m.mn := Int.ediv_mul_le _ (by omega)
    rcases List.mem_cons.1 hx with rfl | hx
    · exact h1
    · rw [List.map_cons, List.pairwise_cons] at hs
      rcases hs.1 x.m (List.mem_map_of_mem hx) with h3 | h3 <;> omega
end Go.Proofs.Ytkialkjhjenkhaa
