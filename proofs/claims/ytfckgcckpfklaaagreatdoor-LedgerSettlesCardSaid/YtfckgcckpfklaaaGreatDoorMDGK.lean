/- Layer 25: what settles, in plain words. Layer 25: what the statement LedgerSettles stores, in memory. The statement LedgerSettles, walked. -/
import Derived.Test.YtfckgcckpfklaaaGreatDoorMDGI
namespace Go.Proofs.YtfckgcckpfklaaaGreatDoor
open Go.RowKit Go.Lib Hp
set_option linter.unusedVariables false

theorem lookP_mem2 {ls : List Pr} {a : Int} {s : Sp} : ∀ {ps : List (List Pr × Sp)}, lookP ps ls a = some s → (ls, s) ∈ ps ∧ s.t = a
  | [], h => by cases h
  | p :: ps, h => by
    rw [lookP] at h
    split at h
    · rename_i e
      have : p.2 = s := by simpa using h
      subst this
      obtain ⟨rfl, rfl⟩ := e
      exact ⟨by simp, rfl⟩
    · obtain ⟨h1, h2⟩ := lookP_mem2 (by simpa using h)
      exact ⟨by simp [h1], h2⟩
theorem lookP_of {ls : List Pr} {s : Sp} : ∀ {ps : List (List Pr × Sp)}, (ls, s) ∈ ps → (∀ p ∈ ps, p.1 = ls → p.2.t = s.t → p.2 = s) → lookP ps ls s.t = some s
  | [], h, _ => by cases h
  | p :: ps, h, hu => by
    rw [lookP]
    by_cases e : p.1 = ls ∧ p.2.t = s.t
    · rw [if_pos e, hu p (by simp) e.1 e.2]; rfl
    · rw [if_neg e]
      rcases List.mem_cons.1 h with rfl | h
      · exact absurd ⟨rfl, rfl⟩ e
      · simpa using lookP_of h fun q hq => hu q (by simp [hq])
/-- Points of rising times from 1001 on. -/
def rt : Nat → List (List Pr × Sp) → List (List Pr × Sp)
  | _, [] => []
  | k, p :: l => (p.1, ⟨1001 + k, p.2.v⟩) :: rt (k + 1) l
theorem rt_len : ∀ (l : List (List Pr × Sp)) (k : Nat), (rt k l).length = l.length
  | [], _ => rfl
  | p :: l, k => by simp [rt, rt_len l]
theorem rt_at : ∀ (l : List (List Pr × Sp)) (k i : Nat) (p : List Pr × Sp), l[i]? = some p → (rt k l)[i]? = some (p.1, ⟨1001 + (k + i : Nat), p.2.v⟩)
  | [], k, i, p, h => by simp at h
  | x :: l, k, 0, p, h => by
    simp only [List.getElem?_cons_zero, Option.some.injEq] at h
    subst h
    simp [rt]
  | x :: l, k, i + 1, p, h => by
    have := rt_at l (k + 1) i p (by simpa using h)
    simp only [rt, List.getElem?_cons_succ]
    rw [this, show k + 1 + i = k + (i + 1) by omega]
theorem rt_t {l : List (List Pr × Sp)} {i : Nat} {p : List Pr × Sp} (h : (rt 0 l)[i]? = some p) : p.2.t = 1001 + i := by
  have hi : i < l.length := by have := (List.getElem?_eq_some_iff.1 h).1; rw [rt_len] at this; exact this
  have := rt_at l 0 i l[i] (List.getElem?_eq_getElem hi)
  rw [h] at this
  have e := Option.some.inj this
  rw [e]
  simp
theorem rt_uniq {l : List (List Pr × Sp)} {p q : List Pr × Sp} (hp : p ∈ rt 0 l) (hq : q ∈ rt 0 l) (e : p.2.t = q.2.t) : p = q := by
  obtain ⟨i, hi⟩ := List.getElem?_of_mem hp
  obtain ⟨j, hj⟩ := List.getElem?_of_mem hq
  have h1 := rt_t hi
  have h2 := rt_t hj
  have : i = j := by omega
  subst this
  rw [hi] at hj
  exact Option.some.inj hj
theorem look_take {l : List (List Pr × Sp)} {k : Nat} {p : List Pr × Sp} (hp : p ∈ (rt 0 l).take k) : lookP ((rt 0 l).take k) p.1 p.2.t = some p.2 :=
  lookP_of hp fun q hq _ e => by rw [rt_uniq (List.mem_of_mem_take hq) (List.mem_of_mem_take hp) e]
theorem look_all {l : List (List Pr × Sp)} {p : List Pr × Sp} (hp : p ∈ rt 0 l) : lookP (rt 0 l) p.1 p.2.t = some p.2 :=
  lookP_of hp fun q hq _ e => by rw [rt_uniq hq hp e]

section
variable {P0 P1 : List (List Pr × Sp)} (hP : ∀ p ∈ P0, p.2.t < 1000)
def nowK (P0 P1 : List (List Pr × Sp)) (k : Nat) : List Rw := addF [] (P0 ++ (rt 0 P1).take k)
theorem now_look (k : Nat) (ls : List Pr) (a : Int) : lookT (nowK P0 P1 k) ls a = (lookP P0 ls a).or (lookP ((rt 0 P1).take k) ls a) := by
  unfold nowK
  rw [(addF_nil _).2.2, lookP_append]
theorem now_up (k : Nat) : UpT (nowK P0 P1 k) ∧ ∀ r ∈ nowK P0 P1 k, r.ss ≠ [] := ⟨(addF_nil _).1, (addF_nil _).2.1⟩
theorem may_is : addF (addF [] P0) (rt 0 P1) = addF [] (P0 ++ rt 0 P1) := by unfold addF; rw [List.foldl_append]
theorem may_look (ls : List Pr) (a : Int) : lookT (addF (addF [] P0) (rt 0 P1)) ls a = (lookP P0 ls a).or (lookP (rt 0 P1) ls a) := by
  rw [may_is, (addF_nil _).2.2, lookP_append]
theorem sure_now (k : Nat) : WithinP (addF [] P0) (nowK P0 P1 k) := within_of (addF_nil P0).1 fun ls a s hs => by
  rw [(addF_nil P0).2.2] at hs
  rw [now_look, hs]; rfl
theorem now_may (k : Nat) : WithinP (nowK P0 P1 k) (addF (addF [] P0) (rt 0 P1)) := within_of (now_up k).1 fun ls a s hs => by
  rw [now_look] at hs
  rw [may_look]
  cases h : lookP P0 ls a with
  | some s' => rw [h] at hs; exact hs
  | none =>
    rw [h] at hs
    have hs' : lookP ((rt 0 P1).take k) ls a = some s := by simpa using hs
    obtain ⟨h1, rfl⟩ := lookP_mem2 hs'
    have := look_all (List.mem_of_mem_take h1)
    simpa using this
include hP in
theorem p0_far (ls : List Pr) {a : Int} (h : 1000 ≤ a) : lookP P0 ls a = none := by
  cases e : lookP P0 ls a with
  | none => rfl
  | some s =>
    obtain ⟨h1, h2⟩ := lookP_mem2 e
    have := hP _ h1
    simp only at this
    omega
include hP in
theorem first_now (k : Nat) {ps : List Pq} (h : pts ps = rt 0 P1) : FirstP (nowK P0 P1 k) ps := fun i j p q hij hp hq e hin => by
  have hp' : (rt 0 P1)[i]? = some (p.ls, p.s) := by rw [← h]; unfold pts; rw [List.getElem?_map, hp]; rfl
  have hq' : (rt 0 P1)[j]? = some (q.ls, q.s) := by rw [← h]; unfold pts; rw [List.getElem?_map, hq]; rfl
  have tp := rt_t hp'
  have tq := rt_t hq'
  simp only at tp tq
  unfold InT at hin ⊢
  rw [now_look, p0_far hP _ (by omega)] at hin ⊢
  have hin' : lookP ((rt 0 P1).take k) q.ls q.s.t = some q.s := by simpa using hin
  obtain ⟨hm, _⟩ := lookP_mem2 hin'
  obtain ⟨j', hj'⟩ := List.getElem?_of_mem hm
  have hj'k : j' < k := by have := (List.getElem?_eq_some_iff.1 hj').1; rw [List.length_take] at this; omega
  rw [List.getElem?_take, if_pos hj'k] at hj'
  have tq' := rt_t hj'
  simp only at tq'
  have hik : i < k := by omega
  have hpm : (p.ls, p.s) ∈ (rt 0 P1).take k := List.mem_of_getElem? (i := i) (by rw [List.getElem?_take, if_pos hik]; exact hp')
  have := look_take hpm
  simpa using this
include hP in
theorem set_now (k : Nat) {ps : List Pq} (h : pts ps = rt 0 P1) : SetP (addF [] P0) ps (nowK P0 P1 k) := ⟨sure_now k, by rw [h]; exact now_may k, first_now hP k h⟩
/-- Without the first sample of a series. -/
def lessF (m : List Pr) (r : Rw) : Rw := if r.ls = m then ⟨r.ls, r.ss.tail⟩ else r
theorem lessF_ls (m : List Pr) (r : Rw) : (lessF m r).ls = r.ls := by unfold lessF; split <;> rfl
theorem less_up (m : List Pr) {l : List Rw} (h : UpT l) : UpT (l.map (lessF m)) := by
  refine ⟨?_, fun r hr => ?_⟩
  · rw [List.pairwise_map]
    exact h.1.imp fun h => by rw [lessF_ls, lessF_ls]; exact h
  · obtain ⟨x, hx, rfl⟩ := List.mem_map.1 hr
    unfold lessF
    split
    · exact List.Pairwise.sublist (List.tail_sublist _) (h.2 x hx)
    · exact h.2 x hx
include hP in
theorem less_no (k : Nat) {r0 : Rw} {S' : List Rw} (hS : addF [] P0 = r0 :: S') : ¬ WithinP (addF [] P0) ((nowK P0 P1 k).map (lessF r0.ls)) := fun hW => by
  obtain ⟨us, ns, ls0⟩ := addF_nil P0
  have hr0 : r0 ∈ addF [] P0 := by rw [hS]; simp
  obtain ⟨s0, tl, hss⟩ : ∃ s0 tl, r0.ss = s0 :: tl := by
    cases h : r0.ss with
    | nil => exact absurd h (ns r0 hr0)
    | cons a b => exact ⟨a, b, rfl⟩
  have hs0 : s0 ∈ r0.ss := by rw [hss]; simp
  have h1 := hW r0 hr0 s0 hs0
  obtain ⟨r, hr, hrl, hsr, _⟩ := lookT_mem h1
  obtain ⟨x, hx, rfl⟩ := List.mem_map.1 hr
  rw [lessF_ls] at hrl
  have htail : s0 ∈ x.ss.tail := by unfold lessF at hsr; rw [if_pos hrl] at hsr; exact hsr
  obtain ⟨un, nn⟩ := now_up (P0 := P0) (P1 := P1) k
  obtain ⟨hd, tl2, hxs⟩ : ∃ hd tl2, x.ss = hd :: tl2 := by
    cases h : x.ss with
    | nil => exact absurd h (nn x hx)
    | cons a b => exact ⟨a, b, rfl⟩
  rw [hxs] at htail
  have htail' : s0 ∈ tl2 := htail
  have ux := un.2 x hx
  rw [hxs] at ux
  have hlt := (List.pairwise_cons.1 ux).1 s0 htail'
  have hln := lookT_of un hx (s := hd) (by rw [hxs]; simp)
  rw [hrl, now_look] at hln
  have hs0P : s0.t < 1000 := by
    have := lookT_of us hr0 hs0
    rw [ls0] at this
    have := hP _ (lookP_mem2 this).1
    exact this
  cases h : lookP P0 r0.ls hd.t with
  | none =>
    rw [h] at hln
    have h2 : lookP ((rt 0 P1).take k) r0.ls hd.t = some hd := by simpa using hln
    obtain ⟨hm, _⟩ := lookP_mem2 h2
    obtain ⟨j, hj⟩ := List.getElem?_of_mem (List.mem_of_mem_take hm)
    have := rt_t hj
    simp only at this
    omega
  | some y =>
    rw [h] at hln
    have : y = hd := by simpa using hln
    subst this
    rw [← ls0] at h
    obtain ⟨r', hr', hrl', hmem, _⟩ := lookT_mem h
    have h5 := lookT_of us hr0 (s := s0) hs0
    -- the row of these labels is one
    have hone : r' = r0 := by
      rw [hS] at hr' us
      rcases List.mem_cons.1 hr' with e | hr'
      · exact e
      · exact absurd hrl'.symm (cmp_ne (by have := (List.pairwise_cons.1 us.1).1 r' hr'; omega))
    subst hone
    rw [hss] at hmem
    have u0 := us.2 r' hr0
    rw [hss] at u0
    rcases List.mem_cons.1 hmem with rfl | hm
    · omega
    · have := (List.pairwise_cons.1 u0).1 y hm; omega
end
end Go.Proofs.YtfckgcckpfklaaaGreatDoor

namespace Go.Proofs.YtfckgcckpfklaaaGreatDoor
open Go.RowKit Go.Lib Hp
set_option linter.unusedVariables false

theorem pqc_set : ∀ (l : List Pq) (i : Nat) (q : Pq) (t : Int), l[i]? = some q → pqc (l.set i ⟨q.a, q.ls, ⟨t, q.s.v⟩⟩) = (pqc l).set (i * 3 + 1) (.int .i64 t)
  | [], i, q, t, h => by simp at h
  | x :: l, 0, q, t, h => by
    simp only [List.getElem?_cons_zero, Option.some.injEq] at h
    subst h
    rfl
  | x :: l, i + 1, q, t, h => by
    have ih := pqc_set l i q t (by simpa using h)
    show [x.a, Value.int .i64 x.s.t, .int .u64 x.s.v] ++ pqc (l.set i ⟨q.a, q.ls, ⟨t, q.s.v⟩⟩) = ([x.a, Value.int .i64 x.s.t, .int .u64 x.s.v] ++ pqc l).set ((i + 1) * 3 + 1) (.int .i64 t)
    rw [ih, show (i + 1) * 3 + 1 = i * 3 + 1 + 1 + 1 + 1 by omega]; rfl
/-- A point's time is stored anew. -/
theorem OpN.setT {w : World} {B g off n cap i : Nat} {qs : List Pq} {q : Pq} (h : OpN w B (.slice (some ⟨g, off, none⟩) n cap) qs) (hn : n = qs.length) (hq : qs[i]? = some q) (t : Int) :
    OpN (w.setCell ⟨g, off + (i * 3 + 1), none⟩ (.int .i64 t)) B (.slice (some ⟨g, off, none⟩) n cap) (qs.set i ⟨q.a, q.ls, ⟨t, q.s.v⟩⟩) := by
  subst hn
  refine ⟨?_, fun p hp => ?_⟩
  · rw [List.length_set, pqc_set qs i q t hq]
    exact sl_setG h.sl _ _
  · have key : ∀ p ∈ qs, Rd (w.setCell ⟨g, off + (i * 3 + 1), none⟩ (.int .i64 t)) 2 p.a p.ls.length (prc p.ls) ∧ p.ls.length ≤ 1000 ∧ (∀ k, p.a.ownBlock = some k → B ≤ k) ∧ Off p.a p.ls.length (.slice (some ⟨g, off, none⟩) qs.length cap) := fun p hp => by
      obtain ⟨k1, k2, k3, k4⟩ := h.ok p hp
      exact ⟨k1.setOff _ _ _ fun hn e => k4 hn g e rfl, k2, k3, k4⟩
    rcases List.mem_or_eq_of_mem_set hp with hp | rfl
    · exact key p hp
    · exact key q (List.mem_of_getElem? hq)
theorem pts_set (qs : List Pq) (i : Nat) (q : Pq) : pts (qs.set i q) = (pts qs).set i (q.ls, q.s) := by unfold pts; rw [List.map_set]
theorem rt_step {P : List (List Pr × Sp)} {i : Nat} {p : List Pr × Sp} (hp : P[i]? = some p) : ((rt 0 P).take i ++ P.drop i).set i (p.1, ⟨1001 + (i : Nat), p.2.v⟩) = (rt 0 P).take (i + 1) ++ P.drop (i + 1) := by
  obtain ⟨hi, e⟩ := List.getElem?_eq_some_iff.1 hp
  have hl : ((rt 0 P).take i).length = i := by rw [List.length_take, rt_len]; omega
  rw [List.set_append_right _ _ (by omega), hl, Nat.sub_self, List.drop_eq_getElem_cons hi, List.set_cons_zero, List.take_add_one, rt_at P 0 i p hp, Nat.zero_add]
  simp
theorem rt_full (P : List (List Pr × Sp)) : (rt 0 P).take P.length ++ P.drop P.length = rt 0 P := by
  rw [List.take_of_length_le (by rw [rt_len]; exact Nat.le_refl _), List.drop_length, List.append_nil]
theorem run_head25 (a : Option Addr) (n m cap : Nat) (hm : m ≤ n) (hn : n ≤ cap) (W : World) : (Instr.slice 25 (.slice a n cap) none (some (.int .i64 (m : Int))) none).run Tryz.prog W = .ok (.slice a m cap) W := by
  have hu := run_underlying Tryz.underlying25
  have hz := Tryz.sizeOf38
  have h1 : (m : Int) ≤ cap := by omega
  cases a with
  | none => simp [Instr.slice, Instr.sliceBounds, go_sem, hu, hz, Addr.add, h1]
  | some x => simp [Instr.slice, Instr.sliceBounds, go_sem, hu, hz, Addr.add, h1]
/-- A table of one row of one sample, laid. -/
theorem TabC.one {w : World} {K : Nat} {x : Value} {ls : List Pr} {s : Sp} {g g2 : Nat} (hK : 1 ≤ K) (hx : Rd w 2 x ls.length (prc ls)) (hl : ls.length ≤ 1000) (h1 : w.heap[g]? = some (.cells #[.int .i64 s.t, .int .u64 s.v] 34)) (h2 : w.heap[g2]? = some (.cells #[x, .slice (some ⟨g, 0, none⟩) 1 1] 43)) :
    TabC w K (.slice (some ⟨g2, 0, none⟩) 1 1) [⟨ls, [s]⟩] := by
  have h := TabR.one hx hl h1 h2
  refine ⟨⟨by simp, _, 1, rfl, Nat.le_refl _⟩, [⟨x, .slice (some ⟨g, 0, none⟩) 1 1, ls, [s]⟩], rfl, ⟨rfl, _, 1, g2, 0, rfl, fun _ => ⟨rfl, (Array.getElem?_eq_some_iff.1 h2).1⟩, fun j hj => ?_⟩, fun q hq => ?_⟩
  · rw [Nat.zero_add]
    refine (Lib.cell_of_heap h2 j).trans ?_
    simp [rqc]
  · rw [List.mem_singleton] at hq
    subst hq
    refine ⟨⟨hx, ⟨rfl, _, 1, g, 0, rfl, fun _ => ⟨rfl, (Array.getElem?_eq_some_iff.1 h1).1⟩, fun j hj => ?_⟩, hl, hK⟩, _, 1, rfl, Nat.le_refl _⟩
    rw [Nat.zero_add]
    refine (Lib.cell_of_heap h1 j).trans ?_
    simp [spc]
theorem addF_onlyone (ls : List Pr) (s : Sp) : addF [] [(ls, s)] = [⟨ls, [s]⟩] := by
  have := addT_ins [] ls s upT_nil
  simp only [addF, List.foldl_cons, List.foldl_nil]
  rw [this]
  rfl
/-- A row's samples without the first one, in the same memory. -/
theorem Rd.tailS {w : World} {a : Option Addr} {n c c' : Nat} {g off : Nat} {s : Sp} {l : List Sp} (h : Rd w 2 (.slice (some ⟨g, off, none⟩) n c) n (spc (s :: l))) (hn : n = l.length + 1) (ha : 0 < l.length → a = some ⟨g, off + 2, none⟩) : Rd w 2 (.slice a l.length c') l.length (spc l) := by
  obtain ⟨hl, a0, c0, g0, o0, e, hg, hc⟩ := h
  obtain ⟨r1, _, _⟩ := Value.slice.inj e
  subst r1
  obtain ⟨e1, hlt⟩ := hg (by omega)
  cases e1
  refine ⟨spc_len l, a, c', g, off + 2, rfl, fun hp => ⟨ha hp, hlt⟩, fun j hj => ?_⟩
  rw [Nat.add_assoc, hc (2 + j) (by omega)]
  show ([Value.int .i64 s.t, .int .u64 s.v] ++ spc l)[2 + j]? = _
  rw [List.getElem?_append_right (by simp)]
  congr 1
  simp only [List.length_cons, List.length_nil]
  omega
theorem run_tail1 (g off n cap : Nat) (h1 : 1 ≤ n) (hn : n ≤ cap) (W : World) : ∃ a, (Instr.slice 41 (.slice (some ⟨g, off, none⟩) n cap) (some (.int .i64 1)) none none).run Tryz.prog W = .ok (.slice a (n - 1) (cap - 1)) W ∧ (0 < n - 1 → a = some ⟨g, off + 2, none⟩) := by
  have hu := run_underlying Tryz.underlying41
  have hz := Tryz.sizeOf34
  by_cases hc : cap = 1
  · subst hc
    obtain rfl : n = 1 := by omega
    refine ⟨some ⟨g, off, none⟩, ?_, fun h => by omega⟩
    · simp [Instr.slice, Instr.sliceBounds, go_sem, hu, hz, Addr.add]
  · refine ⟨some ⟨g, off + 2, none⟩, ?_, fun _ => rfl⟩
    have h3 : (1 : Int) ≤ n := by omega
    simp [Instr.slice, Instr.sliceBounds, go_sem, hu, hz, Addr.add, hc, h3]
    all_goals omega

theorem Rd.turnB {w w' : World} {b size n : Nat} {v : Value} {xs : List Value} (h : Rd w size v n xs) (t : Turn (fun k => k = b) w w') (hb : 0 < n → v.ownBlock ≠ some b) : Rd w' size v n xs := by
  obtain ⟨hl, a, cap, g, off, rfl, h1, h2⟩ := h
  refine ⟨hl, a, cap, g, off, rfl, fun hn => ⟨(h1 hn).1, Nat.lt_of_lt_of_le (h1 hn).2 t.size⟩, fun j hj => ?_⟩
  by_cases hn : 0 < n
  · obtain ⟨rfl, hlt⟩ := h1 hn
    rw [← h2 j hj]
    exact t.cell (p := ⟨g, off + j, none⟩) hlt fun e => hb hn (congrArg some e)
  · have : n = 0 := by omega
    subst this
    rw [Nat.zero_mul] at hj
    exact absurd hj (Nat.not_lt_zero _)
/-- A table isn't in a ledger's own block: its cells say. -/
theorem TabC.turnB {w w' : World} {b B K K' : Nat} {v : Value} {R S : List Rw} {ps : List Pq} (h : TabC w K v R) (L : Led w b B K' S ps) (ns : ∀ r ∈ R, r.ss ≠ []) (t : Turn (fun k => k = b) w w') : TabR w' K v R := by
  obtain ⟨⟨h0, _⟩, qs, h1, h2, h3⟩ := h
  obtain ⟨sv, ov, hb, hF, hP⟩ := L.ex
  obtain ⟨sa, sn, sc, rfl⟩ : ∃ a n c, sv = .slice a n c := by
    obtain ⟨a, c, e, _⟩ := hF.1.2.1
    exact ⟨_, _, _, e⟩
  obtain ⟨oa, oc, rfl⟩ : ∃ a c, ov = .slice a ps.length c := hP.1.1.slice
  have cells : ∀ j u, w.cell? ⟨b, j, none⟩ = some u → (∃ a n c, u = .slice a n c) ∧ j < 2 := fun j u hu => by
    have h5 := (Lib.cell_of_heap hb j).symm.trans hu
    match j, h5 with
    | 0, h5 => exact ⟨⟨_, _, _, (Option.some.inj h5).symm⟩, by omega⟩
    | 1, h5 => exact ⟨⟨_, _, _, (Option.some.inj h5).symm⟩, by omega⟩
    | j + 2, h5 => simp at h5
  have own : ∀ {size n : Nat} {x : Value} {xs : List Value}, Rd w size x n xs → 0 < n → 0 < size → x.ownBlock = some b → ∃ off u, xs[0]? = some u ∧ w.cell? ⟨b, off, none⟩ = some u ∧ x = .slice (some ⟨b, off, none⟩) n (match x with | .slice _ _ c => c | _ => 0) := fun {size n x xs} hr hn hs hx => by
    obtain ⟨hl, a, c, g, off, rfl, hg, hc⟩ := hr
    obtain ⟨rfl, hlt⟩ := hg hn
    have : g = b := Option.some.inj hx
    subst this
    have hpos : 0 < n * size := Nat.mul_pos hn hs
    have h6 := hc 0 hpos
    have h7 : xs[0]? = some xs[0] := List.getElem?_eq_getElem (by omega)
    rw [h7] at h6
    exact ⟨off, xs[0], h7, h6, rfl⟩
  have na : ∀ q ∈ qs, 0 < q.r.ls.length → q.a.ownBlock ≠ some b := fun q hq hn hx => by
    obtain ⟨off, u, hu, hc, _⟩ := own (h3 q hq).1.l hn (by decide) hx
    obtain ⟨⟨a, n, c, rfl⟩, _⟩ := cells off u hc
    cases hls : q.r.ls with
    | nil => rw [hls] at hn; simp at hn
    | cons p l =>
      rw [hls] at hu
      have hu' : some (Value.string (bs p.n)) = some (Value.slice a n c) := hu
      cases hu'
  have nb : ∀ q ∈ qs, 0 < q.r.ss.length → q.b.ownBlock ≠ some b := fun q hq hn hx => by
    obtain ⟨off, u, hu, hc, _⟩ := own (h3 q hq).1.s hn (by decide) hx
    obtain ⟨⟨a, n, c, rfl⟩, _⟩ := cells off u hc
    cases hss : q.r.ss with
    | nil => rw [hss] at hn; simp at hn
    | cons p l => rw [hss] at hu; simp [spc] at hu
  have nv : 0 < R.length → v.ownBlock ≠ some b := fun hn hx => by
    obtain ⟨hl, a, c, g, off, rfl, hg, hc⟩ := h2
    obtain ⟨rfl, hlt⟩ := hg hn
    have : g = b := Option.some.inj hx
    subst this
    have hqn : 0 < qs.length := by rw [← h1, List.length_map] at hn; exact hn
    obtain ⟨q0, hq0⟩ : ∃ q, qs[0]? = some q := ⟨qs[0], List.getElem?_eq_getElem hqn⟩
    obtain ⟨r0, r1⟩ := rqc_at qs 0 q0 hq0
    have c1 := (hc 1 (by omega)).trans r1
    obtain ⟨_, hlt2⟩ := cells _ _ c1
    have hoff : off = 0 := by omega
    subst hoff
    have e1 : q0.b = .slice oa ps.length oc := by
      have h5 := (Lib.cell_of_heap hb 1).symm.trans (by simpa using c1)
      exact (Option.some.inj h5).symm
    have hm := List.mem_of_getElem? hq0
    have hne : q0.r.ss ≠ [] := ns q0.r (by rw [← h1]; exact List.mem_map.2 ⟨q0, hm, rfl⟩)
    obtain ⟨s0, tl, hss⟩ : ∃ s0 tl, q0.r.ss = s0 :: tl := by
      cases h : q0.r.ss with
      | nil => exact absurd h hne
      | cons a b => exact ⟨a, b, rfl⟩
    obtain ⟨_, a2, c2, g2, o2, e2, hg2, hc2⟩ := (h3 q0 hm).1.s
    rw [e1] at e2
    obtain ⟨r1', r2', _⟩ := Value.slice.inj e2
    obtain ⟨_, a3, c3, g3, o3, e3, hg3, hc3⟩ := hP.1.1
    obtain ⟨r3', _, _⟩ := Value.slice.inj e3
    have hpos : 0 < ps.length := by rw [r2', hss]; simp
    have h8 := (hg2 (by omega)).1
    have h9 := (hg3 hpos).1
    rw [← r1', r3', h9] at h8
    cases h8
    have x2 := hc2 0 (by omega)
    have x3 := hc3 0 (by omega)
    rw [x2] at x3
    obtain ⟨p0, hp0⟩ : ∃ p, ps[0]? = some p := ⟨ps[0], List.getElem?_eq_getElem hpos⟩
    rw [show (pqc ps)[0]? = some p0.a from (pqc_at ps 0 p0 hp0).1, hss] at x3
    obtain ⟨pa, pc, pe⟩ := (hP.1.2 p0 (List.mem_of_getElem? hp0)).1.slice
    rw [pe] at x3
    simp [spc] at x3
  exact ⟨h0, qs, h1, h2.turnB t nv, fun q hq => ⟨(h3 q hq).1.l.turnB t (na q hq), (h3 q hq).1.s.turnB t (nb q hq), (h3 q hq).1.hl, (h3 q hq).1.hs⟩⟩

theorem map_step {α : Type} (f : α → α) {R : List α} {j : Nat} {r : α} (hr : R[j]? = some r) : ((R.take j).map f ++ R.drop j).set j (f r) = (R.take (j + 1)).map f ++ R.drop (j + 1) := by
  obtain ⟨hj, e⟩ := List.getElem?_eq_some_iff.1 hr
  have hl : ((R.take j).map f).length = j := by rw [List.length_map, List.length_take]; omega
  rw [List.set_append_right _ _ (by omega), hl, Nat.sub_self, List.drop_eq_getElem_cons hj, List.set_cons_zero, List.take_add_one, hr]
  simp
/-- A row's samples are replaced by those without the first one. -/
theorem TabN.tail {w : World} {base K g off n cap i : Nat} {v6 : Value} {qs : List Rq} {q : Rq} {s : Sp} {l : List Sp} (h : TabN w base K (.slice (some ⟨g, off, none⟩) n cap) qs) (hn : n = qs.length) (hq : qs[i]? = some q) (hss : q.r.ss = s :: l)
    (h6 : Rd w 2 v6 l.length (spc l)) (ho : 0 < l.length → v6.ownBlock = q.b.ownBlock) :
    TabN (w.setCell ⟨g, off + (i * 2 + 1), none⟩ v6) base K (.slice (some ⟨g, off, none⟩) n cap) (qs.set i ⟨q.a, v6, ⟨q.r.ls, l⟩⟩) := by
  subst hn
  refine ⟨?_, fun p hp => ?_⟩
  · rw [List.length_set, rqc_set qs i q ⟨q.a, v6, ⟨q.r.ls, l⟩⟩ hq rfl]
    exact sl_setG h.sl _ _
  · rcases List.mem_or_eq_of_mem_set hp with hp | rfl
    · obtain ⟨ok, o1, o2⟩ := h.ok p hp
      exact ⟨⟨ok.l.setOff _ _ _ (fun hn e => o1 hn g e rfl), ok.s.setOff _ _ _ (fun hn e => o2 hn g e rfl), ok.hl, ok.hs⟩, o1, o2⟩
    · obtain ⟨ok, o1, o2⟩ := h.ok q (List.mem_of_getElem? hq)
      have hlen : q.r.ss.length = l.length + 1 := by rw [hss]; rfl
      refine ⟨⟨ok.l.setOff _ _ _ (fun hn e => o1 hn g e rfl), h6.setOff _ _ _ (fun hn e => o2 (by omega) g ((ho hn).symm.trans e) rfl), ok.hl, ?_⟩, o1, ?_⟩
      · have := ok.hs
        show l.length ≤ K
        omega
      · intro hn k hk e
        exact o2 (by omega) k ((ho hn).symm.trans hk) e
end Go.Proofs.YtfckgcckpfklaaaGreatDoor

namespace Go.Proofs.YtfckgcckpfklaaaGreatDoor
open Go.RowKit Go.Lib Hp
set_option linter.unusedVariables false

set_option maxHeartbeats 16000000 in
set_option maxRecDepth 100000 in
theorem lsettles_any (a0 : Option Addr) (len0 cap0 : Nat) (a1 : Option Addr) (len1 cap1 : Nat) (z0 z1 : List On) (N0 : Int) (w : World) (h0 : OnR w a0 len0 z0) (h1 : OnR w a1 len1 z1) :
    Calls Tryz.prog 3 #[.slice a0 len0 cap0, .slice a1 len1 cap1, .int .i64 N0] w fun e w' => e = .returned (.bool true) ∧ Below w.heap.size w w' := by
  have AW := Lib.hid (fun W => awake25_any W)
  have PO0 := Lib.hid (fun W (bb : Below w.heap.size w W) => points_any25 a0 len0 cap0 z0 W (h0.on bb))
  have PO1 := Lib.hid (fun W (bb : Below w.heap.size w W) => points_any25 a1 len1 cap1 z1 W (h1.on bb))
  obtain ⟨P0, hP0⟩ : ∃ P0, P0 = (z0.take 12).map onP := ⟨_, rfl⟩
  obtain ⟨P1, hP1⟩ : ∃ P1, P1 = (z1.take 12).map onP := ⟨_, rfl⟩
  have l0 : P0.length ≤ 12 := by rw [hP0, List.length_map, List.length_take]; omega
  have l1 : P1.length ≤ 12 := by rw [hP1, List.length_map, List.length_take]; omega
  rw [← hP0] at PO0
  rw [← hP1] at PO1
  have hPt : ∀ p ∈ P0, p.2.t < 1000 := fun p hp => by
    rw [hP0] at hp
    obtain ⟨z, _, rfl⟩ := List.mem_map.1 hp
    exact t1000_lt z.t
  have hSh : ∀ p ∈ P1, Short p.1 := fun p hp => by
    rw [hP1] at hp
    obtain ⟨z, _, rfl⟩ := List.mem_map.1 hp
    exact short0 z.n
  obtain ⟨S, hS⟩ : ∃ S, S = addF [] P0 := ⟨_, rfl⟩
  obtain ⟨Q, hQ⟩ : ∃ Q, Q = rt 0 P1 := ⟨_, rfl⟩
  have hQl : Q.length = P1.length := by rw [hQ, rt_len]
  have us : UpT S := by rw [hS]; exact (addF_nil P0).1
  have sl : S.length ≤ 12 := by rw [hS]; have := (addF_len0 P0).1; omega
  have HPT := Lib.hid hPt; have HSH := Lib.hid hSh; have HS := Lib.hid hS; have HQ := Lib.hid hQ; have HQL := Lib.hid hQl; have US := Lib.hid us
  have hSh0 : ∀ p ∈ P0, Short p.1 := fun p hp => by
    rw [hP0] at hp
    obtain ⟨z, _, rfl⟩ := List.mem_map.1 hp
    exact short0 z.n
  have HSH0 := Lib.hid hSh0
  obtain ⟨i0, hi, hz0, hz1, hz2⟩ := info_parts zc_mrow
  have Hz := Lib.hid hz0; have Hs := Lib.hid hz1; have Hb := Lib.hid hz2; have Hi := Lib.hid hi
  have SUR := Lib.hid (fun (b : Nat) (ps : List Pq) W (L : Led W b (b + 1) 100 S ps) => sure_any b (b + 1) 100 S ps W L (by decide))
  have BA := Lib.hid (fun (W : World) (o : Obj) => (Below.refl W.heap.size W).alloc (Nat.le_refl _) o)
  clear hi hz0 hz1 hz2 hSh0 h0 h1 hP0 hP1 hPt hSh hS hQ hQl us
  go_enter Tryz.func3, Tryz.ntmps3
  go_wp2_with fail
  refine (AW.out w).mono ?_
  rintro e w1 ⟨rfl, b1⟩
  obtain ⟨V2, hV2⟩ : ∃ V2, V2 = w1.alloc (.cells #[.slice none 0 0, .slice none 0 0] 27) := ⟨_, rfl⟩
  have bV2 : Below w1.heap.size w1 V2 := by rw [hV2]; exact (Below.refl _ _).alloc (Nat.le_refl _) _
  have hl2 : V2.heap[w1.heap.size]? = some (.cells #[.slice none 0 0, .slice none 0 0] 27) := by rw [hV2]; exact heap_alloc_new w1 _
  have zl2 := (Array.getElem?_eq_some_iff.1 hl2).1
  have zw1 : w.heap.size ≤ w1.heap.size := b1.size
  have HL2 := Lib.hid hl2
  obtain ⟨b, hb⟩ : ∃ b, b = w1.heap.size := ⟨_, rfl⟩
  have D2 := Lib.hid (b1.trans (bV2.mono b1.size))
  have hwl : w.heap.size ≤ b := by omega
  rw [← hb] at HL2 zl2
  clear bV2 hl2 b1
  go_upto_region 4 with fail
  rw [← hV2, ← hb]
  clear hV2 hb zw1
  go_wp2_with fail
  refine (PO0.out _ D2.out).mono ?_
  rintro e w3 ⟨pv, ptv, qs0, rfl, op0, hq0, b3⟩
  have D3 := Lib.hid (D2.out.trans (b3.mono D2.out.size))
  have hb3 := (b3.block b zl2).trans HL2.out
  have DN := Lib.hid (done_any b 100 pv qs0 w3 hb3 op0.ptsF.1 (by have := congrArg List.length hq0; unfold pts at this; rw [List.length_map] at this; omega) (by have := congrArg List.length hq0; unfold pts at this; rw [List.length_map] at this; omega))
  rw [hq0, ← HS.out] at DN
  obtain ⟨pva, pvc, rfl⟩ := op0.sl.slice
  obtain ⟨nq0, hnq0⟩ : ∃ n, n = qs0.length := ⟨_, rfl⟩
  rw [← hnq0] at DN ⊢
  have z3 := b3.size
  clear op0 hq0 b3 hb3 PO0 D2 HL2 hnq0
  go_wp2_with fail
  refine DN.out.mono ?_
  rintro e w4 ⟨rfl, L4, ho4, T4⟩
  have D4 := Lib.hid (D3.out.trans (T4.below D3.out.size (fun k hk => by omega)))
  have L4' := Lib.hid L4; have HO4 := Lib.hid ho4
  have z4 := T4.size
  clear L4 ho4 T4 DN D3
  go_wp2_with fail
  refine (PO1.out _ D4.out).mono ?_
  rintro e w5 ⟨qv, qtv, qs1, rfl, op1, hq1, b5⟩
  have hq1l : qs1.length = P1.length := by have := congrArg List.length hq1; unfold pts at this; rw [List.length_map] at this; omega
  obtain ⟨N, hN⟩ : ∃ N, N = qs1.length := ⟨_, rfl⟩
  have hNP : N = P1.length := by rw [hN, hq1l]
  have hN12 : N ≤ 12 := by omega
  obtain ⟨qa, qc, rfl⟩ := op1.sl.slice
  have hNc : N ≤ qc := by
    rcases op1.sl.2 with ⟨h, h0⟩ | ⟨_, _, _, he, _, _, h3, _⟩
    · omega
    · cases he; omega
  have OP := Lib.hid (show OpN w5 w4.heap.size (.slice qa N qc) qs1 by rw [hN]; exact op1)
  have HPT1 := Lib.hid (show pts qs1 = (rt 0 P1).take 0 ++ P1.drop 0 from by rw [hq1]; simp)
  have HNL := Lib.hid (show qs1.length = N from hN.symm)
  have HNP := Lib.hid hNP
  have B5 := Lib.hid b5
  rw [← hN]
  have z5 := b5.size
  clear op1 hq1 b5 PO1 hq1l hN hNP
  go_wp2_with fail
  go_loopw [12, 13, 36] (fun t' _ i' wr => ∃ (i : Nat) (qs : List Pq), t' = .int .i64 (1000 + (i : Int)) ∧ i' = .int .i64 i ∧ i ≤ N ∧ Hid (OpN wr w4.heap.size (.slice qa N qc) qs) ∧ Hid (pts qs = (rt 0 P1).take i ++ P1.drop i) ∧ Hid (qs.length = N) ∧ Hid (Below w4.heap.size w4 wr)) (fun _ _ i' _ => N - (intOf i').toNat)
  case atStart => exact ⟨0, qs1, rfl, rfl, by omega, OP, HPT1, HNL, B5⟩
  case round =>
    obtain ⟨W0, rfl⟩ : ∃ W0, W0 = wr := ⟨_, rfl⟩
    obtain ⟨i, qs, rfl, rfl, hi, hop, hps, hql, hbb⟩ := hrel
    by_cases hlt : i < N
    · obtain ⟨q, hq⟩ : ∃ q, qs[i]? = some q := ⟨qs[i]'(by have := hql.out; omega), List.getElem?_eq_getElem (by have := hql.out; omega)⟩
      obtain ⟨g, off, rfl, hgB, c1, f1⟩ : ∃ g off, qa = some ⟨g, off, none⟩ ∧ w4.heap.size ≤ g ∧ W0.cell? ⟨g, off + i * 3 + 1, none⟩ = some (.int .i64 q.s.t) ∧ W0.frozen? ⟨g, off + i * 3 + 1, none⟩ = false := by
        rcases hop.out.sl.2 with ⟨_, h0⟩ | ⟨g, off, cap, he, hgb, _, _, _, hfree, hc⟩
        · have := hql.out; omega
        · cases he
          refine ⟨g, off, rfl, hgb, ?_, ?_⟩
          · rw [Nat.add_assoc]
            exact (hc (i * 3 + 1) (by have := hql.out; omega)).trans (pqc_at qs i q hq).2.1
          · rw [Nat.add_assoc]
            exact (hfree (i * 3 + 1) (by omega)).2
      have hwr : IntKind.i64.wrap (1000 + (i : Int) + 1) = 1000 + (i : Int) + 1 := by rw [IntKind.wrap_i64]; omega
      have FIN := Lib.hid (show OpN (W0.setCell ⟨g, off + i * 3 + 1, none⟩ (.int .i64 (1000 + (i : Int) + 1))) w4.heap.size (.slice (some ⟨g, off, none⟩) N qc) (qs.set i ⟨q.a, q.ls, ⟨1000 + (i : Int) + 1, q.s.v⟩⟩) ∧ Below w4.heap.size w4 (W0.setCell ⟨g, off + i * 3 + 1, none⟩ (.int .i64 (1000 + (i : Int) + 1))) from by
        have h := hop.out.setT hql.out.symm hq (1000 + (i : Int) + 1)
        rw [← Nat.add_assoc] at h
        exact ⟨h, hbb.out.setCell hgB _⟩)
      have STP := Lib.hid (show pts (qs.set i ⟨q.a, q.ls, ⟨1000 + (i : Int) + 1, q.s.v⟩⟩) = (rt 0 P1).take (i + 1) ++ P1.drop (i + 1) from by
        have hpi : P1[i]? = some (q.ls, q.s) := by
          have h1 : (pts qs)[i]? = some (q.ls, q.s) := by unfold pts; rw [List.getElem?_map, hq]; rfl
          rw [hps.out, List.getElem?_append_right (by rw [List.length_take, rt_len]; have := HNP.out; omega), List.length_take, rt_len, Nat.min_eq_left (by have := HNP.out; omega), Nat.sub_self, List.getElem?_drop] at h1
          exact h1
        rw [pts_set, hps.out]
        have := rt_step hpi
        simp only at this
        rw [show (1000 + (i : Int) + 1) = 1001 + (i : Int) by omega]
        exact this)
      have i1 : (i : Int) < (N : Int) := by omega
      have HQ1 := Lib.hid (show ∀ x, (qs.set i x).length = N from fun x => by rw [List.length_set]; exact hql.out)
      clear hq
      go_wp2
      exact ⟨⟨i + 1, _, by go_num, by go_num, by omega, Lib.hid FIN.out.1, Lib.hid STP.out, Lib.hid (HQ1.out _), Lib.hid FIN.out.2⟩, by simp [intOf]; omega⟩
    · obtain rfl : i = N := by omega
      have hpq : pts qs = Q := by rw [hps.out, HNP.out, rt_full, HQ.out]
      have L6 := L4'.out.on hbb.out
      have D6 := Lib.hid (D4.out.trans (hbb.out.mono D4.out.size))
      have TR := Lib.hid (tried_any b (b + 1) 100 S (.slice qa i qc) qs W0 L6 (by
        obtain ⟨sv, h⟩ := HO4.out
        exact ⟨sv, (hbb.out.block b (by omega)).trans h⟩) (hop.out.ptsF.mono (by omega)) (by have := hql.out; omega))
      rw [hpq] at TR
      have HPQ := Lib.hid hpq
      have z6 := hbb.out.size
      have OP6 := Lib.hid hop.out; have HQ6 := Lib.hid hql.out
      clear hps hpq L6 hop hql hbb
      go_wp2_with fail
      refine TR.out.mono ?_
      rintro e w7 ⟨ps, rfl, L7, hpsQ, T7⟩
      have D7 := Lib.hid (D6.out.trans (T7.below D6.out.size (fun k hk => by omega)))
      have OP7 := Lib.hid (OP6.out.turn T7 (fun k hk => by omega))
      have L7' := Lib.hid L7
      have HPS := Lib.hid hpsQ
      have hpsl : ps.length = i := by have := congrArg List.length hpsQ; unfold pts at this; rw [List.length_map] at this; have := HQL.out; have := HNP.out; omega
      have SHP := Lib.hid (show ∀ p ∈ ps, Short p.ls from fun p hp => by
        have h1 : (p.ls, p.s) ∈ pts ps := List.mem_map.2 ⟨p, hp, rfl⟩
        rw [HPS.out, HQ.out] at h1
        obtain ⟨j, hj⟩ := List.getElem?_of_mem h1
        have hjl : j < P1.length := by have := (List.getElem?_eq_some_iff.1 hj).1; rw [rt_len] at this; exact this
        have h2 := rt_at P1 0 j P1[j] (List.getElem?_eq_getElem hjl)
        rw [hj] at h2
        have h3 := congrArg Prod.fst (Option.some.inj h2)
        simp only at h3
        rw [h3]
        exact HSH.out _ (List.getElem_mem hjl))
      have z7 := T7.size
      clear L7 hpsQ T7 TR D6 OP6
      obtain ⟨nn, hnn⟩ : ∃ nn : Nat, (nn : Int) = min (max N0 0) (i : Int) := ⟨(min (max N0 0) (i : Int)).toNat, by omega⟩
      have hmin : min (max N0 0) (i : Int) = (nn : Int) := hnn.symm
      have hnni : nn ≤ i := by omega
      have hh := fun W => run_head25 qa i nn qc hnni hNc W
      have SU := Lib.hid (sure_any b (b + 1) 100 S ps w7 L7'.out (by decide))
      clear hnn
      go_wp2_with fail
      refine SU.out.mono ?_
      rintro e w8 ⟨nv0, TL, rfl, tl, el, b8⟩
      have hTL : TL.length ≤ 12 := by have := rws_len TL; rw [el] at this; omega
      have C8 := Lib.hid (show TabC w8 1000 nv0 (nowK P0 P1 0) from by
        have h1 := ((tl.mono (K' := 1000) (by omega)).readF (by omega)).c
        rw [el, HS.out] at h1
        unfold nowK
        simpa using h1)
      have L8 := Lib.hid (L7'.out.on b8); have OP8 := Lib.hid (OP7.out.on b8); have D8 := Lib.hid (D7.out.trans (b8.mono D7.out.size))
      obtain ⟨na, nc, rfl⟩ : ∃ a c, nv0 = Value.slice a (nowK P0 P1 0).length c := C8.out.form
      clear tl el b8 SU L7' OP7 D7 hmin
      go_wp2_with fail
      go_loopw [14, 16, 60] (fun n' _ k' wr => ∃ (k : Nat), k' = .int .i64 k ∧ k ≤ nn ∧ Hid (TabC wr 1000 n' (nowK P0 P1 k)) ∧ (∃ a m c, n' = .slice a m c) ∧ Hid (Below w8.heap.size w8 wr)) (fun _ _ k' _ => nn - (intOf k').toNat)
      case atStart => exact ⟨0, rfl, by omega, C8, ⟨_, _, _, rfl⟩, Lib.hid (Below.refl _ _)⟩
      case round =>
        obtain ⟨U0, rfl⟩ : ∃ U0, U0 = wr := ⟨_, rfl⟩
        obtain ⟨k, rfl, hk, hC, ⟨ka, km, kc, rfl⟩, hbk⟩ := hrel
        by_cases hkn : k < nn
        · obtain ⟨q, hq⟩ : ∃ q, qs[k]? = some q := ⟨qs[k]'(by have := HQ6.out; omega), List.getElem?_eq_getElem (by have := HQ6.out; omega)⟩
          have OPU := OP8.out.on hbk.out
          obtain ⟨g, off, rfl, c0, c1, c2⟩ : ∃ g off, qa = some ⟨g, off, none⟩ ∧ U0.cell? ⟨g, off + k * 3, none⟩ = some q.a ∧ U0.cell? ⟨g, off + k * 3 + 1, none⟩ = some (.int .i64 q.s.t) ∧ U0.cell? ⟨g, off + k * 3 + 2, none⟩ = some (.int .u64 q.s.v) := by
            rcases OPU.sl.2 with ⟨_, h0⟩ | ⟨g, off, cap, he, hgb, _, _, _, hfree, hc⟩
            · have := HQ6.out; omega
            · cases he
              obtain ⟨p0, p1, p2⟩ := pqc_at qs k q hq
              have hqn := HQ6.out
              refine ⟨g, off, rfl, (hc (k * 3) (by omega)).trans p0, ?_, ?_⟩
              · rw [Nat.add_assoc]; exact (hc (k * 3 + 1) (by omega)).trans p1
              · rw [Nat.add_assoc]; exact (hc (k * 3 + 2) (by omega)).trans p2
          obtain ⟨qr, ql, -, -⟩ := OPU.ok q (List.mem_of_getElem? hq)
          obtain ⟨qav, qls, qt, qv'⟩ := q
          simp only at qr ql c0 c1 c2
          obtain ⟨xa, xc, rfl⟩ := qr.slice
          have hQk : (rt 0 P1)[k]? = some (qls, ⟨qt, qv'⟩) := by
            have h1 : (pts qs)[k]? = some (qls, ⟨qt, qv'⟩) := by unfold pts; rw [List.getElem?_map, hq]; rfl
            rw [HPQ.out, HQ.out] at h1
            exact h1
          obtain ⟨V1, hV1⟩ : ∃ V1, V1 = U0.alloc (.cells #[.slice xa qls.length xc, .int .i64 qt, .int .u64 qv'] 38) := ⟨_, rfl⟩
          have b1 : Below U0.heap.size U0 V1 := by rw [hV1]; exact (Below.refl _ _).alloc (Nat.le_refl _) _
          have hbx : V1.heap[U0.heap.size]? = some (.cells #[.slice xa qls.length xc, .int .i64 qt, .int .u64 qv'] 38) := by rw [hV1]; exact heap_alloc_new U0 _
          obtain ⟨Y1, hY1⟩ : ∃ Y1, Y1 = V1.alloc (.cells #[.int .i64 qt, .int .u64 qv'] 34) := ⟨_, rfl⟩
          obtain ⟨Y2, hY2⟩ : ∃ Y2, Y2 = Y1.alloc (.cells #[.slice xa qls.length xc, .slice (some ⟨V1.heap.size, 0, none⟩) 1 1] 43) := ⟨_, rfl⟩
          have sY1 : Y1.heap.size = V1.heap.size + 1 := by rw [hY1]; simp
          have sY2 : Y2.heap.size = V1.heap.size + 1 + 1 := by rw [hY2]; simp [sY1]
          have b11 : Below V1.heap.size V1 Y1 := by rw [hY1]; exact (Below.refl _ _).alloc (Nat.le_refl _) _
          have b12 : Below Y1.heap.size Y1 Y2 := by rw [hY2]; exact (Below.refl _ _).alloc (Nat.le_refl _) _
          have B02 : Below U0.heap.size U0 Y2 := (b1.trans (b11.mono b1.size)).trans (b12.mono (Nat.le_trans b1.size b11.size))
          have hA1 : Y2.heap[V1.heap.size]? = some (.cells #[.int .i64 qt, .int .u64 qv'] 34) := (b12.block _ (by omega)).trans (by rw [hY1]; exact heap_alloc_new V1 _)
          have hA2 : Y2.heap[Y1.heap.size]? = some (.cells #[.slice xa qls.length xc, .slice (some ⟨V1.heap.size, 0, none⟩) 1 1] 43) := by rw [hY2]; exact heap_alloc_new Y1 _
          have TB := Lib.hid (show Calls Tryz.prog 11 #[.slice (some ⟨V1.heap.size + 1 + 1, 0, none⟩) 2 2] (Y2.alloc (.cells #[.slice ka km kc, .slice (some ⟨V1.heap.size + 1, 0, none⟩) 1 1] 24)) (fun e w' => ∃ v', e = .returned v' ∧ TabC w' 1000 v' (nowK P0 P1 (k + 1)) ∧ Below U0.heap.size U0 w') from by
            have h1 := tables_P _ [P0 ++ (rt 0 P1).take k, [(qls, ⟨qt, qv'⟩)]] _ (TsR.lit Y2 [.slice ka km kc, .slice (some ⟨V1.heap.size + 1, 0, none⟩) 1 1] [P0 ++ (rt 0 P1).take k, [(qls, ⟨qt, qv'⟩)]] 24 rfl (fun p x ps' h1 h2 => by
              match p, h1, h2 with
              | 0, h1, h2 =>
                obtain rfl := Option.some.inj h1
                obtain rfl := Option.some.inj h2
                exact hC.out.on B02
              | 1, h1, h2 =>
                obtain rfl := Option.some.inj h1
                obtain rfl := Option.some.inj h2
                rw [addF_onlyone, ← sY1]
                exact TabC.one (by decide) (qr.on B02) ql hA1 hA2
              | p + 2, h1, _ => simp at h1)) (by simp) (by
                simp only [List.flatten_cons, List.flatten_nil, List.append_nil, List.length_append, List.length_cons, List.length_nil, List.length_take, rt_len]
                omega)
            rw [sY2] at h1
            refine h1.mono ?_
            rintro e w' ⟨v', rfl, t', b'⟩
            refine ⟨v', rfl, ?_, ?_⟩
            · have e1 : [P0 ++ (rt 0 P1).take k, [(qls, (⟨qt, qv'⟩ : Sp))]].flatten = P0 ++ (rt 0 P1).take (k + 1) := by
                rw [List.take_add_one, hQk]
                simp
              rw [e1] at t'
              exact t'
            · have ba : Below Y2.heap.size Y2 (Y2.alloc (.cells [Value.slice ka km kc, .slice (some ⟨V1.heap.size + 1, 0, none⟩) 1 1].toArray 24)) := (Below.refl _ _).alloc (Nat.le_refl _) _
              exact (B02.trans (ba.mono B02.size)).trans (b'.mono (Nat.le_trans B02.size ba.size)))
          have e0 := Lib.cell_of_heap hbx 0
          have e1 := Lib.cell_of_heap hbx 1
          have e2 := Lib.cell_of_heap hbx 2
          have i1 : (k : Int) < (nn : Int) := by omega
          rw [hY2, hY1] at TB
          clear hq OPU qr ql hQk hbx hA1 hA2 B02 b11 b12 b1 hY1 hY2 sY1 sY2 hC
          go_upto_region 20 with fail
          rw [← hV1]
          clear hV1 c0 c1 c2
          go_wp2_with fail
          refine TB.out.mono ?_
          rintro e wk ⟨v', rfl, t', b'⟩
          obtain ⟨va, vc, rfl⟩ := t'.form
          have T' := Lib.hid t'; have B' := Lib.hid (hbk.out.trans (b'.mono hbk.out.size))
          obtain ⟨vm, hvm⟩ : ∃ m, m = (nowK P0 P1 (k + 1)).length := ⟨_, rfl⟩
          rw [← hvm] at T' ⊢
          clear t' b' hvm TB
          go_wp2
          exact ⟨⟨k + 1, by go_num, by omega, T', ⟨_, _, _, rfl⟩, B'⟩, by simp [intOf]; omega⟩
        · obtain rfl : k = nn := by omega
          have D9 := Lib.hid (D8.out.trans (hbk.out.mono D8.out.size))
          have L9 := Lib.hid (L8.out.on hbk.out)
          have C9 := Lib.hid hC.out
          have z8 : b < U0.heap.size := (L8.out.on hbk.out).blk
          clear hC hbk OP8 L8 D8 C8
          obtain ⟨R, hR⟩ : ∃ R, R = nowK P0 P1 k := ⟨_, rfl⟩
          obtain ⟨ur, nr⟩ : UpT R ∧ ∀ r ∈ R, r.ss ≠ [] := by rw [hR]; exact now_up k
          have hlen : R.length ≤ 24 ∧ ∀ r ∈ R, r.ss.length ≤ 24 := by
            have h := addF_len0 (P0 ++ (rt 0 P1).take k)
            have hl : (P0 ++ (rt 0 P1).take k).length ≤ 24 := by rw [List.length_append, List.length_take, rt_len]; omega
            rw [hR]
            exact ⟨Nat.le_trans h.1 hl, fun r hr => Nat.le_trans (h.2 r hr) hl⟩
          have hset : SetP S ps R := by rw [hR, HS.out]; exact set_now HPT.out k (by rw [HPS.out, HQ.out])
          have hsr : ∀ r ∈ R, Short r.ls := fun r hr => by
            obtain ⟨s, tl, hss⟩ : ∃ s tl, r.ss = s :: tl := by
              cases h : r.ss with
              | nil => exact absurd h (nr r hr)
              | cons a b => exact ⟨a, b, rfl⟩
            have h1 := lookT_of ur hr (s := s) (by rw [hss]; simp)
            rw [hR, now_look] at h1
            cases h : lookP P0 r.ls s.t with
            | some y => exact HSH0.out _ (lookP_mem2 h).1
            | none =>
              rw [h] at h1
              have h2 : lookP ((rt 0 P1).take k) r.ls s.t = some s := by simpa using h1
              have h3 := List.mem_of_mem_take (lookP_mem2 h2).1
              obtain ⟨j, hj⟩ := List.getElem?_of_mem h3
              have hjl : j < P1.length := by have := (List.getElem?_eq_some_iff.1 hj).1; rw [rt_len] at this; exact this
              have h4 := rt_at P1 0 j P1[j] (List.getElem?_eq_getElem hjl)
              rw [hj] at h4
              have h5 := congrArg Prod.fst (Option.some.inj h4)
              simp only at h5
              rw [h5]
              exact HSH.out _ (List.getElem_mem hjl)
          have hno : ∀ r0 S', S = r0 :: S' → ¬ WithinP S (R.map (lessF r0.ls)) := fun r0 S' h => by
            rw [hR, HS.out]
            exact less_no HPT.out k (by rw [← HS.out]; exact h)
          have hss : ∀ r ∈ S, Short r.ls := fun r hr => by
            have hS2 := addF_nil P0
            rw [← HS.out] at hS2
            obtain ⟨s, tl, hss⟩ : ∃ s tl, r.ss = s :: tl := by
              cases h : r.ss with
              | nil => exact absurd h (hS2.2.1 r hr)
              | cons a b => exact ⟨a, b, rfl⟩
            have h1 := lookT_of hS2.1 hr (s := s) (by rw [hss]; simp)
            rw [hS2.2.2] at h1
            exact HSH0.out _ (lookP_mem2 h1).1
          have CR9 := Lib.hid (show TabC U0 24 (.slice ka km kc) R from by rw [hR]; rw [hR] at hlen; exact C9.out.sharp hlen.2)
          have hkm : km = R.length := by
            obtain ⟨⟨_, a, c, e, _⟩, _⟩ := CR9.out
            exact (Value.slice.inj e).2.1
          have UR := Lib.hid ur; have NR := Lib.hid nr; have HLEN := Lib.hid hlen; have HSET := Lib.hid hset; have HSR := Lib.hid hsr; have HNO := Lib.hid hno; have HSS := Lib.hid hss; have HKM := Lib.hid hkm
          have hkm24 : km ≤ 24 := by omega
          clear hR ur nr hlen hset hsr hno hss C9 hkm hNc hh hnni hkn hk
          go_wp2_with fail
          refine (SUR.out b ps _ L9.out).mono ?_
          rintro e w10 ⟨v10, T10, rfl, t10, e10, b10⟩
          have hT10 : T10.length = S.length := by have := rws_len T10; rw [e10] at this; exact this.symm
          obtain ⟨sa10, sc10, rfl⟩ := t10.slice
          obtain ⟨n10, hn10⟩ : ∃ n, n = T10.length := ⟨_, rfl⟩
          have D10 := Lib.hid (D9.out.trans (b10.mono D9.out.size))
          have L10 := Lib.hid (L9.out.on b10); have C10 := Lib.hid (CR9.out.on b10)
          have z10 := b10.size
          have HN10 := Lib.hid (show n10 = S.length by rw [hn10, hT10])
          rw [← hn10]
          clear t10 e10 b10 hT10 hn10 L9 CR9 D9
          by_cases hs0 : n10 = 0
          case pos =>
            subst hs0
            go_upto_region 33 with fail
            have LZ := Lib.hid L10.out; have CZ := Lib.hid C10.out; have DZ := Lib.hid D10.out
            clear L10 C10 D10
            have ST := Lib.hid (settle_any b (b + 1) 100 24 S R ps (.slice ka km kc) _ LZ.out CZ.out.r UR.out SHP.out (by omega) (by omega) (by decide))
            go_wp2_with fail
            refine ST.out.mono ?_
            rintro e wA ⟨⟨c, rfl, hc, -, -⟩, hL, -, hT⟩
            obtain rfl := hc.2 HSET.out
            have LA := Lib.hid (hL HSET.out).1
            have RA := Lib.hid (CZ.out.turnB LZ.out NR.out hT)
            have DA := Lib.hid (DZ.out.trans (hT.below DZ.out.size (fun x hx => by omega)))
            have hRl : R.length ≤ 24 := HLEN.out.1
            clear hc hL hT ST LZ CZ DZ
            go_wp2_with fail
            refine (sure_any b (b + 1) 24 R [] wA LA.out (by decide)).mono ?_
            rintro e wB ⟨vB, TB, rfl, tB, eB, bB⟩
            have tB2 : TabR wB 24 vB R := by rw [← eB]; exact (tB.readF (by have := rws_len TB; rw [eB] at this; omega)).c.r
            have TB2 := Lib.hid tB2
            have DB := Lib.hid (DA.out.trans (bB.mono DA.out.size)); have LB := Lib.hid (LA.out.on bB); have RB := Lib.hid (RA.out.on bB)
            clear tB eB bB tB2 LA RA DA
            go_wp2_with fail
            refine (told14_any vB R 24 wB TB2.out (by omega) (by decide)).mono ?_
            rintro e wC ⟨uv, rfl, tu, bC⟩
            have TU := Lib.hid tu
            have DC := Lib.hid (DB.out.trans (bC.mono DB.out.size)); have LC := Lib.hid (LB.out.on bC); have RC := Lib.hid (RB.out.on bC)
            clear tu bC LB RB DB TB2
            go_wp2_with fail
            refine (told14_any (.slice ka km kc) R 24 wC RC.out (by omega) (by decide)).mono ?_
            rintro e wD ⟨vv, rfl, tv, bD⟩
            have TV := Lib.hid tv; have TU2 := Lib.hid (TU.out.on bD)
            have DD := Lib.hid (DC.out.trans (bD.mono DC.out.size)); have LD := Lib.hid (LC.out.on bD); have RD := Lib.hid (RC.out.on bD)
            clear tv bD LC RC DC TU
            go_wp2_with fail
            refine (same14_any uv vv R 24 wD TU2.out TV.out (by omega) (by decide)).mono ?_
            rintro e wE ⟨rfl, bE⟩
            have DE := Lib.hid (DD.out.trans (bE.mono DD.out.size)); have LE := Lib.hid (LD.out.on bE); have RE := Lib.hid (RD.out.on bE)
            clear bE LD RD DD TV TU2
            go_wp2_with fail
            refine (open_any b (b + 1) 24 R [] wE LE.out).mono ?_
            rintro e wF ⟨rfl, rfl⟩
            go_wp2_with fail
            refine (may_any b (b + 1) 24 R [] wE LE.out (show R.length + 0 ≤ 100000 by omega) (show (24 : Nat) + 0 ≤ 100000 by decide)).mono ?_
            rintro e wG ⟨vG, TG, rfl, tG, eG, uG, lG, bG⟩
            have eG' : rws TG = R := eG
            have tG2 : TabR wG 24 vG R := by rw [← eG']; exact (tG.readF (by have h9 : TG.length ≤ R.length + 0 := lG; omega)).c.r
            have TG2 := Lib.hid tG2
            have DG := Lib.hid (DE.out.trans (bG.mono DE.out.size)); have RG := Lib.hid (RE.out.on bG)
            clear tG eG eG' uG lG bG tG2 LE RE DE
            go_wp2_with fail
            refine (told14_any vG R 24 wG TG2.out (by omega) (by decide)).mono ?_
            rintro e wH ⟨uH, rfl, tH, bH⟩
            have TH := Lib.hid tH
            have DH := Lib.hid (DG.out.trans (bH.mono DG.out.size)); have RH := Lib.hid (RG.out.on bH)
            clear tH bH RG DG TG2
            go_wp2_with fail
            refine (told14_any (.slice ka km kc) R 24 wH RH.out (by omega) (by decide)).mono ?_
            rintro e wI ⟨vI, rfl, tI, bI⟩
            have TI := Lib.hid tI; have TH2 := Lib.hid (TH.out.on bI)
            have DI := Lib.hid (DH.out.trans (bI.mono DH.out.size))
            clear tI bI RH DH TH
            go_wp2_with fail
            refine (same14_any uH vI R 24 wI TH2.out TI.out (by omega) (by decide)).mono ?_
            rintro e wJ ⟨rfl, bJ⟩
            go_wp2
            go_ret
            exact ⟨rfl, DI.out.trans (bJ.mono DI.out.size)⟩
          case neg =>
            have hs1 : (0 : Int) < (n10 : Int) := by omega
            obtain ⟨r0, S', hSr⟩ : ∃ r0 S', S = r0 :: S' := by
              cases h : S with
              | nil => rw [h] at HN10; have := HN10.out; simp at this; omega
              | cons a b => exact ⟨a, b, rfl⟩
            have HSr := Lib.hid hSr
            obtain ⟨⟨_, _⟩, qsR, hqR, hrdR, hokR⟩ := C10.out
            have hqRl : qsR.length = km := by rw [HKM.out, ← hqR, List.length_map]
            have hrd : Rd w10 2 (.slice ka km kc) km (rqc qsR) := by rw [← HKM.out] at hrdR; exact hrdR
            have hone : ∀ u ∈ rqc qsR, u.oneCell' = true := rqc_cells qsR fun q hq => ⟨by obtain ⟨a, c, e⟩ := (hokR q hq).1.l.slice; exact ⟨_, _, _, e⟩, by obtain ⟨a, c, e⟩ := (hokR q hq).1.s.slice; exact ⟨_, _, _, e⟩⟩
            have HRD := Lib.hid hrd; have HONE := Lib.hid hone; have HOKR := Lib.hid hokR; have HQR := Lib.hid hqR; have HQRL := Lib.hid hqRl
            have n1 : 0 + km ≤ maxLen := by unfold maxLen; omega
            have n2 : (0 + km) * 48 ≤ 140737488355328 := by omega
            clear hSr hqR hrdR hokR hqRl hrd hone hs0
            go_upto_region 24 with (at_builtin; refine wpList_append_rd _ rfl _ _ 24 rfl w10.heap.size 43 i0 (.agg #[.slice none 0 0, .slice none 0 0]) 2 48 Tryz.underlying24 Hi.out Hz.out Hs.out Hb.out rfl (by decide) _ 0 _ rfl (Sl.lit w10 w10.heap.size 2 0 #[] _ (Nat.le_refl _) (by decide) rfl) _ km _ rfl (HRD.out.on ((Below.refl _ _).alloc (Nat.le_refl _) _)) HONE.out n1 n2 (by simp) ?_; intro v11 w11 hx11)
            have sl11 := hx11.now
            rw [Nat.zero_add, List.nil_append] at sl11
            have b11 : Below w10.heap.size w10 w11 := ((Below.refl _ w10).alloc (Nat.le_refl _) _).grown hx11.grown (by simp) (fun k e => by have e2 : w10.heap.size = k := Option.some.inj e; omega)
            obtain ⟨a11, c11, rfl⟩ := sl11.slice
            have lv11 : ∀ x, (Value.slice a11 km c11).ownBlock = some x → w10.heap.size ≤ x ∧ x < w11.heap.size := fun x hx => sl11.lt x hx
            have TN11 := Lib.hid (show TabN w11 w10.heap.size 24 (.slice a11 km c11) qsR from ⟨by rw [HQRL.out]; exact sl11, fun q hq => ⟨(HOKR.out q hq).1.on b11, fun hn x hx e => by
              obtain ⟨g', hg', hlt'⟩ := (HOKR.out q hq).1.l.own hn
              have h1 : x = g' := Option.some.inj (hx.symm.trans hg')
              have := (lv11 x e).1
              omega, fun hn x hx e => by
              obtain ⟨g', hg', hlt'⟩ := (HOKR.out q hq).1.s.own hn
              have h1 : x = g' := Option.some.inj (hx.symm.trans hg')
              have := (lv11 x e).1
              omega⟩⟩)
            have L11 := Lib.hid (L10.out.on b11)
            have B11 := Lib.hid b11; have LV11 := Lib.hid lv11
            clear sl11 hx11 b11 lv11 HRD HONE
            go_wp2_with fail
            refine (SUR.out b ps _ L11.out).mono ?_
            rintro e w12 ⟨v12, T12, rfl, t12, e12, b12⟩
            have hT12 : T12.length = n10 := by have := rws_len T12; rw [e12] at this; have := HN10.out; omega
            obtain ⟨q0, hq0⟩ : ∃ q, T12[0]? = some q := ⟨T12[0]'(by omega), List.getElem?_eq_getElem (by omega)⟩
            have hq0r : q0.r = r0 := by
              have h1 := rws_at hq0
              rw [e12, HSr.out] at h1
              exact (Option.some.inj h1).symm
            obtain ⟨g12, o12, c12, rfl, m0, m1⟩ : ∃ g o c, v12 = .slice (some ⟨g, o, none⟩) n10 c ∧ w12.cell? ⟨g, o, none⟩ = some q0.a ∧ w12.cell? ⟨g, o + 1, none⟩ = some q0.b := by
              obtain ⟨_, a, c, g, o, e, hg, hc⟩ := t12.rd
              obtain ⟨h5, _⟩ := hg (by omega)
              obtain ⟨p0, p1⟩ := rqc_at T12 0 q0 hq0
              refine ⟨g, o, c, by rw [e, h5, hT12], (hc 0 (by omega)).trans p0, (hc 1 (by omega)).trans p1⟩
            have ok0 := t12.row (List.mem_of_getElem? hq0)
            have rq0 : Rd w12 2 q0.a r0.ls.length (prc r0.ls) := by have := ok0.l; rw [hq0r] at this; exact this
            have hl0' : r0.ls.length ≤ 1000 := by have := ok0.hl; rw [hq0r] at this; exact this
            have rb0 : ∃ a n c, q0.b = Value.slice a n c := by obtain ⟨a, c, e⟩ := ok0.s.slice; exact ⟨_, _, _, e⟩
            have own0 : ∀ x, q0.a.ownBlock = some x → w11.heap.size ≤ x := by
              obtain ⟨o, h⟩ := t12
              exact fun x hx => (h.lt x _ ((h.ok q0 (List.mem_of_getElem? hq0)).lo x hx)).1
            obtain ⟨q0a, q0b, q0r⟩ := q0
            simp only at hq0r m0 m1 rq0 rb0 own0
            obtain ⟨ma, mc, rfl⟩ := rq0.slice
            obtain ⟨ba, bn, bc, rfl⟩ := rb0
            obtain ⟨V13, hV13⟩ : ∃ V13, V13 = w12.alloc (.cells #[.slice ma r0.ls.length mc, .slice ba bn bc] 43) := ⟨_, rfl⟩
            have b13 : Below w12.heap.size w12 V13 := by rw [hV13]; exact (Below.refl _ _).alloc (Nat.le_refl _) _
            have hbx13 : V13.heap[w12.heap.size]? = some (.cells #[.slice ma r0.ls.length mc, .slice ba bn bc] 43) := by rw [hV13]; exact heap_alloc_new w12 _
            have B10V : Below w10.heap.size w10 V13 := (B11.out.trans (b12.mono B11.out.size)).trans (b13.mono (Nat.le_trans B11.out.size b12.size))
            have z11 := B11.out.size; have z12 := b12.size; have z13 := b13.size
            have TN13 := Lib.hid (((TN11.out.on b12).on b13))
            have RQ0 := Lib.hid (rq0.on b13)
            obtain ⟨MB, hMB⟩ : ∃ MB, MB = w12.heap.size := ⟨_, rfl⟩
            have hMBl : w11.heap.size ≤ MB := by omega
            rw [← hMB] at hbx13
            have HBX := Lib.hid hbx13; have BV13 := Lib.hid B10V; have OWN0 := Lib.hid own0
            have zMB := (Array.getElem?_eq_some_iff.1 hbx13).1
            clear t12 e12 b12 hq0 hq0r ok0 rq0 own0 b13 hbx13 B10V TN11 L11 hT12
            go_upto_region 25 with fail
            rw [← hV13, ← hMB]
            clear hV13 hMB m0 m1
            go_wp2_with fail
            go_loopw [19, 86] (fun _ j' wr => ∃ (j : Nat) (qsL : List Rq), j' = .int .i64 j ∧ j ≤ km ∧ Hid (TabN wr w10.heap.size 24 (.slice a11 km c11) qsL) ∧ Hid (rws qsL = (R.take j).map (lessF r0.ls) ++ R.drop j) ∧ Hid (qsL.length = km) ∧ Hid (∀ m, j ≤ m → qsL[m]? = qsR[m]?) ∧ Hid (Turn (fun x => (Value.slice a11 km c11).ownBlock = some x) V13 wr)) (fun _ j' _ => km - (intOf j').toNat)
            case atStart => exact ⟨0, qsR, rfl, by omega, TN13, Lib.hid (by rw [List.take_zero, List.map_nil, List.nil_append, List.drop_zero]; exact HQR.out), HQRL, Lib.hid (fun _ _ => rfl), Lib.hid (Turn.refl _ _)⟩
            case round =>
              obtain ⟨X0, rfl⟩ : ∃ X0, X0 = wr := ⟨_, rfl⟩
              obtain ⟨j, qsL, rfl, hj, htn, hrw, hql', hsm, htt⟩ := hrel
              by_cases hjk : j < km
              · obtain ⟨q, hq⟩ : ∃ q, qsL[j]? = some q := ⟨qsL[j]'(by have := hql'.out; omega), List.getElem?_eq_getElem (by have := hql'.out; omega)⟩
                have hqR' : qsR[j]? = some q := by rw [← hsm.out j (Nat.le_refl _)]; exact hq
                have hRj : R[j]? = some q.r := by
                  have h1 : (rws qsR)[j]? = some q.r := rws_at hqR'
                  have h2 : rws qsR = R := HQR.out
                  rw [h2] at h1
                  exact h1
                obtain ⟨_, cap1, cap2, ecap, hcap⟩ := HOKR.out q (List.mem_of_getElem? hqR')
                have hsn : q.r.ss ≠ [] := NR.out _ (List.mem_of_getElem? hRj)
                have hshq : Short q.r.ls := HSR.out _ (List.mem_of_getElem? hRj)
                obtain ⟨okq, _, _⟩ := htn.out.ok q (List.mem_of_getElem? hq)
                obtain ⟨g11, off11, rfl, hg11, k0, k1, f1⟩ : ∃ g off, a11 = some ⟨g, off, none⟩ ∧ g < X0.heap.size ∧ X0.cell? ⟨g, off + j * 2, none⟩ = some q.a ∧ X0.cell? ⟨g, off + j * 2 + 1, none⟩ = some q.b ∧ X0.frozen? ⟨g, off + j * 2 + 1, none⟩ = false := by
                  rcases htn.out.sl.2 with ⟨_, h0⟩ | ⟨g, off, cap, he, hgb, hgl, hcc, _, hfree, hc⟩
                  · have := hql'.out; omega
                  · cases he
                    obtain ⟨p0, p1⟩ := rqc_at qsL j q hq
                    have hqn := hql'.out
                    refine ⟨g, off, rfl, hgl, (hc (j * 2) (by omega)).trans p0, ?_, ?_⟩
                    · rw [Nat.add_assoc]; exact (hc (j * 2 + 1) (by omega)).trans p1
                    · rw [Nat.add_assoc]; exact (hfree (j * 2 + 1) (by omega)).2
                have hgLV := LV11.out g11 rfl
                have rqa : Rd X0 2 q.a q.r.ls.length (prc q.r.ls) := okq.l
                have rqb : Rd X0 2 q.b q.r.ss.length (spc q.r.ss) := okq.s
                have hlq := okq.hl
                obtain ⟨qa', qb', ⟨ql, qss⟩⟩ := q
                simp only at k0 k1 rqa rqb hlq hsn hshq ecap hcap
                obtain ⟨xa, xc, rfl⟩ := rqa.slice
                obtain ⟨xb, xbc, rfl⟩ := rqb.slice
                obtain ⟨s0, l, hss⟩ : ∃ s0 l, qss = s0 :: l := by
                  cases h : qss with
                  | nil => exact absurd h hsn
                  | cons a b => exact ⟨a, b, rfl⟩
                have zX := htt.out.size
                have mbX : X0.heap[MB]? = some (.cells #[.slice ma r0.ls.length mc, .slice ba bn bc] 43) := (htt.out.block MB zMB (fun e => by have := (LV11.out MB e).2; omega)).trans HBX.out
                have rq0X : Rd X0 2 (.slice ma r0.ls.length mc) r0.ls.length (prc r0.ls) := RQ0.out.same htt.out.size fun x hx hlt => htt.out.block x hlt fun e => by
                  have h1 := OWN0.out x hx
                  have h2 := (LV11.out x e).2
                  omega
                have n0 : r0.ls.length ≤ 1000 := hl0'
                have KY1 := Lib.hid (fun W (bb : Below X0.heap.size X0 W) => key_lb (.slice xa ql.length xc) ql W (rqa.on bb) (by have := key_small ql hshq; omega) (by omega))
                have KY2 := Lib.hid (fun W (bb : Below X0.heap.size X0 W) => key_lb (.slice ma r0.ls.length mc) r0.ls W (rq0X.on bb) (by have := key_small r0.ls (HSS.out r0 (by rw [HSr.out]; simp)); omega) (by omega))
                have hkey : keyL ql = keyL r0.ls ↔ ql = r0.ls := ⟨keyL_inj ql r0.ls hshq (HSS.out r0 (by rw [HSr.out]; simp)) hlq n0, fun e => by rw [e]⟩
                have c0 := Lib.cell_of_heap mbX 0
                have FXX := Lib.hid (fun W (bb : Below X0.heap.size X0 W) => show W.cell? ⟨g11, off11 + j * 2, none⟩ = some (.slice xa ql.length xc) ∧ W.cell? ⟨MB, 0, none⟩ = some (.slice ma r0.ls.length mc) from
                  ⟨(bb.cell (p := ⟨g11, off11 + j * 2, none⟩) hg11).trans k0, (bb.cell (p := ⟨MB, 0, none⟩) (by show MB < _; omega)).trans c0⟩)
                have kkX := FXX.out X0 (Below.refl _ _)
                have B0X := (Below.refl X0.heap.size X0).drew
                have i1 : (j : Int) < (km : Int) := by omega
                have HK1 := Lib.hid (fun W (bb : Below X0.heap.size X0 W) => show W.cell? ⟨g11, off11 + j * 2 + 1, none⟩ = some (.slice xb qss.length xbc) ∧ W.frozen? ⟨g11, off11 + j * 2 + 1, none⟩ = false from
                  ⟨(bb.cell (p := ⟨g11, off11 + j * 2 + 1, none⟩) hg11).trans k1, (bb.frozen (p := ⟨g11, off11 + j * 2 + 1, none⟩) hg11).trans f1⟩)
                have HRJ := Lib.hid hRj; have HQ' := Lib.hid hq; have HSSQ := Lib.hid hss; have RQB := Lib.hid rqb; have HCAP := Lib.hid (show qss.length ≤ xbc from by
                  have e := (Value.slice.inj ecap)
                  have e3 := e.2.2
                  have e2 := e.2.1
                  omega)
                obtain ⟨KX1, hKX1⟩ : ∃ x, x = bs (keyL ql) := ⟨_, rfl⟩
                obtain ⟨KX2, hKX2⟩ : ∃ x, x = bs (keyL r0.ls) := ⟨_, rfl⟩
                rw [← hKX1] at KY1
                rw [← hKX2] at KY2
                have HKK := Lib.hid (show (KX1.toList == KX2.toList) = decide (ql = r0.ls) from by
                  rw [hKX1, hKX2]
                  by_cases e : ql = r0.ls
                  · rw [e]; simp
                  · have h1 : keyL ql ≠ keyL r0.ls := fun h => e (hkey.1 h)
                    rw [decide_eq_false e]
                    rw [beq_eq_false_iff_ne]
                    intro h
                    exact h1 (by rw [bs_toList, bs_toList] at h; exact h))
                clear hq hqR' hRj hsn okq rqa rqb hss mbX rq0X hkey hKX1 hKX2 c0 k0 k1 f1 ecap hcap hshq
                go_upto_region 28 with fail
                go_region_held3 (fun W => W.cell? ⟨g11, off11 + j * 2, none⟩ = some (.slice xa ql.length xc) ∧ W.cell? ⟨MB, 0, none⟩ = some (.slice ma r0.ls.length mc))
                  (first | with_reducible exact FXX.out _ BK2 | with_reducible exact FXX.out _ BK1 | exact kkX | fail)
                  (first
                    | (go_at_call 12; (first
                        | ((with_reducible refine (KY2.out _ BK1).mono ?_); rintro e wk2 ⟨rfl, bk2⟩; have BK2 : Below X0.heap.size X0 wk2 := BK1.trans (bk2.mono BK1.size))
                        | ((with_reducible refine (KY1.out _ B0X).mono ?_); rintro e wk1 ⟨rfl, bk1⟩; have BK1 : Below X0.heap.size X0 wk1 := B0X.trans (bk1.mono B0X.size))))
                    | fail)
                have TNK := Lib.hid (htn.out.on BK2)
                have TTK := Lib.hid (htt.out.trans (Turn.of_below BK2))
                cases hbe : (KX1.toList == KX2.toList)
                · have e : ¬ ql = r0.ls := by have h := HKK.out; rw [hbe] at h; exact of_decide_eq_false h.symm
                  clear hbe
                  have STP := Lib.hid (show rws qsL = (R.take (j + 1)).map (lessF r0.ls) ++ R.drop (j + 1) from by
                    have h8 := map_step (lessF r0.ls) HRJ.out
                    have h9 : lessF r0.ls ⟨ql, qss⟩ = ⟨ql, qss⟩ := by unfold lessF; rw [if_neg e]
                    rw [h9, ← hrw.out, set_same _ _ _ (rws_at HQ'.out)] at h8
                    exact h8)
                  clear RQB KY1 KY2 HK1 FXX kkX B0X BK1 BK2 bk1 bk2
                  go_wp2
                  exact ⟨⟨j + 1, qsL, by go_num, by omega, TNK, STP, hql', Lib.hid (fun m hm => hsm.out m (by omega)), TTK⟩, by simp [intOf]; omega⟩
                · have e : ql = r0.ls := by have h := HKK.out; rw [hbe] at h; exact of_decide_eq_true h.symm
                  clear hbe
                  obtain ⟨h1c, h1f⟩ := HK1.out wk2 BK2
                  obtain ⟨gb, ob, rfl⟩ : ∃ gb ob, xb = some ⟨gb, ob, none⟩ := by
                    obtain ⟨_, a, c, g, o, e6, hg6, _⟩ := RQB.out
                    obtain ⟨r1, _, _⟩ := Value.slice.inj e6
                    have h5 := (hg6 (by rw [HSSQ.out]; simp)).1
                    exact ⟨g, o, by rw [r1, h5]⟩
                  have hn1 : 1 ≤ qss.length := by rw [HSSQ.out]; simp
                  have hll : qss.length = l.length + 1 := by rw [HSSQ.out]; rfl
                  obtain ⟨a6, h6, h7⟩ := run_tail1 gb ob qss.length xbc hn1 HCAP.out wk2
                  have FIN := Lib.hid (show TabN (wk2.setCell ⟨g11, off11 + j * 2 + 1, none⟩ (.slice a6 (qss.length - 1) (xbc - 1))) w10.heap.size 24 (.slice (some ⟨g11, off11, none⟩) km c11) (qsL.set j ⟨.slice xa ql.length xc, .slice a6 (qss.length - 1) (xbc - 1), ql, l⟩) from by
                    have hrd : Rd wk2 2 (.slice (some ⟨gb, ob, none⟩) qss.length xbc) qss.length (spc (s0 :: l)) := by
                      have := RQB.out.on BK2
                      rw [HSSQ.out] at this
                      rw [HSSQ.out]
                      exact this
                    have h8 := Rd.tailS (a := a6) (c' := xbc - 1) hrd hll (fun hp => h7 (by omega))
                    have hlm : qss.length - 1 = l.length := by omega
                    rw [hlm]
                    rw [hlm] at h7
                    have h9 := TabN.tail (v6 := .slice a6 l.length (xbc - 1)) TNK.out hql'.out.symm HQ'.out HSSQ.out h8 (fun hp => by rw [h7 hp]; rfl)
                    rw [← Nat.add_assoc] at h9
                    exact h9)
                  have STP := Lib.hid (show rws (qsL.set j ⟨.slice xa ql.length xc, .slice a6 (qss.length - 1) (xbc - 1), ql, l⟩) = (R.take (j + 1)).map (lessF r0.ls) ++ R.drop (j + 1) from by
                    rw [rws_set, hrw.out]
                    have h8 := map_step (lessF r0.ls) HRJ.out
                    have h9 : lessF r0.ls ⟨ql, qss⟩ = ⟨ql, l⟩ := by unfold lessF; rw [if_pos e, HSSQ.out]; rfl
                    rw [h9] at h8
                    exact h8)
                  have FT := Lib.hid (show Turn (fun x => (Value.slice (some ⟨g11, off11, none⟩) km c11).ownBlock = some x) V13 (wk2.setCell ⟨g11, off11 + j * 2 + 1, none⟩ (.slice a6 (qss.length - 1) (xbc - 1))) from TTK.out.setCell _ _ rfl)
                  have HLS := Lib.hid (show ∀ x, (qsL.set j x).length = km from fun x => by rw [List.length_set]; exact hql'.out)
                  have HSMS := Lib.hid (show ∀ x m, j + 1 ≤ m → (qsL.set j x)[m]? = qsR[m]? from fun x m hm => by rw [List.getElem?_set_ne (by omega)]; exact hsm.out m (by omega))
                  clear h7 hn1 hll RQB KY1 KY2 HK1 FXX kkX B0X BK1 BK2 bk1 bk2
                  go_wp2
                  exact ⟨⟨j + 1, _, by go_num, by omega, Lib.hid FIN.out, Lib.hid STP.out, Lib.hid (HLS.out _), Lib.hid (HSMS.out _), Lib.hid FT.out⟩, by simp [intOf]; omega⟩
              · obtain rfl : j = km := by omega
                have BX : Below w10.heap.size w10 X0 := BV13.out.trans (htt.out.below BV13.out.size (fun x hx => (LV11.out x hx).1))
                have LX := L10.out.on BX
                have hless : rws qsL = R.map (lessF r0.ls) := by
                  rw [hrw.out, List.take_of_length_le (by have := HKM.out; omega), List.drop_of_length_le (by have := HKM.out; omega), List.append_nil]
                have ST := Lib.hid (settle_any b (b + 1) 100 24 S (R.map (lessF r0.ls)) ps (.slice a11 j c11) X0 LX (by
                  have h1 := htn.out.read (by have := hql'.out; omega)
                  have h2 : qsL.map Rq.r = R.map (lessF r0.ls) := hless
                  rw [h2] at h1
                  exact h1) (less_up _ UR.out) SHP.out (by omega) (by omega) (by decide))
                have DX := Lib.hid (D10.out.trans (BX.mono D10.out.size))
                have LX' := Lib.hid LX; have CX := Lib.hid (C10.out.on BX)
                clear BX LX hless htn hrw hql' hsm htt L10 C10 D10
                go_wp2_with fail
                refine ST.out.mono ?_
                rintro e wS ⟨⟨c, rfl, -, hc, -⟩, -, hB, -⟩
                have hnw := HNO.out r0 S' HSr.out
                obtain rfl := hc hnw
                have bS := hB (fun h => hnw h.1)
                have LZ := Lib.hid (LX'.out.on bS); have CZ := Lib.hid (CX.out.on bS); have DZ := Lib.hid (DX.out.trans (bS.mono DX.out.size))
                clear hc hnw bS hB ST LX' CX DX
                go_upto_region 33 with fail
                have ST := Lib.hid (settle_any b (b + 1) 100 24 S R ps (.slice ka j kc) _ LZ.out CZ.out.r UR.out SHP.out (by omega) (by omega) (by decide))
                go_wp2_with fail
                refine ST.out.mono ?_
                rintro e wA ⟨⟨c, rfl, hc, -, -⟩, hL, -, hT⟩
                obtain rfl := hc.2 HSET.out
                have LA := Lib.hid (hL HSET.out).1
                have RA := Lib.hid (CZ.out.turnB LZ.out NR.out hT)
                have DA := Lib.hid (DZ.out.trans (hT.below DZ.out.size (fun x hx => by omega)))
                have hRl : R.length ≤ 24 := HLEN.out.1
                clear hc hL hT ST LZ CZ DZ
                go_wp2_with fail
                refine (sure_any b (b + 1) 24 R [] wA LA.out (by decide)).mono ?_
                rintro e wB ⟨vB, TB, rfl, tB, eB, bB⟩
                have tB2 : TabR wB 24 vB R := by rw [← eB]; exact (tB.readF (by have := rws_len TB; rw [eB] at this; omega)).c.r
                have TB2 := Lib.hid tB2
                have DB := Lib.hid (DA.out.trans (bB.mono DA.out.size)); have LB := Lib.hid (LA.out.on bB); have RB := Lib.hid (RA.out.on bB)
                clear tB eB bB tB2 LA RA DA
                go_wp2_with fail
                refine (told14_any vB R 24 wB TB2.out (by omega) (by decide)).mono ?_
                rintro e wC ⟨uv, rfl, tu, bC⟩
                have TU := Lib.hid tu
                have DC := Lib.hid (DB.out.trans (bC.mono DB.out.size)); have LC := Lib.hid (LB.out.on bC); have RC := Lib.hid (RB.out.on bC)
                clear tu bC LB RB DB TB2
                go_wp2_with fail
                refine (told14_any (.slice ka j kc) R 24 wC RC.out (by omega) (by decide)).mono ?_
                rintro e wD ⟨vv, rfl, tv, bD⟩
                have TV := Lib.hid tv; have TU2 := Lib.hid (TU.out.on bD)
                have DD := Lib.hid (DC.out.trans (bD.mono DC.out.size)); have LD := Lib.hid (LC.out.on bD); have RD := Lib.hid (RC.out.on bD)
                clear tv bD LC RC DC TU
                go_wp2_with fail
                refine (same14_any uv vv R 24 wD TU2.out TV.out (by omega) (by decide)).mono ?_
                rintro e wE ⟨rfl, bE⟩
                have DE := Lib.hid (DD.out.trans (bE.mono DD.out.size)); have LE := Lib.hid (LD.out.on bE); have RE := Lib.hid (RD.out.on bE)
                clear bE LD RD DD TV TU2
                go_wp2_with fail
                refine (open_any b (b + 1) 24 R [] wE LE.out).mono ?_
                rintro e wF ⟨rfl, rfl⟩
                go_wp2_with fail
                refine (may_any b (b + 1) 24 R [] wE LE.out (show R.length + 0 ≤ 100000 by omega) (show (24 : Nat) + 0 ≤ 100000 by decide)).mono ?_
                rintro e wG ⟨vG, TG, rfl, tG, eG, uG, lG, bG⟩
                have eG' : rws TG = R := eG
                have tG2 : TabR wG 24 vG R := by rw [← eG']; exact (tG.readF (by have h9 : TG.length ≤ R.length + 0 := lG; omega)).c.r
                have TG2 := Lib.hid tG2
                have DG := Lib.hid (DE.out.trans (bG.mono DE.out.size)); have RG := Lib.hid (RE.out.on bG)
                clear tG eG eG' uG lG bG tG2 LE RE DE
                go_wp2_with fail
                refine (told14_any vG R 24 wG TG2.out (by omega) (by decide)).mono ?_
                rintro e wH ⟨uH, rfl, tH, bH⟩
                have TH := Lib.hid tH
                have DH := Lib.hid (DG.out.trans (bH.mono DG.out.size)); have RH := Lib.hid (RG.out.on bH)
                clear tH bH RG DG TG2
                go_wp2_with fail
                refine (told14_any (.slice ka j kc) R 24 wH RH.out (by omega) (by decide)).mono ?_
                rintro e wI ⟨vI, rfl, tI, bI⟩
                have TI := Lib.hid tI; have TH2 := Lib.hid (TH.out.on bI)
                have DI := Lib.hid (DH.out.trans (bI.mono DH.out.size))
                clear tI bI RH DH TH
                go_wp2_with fail
                refine (same14_any uH vI R 24 wI TH2.out TI.out (by omega) (by decide)).mono ?_
                rintro e wJ ⟨rfl, bJ⟩
                go_wp2
                go_ret
                exact ⟨rfl, DI.out.trans (bJ.mono DI.out.size)⟩
end Go.Proofs.YtfckgcckpfklaaaGreatDoor
