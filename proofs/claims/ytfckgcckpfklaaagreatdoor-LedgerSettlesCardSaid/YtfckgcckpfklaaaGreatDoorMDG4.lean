/- Layer 25: a table that is being written: whose memory is whose, and what a step leaves. -/
import Derived.Test.YtfckgcckpfklaaaGreatDoorMDG3
import Derived.Test.YtfckgcckpfklaaaGreatDoorMWM
namespace Go.Proofs.YtfckgcckpfklaaaGreatDoor
open Go.RowKit Go.Lib Hp
set_option linter.unusedVariables false

/-- Which part of a table a block is. -/
inductive LTag where
  | tab
  | lab
  | smp (ls : List Pr)
/-- Blocks and what they are of. -/
abbrev Own := Nat → Option LTag
/-- Blocks that are somebody's are there. -/
def OwnLt (base : Nat) (o : Own) (w : World) : Prop := ∀ k t, o k = some t → base ≤ k ∧ k < w.heap.size
/-- A step: blocks of some parts are turned, and new ones may be there; none changes hands. -/
structure Stp (T : LTag → Prop) (o o' : Own) (w w' : World) : Prop where
  turn : Turn (fun k => ∃ t, o k = some t ∧ T t) w w'
  keep : ∀ k t, o k = some t → o' k = some t
  new : ∀ k t, o' k = some t → o k = some t ∨ (w.heap.size ≤ k ∧ k < w'.heap.size)
theorem Stp.lt {T : LTag → Prop} {base : Nat} {o o' : Own} {w w' : World} (s : Stp T o o' w w') (h : OwnLt base o w) (hb : base ≤ w.heap.size) : OwnLt base o' w' := fun k t hk => by
  have := s.turn.size
  rcases s.new k t hk with h1 | ⟨h1, h2⟩
  · have := h k t h1; omega
  · omega
theorem Stp.below {T : LTag → Prop} {o : Own} {w w' : World} (b : Below w.heap.size w w') : Stp T o o w w' := ⟨Turn.of_below b, fun _ _ h => h, fun _ _ h => .inl h⟩
/-- A block that is of a part which isn't turned is as it was. -/
theorem Stp.block {T : LTag → Prop} {o o' : Own} {w w' : World} (s : Stp T o o' w w') {k : Nat} {t : LTag} (hk : o k = some t) (hT : ¬ T t) (hl : k < w.heap.size) : w'.heap[k]? = w.heap[k]? :=
  s.turn.block k hl fun ⟨u, h1, h2⟩ => hT (by rw [hk] at h1; cases h1; exact h2)
/-- What lies below the table stays. -/
theorem Stp.belowB {T : LTag → Prop} {base : Nat} {o o' : Own} {w w' : World} (s : Stp T o o' w w') (h : OwnLt base o w) (hb : base ≤ w.heap.size) : Below base w w' :=
  s.turn.below hb fun k ⟨t, h1, _⟩ => (h k t h1).1

/-- A slice in memory that is a part of the table. -/
def SlO (base : Nat) (o : Own) (t : LTag) (w : World) (size : Nat) (v : Value) (n : Nat) (xs : List Value) : Prop :=
  Sl w base size v n xs ∧ ∀ k, v.ownBlock = some k → o k = some t
theorem SlO.step {T : LTag → Prop} {o o' : Own} {t : LTag} {w w' : World} {base size n : Nat} {v : Value} {xs : List Value} (h : SlO base o t w size v n xs) (s : Stp T o o' w w') (hT : ¬ T t) : SlO base o' t w' size v n xs :=
  ⟨h.1.same s.turn.size fun k hk => s.block (h.2 k hk) hT (h.1.lt k hk).2, fun k hk => s.keep k t (h.2 k hk)⟩
theorem SlO.nil (base size : Nat) (o : Own) (t : LTag) (w : World) : SlO base o t w size (.slice none 0 0) 0 [] := ⟨Sl.nil _ _ _, fun _ h => by cases h⟩
theorem own_new {base size n n' : Nat} {o : Own} {t : LTag} {w w' : World} {v v' : Value} {xs xs' : List Value} (h : SlO base o t w size v n xs) (hl : OwnLt base o w)
    (h' : Sl w' base size v' n' xs') (ht : Turn (fun k => v.ownBlock = some k) w w') (hk : ∀ k, v'.ownBlock = some k → v.ownBlock = some k ∨ w.heap.size ≤ k) :
    ∃ o', Stp (fun u => u = t) o o' w w' ∧ SlO base o' t w' size v' n' xs' := by
  classical
  refine ⟨fun k => if v'.ownBlock = some k then some t else o k, ⟨ht.mono fun k e => ⟨t, h.2 k e, rfl⟩, fun k u hu => ?_, fun k u hu => ?_⟩, h', fun k hk' => by simp only [hk', if_true]⟩
  · by_cases e : v'.ownBlock = some k
    · rw [if_pos e]
      rcases hk k e with h1 | h1
      · rw [← hu]; exact (h.2 k h1).symm
      · have := (hl k u hu).2; omega
    · rw [if_neg e]; exact hu
  · by_cases e : v'.ownBlock = some k
    · rw [if_pos e] at hu
      cases hu
      rcases hk k e with h1 | h1
      · exact .inl (h.2 k h1)
      · exact .inr ⟨h1, (h'.lt k e).2⟩
    · rw [if_neg e] at hu; exact .inl hu
theorem Rd.same {w w' : World} {size n : Nat} {v : Value} {xs : List Value} (h : Rd w size v n xs) (hz : w.heap.size ≤ w'.heap.size) (hk : ∀ k, v.ownBlock = some k → k < w.heap.size → w'.heap[k]? = w.heap[k]?) : Rd w' size v n xs := by
  obtain ⟨hl, a, cap, g, off, rfl, h1, h2⟩ := h
  refine ⟨hl, a, cap, g, off, rfl, fun hn => ⟨(h1 hn).1, Nat.lt_of_lt_of_le (h1 hn).2 hz⟩, fun j hj => ?_⟩
  by_cases hn : 0 < n
  · obtain ⟨rfl, hlt⟩ := h1 hn
    rw [← h2 j hj]
    exact World.cell?_of_block (w := w) (w' := w') (hk g rfl hlt)
  · have : n = 0 := by omega
    subst this
    rw [Nat.zero_mul] at hj
    exact absurd hj (Nat.not_lt_zero _)

structure RowO (w : World) (o : Own) (base K : Nat) (q : Rq) : Prop where
  l : Rd w 2 q.a q.r.ls.length (prc q.r.ls)
  lo : ∀ k, q.a.ownBlock = some k → o k = some .lab
  s : SlO base o (.smp q.r.ls) w 2 q.b q.r.ss.length (spc q.r.ss)
  hl : q.r.ls.length ≤ 1000
  hs : q.r.ss.length ≤ K
theorem RowO.step {T : LTag → Prop} {o o' : Own} {w w' : World} {base K : Nat} {q : Rq} (h : RowO w o base K q) (s : Stp T o o' w w') (hl : ¬ T .lab) (hs : ¬ T (.smp q.r.ls)) : RowO w' o' base K q :=
  ⟨h.l.same s.turn.size fun k hk hlt => s.block (h.lo k hk) hl hlt, fun k hk => s.keep k _ (h.lo k hk), h.s.step s hs, h.hl, h.hs⟩
theorem RowO.ok {w : World} {o : Own} {base K : Nat} {q : Rq} (h : RowO w o base K q) : RowOk w K q := ⟨h.l, Rd.of_sl h.s.1, h.hl, h.hs⟩
theorem RowO.mono {w : World} {o : Own} {base K K' : Nat} {q : Rq} (h : RowO w o base K q) (hk : K ≤ K') : RowO w o base K' q := ⟨h.l, h.lo, h.s, h.hl, Nat.le_trans h.hs hk⟩
/-- A table all of whose memory is its own. -/
structure TabW (w : World) (o : Own) (base K : Nat) (v : Value) (qs : List Rq) : Prop where
  sl : SlO base o .tab w 2 v qs.length (rqc qs)
  ok : ∀ q ∈ qs, RowO w o base K q
  lt : OwnLt base o w
  le : base ≤ w.heap.size
def TabO (w : World) (base K : Nat) (v : Value) (qs : List Rq) : Prop := ∃ o, TabW w o base K v qs
theorem TabO.nil (w : World) (base K : Nat) (hb : base ≤ w.heap.size) : TabO w base K (.slice none 0 0) [] :=
  ⟨fun _ => none, ⟨SlO.nil _ _ _ _ _, fun q hq => absurd hq (by simp), (fun k t h => by cases h), hb⟩⟩
theorem TabW.on {w w' : World} {o : Own} {base K : Nat} {v : Value} {qs : List Rq} (h : TabW w o base K v qs) (b : Below w.heap.size w w') : TabW w' o base K v qs := by
  have s : Stp (fun _ => False) o o w w' := Stp.below b
  exact ⟨h.sl.step s (fun h => h), fun q hq => (h.ok q hq).step s (fun h => h) (fun h => h), s.lt h.lt h.le, Nat.le_trans h.le b.size⟩
theorem TabO.on {w w' : World} {base K : Nat} {v : Value} {qs : List Rq} (h : TabO w base K v qs) (b : Below w.heap.size w w') : TabO w' base K v qs := by
  obtain ⟨o, h⟩ := h
  exact ⟨o, h.on b⟩
theorem TabO.mono {w : World} {base K K' : Nat} {v : Value} {qs : List Rq} (h : TabO w base K v qs) (hk : K ≤ K') : TabO w base K' v qs := by
  obtain ⟨o, h⟩ := h
  exact ⟨o, ⟨h.sl, fun q hq => (h.ok q hq).mono hk, h.lt, h.le⟩⟩
theorem TabO.slice {w : World} {base K : Nat} {v : Value} {qs : List Rq} (h : TabO w base K v qs) : ∃ a c, v = .slice a qs.length c := by
  obtain ⟨o, h⟩ := h
  exact h.sl.1.slice
theorem TabO.rd {w : World} {base K : Nat} {v : Value} {qs : List Rq} (h : TabO w base K v qs) : Rd w 2 v qs.length (rqc qs) := by
  obtain ⟨o, h⟩ := h
  exact Rd.of_sl h.sl.1
theorem TabO.row {w : World} {base K : Nat} {v : Value} {qs : List Rq} {q : Rq} (h : TabO w base K v qs) (hq : q ∈ qs) : RowOk w K q := by
  obtain ⟨o, h⟩ := h
  exact (h.ok q hq).ok
theorem TabO.len {w : World} {base K : Nat} {v : Value} {qs : List Rq} (h : TabO w base K v qs) : qs.length ≤ maxLen := by
  obtain ⟨o, h⟩ := h
  rcases h.sl.1.2 with ⟨_, h0⟩ | ⟨_, _, _, _, _, _, h3, h4, _⟩
  · rw [h0]; exact Nat.zero_le _
  · exact Nat.le_trans h3 h4
theorem TabO.readF {w : World} {base K : Nat} {v : Value} {qs : List Rq} (h : TabO w base K v qs) (hn : qs.length ≤ 100000) : TabF w base K v (rws qs) := by
  obtain ⟨o, h⟩ := h
  refine ⟨⟨by rw [rws, List.length_map]; exact hn, by rw [rws, List.length_map]; exact h.sl.1.capd, fun k hk => (h.sl.1.lt k hk).1⟩, qs, rfl, by rw [rws, List.length_map]; exact Rd.of_sl h.sl.1, fun q hq => ⟨(h.ok q hq).ok, (h.ok q hq).s.1.capd, fun k hk => (h.lt k _ ((h.ok q hq).lo k hk)).1, fun k hk => ((h.ok q hq).s.1.lt k hk).1⟩⟩

theorem rqc_insC (qs : List Rq) (q : Rq) (i : Nat) (hi : i ≤ qs.length) : insC (rqc qs) [q.a, q.b] i = rqc (qs.take i ++ q :: qs.drop i) := by
  have e : rqc qs = rqc (qs.take i) ++ rqc (qs.drop i) := by rw [← rqc_append, List.take_append_drop]
  have hl : (rqc (qs.take i)).length = i * 2 := by rw [rqc_len, List.length_take, Nat.min_eq_left hi]
  unfold insC
  rw [rqc_append, show rqc (q :: qs.drop i) = [q.a, q.b] ++ rqc (qs.drop i) from rfl, e]
  rw [List.take_append_of_le_length (by omega), List.take_of_length_le (by omega), List.drop_append_of_le_length (by omega), List.drop_of_length_le (by omega), List.nil_append]
theorem spc_insC (l : List Sp) (s : Sp) (i : Nat) (hi : i ≤ l.length) : insC (spc l) [.int .i64 s.t, .int .u64 s.v] i = spc (l.take i ++ s :: l.drop i) := by
  have e : spc l = spc (l.take i) ++ spc (l.drop i) := by rw [← spc_append, List.take_append_drop]
  have hl : (spc (l.take i)).length = i * 2 := by rw [spc_len, List.length_take, Nat.min_eq_left hi]
  unfold insC
  rw [spc_append, show spc (s :: l.drop i) = [.int .i64 s.t, .int .u64 s.v] ++ spc (l.drop i) from rfl, e]
  rw [List.take_append_of_le_length (by omega), List.take_of_length_le (by omega), List.drop_append_of_le_length (by omega), List.drop_of_length_le (by omega), List.nil_append]
theorem rqc_one {w : World} {o : Own} {base K : Nat} {v : Value} {qs : List Rq} (h : TabW w o base K v qs) : ∀ u ∈ rqc qs, u.oneCell' = true := by
  intro u hu
  simp only [rqc, List.mem_flatMap, List.mem_cons, List.not_mem_nil, or_false] at hu
  obtain ⟨q, hq, rfl | rfl⟩ := hu
  · obtain ⟨_, a, c, g, off, e, _⟩ := (h.ok q hq).l
    rw [e]; rfl
  · obtain ⟨a, c, e⟩ := (h.ok q hq).s.1.slice
    rw [e]; rfl

/-- A row more, of labels in new memory and no samples. -/
theorem TabW.insert {w0 w w' : World} {o : Own} {base K i : Nat} {v x : Value} {qs : List Rq} {ls : List Pr} {e : Ending} (h : TabW w0 o base K v qs) (b : Below w0.heap.size w0 w) (hx : Sl w w0.heap.size 2 x ls.length (prc ls)) (hls : ls.length ≤ 1000)
    (hi : i ≤ qs.length) (hI : IW w base v (qs.length + 1) (insC (rqc qs) [x, .slice none 0 0] i) e w') :
    ∃ v', e = .returned v' ∧ TabO w' base K v' (qs.take i ++ ⟨x, .slice none 0 0, ⟨ls, []⟩⟩ :: qs.drop i) ∧ Below base w w' := by
  classical
  obtain ⟨v', rfl, h1, h2, h3⟩ := hI
  have hw := h.on b
  have hxn : ∀ k, x.ownBlock = some k → o k = none := fun k hk => by
    cases ho : o k with
    | none => rfl
    | some t =>
      have := (h.lt k t ho).2
      have := (hx.lt k hk).1
      omega
  have o1 : ∃ o1 : Own, (∀ k t, o k = some t → o1 k = some t) ∧ (∀ k, x.ownBlock = some k → o1 k = some .lab) ∧ OwnLt base o1 w := by
    refine ⟨fun k => if x.ownBlock = some k then some .lab else o k, fun k t hk => ?_, fun k hk => if_pos hk, fun k t hk => ?_⟩
    · by_cases e : x.ownBlock = some k
      · rw [hxn k e] at hk; cases hk
      · simp only [if_neg e]; exact hk
    · by_cases e : x.ownBlock = some k
      · have := hx.lt k e
        have := h.le
        omega
      · simp only [if_neg e] at hk
        exact hw.lt k t hk
  obtain ⟨o1, k1, k2, k3⟩ := o1
  have s1 : SlO base o1 .tab w 2 v qs.length (rqc qs) := ⟨hw.sl.1, fun k hk => k1 k _ (hw.sl.2 k hk)⟩
  obtain ⟨o2, st, s2⟩ := own_new s1 k3 h1 h2 h3
  refine ⟨v', rfl, ⟨o2, ?_, fun q hq => ?_, st.lt k3 hw.le, Nat.le_trans hw.le st.turn.size⟩, st.belowB k3 hw.le⟩
  · have hl : (qs.take i ++ ⟨x, .slice none 0 0, ⟨ls, []⟩⟩ :: qs.drop i).length = qs.length + 1 := by
      simp only [List.length_append, List.length_cons, List.length_take, List.length_drop]; omega
    rw [hl, ← rqc_insC _ _ _ hi]
    exact s2
  · have hq' : q = ⟨x, .slice none 0 0, ⟨ls, []⟩⟩ ∨ q ∈ qs := by
      rcases List.mem_append.1 hq with hq | hq
      · exact .inr (List.mem_of_mem_take hq)
      · rcases List.mem_cons.1 hq with hq | hq
        · exact .inl hq
        · exact .inr (List.mem_of_mem_drop hq)
    rcases hq' with rfl | hq'
    · have r0 : RowO w o1 base K ⟨x, .slice none 0 0, ⟨ls, []⟩⟩ := ⟨Rd.of_sl hx, k2, SlO.nil _ _ _ _ _, hls, Nat.zero_le _⟩
      exact r0.step st (fun h => by cases h) (fun h => by cases h)
    · have r0 := hw.ok q hq'
      have r1 : RowO w o1 base K q := ⟨r0.l, fun k hk => k1 k _ (r0.lo k hk), ⟨r0.s.1, fun k hk => k1 k _ (r0.s.2 k hk)⟩, r0.hl, r0.hs⟩
      exact r1.step st (fun h => by cases h) (fun h => by cases h)

/-- A row's samples are replaced by those with one more. -/
theorem TabW.store {w w' : World} {o : Own} {base K i g off cap : Nat} {b' : Value} {qs : List Rq} {q : Rq} {ss : List Sp} {n : Nat} (h : TabW w o base K (.slice (some ⟨g, off, none⟩) n cap) qs) (hn : n = qs.length) (hq : qs[i]? = some q)
    (hu : (rws qs).Pairwise fun a b => a.ls ≠ b.ls) (hs : ss.length ≤ K + 1)
    (h1 : Sl w' base 2 b' ss.length (spc ss)) (h2 : Turn (fun k => q.b.ownBlock = some k) w w') (h3 : ∀ k, b'.ownBlock = some k → q.b.ownBlock = some k ∨ w.heap.size ≤ k) :
    TabO (w'.setCell ⟨g, off + (i * 2 + 1), none⟩ b') base (K + 1) (.slice (some ⟨g, off, none⟩) n cap) (qs.set i ⟨q.a, b', ⟨q.r.ls, ss⟩⟩) ∧ Below base w (w'.setCell ⟨g, off + (i * 2 + 1), none⟩ b') := by
  have hqm := List.mem_of_getElem? hq
  obtain ⟨o2, st, s2⟩ := own_new (h.ok q hqm).s h.lt h1 h2 h3
  have sl2 := h.sl.step st (fun h => by cases h)
  have hgo : o2 g = some .tab := sl2.2 g rfl
  have hgb : base ≤ g := (sl2.1.lt g rfl).1
  have noB : ∀ {k t}, o2 k = some t → t ≠ .tab → k ≠ g := fun hk ht e => ht (by rw [e, hgo] at hk; exact (Option.some.inj hk).symm)
  have key : ∀ {m : Nat} {x : Value} {xs : List Value} {t : LTag}, SlO base o2 t w' 2 x m xs → t ≠ .tab → SlO base o2 t (w'.setCell ⟨g, off + (i * 2 + 1), none⟩ b') 2 x m xs := fun hx ht =>
    ⟨hx.1.same (by simp [World.setCell]) fun k hk => by
      have hne := noB (hx.2 k hk) ht
      simp only [World.setCell]
      rw [Array.getElem?_modify]
      rw [if_neg (fun e => hne e.symm)], hx.2⟩
  have b1 : Below base w w' := st.belowB h.lt h.le
  refine ⟨⟨o2, ?_, fun p hp => ?_, fun k t hk => ?_, ?_⟩, ?_⟩
  · rw [List.length_set, rqc_set qs i q ⟨q.a, b', ⟨q.r.ls, ss⟩⟩ hq rfl]
    subst hn
    exact ⟨sl_setG sl2.1 _ _, sl2.2⟩
  · rcases List.mem_or_eq_of_mem_set hp with hp0 | rfl
    · -- a row that stays, or the old one again: of other labels, unless it's i itself
      obtain ⟨j, hj⟩ := List.getElem?_of_mem hp
      by_cases hji : j = i
      · subst hji
        rw [List.getElem?_set_self (List.getElem?_eq_some_iff.1 hq).1] at hj
        cases hj
        have r0 := h.ok q hqm
        refine ⟨?_, fun k hk => st.keep k _ (r0.lo k hk), key s2 (fun h => by cases h), r0.hl, hs⟩
        have l2 : Rd w' 2 q.a q.r.ls.length (prc q.r.ls) := r0.l.same st.turn.size fun k hk hlt => st.block (r0.lo k hk) (fun h => by cases h) hlt
        exact l2.setOff _ _ _ fun _ e => noB (st.keep _ _ (r0.lo g e)) (fun h => by cases h) rfl
      · rw [List.getElem?_set_ne (fun e => hji e.symm)] at hj
        have hne : p.r.ls ≠ q.r.ls := by
          have hpj : (rws qs)[j]? = some p.r := by unfold rws; rw [List.getElem?_map, hj]; rfl
          have hqi : (rws qs)[i]? = some q.r := by unfold rws; rw [List.getElem?_map, hq]; rfl
          obtain ⟨lj, ej⟩ := List.getElem?_eq_some_iff.1 hpj
          obtain ⟨li, ei⟩ := List.getElem?_eq_some_iff.1 hqi
          have hP := List.pairwise_iff_getElem.1 hu
          rcases Nat.lt_or_gt_of_ne hji with hlt | hgt
          · have := hP j i lj li hlt
            rw [ej, ei] at this
            exact this
          · have := hP i j li lj hgt
            rw [ej, ei] at this
            exact fun e => this e.symm
        have r0 := (h.ok p hp0).step st (fun h => by cases h) (fun h => hne (LTag.smp.inj h))
        refine ⟨?_, r0.lo, key r0.s (fun h => by cases h), r0.hl, Nat.le_succ_of_le r0.hs⟩
        exact r0.l.setOff _ _ _ fun _ e => noB (r0.lo g e) (fun h => by cases h) rfl
    · have r0 := h.ok q hqm
      refine ⟨?_, fun k hk => st.keep k _ (r0.lo k hk), key s2 (fun h => by cases h), r0.hl, hs⟩
      have l2 : Rd w' 2 q.a q.r.ls.length (prc q.r.ls) := r0.l.same st.turn.size fun k hk hlt => st.block (r0.lo k hk) (fun h => by cases h) hlt
      exact l2.setOff _ _ _ fun _ e => noB (st.keep _ _ (r0.lo g e)) (fun h => by cases h) rfl
  · have := (st.lt h.lt h.le) k t hk
    simpa [World.setCell] using this
  · have := b1.size
    have := h.le
    simp only [World.setCell, Array.size_modify]
    omega
  · exact b1.setCell hgb _
end Go.Proofs.YtfckgcckpfklaaaGreatDoor
