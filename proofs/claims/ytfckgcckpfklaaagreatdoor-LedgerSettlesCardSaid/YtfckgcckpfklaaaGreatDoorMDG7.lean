/- Layer 25: own, walked: a table's copy whose memory is its own. -/
import Derived.Test.YtfckgcckpfklaaaGreatDoorMDG5
namespace Go.Proofs.YtfckgcckpfklaaaGreatDoor
open Go.RowKit Go.Lib Hp
set_option linter.unusedVariables false

theorem run_isnil_smp (a : Option Addr) (n c : Nat) (w : World) : (binOp BinOp.eql 41 (.slice a n c) (.slice none 0 0)).run Tryz.prog w = .ok (.bool a.isNone) w := by
  have hu := run_underlying Tryz.underlying41
  have he : (Op.equal 41 (.slice a n c) (.slice none 0 0)).run Tryz.prog w = .ok a.isNone w := by
    show (Op.equalIn (9999 + 1) _ _ _).run _ _ = _
    unfold Op.equalIn
    simp only [Sem.run_bind, hu, Result.andThen]
    cases a <;> rfl
  simp [binOp, go_sem, he]
set_option maxHeartbeats 1000000 in
set_option maxRecDepth 100000 in
theorem clone_smp (v : Value) (n : Nat) (xs : List Value) (w : World) (hr : Rd w 2 v n xs) (hm : n ≤ 1000000) (h1 : ∀ u ∈ xs, u.oneCell' = true) :
    Calls Tryz.prog 49 #[v] w fun e w' => ∃ v', e = .returned v' ∧ Sl w' w.heap.size 2 v' n xs ∧ Below w.heap.size w w' := by
  obtain ⟨i0, hi, hz0, hz1, hz2⟩ := info_parts zc_smp
  have Hz := Lib.hid hz0; have Hs := Lib.hid hz1; have Hb := Lib.hid hz2; have Hi := Lib.hid hi
  clear hz0 hz1 hz2 hi
  have HR := Lib.hid hr
  have H1 := Lib.hid h1
  obtain ⟨hl0, a, cap, g, off, rfl, hg, hc⟩ := hr
  clear h1
  cases a with
  | none =>
    have hn0 : n = 0 := by
      rcases Nat.eq_zero_or_pos n with h0 | h0
      · exact h0
      · exact absurd (hg h0).1 (by simp)
    subst hn0
    have HE := Lib.hid (show xs = [] from List.eq_nil_of_length_eq_zero (by omega))
    have hq := fun W => run_isnil_smp none 0 cap W
    clear hl0 hg hc
    go_enter Tryz.func49, Tryz.ntmps49
    go_wp2
    go_ret
    exact ⟨_, rfl, by rw [HE.out]; exact Sl.nil _ _ _, Below.refl _ _⟩
  | some ad =>
    have n1 : 0 + n ≤ maxLen := by unfold maxLen; omega
    have n2 : (0 + n) * 16 ≤ 140737488355328 := by omega
    have hq := fun W => run_isnil_smp (some ad) n cap W
    clear hl0 hg hc
    go_enter Tryz.func49, Tryz.ntmps49
    go_wp2_with (at_builtin; refine wpList_append_rd _ rfl _ _ 41 rfl w.heap.size 34 i0 (.agg #[.int .i64 0, .int .u64 0]) 2 16 Tryz.underlying41 Hi.out Hz.out Hs.out Hb.out rfl (by decide) _ 0 _ rfl (Sl.lit w w.heap.size 2 0 #[] _ (Nat.le_refl _) (by decide) rfl) _ n _ rfl (HR.out.on ((Below.refl _ _).alloc (Nat.le_refl _) _)) H1.out n1 n2 (by simp) ?_; intro v' w1 hx)
    go_ret
    have hx1 := hx.now
    rw [Nat.zero_add, List.nil_append] at hx1
    refine ⟨_, rfl, hx1, ?_⟩
    exact ((Below.refl _ w).alloc (Nat.le_refl _) _).grown hx.grown (by simp) (fun k e => by have e2 : w.heap.size = k := Option.some.inj e; omega)

theorem run_isnil_row (a : Option Addr) (n c : Nat) (w : World) : (binOp BinOp.eql 24 (.slice a n c) (.slice none 0 0)).run Tryz.prog w = .ok (.bool a.isNone) w := by
  have hu := run_underlying Tryz.underlying24
  have he : (Op.equal 24 (.slice a n c) (.slice none 0 0)).run Tryz.prog w = .ok a.isNone w := by
    show (Op.equalIn (9999 + 1) _ _ _).run _ _ = _
    unfold Op.equalIn
    simp only [Sem.run_bind, hu, Result.andThen]
    cases a <;> rfl
  simp [binOp, go_sem, he]
set_option maxHeartbeats 1000000 in
set_option maxRecDepth 100000 in
theorem clone_row (v : Value) (n : Nat) (xs : List Value) (w : World) (hr : Rd w 2 v n xs) (hm : n ≤ 1000000) (h1 : ∀ u ∈ xs, u.oneCell' = true) :
    Calls Tryz.prog 48 #[v] w fun e w' => ∃ v', e = .returned v' ∧ Sl w' w.heap.size 2 v' n xs ∧ Below w.heap.size w w' := by
  obtain ⟨i0, hi, hz0, hz1, hz2⟩ := info_parts zc_mrow
  have Hz := Lib.hid hz0; have Hs := Lib.hid hz1; have Hb := Lib.hid hz2; have Hi := Lib.hid hi
  clear hz0 hz1 hz2 hi
  have HR := Lib.hid hr
  have H1 := Lib.hid h1
  obtain ⟨hl0, a, cap, g, off, rfl, hg, hc⟩ := hr
  clear h1
  cases a with
  | none =>
    have hn0 : n = 0 := by
      rcases Nat.eq_zero_or_pos n with h0 | h0
      · exact h0
      · exact absurd (hg h0).1 (by simp)
    subst hn0
    have HE := Lib.hid (show xs = [] from List.eq_nil_of_length_eq_zero (by omega))
    have hq := fun W => run_isnil_row none 0 cap W
    clear hl0 hg hc
    go_enter Tryz.func48, Tryz.ntmps48
    go_wp2
    go_ret
    exact ⟨_, rfl, by rw [HE.out]; exact Sl.nil _ _ _, Below.refl _ _⟩
  | some ad =>
    have n1 : 0 + n ≤ maxLen := by unfold maxLen; omega
    have n2 : (0 + n) * 48 ≤ 140737488355328 := by omega
    have hq := fun W => run_isnil_row (some ad) n cap W
    clear hl0 hg hc
    go_enter Tryz.func48, Tryz.ntmps48
    go_wp2_with (at_builtin; refine wpList_append_rd _ rfl _ _ 24 rfl w.heap.size 43 i0 (.agg #[.slice none 0 0, .slice none 0 0]) 2 48 Tryz.underlying24 Hi.out Hz.out Hs.out Hb.out rfl (by decide) _ 0 _ rfl (Sl.lit w w.heap.size 2 0 #[] _ (Nat.le_refl _) (by decide) rfl) _ n _ rfl (HR.out.on ((Below.refl _ _).alloc (Nat.le_refl _) _)) H1.out n1 n2 (by simp) ?_; intro v' w1 hx)
    go_ret
    have hx1 := hx.now
    rw [Nat.zero_add, List.nil_append] at hx1
    refine ⟨_, rfl, hx1, ?_⟩
    exact ((Below.refl _ w).alloc (Nat.le_refl _) _).grown hx.grown (by simp) (fun k e => by have e2 : w.heap.size = k := Option.some.inj e; omega)

theorem rqc_cells (qs : List Rq) (h : ∀ q ∈ qs, (∃ a n c, q.a = .slice a n c) ∧ ∃ a n c, q.b = .slice a n c) : ∀ u ∈ rqc qs, u.oneCell' = true := by
  intro u hu
  simp only [rqc, List.mem_flatMap, List.mem_cons, List.not_mem_nil, or_false] at hu
  obtain ⟨q, hq, rfl | rfl⟩ := hu
  · obtain ⟨a, n, c, e⟩ := (h q hq).1
    rw [e]; rfl
  · obtain ⟨a, n, c, e⟩ := (h q hq).2
    rw [e]; rfl
/-- A table whose first rows are its own, the others somebody's. -/
structure Half (w : World) (o : Own) (base K : Nat) (v : Value) (news olds : List Rq) : Prop where
  sl : SlO base o .tab w 2 v (news.length + olds.length) (rqc (news ++ olds))
  ok : ∀ q ∈ news, RowO w o base K q
  lt : OwnLt base o w
  le : base ≤ w.heap.size
theorem rqc_set2 : ∀ (l : List Rq) (i : Nat) (q q' : Rq), l[i]? = some q → rqc (l.set i q') = ((rqc l).set (i * 2) q'.a).set (i * 2 + 1) q'.b
  | [], i, q, q', h => by simp at h
  | x :: l, 0, q, q', h => rfl
  | x :: l, i + 1, q, q', h => by
    have ih := rqc_set2 l i q q' (by simpa using h)
    show [x.a, x.b] ++ rqc (l.set i q') = ((([x.a, x.b] ++ rqc l).set ((i + 1) * 2) q'.a).set ((i + 1) * 2 + 1) q'.b)
    rw [ih, show (i + 1) * 2 = i * 2 + 1 + 1 by omega]; rfl
/-- One row more is its own: two clones, two stores. -/
theorem Half.step {w0 w1 w2 w : World} {o : Own} {base K g off cap n : Nat} {x y : Value} {q : Rq} {news olds : List Rq} (h : Half w0 o base K (.slice (some ⟨g, off, none⟩) n cap) news (q :: olds))
    (hn : n = news.length + (olds.length + 1)) (b0 : Below w0.heap.size w0 w) (b1 : Below w.heap.size w w1) (hx : Sl w1 w.heap.size 2 x q.r.ls.length (prc q.r.ls)) (b2 : Below w1.heap.size w1 w2) (hy : Sl w2 w1.heap.size 2 y q.r.ss.length (spc q.r.ss)) (hl : q.r.ls.length ≤ 1000) (hs : q.r.ss.length ≤ K) :
    ∃ o', Half ((w2.setCell ⟨g, off + news.length * 2, none⟩ x).setCell ⟨g, off + (news.length * 2 + 1), none⟩ y) o' base K (.slice (some ⟨g, off, none⟩) n cap) (news ++ [⟨x, y, q.r⟩]) olds := by
  classical
  have b02 : Below w0.heap.size w0 w2 := (b0.trans (b1.mono b0.size)).trans (b2.mono (Nat.le_trans b0.size b1.size))
  have z0 := b0.size; have z1 := b1.size; have z2 := b2.size
  have hxn : ∀ k, x.ownBlock = some k → w.heap.size ≤ k ∧ k < w1.heap.size := fun k hk => hx.lt k hk
  have hyn : ∀ k, y.ownBlock = some k → w1.heap.size ≤ k ∧ k < w2.heap.size := fun k hk => hy.lt k hk
  have hgo := h.sl.2 g rfl
  have hgl := h.lt g _ hgo
  obtain ⟨o', ho⟩ : ∃ o' : Own, o' = fun k => if x.ownBlock = some k then some .lab else if y.ownBlock = some k then some (.smp q.r.ls) else o k := ⟨_, rfl⟩
  have k1 : ∀ k t, o k = some t → o' k = some t := fun k t hk => by
    have := (h.lt k t hk).2
    rw [ho]
    simp only
    rw [if_neg (fun e => by have := (hxn k e).1; omega), if_neg (fun e => by have := (hyn k e).1; omega)]
    exact hk
  have k2 : ∀ k, x.ownBlock = some k → o' k = some .lab := fun k hk => by rw [ho]; simp only [if_pos hk]
  have k3 : ∀ k, y.ownBlock = some k → o' k = some (.smp q.r.ls) := fun k hk => by
    rw [ho]
    simp only
    rw [if_neg (fun e => by have h1 := (hxn k e).2; have h2 := (hyn k hk).1; omega), if_pos hk]
  obtain ⟨w4, hw4⟩ : ∃ w4, w4 = (w2.setCell ⟨g, off + news.length * 2, none⟩ x).setCell ⟨g, off + (news.length * 2 + 1), none⟩ y := ⟨_, rfl⟩
  have z4 : w4.heap.size = w2.heap.size := by rw [hw4]; simp [World.setCell]
  have k5 : ∀ k, k ≠ g → w4.heap[k]? = w2.heap[k]? := fun k hk => by
    rw [hw4]
    simp only [World.setCell]
    rw [Array.getElem?_modify, if_neg (fun e => hk e.symm), Array.getElem?_modify, if_neg (fun e => hk e.symm)]
  rw [← hw4]
  have row : ∀ p, RowO w2 o' base K p → RowO w4 o' base K p := fun p hp => by
    have ng : ∀ {k t}, o' k = some t → t ≠ .tab → k ≠ g := fun hk ht e => ht (by rw [e, k1 g _ hgo] at hk; exact (Option.some.inj hk).symm)
    exact ⟨hp.l.same (by omega) fun k hk hlt => k5 k (ng (hp.lo k hk) (fun h => by cases h)), hp.lo, ⟨hp.s.1.same (by omega) fun k hk => k5 k (ng (hp.s.2 k hk) (fun h => by cases h)), hp.s.2⟩, hp.hl, hp.hs⟩
  have hq : (news ++ q :: olds)[news.length]? = some q := by simp
  refine ⟨o', ⟨?_, ?_⟩, fun p hp => ?_, fun k t hk => ?_, by omega⟩
  · have e1 : rqc (news ++ [⟨x, y, q.r⟩] ++ olds) = ((rqc (news ++ q :: olds)).set (news.length * 2) x).set (news.length * 2 + 1) y := by
      rw [← rqc_set2 (news ++ q :: olds) news.length q ⟨x, y, q.r⟩ hq, List.set_append_right _ _ (Nat.le_refl _), Nat.sub_self]
      simp
    have e2 : (news ++ [(⟨x, y, q.r⟩ : Rq)]).length + olds.length = n := by simp only [List.length_append, List.length_cons, List.length_nil]; omega
    rw [e1, e2, hw4]
    have s0 := h.sl.1
    rw [show news.length + (q :: olds).length = n by simp only [List.length_cons]; omega] at s0
    exact sl_setG (sl_setG (s0.on b02) _ _) _ _
  · intro k hk
    exact k1 k _ (h.sl.2 k hk)
  · rcases List.mem_append.1 hp with hp | hp
    · have r0 := h.ok p hp
      refine row p ⟨r0.l.on b02, fun k hk => k1 k _ (r0.lo k hk), ⟨r0.s.1.on b02, fun k hk => k1 k _ (r0.s.2 k hk)⟩, r0.hl, r0.hs⟩
    · rw [List.mem_singleton] at hp
      subst hp
      refine row _ ⟨(Rd.of_sl hx).on b2, k2, ⟨hy.mono (by have := h.le; omega), k3⟩, hl, hs⟩
  · rw [z4]
    rw [ho] at hk
    simp only at hk
    split at hk
    · rename_i e; have := hxn k e; have := h.le; omega
    · split at hk
      · rename_i e; have := hyn k e; have := h.le; omega
      · have := h.lt k t hk; omega

set_option maxHeartbeats 8000000 in
set_option maxRecDepth 100000 in
theorem own_any (v : Value) (qs : List Rq) (K : Nat) (w : World) (h : Rd w 2 v qs.length (rqc qs)) (hok : ∀ q ∈ qs, RowOk w K q) (hm : qs.length ≤ 100000) (hK : K ≤ 100000) :
    Calls Tryz.prog 26 #[v] w fun e w' => ∃ v' qs', e = .returned v' ∧ TabO w' w.heap.size K v' qs' ∧ rws qs' = rws qs ∧ Below w.heap.size w w' := by
  have hone := rqc_cells qs fun q hq => ⟨by obtain ⟨a, c, e⟩ := (hok q hq).l.slice; exact ⟨_, _, _, e⟩, by obtain ⟨a, c, e⟩ := (hok q hq).s.slice; exact ⟨_, _, _, e⟩⟩
  have C := Lib.hid (clone_row v qs.length (rqc qs) w h (by omega) hone)
  obtain ⟨a, c, rfl⟩ := h.slice
  obtain ⟨N, hN⟩ : ∃ N, N = qs.length := ⟨_, rfl⟩
  rw [← hN] at C hm ⊢
  have HN := Lib.hid hN; have HOK := Lib.hid hok
  clear h hone hok hN
  go_enter Tryz.func26, Tryz.ntmps26
  go_wp2_with fail
  refine C.out.mono ?_
  rintro e w1 ⟨v1, rfl, s1, b1⟩
  obtain ⟨a1, c1, rfl⟩ := s1.slice
  have H0 : ∃ o, Half w1 o w.heap.size K (.slice a1 N c1) [] qs := ⟨fun k => if (Value.slice a1 N c1).ownBlock = some k then some .tab else none, ⟨by rw [List.length_nil, Nat.zero_add, ← HN.out]; exact s1, fun k hk => by simp only [hk, if_true]⟩, fun q hq => absurd hq (by simp), (fun k t hk => by
    have hk' : (if (Value.slice a1 N c1).ownBlock = some k then some LTag.tab else none) = some t := hk
    split at hk'
    · rename_i e; exact s1.lt k e
    · cases hk'), b1.size⟩
  have HH := Lib.hid H0
  have B1 := Lib.hid b1
  have hsl : 0 < N → ∃ g off, a1 = some ⟨g, off, none⟩ := fun hp => by
    rcases s1.2 with ⟨_, h0⟩ | ⟨g, off, cap, he, _⟩
    · omega
    · cases he; exact ⟨g, off, rfl⟩
  have HSL := Lib.hid hsl
  clear s1 b1 H0 C hsl
  go_wp2_with fail
  go_loopw [3, 4, 9] (fun _ _ i' wr => ∃ (i : Nat) (news : List Rq) (o : Own), i' = .int .i64 i ∧ i ≤ N ∧ Hid (news.length = i ∧ rws news = rws (qs.take i)) ∧ Hid (Half wr o w.heap.size K (.slice a1 N c1) news (qs.drop i)) ∧ Below w.heap.size w wr) (fun _ _ i' _ => N - (intOf i').toNat)
  case atStart =>
    obtain ⟨o, hh⟩ := HH.out
    exact ⟨0, [], o, rfl, by omega, Lib.hid ⟨rfl, rfl⟩, Lib.hid hh, B1.out⟩
  case round =>
    obtain ⟨W0, rfl⟩ : ∃ W0, W0 = wr := ⟨_, rfl⟩
    obtain ⟨i, news, o, rfl, hi, hnw, hh, hb⟩ := hrel
    have BW := Lib.hid hb
    clear hb
    by_cases hlt : i < N
    · obtain ⟨⟨qa, qb, rl, rs⟩, hx⟩ : ∃ q, qs[i]? = some q := ⟨qs[i]'(by have := HN.out; omega), List.getElem?_eq_getElem (by have := HN.out; omega)⟩
      have hdrop : qs.drop i = ⟨qa, qb, rl, rs⟩ :: qs.drop (i + 1) := by
        obtain ⟨hlt', e⟩ := List.getElem?_eq_some_iff.1 hx
        rw [List.drop_eq_getElem_cons hlt', e]
      have h0 := hh.out
      rw [hdrop] at h0
      obtain ⟨g, off, rfl⟩ := HSL.out (by omega)
      have ok := HOK.out _ (List.mem_of_getElem? hx)
      have kl : Rd W0 2 qa rl.length (prc rl) := ok.l.on BW.out
      have ks : Rd W0 2 qb rs.length (spc rs) := ok.s.on BW.out
      have hl1 : rl.length ≤ 1000 := ok.hl
      have hs1 : rs.length ≤ K := ok.hs
      have hnl := hnw.out.1
      obtain ⟨v0, v1⟩ := rqc_at (news ++ ⟨qa, qb, rl, rs⟩ :: qs.drop (i + 1)) i ⟨qa, qb, rl, rs⟩ (by rw [List.getElem?_append_right (by omega), hnl, Nat.sub_self]; rfl)
      have hcap : i < news.length + (⟨qa, qb, rl, rs⟩ :: qs.drop (i + 1) : List Rq).length := by rw [List.length_cons]; omega
      obtain ⟨q0, q1⟩ : W0.cell? ⟨g, off + i * 2, none⟩ = some qa ∧ W0.cell? ⟨g, off + (i * 2 + 1), none⟩ = some qb := by
        obtain ⟨_, a6, c6, g6, o6, e6, hg6, hc6⟩ := Rd.of_sl h0.sl.1
        have h6 := (hg6 (by omega)).1
        obtain ⟨r1, r2, r3⟩ := Value.slice.inj e6
        rw [h6] at r1
        cases r1
        exact ⟨(hc6 (i * 2) (by omega)).trans v0, (hc6 (i * 2 + 1) (by omega)).trans v1⟩
      rw [← Nat.add_assoc] at q1
      obtain ⟨aa, ca, rfl⟩ := kl.slice
      obtain ⟨ab, cb, rfl⟩ := ks.slice
      obtain ⟨V1, hV1⟩ : ∃ V1, V1 = W0.alloc (.cells #[.slice aa rl.length ca, .slice ab rs.length cb] 43) := ⟨_, rfl⟩
      have b1 : Below W0.heap.size W0 V1 := by rw [hV1]; exact (Below.refl _ _).alloc (Nat.le_refl _) _
      have hbx : V1.heap[W0.heap.size]? = some (.cells #[.slice aa rl.length ca, .slice ab rs.length cb] 43) := by rw [hV1]; exact heap_alloc_new W0 _
      have z1 := (Array.getElem?_eq_some_iff.1 hbx).1
      have hgo := (h0.lt g _ (h0.sl.2 g rfl)).2
      have CL := Lib.hid (fun W (bb : Below V1.heap.size V1 W) => clone_ls (.slice aa rl.length ca) rl W ((kl.on b1).on bb) (by omega))
      have CS := Lib.hid (fun W (bb : Below V1.heap.size V1 W) => clone_smp (.slice ab rs.length cb) rs.length (spc rs) W ((ks.on b1).on bb) (by omega) (spc_one rs))
      have FX := Lib.hid (fun W (b : Below V1.heap.size V1 W) => show W.cell? ⟨W0.heap.size, 0, none⟩ = some (.slice aa rl.length ca) ∧ W.cell? ⟨W0.heap.size, 1, none⟩ = some (.slice ab rs.length cb) from
        ⟨(b.cell (p := ⟨W0.heap.size, 0, none⟩) z1).trans (Lib.cell_of_heap hbx 0), (b.cell (p := ⟨W0.heap.size, 1, none⟩) z1).trans (Lib.cell_of_heap hbx 1)⟩)
      have FIN := Lib.hid (fun (x y : Value) (w2 w3 : World) (b02 : Below V1.heap.size V1.drew w2) (sx : Sl w2 V1.drew.heap.size 2 x rl.length (prc rl)) (b23 : Below w2.heap.size w2 w3) (sy : Sl w3 w2.heap.size 2 y rs.length (spc rs)) => show
          (((w3.setCell ⟨g, off + i * 2, none⟩ x).setCell ⟨g, off + i * 2 + 1, none⟩ y).cell? ⟨W0.heap.size, 0, none⟩ = some (.slice aa rl.length ca) ∧ ((w3.setCell ⟨g, off + i * 2, none⟩ x).setCell ⟨g, off + i * 2 + 1, none⟩ y).cell? ⟨W0.heap.size, 1, none⟩ = some (.slice ab rs.length cb)) ∧
          (∃ o', Half ((w3.setCell ⟨g, off + i * 2, none⟩ x).setCell ⟨g, off + i * 2 + 1, none⟩ y) o' w.heap.size K (.slice (some ⟨g, off, none⟩) N c1) (news ++ [⟨x, y, rl, rs⟩]) (qs.drop (i + 1))) ∧ Below w.heap.size w ((w3.setCell ⟨g, off + i * 2, none⟩ x).setCell ⟨g, off + i * 2 + 1, none⟩ y) ∧
          w3.cell? ⟨g, off + i * 2, none⟩ = some (.slice aa rl.length ca) ∧ w3.cell? ⟨g, off + i * 2 + 1, none⟩ = some (.slice ab rs.length cb) ∧ w3.frozen? ⟨g, off + i * 2, none⟩ = false ∧ w3.frozen? ⟨g, off + i * 2 + 1, none⟩ = false ∧ (w3.setCell ⟨g, off + i * 2, none⟩ x).cell? ⟨g, off + i * 2 + 1, none⟩ = some (.slice ab rs.length cb) ∧ (w3.setCell ⟨g, off + i * 2, none⟩ x).frozen? ⟨g, off + i * 2 + 1, none⟩ = false from by
        have B03 : Below V1.heap.size V1 w3 := (((Below.refl V1.heap.size V1).drew).trans b02).trans (b23.mono b02.size)
        have B00 : Below W0.heap.size W0 w3 := b1.trans (B03.mono b1.size)
        have hgn : g ≠ W0.heap.size := by omega
        have st := Half.step (w0 := W0) (w := V1.drew) (w1 := w2) (w2 := w3) (x := x) (y := y) h0 (by have h1 := HN.out; have h2 : (qs.drop (i + 1)).length = qs.length - (i + 1) := List.length_drop; omega) b1.drew b02 sx b23 sy hl1 hs1
        rw [hnl, ← Nat.add_assoc] at st
        obtain ⟨f0, f1⟩ := FX.out w3 B03
        have gb : w.heap.size ≤ g := (h0.lt g _ (h0.sl.2 g rfl)).1
        have fr : ∀ j, j < 2 → (w3.cell? ⟨g, off + (i * 2 + j), none⟩).isSome = true ∧ w3.frozen? ⟨g, off + (i * 2 + j), none⟩ = false := fun j hj => by
          rcases (h0.sl.1.on B00).2 with ⟨e, _⟩ | ⟨g', off', cap', he, _, _, hnc, _, hfree, _⟩
          · cases e
          · cases he
            exact hfree (i * 2 + j) (by omega)
        refine ⟨⟨?_, ?_⟩, st, ((BW.out.trans (B00.mono BW.out.size)).setCell gb _).setCell gb _, ?_⟩
        · rw [cell_setCell_other _ _ _ _ _ (.inl (fun e => hgn e.symm)), cell_setCell_other _ _ _ _ _ (.inl (fun e => hgn e.symm))]; exact f0
        · rw [cell_setCell_other _ _ _ _ _ (.inl (fun e => hgn e.symm)), cell_setCell_other _ _ _ _ _ (.inl (fun e => hgn e.symm))]; exact f1
        · have a0 := (fr 0 (by omega)).2; have a1 := (fr 1 (by omega)).2
          rw [← Nat.add_assoc] at a0 a1
          have c0 := (B00.cell (p := ⟨g, off + i * 2, none⟩) hgo).trans q0
          have c1 := (B00.cell (p := ⟨g, off + i * 2 + 1, none⟩) hgo).trans q1
          refine ⟨c0, c1, a0, a1, ?_, ?_⟩
          · rw [cell_setCell_other _ _ _ _ _ (.inr (by simp only; omega))]; exact c1
          · rw [frozen_setCell]; exact a1)
      have STP := Lib.hid (show ∀ x y : Value, (news ++ [(⟨x, y, rl, rs⟩ : Rq)]).length = i + 1 ∧ rws (news ++ [(⟨x, y, rl, rs⟩ : Rq)]) = rws (qs.take (i + 1)) from fun x y => by
        refine ⟨by rw [List.length_append, hnl]; rfl, ?_⟩
        have e := hnw.out.2
        rw [List.take_add_one, hx]
        unfold rws at e ⊢
        rw [List.map_append, e]
        simp)
      have kx := FX.out V1 (Below.refl _ _)
      have B0 := (Below.refl V1.heap.size V1).drew
      obtain ⟨nl, hnl1⟩ : ∃ n, n = rl.length := ⟨_, rfl⟩
      obtain ⟨ns, hns1⟩ : ∃ n, n = rs.length := ⟨_, rfl⟩
      rw [← hnl1, ← hns1] at FIN FX kx
      rw [← hnl1] at CL
      rw [← hns1] at CS
      rw [← hnl1] at q0 hV1
      rw [← hns1] at q1 hV1
      clear hbx kl ks ok v0 v1 hx hdrop h0 hcap b1 hgo hnl hnw hh hnl1 hns1 z1 hl1 hs1
      go_upto_region 5 with fail
      rw [← hV1]
      clear hV1 q0 q1
      go_region_held3 (fun W => W.cell? ⟨W0.heap.size, 0, none⟩ = some (.slice aa nl ca) ∧ W.cell? ⟨W0.heap.size, 1, none⟩ = some (.slice ab ns cb))
        (first | exact kx | exact FX.out _ B2 | exact FX.out _ B3 | exact f31 | assumption | fail)
        (first
          | (go_at_call 25; ((with_reducible refine (CL.out _ B0).mono ?_)); rintro e w2 ⟨x, rfl, sx, b2⟩; have B2 : Below V1.heap.size V1 w2 := B0.trans (b2.mono B0.size); obtain ⟨xa, xc, ex⟩ := sx.slice; subst ex)
          | (go_at_call 49; ((with_reducible refine (CS.out _ B2).mono ?_)); rintro e w3 ⟨y, rfl, sy, b3⟩; have B3 : Below V1.heap.size V1 w3 := B2.trans (b3.mono B2.size); obtain ⟨ya, yc, ey⟩ := sy.slice; subst ey; have f3 := FIN.out _ _ w2 w3 b2 sx b3 sy; obtain ⟨f31, f32, f33, f34, f35, f36, f37, f38, f39⟩ := f3)
          | fail)
      obtain ⟨o', hH⟩ := f32
      go_wp2
      exact ⟨⟨i + 1, _, o', by go_num, by omega, Lib.hid (STP.out _ _), Lib.hid hH, f33⟩, by simp [intOf]; omega⟩
    · obtain rfl : i = N := by omega
      go_wp2
      go_ret
      have h0 := hh.out
      rw [List.drop_of_length_le (by have := HN.out; omega)] at h0
      refine ⟨_, news, rfl, ⟨o, ?_, h0.ok, h0.lt, h0.le⟩, ?_, BW.out⟩
      · have := h0.sl
        rw [List.append_nil, List.length_nil, Nat.add_zero] at this
        rw [hnw.out.1] at this ⊢
        exact this
      · rw [hnw.out.2, List.take_of_length_le (by have := HN.out; omega)]
end Go.Proofs.YtfckgcckpfklaaaGreatDoor
