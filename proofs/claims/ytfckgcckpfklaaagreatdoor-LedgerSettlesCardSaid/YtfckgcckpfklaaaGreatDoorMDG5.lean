/- Layer 25: with, walked: a table's memory with points more. -/
import Derived.Test.YtfckgcckpfklaaaGreatDoorMDG4
import Derived.Test.YtfckgcckpfklaaaGreatDoorMDG1
import Derived.Test.YtfckgcckpfklaaaGreatDoorMRV
import Derived.Deep.RegionHeld3
namespace Go.Proofs.YtfckgcckpfklaaaGreatDoor
open Go.RowKit Go.Lib Hp
set_option linter.unusedVariables false

/-- A point, as it lies: its labels' slice. -/
structure Pq where
  a : Value
  ls : List Pr
  s : Sp
def pqc (ps : List Pq) : List Value := ps.flatMap fun p => [p.a, .int .i64 p.s.t, .int .u64 p.s.v]
theorem pqc_append (l m : List Pq) : pqc (l ++ m) = pqc l ++ pqc m := by simp [pqc]
theorem pqc_len (l : List Pq) : (pqc l).length = l.length * 3 := by
  induction l with
  | nil => rfl
  | cons p l ih =>
    show ([p.a, Value.int .i64 p.s.t, .int .u64 p.s.v] ++ pqc l).length = _
    rw [List.length_append, ih]
    simp only [List.length_cons, List.length_nil]
    omega
theorem pqc_at : ∀ (l : List Pq) (i : Nat) (p : Pq), l[i]? = some p → (pqc l)[i * 3]? = some p.a ∧ (pqc l)[i * 3 + 1]? = some (.int .i64 p.s.t) ∧ (pqc l)[i * 3 + 2]? = some (.int .u64 p.s.v)
  | [], i, p, h => by simp at h
  | x :: l, 0, p, h => by
    simp only [List.getElem?_cons_zero, Option.some.injEq] at h
    subst h
    exact ⟨rfl, rfl, rfl⟩
  | x :: l, i + 1, p, h => by
    have ih := pqc_at l i p (by simpa using h)
    refine ⟨?_, ?_, ?_⟩
    · rw [show (i + 1) * 3 = i * 3 + 1 + 1 + 1 by omega]; exact ih.1
    · rw [show (i + 1) * 3 + 1 = i * 3 + 1 + 1 + 1 + 1 by omega]; exact ih.2.1
    · rw [show (i + 1) * 3 + 2 = i * 3 + 2 + 1 + 1 + 1 by omega]; exact ih.2.2
/-- Points read so. -/
def PtsR (w : World) (v : Value) (ps : List Pq) : Prop := Rd w 3 v ps.length (pqc ps) ∧ ∀ p ∈ ps, Rd w 2 p.a p.ls.length (prc p.ls) ∧ p.ls.length ≤ 1000
theorem PtsR.on {w w' : World} {v : Value} {ps : List Pq} (h : PtsR w v ps) (b : Below w.heap.size w w') : PtsR w' v ps :=
  ⟨h.1.on b, fun p hp => ⟨(h.2 p hp).1.on b, (h.2 p hp).2⟩⟩
def pts (ps : List Pq) : List (List Pr × Sp) := ps.map fun p => (p.ls, p.s)
theorem addF_step {t : List Rw} {ps : List Pq} {i : Nat} {p : Pq} (hp : ps[i]? = some p) (h : UpT (addF t (pts (ps.take i)))) : addF t (pts (ps.take (i + 1))) = insT (addF t (pts (ps.take i))) p.ls p.s := by
  rw [← addT_ins _ _ _ h]
  have hi : i < ps.length := (List.getElem?_eq_some_iff.1 hp).1
  rw [List.take_add_one, hp]
  simp [pts, addF]
theorem up_ne {l : List Rw} (h : UpT l) : l.Pairwise fun a b => a.ls ≠ b.ls := h.1.imp fun h e => by rw [e, cmpS_self] at h; omega
theorem up_mid {l : List Rw} {ls : List Pr} {s : Sp} (h : UpT l) (hr : rowT l ls = none) : UpT (l.take (posT l ls) ++ ⟨ls, []⟩ :: l.drop (posT l ls)) := by
  have h1 := insT_up ls s h
  rw [insT_out h hr] at h1
  obtain ⟨h1, h2⟩ := h1
  refine ⟨?_, fun r hr => ?_⟩
  · rw [List.pairwise_append] at h1 ⊢
    obtain ⟨a1, a2, a3⟩ := h1
    obtain ⟨b1, b2⟩ := List.pairwise_cons.1 a2
    refine ⟨a1, List.pairwise_cons.2 ⟨b1, b2⟩, fun x hx y hy => ?_⟩
    rcases List.mem_cons.1 hy with rfl | hy
    · exact a3 x hx ⟨ls, [s]⟩ (by simp)
    · exact a3 x hx y (by simp [hy])
  · rcases List.mem_append.1 hr with hr | hr
    · exact h2 r (by simp [hr])
    · rcases List.mem_cons.1 hr with rfl | hr
      · exact List.Pairwise.nil
      · exact h2 r (by simp [hr])
theorem rws_take (l : List Rq) (n : Nat) : rws (l.take n) = (rws l).take n := by unfold rws; rw [List.map_take]
theorem rws_drop (l : List Rq) (n : Nat) : rws (l.drop n) = (rws l).drop n := by unfold rws; rw [List.map_drop]
theorem rws_len (l : List Rq) : (rws l).length = l.length := by unfold rws; rw [List.length_map]
theorem rws_at {l : List Rq} {i : Nat} {q : Rq} (h : l[i]? = some q) : (rws l)[i]? = some q.r := by unfold rws; rw [List.getElem?_map, h]; rfl
theorem rws_set (l : List Rq) (i : Nat) (q : Rq) : rws (l.set i q) = (rws l).set i q.r := by unfold rws; rw [List.map_set]
theorem set_same {α : Type} : ∀ (l : List α) (i : Nat) (a : α), l[i]? = some a → l.set i a = l
  | [], _, _, h => by simp at h
  | x :: l, 0, a, h => by simp at h; rw [h]; rfl
  | x :: l, i + 1, a, h => by
    have := set_same l i a (by simpa using h)
    rw [List.set_cons_succ, this]
/-- Where a row stands, its samples with one more make the table with the point. -/
theorem with_there {T : List Rq} {ls : List Pr} {s : Sp} {r : Rw} (hu : UpT (rws T)) (h : rowT (rws T) ls = some r) :
    ∃ q, T[posT (rws T) ls]? = some q ∧ q.r = r ∧ q.r.ls = ls ∧ ∀ a b, rws (T.set (posT (rws T) ls) ⟨a, b, ⟨q.r.ls, insS q.r.ss s⟩⟩) = insT (rws T) ls s := by
  have h1 := posT_row (ls := ls) hu
  rw [h] at h1
  cases hq : T[posT (rws T) ls]? with
  | none =>
    have : (rws T)[posT (rws T) ls]? = none := by unfold rws at *; rw [List.getElem?_map, hq]; rfl
    rw [this] at h1; cases h1
  | some q =>
    rw [rws_at hq, Option.bind_some] at h1
    split at h1
    · rename_i h0
      have e := cmpS_zero _ _ h0
      have er : q.r = r := (Option.some.inj h1).symm
      refine ⟨q, rfl, er, e, fun a b => ?_⟩
      rw [rws_set, insT_in hu h, e, putS_ins, er]
    · cases h1
/-- Likewise where a row of none was put. -/
theorem with_new {T : List Rq} {ls : List Pr} {s : Sp} {x : Value} (hu : UpT (rws T)) (h : rowT (rws T) ls = none) :
    let T1 := T.take (posT (rws T) ls) ++ ⟨x, .slice none 0 0, ⟨ls, []⟩⟩ :: T.drop (posT (rws T) ls)
    UpT (rws T1) ∧ T1.length = T.length + 1 ∧ T1[posT (rws T) ls]? = some ⟨x, .slice none 0 0, ⟨ls, []⟩⟩ ∧ ∀ a b, rws (T1.set (posT (rws T) ls) ⟨a, b, ⟨ls, insS [] s⟩⟩) = insT (rws T) ls s := by
  have hP := posT_le (rws T) ls
  rw [rws_len] at hP
  have e1 : rws (T.take (posT (rws T) ls) ++ ⟨x, .slice none 0 0, ⟨ls, []⟩⟩ :: T.drop (posT (rws T) ls)) = (rws T).take (posT (rws T) ls) ++ ⟨ls, []⟩ :: (rws T).drop (posT (rws T) ls) := by
    unfold rws; simp
  have hl : (T.take (posT (rws T) ls)).length = posT (rws T) ls := by rw [List.length_take]; omega
  refine ⟨by rw [e1]; exact up_mid (s := s) hu h, ?_, ?_, fun a b => ?_⟩
  · simp only [List.length_append, List.length_cons, List.length_take, List.length_drop]; omega
  · rw [List.getElem?_append_right (by omega), hl, Nat.sub_self]; rfl
  · rw [rws_set, e1, insT_out hu h]
    have hl2 : ((rws T).take (posT (rws T) ls)).length = posT (rws T) ls := by rw [List.length_take, rws_len]; omega
    rw [List.set_append_right _ _ (by omega), hl2, Nat.sub_self]
    rfl

set_option maxHeartbeats 8000000 in
set_option maxRecDepth 100000 in
theorem with_any (base K : Nat) (v pv : Value) (qs : List Rq) (ps : List Pq) (w0 w : World) (hT : TabO w base K v qs) (hu : UpT (rws qs)) (hp : PtsR w0 pv ps) (hz : w0.heap.size ≤ base) (b0 : Below base w0 w) (hn : qs.length + ps.length ≤ 100000) (hK : K + ps.length ≤ 100000) :
    Calls Tryz.prog 24 #[v, pv] w fun e w' => ∃ v' qs', e = .returned v' ∧ TabO w' base (K + ps.length) v' qs' ∧ rws qs' = addF (rws qs) (pts ps) ∧ UpT (rws qs') ∧ qs'.length ≤ qs.length + ps.length ∧ Below base w w' := by
  obtain ⟨⟨hl0, pa, pcap, g, off, rfl, hg, hc⟩, hok⟩ := hp
  obtain ⟨N, hN⟩ : ∃ N, N = ps.length := ⟨_, rfl⟩
  have hbw : base ≤ w.heap.size := by obtain ⟨o, h⟩ := hT; exact h.le
  obtain ⟨va, vc, rfl⟩ := hT.slice
  obtain ⟨M0, hM0⟩ : ∃ M0, M0 = qs.length := ⟨_, rfl⟩
  have BW0 : Below base w w := Below.refl _ _
  have HT := Lib.hid hT
  rw [← hN] at hg hc hn hK ⊢
  rw [← hM0] at hn HT ⊢
  have HN := Lib.hid hN; have HM0 := Lib.hid hM0; have HC := Lib.hid hc; have HG := Lib.hid hg; have HOK := Lib.hid hok; have HU := Lib.hid hu; have B0 := Lib.hid b0
  clear hT hu hl0 hg hc hok hN hM0 b0
  go_enter Tryz.func24, Tryz.ntmps24
  go_wp2_with fail
  go_loopw [0, 6, 7, 8, 9, 10, 13, 17, 34] (fun v' _ _ _ _ _ i' _ _ wr => ∃ (i : Nat) (T : List Rq), i' = .int .i64 i ∧ i ≤ N ∧ TabO wr base (K + i) v' T ∧ Hid (rws T = addF (rws qs) (pts (ps.take i)) ∧ UpT (rws T)) ∧ T.length ≤ M0 + i ∧ Below base w wr) (fun _ _ _ _ _ _ i' _ _ _ => N - (intOf i').toNat)
  case atStart => exact ⟨0, qs, rfl, by omega, HT.out, Lib.hid ⟨rfl, HU.out⟩, by have := HM0.out; omega, BW0⟩
  case round =>
    obtain ⟨W0, rfl⟩ : ∃ W0, W0 = wr := ⟨_, rfl⟩
    obtain ⟨i, T, rfl, hi, hT, hu, hTl, hb⟩ := hrel
    have hW0 : base ≤ W0.heap.size := by obtain ⟨o, h⟩ := hT; exact h.le
    obtain ⟨ta, tc, he⟩ := hT.slice
    subst he
    obtain ⟨m, hm⟩ : ∃ m, m = T.length := ⟨_, rfl⟩
    have HTT := Lib.hid hT
    rw [← hm] at hTl HTT ⊢
    have HM := Lib.hid hm; have HTU := Lib.hid hu.out; have BW := Lib.hid hb
    clear hT hm hu hb
    by_cases hlt : i < N
    · obtain ⟨⟨xa, xl, ⟨xt, xv⟩⟩, hx⟩ : ∃ p, ps[i]? = some p := ⟨ps[i]'(by have := HN.out; omega), List.getElem?_eq_getElem (by have := HN.out; omega)⟩
      obtain ⟨rfl, hgl⟩ := HG.out (by omega)
      obtain ⟨c0, c1, c2⟩ := pqc_at ps i _ hx
      have hb0 : Below w0.heap.size w0 W0 := (B0.out.trans BW.out).mono hz
      have q0 := (hb0.cell (p := ⟨g, off + i * 3, none⟩) hgl).trans ((HC.out (i * 3) (by omega)).trans c0)
      have q1 := (hb0.cell (p := ⟨g, off + (i * 3 + 1), none⟩) hgl).trans ((HC.out (i * 3 + 1) (by omega)).trans c1)
      have q2 := (hb0.cell (p := ⟨g, off + (i * 3 + 2), none⟩) hgl).trans ((HC.out (i * 3 + 2) (by omega)).trans c2)
      rw [← Nat.add_assoc] at q1 q2
      obtain ⟨xr1, xlen⟩ := HOK.out _ (List.mem_of_getElem? hx)
      have xr : Rd w0 2 xa xl.length (prc xl) := xr1
      clear xr1
      have xr0 := xr.on hb0
      obtain ⟨ax, cx, rfl⟩ := xr.slice
      obtain ⟨L, hL⟩ : ∃ L, L = xl.length := ⟨_, rfl⟩
      have HL := Lib.hid hL
      have STEP := Lib.hid (fun h => addF_step (t := rws qs) hx h)
      simp only at q0 q1 q2 xlen c0 c1 c2
      rw [← hL] at q0 xlen
      clear c0 c1 c2 hx xr
      obtain ⟨P, hP⟩ : ∃ P, P = posT (rws T) xl := ⟨_, rfl⟩
      obtain ⟨F, hF⟩ : ∃ F, F = (rowT (rws T) xl).isSome := ⟨_, rfl⟩
      obtain ⟨V1, hV1⟩ : ∃ V1, V1 = W0.alloc (.cells #[.slice ax L cx, .int .i64 xt, .int .u64 xv] 38) := ⟨_, rfl⟩
      have b1 : Below W0.heap.size W0 V1 := by rw [hV1]; exact (Below.refl _ _).alloc (Nat.le_refl _) _
      have hbx : V1.heap[W0.heap.size]? = some (.cells #[.slice ax L cx, .int .i64 xt, .int .u64 xv] 38) := by rw [hV1]; exact heap_alloc_new W0 _
      have z1 := (Array.getElem?_eq_some_iff.1 hbx).1
      have hPm : P ≤ m := by rw [hP, HM.out]; have := posT_le (rws T) xl; rw [rws_len] at this; exact this
      have TT1 := Lib.hid (HTT.out.on b1)
      have PL := Lib.hid (show Calls Tryz.prog 44 #[.slice ta m tc, .slice ax L cx] V1 (fun e w' => e = .returned (.tuple #[.int .i64 (P : Nat), .bool F]) ∧ Below V1.heap.size V1 w') from by
        have h0 := place_any (.slice ta m tc) (.slice ax L cx) T xl (K + i) V1 ⟨TT1.out.rd, fun q hq => TT1.out.row hq⟩ (by rw [hL]; exact xr0.on b1) HTU.out.2 (by have := HM.out; omega) (by omega)
        rw [← hP, ← hF] at h0
        exact h0)
      have XR := Lib.hid (show Rd V1 2 (.slice ax L cx) xl.length (prc xl) by rw [hL]; exact xr0.on b1)
      have FX := Lib.hid (fun W (b : Below V1.heap.size V1 W) => show W.heap[W0.heap.size]? = some (.cells #[.slice ax L cx, .int .i64 xt, .int .u64 xv] 38) from (b.block _ z1).trans hbx)
      have B1 := Lib.hid b1; have HP := Lib.hid hP; have HF := Lib.hid hF
      have d0 := Lib.cell_of_heap hbx 0
      have d1 := Lib.cell_of_heap hbx 1
      clear hbx xr0 hb0 b1 hP hF hL
      go_upto_region 4 with fail
      rw [← hV1]
      clear hV1 q0 q1 q2
      cases F
      case' true =>
        go_wp2_with fail
        refine PL.out.mono ?_
        rintro e W5 ⟨rfl, b2⟩
        obtain ⟨r, hr⟩ := Option.isSome_iff_exists.1 HF.out.symm
        obtain ⟨⟨qa, qb, ql, qss⟩, hq, eqr, eql, hset⟩ := with_there (s := ⟨xt, xv⟩) HTU.out.2 hr
        rw [← HP.out] at hq hset
        have OB5 := Lib.hid (show ∀ k, qb.ownBlock = some k → k ≠ W0.heap.size from fun k hk e => by
          obtain ⟨o, h⟩ := HTT.out
          have := ((h.ok _ (List.mem_of_getElem? hq)).s.1.lt k hk).2
          omega)
        have T5 := Lib.hid (TT1.out.on b2)
        have BW5 := Lib.hid (show Below base w W5 from BW.out.trans ((B1.out.trans (b2.mono (Nat.le_of_lt z1))).mono hW0))
        have C5 := Lib.hid (FX.out W5 b2)
        obtain ⟨T1, hT1⟩ : ∃ T1, T1 = T := ⟨_, rfl⟩
        have N5 := Lib.hid (show m = T1.length by rw [hT1]; exact HM.out)
        have U5 := Lib.hid (show UpT (rws T1) by rw [hT1]; exact HTU.out.2)
        have Q5 := Lib.hid (show T1[P]? = some ⟨qa, qb, ql, qss⟩ by rw [hT1]; exact hq)
        have S5 := Lib.hid (show ∀ a b, rws (T1.set P ⟨a, b, ⟨ql, insS qss ⟨xt, xv⟩⟩⟩) = insT (rws T) xl ⟨xt, xv⟩ by rw [hT1]; exact hset)
        have hPn : P < m := by rw [HM.out]; exact (List.getElem?_eq_some_iff.1 hq).1
        have L5 : m ≤ M0 + (i + 1) := by omega
        rw [← hT1] at T5
        clear TT1 PL XR FX B1 HF d0 d1 hT1 hset hq hr eqr b2 eql r z1
        generalize ta = a5 at *
        generalize tc = c5 at *
        obtain ⟨n5, hn5⟩ : ∃ n5, n5 = m := ⟨_, rfl⟩
        rw [← hn5] at T5 N5 hPn L5 ⊢
        clear hn5
        go_upto_region 7 with fail
      case' false =>
        have hr : rowT (rws T) xl = none := by
          have := HF.out
          cases h : rowT (rws T) xl with
          | none => rfl
          | some r => rw [h] at this; cases this
        have CL := Lib.hid (fun W (bb : Below V1.heap.size V1 W) => show Calls Tryz.prog 25 #[.slice ax L cx] W _ from by
          have h0 := clone_ls (.slice ax L cx) xl W (XR.out.on bb) (by have := HL.out; omega)
          exact h0)
        have HR := Lib.hid hr
        go_wp2_with fail
        refine PL.out.mono ?_
        rintro e w2 ⟨rfl, b2⟩
        have e0 := Lib.cell_of_heap (FX.out w2 b2) 0
        go_wp2_with fail
        refine (CL.out w2 b2).mono ?_
        rintro e w3 ⟨x, rfl, sx, b3⟩
        have B23 : Below V1.heap.size V1 w3 := b2.trans (b3.mono b2.size)
        obtain ⟨V4, hV4⟩ : ∃ V4, V4 = w3.alloc (.cells #[x, .slice none 0 0] 43) := ⟨_, rfl⟩
        have b4 : Below w3.heap.size w3 V4 := by rw [hV4]; exact (Below.refl _ _).alloc (Nat.le_refl _) _
        have B14 : Below V1.heap.size V1 V4 := B23.trans (b4.mono B23.size)
        have B04 : Below W0.heap.size W0 V4 := B1.out.trans (B14.mono (Nat.le_of_lt z1))
        have sx4 : Sl V4 W0.heap.size 2 x xl.length (prc xl) := (sx.on b4).mono (by have := b2.size; omega)
        obtain ⟨o, hTo⟩ := HTT.out
        have hTo4 := hTo.on B04
        have IR := Lib.hid (show Calls Tryz.prog 45 #[.slice ta m tc, .int .i64 (P : Nat), .slice (some ⟨w3.heap.size, 0, none⟩) 1 1] V4 (IW V4 base (.slice ta m tc) (m + 1) (insC (rqc T) [x, .slice none 0 0] P)) from by
          have s4 := hTo4.sl.1
          rw [← HM.out] at s4
          have ob : (Value.slice ta m tc).ownBlock ≠ some w3.heap.size := fun e => by
            have h1 := (hTo.lt _ _ (hTo.sl.2 _ e)).2
            have h2 := B23.size
            omega
          obtain ⟨xa', xc', ex⟩ := sx4.slice
          exact insert_R base P w3.heap.size m (.slice ta m tc) (rqc T) x (.slice none 0 0) V4 s4 hPm (by omega) hTo4.le (by rw [hV4]; exact heap_alloc_new w3 _) ob (rqc_one hTo) ⟨by rw [ex]; rfl, rfl⟩)
        have INS := Lib.hid (fun e w' => TabW.insert (e := e) (w' := w') (i := P) hTo B04 sx4 (by have := HL.out; omega) (by have := HM.out; omega))
        have obP : (Value.slice ta m tc).ownBlock ≠ some W0.heap.size := fun e => by
          have h1 := (hTo.lt _ _ (hTo.sl.2 _ e)).2
          omega
        have OBP := Lib.hid obP
        have BX4 := Lib.hid (FX.out V4 B14)
        have BV4 := Lib.hid B04
        obtain ⟨xa', xc', ex⟩ := sx4.slice
        subst ex
        rw [hV4] at IR
        rw [hV4] at INS BX4 BV4
        clear sx sx4 hTo hTo4 B23 B14 B04 b4 b3 b2 hr CL PL XR FX TT1 obP hV4 d0 d1 o e0
        go_wp2_with fail
        refine IR.out.mono ?_
        rintro e W5 hI
        have hI2 := INS.out e W5 (by rw [← HM.out]; exact hI)
        obtain ⟨v5, rfl, t5, b5⟩ := hI2
        have BW5 := Lib.hid (show Below base w W5 from (BW.out.trans (BV4.out.mono hW0)).trans b5)
        obtain ⟨v5', hee, _, hturn, _⟩ := hI
        have C5 := Lib.hid (show W5.heap[W0.heap.size]? = some (.cells #[.slice ax L cx, .int .i64 xt, .int .u64 xv] 38) from (hturn.block _ (by have := (Array.getElem?_eq_some_iff.1 BX4.out).1; exact this) OBP.out).trans BX4.out)
        obtain ⟨hu1, hl1, hq1, hs1⟩ := with_new (s := ⟨xt, xv⟩) (x := .slice xa' xl.length xc') HTU.out.2 HR.out
        rw [← HP.out] at hu1 hl1 hq1 hs1
        obtain ⟨T1, hT1⟩ : ∃ T1, T1 = T.take P ++ ⟨.slice xa' xl.length xc', .slice none 0 0, ⟨xl, []⟩⟩ :: T.drop P := ⟨_, rfl⟩
        rw [← hT1] at hu1 hl1 hq1 hs1 t5
        obtain ⟨a5, c5, rfl⟩ := t5.slice
        obtain ⟨n5, hn5⟩ : ∃ n5, n5 = T1.length := ⟨_, rfl⟩
        have hln : n5 = m + 1 := by rw [hn5, hl1, HM.out]
        have N5 := Lib.hid hn5
        rw [← hn5] at t5 ⊢
        have T5 := Lib.hid t5; have U5 := Lib.hid hu1; have Q5 := Lib.hid hq1; have S5 := Lib.hid hs1
        have hPn : P < n5 := by omega
        have L5 : n5 ≤ M0 + (i + 1) := by omega
        obtain ⟨qa, hqa⟩ : ∃ qa, qa = Value.slice xa' xl.length xc' := ⟨_, rfl⟩
        obtain ⟨qb, hqb⟩ : ∃ qb, qb = Value.slice none 0 0 := ⟨_, rfl⟩
        have OB5 := Lib.hid (show ∀ k, qb.ownBlock = some k → k ≠ W0.heap.size from fun k hk => by rw [hqb] at hk; cases hk)
        obtain ⟨ql, hql⟩ : ∃ ql, ql = xl := ⟨_, rfl⟩
        obtain ⟨qss, hqss⟩ : ∃ qss : List Sp, qss = [] := ⟨_, rfl⟩
        rw [← hqa, ← hqb, ← hqss] at Q5
        rw [← hqss] at S5
        have Q5' := Q5.out
        have S5' := S5.out
        clear Q5 S5
        have Q5 := Lib.hid (show T1[P]? = some ⟨qa, qb, ql, qss⟩ by rw [hql]; exact Q5')
        have S5 := Lib.hid (show ∀ a b, rws (T1.set P ⟨a, b, ⟨ql, insS qss ⟨xt, xv⟩⟩⟩) = insT (rws T) xl ⟨xt, xv⟩ by rw [hql]; exact S5')
        clear Q5' S5' hqa hqb hql hqss hT1 hu1 hl1 hq1 hs1 t5 b5 hee hturn IR INS BX4 BV4 OBP HR HF hn5 hln B1
        go_upto_region 7 with fail
      all_goals
        obtain ⟨g5, off5, rfl⟩ : ∃ g5 off5, a5 = some ⟨g5, off5, none⟩ := by
          obtain ⟨o, h⟩ := T5.out
          rcases h.sl.1.2 with ⟨_, h0⟩ | ⟨g', off', cap', he, _⟩
          · have := N5.out; omega
          · cases he; exact ⟨g', off', rfl⟩
        have cellq : W5.cell? ⟨g5, off5 + P * 2 + 1, none⟩ = some qb := by
          obtain ⟨hl5, a6, c6, g6, o6, e6, hg6, hc6⟩ := T5.out.rd
          have h6 := (hg6 (by have := N5.out; omega)).1
          obtain ⟨r1, r2, r3⟩ := Value.slice.inj e6
          rw [h6] at r1
          cases r1
          rw [Nat.add_assoc]
          exact (hc6 (P * 2 + 1) (by have := N5.out; omega)).trans (rqc_at T1 P _ Q5.out).2
        have ok5 := T5.out.row (List.mem_of_getElem? Q5.out)
        have rs : Rd W5 2 qb qss.length (spc qss) := ok5.s
        have hsK : qss.length ≤ K + i := ok5.hs
        obtain ⟨ab, cb, rfl⟩ := rs.slice
        have upq : Up qss := U5.out.2 ⟨ql, qss⟩ (List.mem_of_getElem? (rws_at Q5.out))
        obtain ⟨nb, hnb⟩ : ∃ nb, nb = qss.length := ⟨_, rfl⟩
        obtain ⟨PS, hPS⟩ : ∃ PS, PS = posS qss xt := ⟨_, rfl⟩
        obtain ⟨FS, hFS⟩ : ∃ FS, FS = (look qss xt).isSome := ⟨_, rfl⟩
        have hPSn : PS ≤ nb := by rw [hPS, hnb]; exact posS_le _ _
        have PA := Lib.hid (show ∀ W, Below W5.heap.size W5 W → Calls Tryz.prog 46 #[.slice ab nb cb, .int .i64 xt] W (fun e w' => e = .returned (.tuple #[.int .i64 (PS : Nat), .bool FS]) ∧ Below W.heap.size W w') from fun W bb => by
          have h0 := placeAt_any (.slice ab qss.length cb) qss xt W (rs.on bb) upq (by omega)
          rw [← hPS, ← hFS, ← hnb] at h0
          exact h0)
        have d1 := Lib.cell_of_heap C5.out 1
        have d2 := Lib.cell_of_heap C5.out 2
        rw [← hnb] at cellq hsK Q5 OB5
        have k5 : W5.cell? ⟨g5, off5 + P * 2 + 1, none⟩ = some (.slice ab nb cb) ∧ W5.cell? ⟨W0.heap.size, 1, none⟩ = some (.int .i64 xt) := ⟨cellq, d1⟩
        have z5 : g5 < W5.heap.size ∧ W0.heap.size < W5.heap.size := by
          obtain ⟨o, h⟩ := T5.out
          exact ⟨(h.lt g5 _ (h.sl.2 g5 rfl)).2, (Array.getElem?_eq_some_iff.1 C5.out).1⟩
        have K5 := Lib.hid (show ∀ W, Below W5.heap.size W5 W → W.cell? ⟨g5, off5 + P * 2 + 1, none⟩ = some (.slice ab nb cb) ∧ W.cell? ⟨W0.heap.size, 1, none⟩ = some (.int .i64 xt) ∧ W.cell? ⟨W0.heap.size, 2, none⟩ = some (.int .u64 xv) from fun W bb =>
          ⟨(bb.cell (p := ⟨g5, _, none⟩) z5.1).trans cellq, (bb.cell (p := ⟨W0.heap.size, 1, none⟩) z5.2).trans d1, (bb.cell (p := ⟨W0.heap.size, 2, none⟩) z5.2).trans d2⟩)
        have i1 : (P : Int) < (n5 : Int) := by omega
        have B5 := (Below.refl W5.heap.size W5).drew
        have HNB := Lib.hid hnb; have HPS := Lib.hid hPS; have HFS := Lib.hid hFS; have RS := Lib.hid rs; have UPQ := Lib.hid upq; have Z5 := Lib.hid z5
        clear cellq ok5 rs upq hnb hPS hFS d1 d2 z5
        go_region_held3 (fun W => W.cell? ⟨g5, off5 + P * 2 + 1, none⟩ = some (.slice ab nb cb) ∧ W.cell? ⟨W0.heap.size, 1, none⟩ = some (.int .i64 xt))
          (first | exact k5 | exact ⟨(K5.out _ B6).1, (K5.out _ B6).2.1⟩ | assumption | fail)
          (first
            | (go_at_call 46; ((with_reducible refine (PA.out _ B5).mono ?_)); rintro e W6 ⟨rfl, b6⟩; have B6 : Below W5.heap.size W5 W6 := B5.trans (b6.mono B5.size))
            | fail)
        clear PA k5 B5 b6
        cases FS
        case' true =>
          go_wp2
          refine ⟨⟨i + 1, T1, by go_num, by omega, (T5.out.on B6).mono (by omega), Lib.hid ⟨?_, U5.out⟩, ?_, BW5.out.trans (B6.mono ?_)⟩, by simp [intOf]; omega⟩
          · rw [STEP.out (by rw [← HTU.out.1]; exact HTU.out.2), ← HTU.out.1, ← S5.out qa (.slice ab nb cb)]
            obtain ⟨y, hy⟩ := Option.isSome_iff_exists.1 HFS.out.symm
            rw [insS_in (s := ⟨xt, xv⟩) UPQ.out hy]
            have := Q5.out
            rw [rws_set]
            have e := rws_at Q5.out
            simp only at e
            exact (set_same _ _ _ e).symm
          · have := N5.out; omega
          · exact Nat.le_trans hbw BW5.out.size
        case' false =>
          have hlk : look qss xt = none := by
            have := HFS.out
            cases h : look qss xt with
            | none => rfl
            | some y => rw [h] at this; cases this
          have T6 := T5.out.on B6
          obtain ⟨V7, hV7⟩ : ∃ V7, V7 = (W6.alloc (.cells #[.int .i64 xt, .int .u64 xv] 34)).drew := ⟨_, rfl⟩
          have b7 : Below W6.heap.size W6 V7 := by rw [hV7]; exact ((Below.refl W6.heap.size W6).alloc (Nat.le_refl _) _).drew
          have T7 := T6.on b7
          have B57 : Below W5.heap.size W5 V7 := B6.trans (b7.mono B6.size)
          obtain ⟨o7, hT7⟩ := T7
          have hTb : base ≤ W6.heap.size := by obtain ⟨o, h⟩ := T6; exact h.le
          have row7 := hT7.ok _ (List.mem_of_getElem? Q5.out)
          have hs7 : Sl V7 base 2 (.slice ab nb cb) nb (spc qss) := by have := row7.s.1; rw [HNB.out] at this ⊢; exact this
          have ob7 : ∀ k, (Value.slice ab nb cb).ownBlock = some k → k < W6.heap.size ∧ k ≠ g5 := fun k hk => by
            obtain ⟨o6, h6⟩ := T6
            have r6 := h6.ok _ (List.mem_of_getElem? Q5.out)
            refine ⟨(r6.s.1.lt k hk).2, fun e => ?_⟩
            have h1 := r6.s.2 k hk
            have h2 := h6.sl.2 g5 rfl
            rw [e, h2] at h1
            cases h1
          have k7 := K5.out V7 B57
          have k6 := K5.out W6 B6
          have IS := Lib.hid (show Calls Tryz.prog 47 #[.slice ab nb cb, .int .i64 (PS : Nat), .slice (some ⟨W6.heap.size, 0, none⟩) 1 1] V7 (IW V7 base (.slice ab nb cb) (nb + 1) (insC (spc qss) [.int .i64 xt, .int .u64 xv] PS)) from
            insert_S base PS W6.heap.size nb (.slice ab nb cb) (spc qss) (.int .i64 xt) (.int .u64 xv) V7 hs7 hPSn (by omega) hT7.le (by rw [hV7]; exact heap_alloc_new W6 _) (fun e => by have := (ob7 _ e).1; omega) (spc_one qss) ⟨rfl, rfl⟩)
          have FIN := Lib.hid (fun e w8 (hI : IW V7 base (.slice ab nb cb) (nb + 1) (insC (spc qss) [.int .i64 xt, .int .u64 xv] PS) e w8) => show ∃ a8 c8, e = .returned (.slice a8 (nb + 1) c8) ∧ (w8.cell? ⟨g5, off5 + P * 2 + 1, none⟩ = some (.slice ab nb cb) ∧ w8.cell? ⟨W0.heap.size, 1, none⟩ = some (.int .i64 xt) ∧ w8.cell? ⟨W0.heap.size, 2, none⟩ = some (.int .u64 xv)) ∧ w8.frozen? ⟨g5, off5 + P * 2 + 1, none⟩ = false ∧
              TabO (w8.setCell ⟨g5, off5 + P * 2 + 1, none⟩ (.slice a8 (nb + 1) c8)) base (K + i + 1) (.slice (some ⟨g5, off5, none⟩) n5 c5) (T1.set P ⟨qa, .slice a8 (nb + 1) c8, ⟨ql, insS qss ⟨xt, xv⟩⟩⟩) ∧ Below base w (w8.setCell ⟨g5, off5 + P * 2 + 1, none⟩ (.slice a8 (nb + 1) c8)) from by
            obtain ⟨v8, rfl, s8, t8, o8⟩ := hI
            obtain ⟨a8, c8, rfl⟩ := s8.slice
            have z7 := B57.size
            have z5 := Z5.out
            have n1 : ¬ (Value.slice ab nb cb).ownBlock = some g5 := fun e => (ob7 _ e).2 rfl
            have n2 : ¬ (Value.slice ab nb cb).ownBlock = some W0.heap.size := fun e => OB5.out _ e rfl
            have c1 := (t8.cell (p := ⟨g5, off5 + P * 2 + 1, none⟩) (by show g5 < _; omega) n1).trans k7.1
            have c2 := (t8.cell (p := ⟨W0.heap.size, 1, none⟩) (by show W0.heap.size < _; omega) n2).trans k7.2.1
            have c3 := (t8.cell (p := ⟨W0.heap.size, 2, none⟩) (by show W0.heap.size < _; omega) n2).trans k7.2.2
            have fz : V7.frozen? ⟨g5, off5 + P * 2 + 1, none⟩ = false := by
              rcases hT7.sl.1.2 with ⟨h0, _⟩ | ⟨g', off', cap', he, _, _, hnc, _, hfree, _⟩
              · cases h0
              · cases he
                rw [Nat.add_assoc]
                exact (hfree (P * 2 + 1) (by omega)).2
            have c4 := (t8.frozen (p := ⟨g5, off5 + P * 2 + 1, none⟩) (by show g5 < _; omega) n1).trans fz
            have e9 : insC (spc qss) [.int .i64 xt, .int .u64 xv] PS = spc (insS qss ⟨xt, xv⟩) := by
              rw [insS_out UPQ.out hlk]
              have := spc_insC qss ⟨xt, xv⟩ PS (by have := HNB.out; omega)
              rw [← HPS.out]
              exact this
            have l9 : (insS qss ⟨xt, xv⟩).length = nb + 1 := by
              have := congrArg List.length e9
              rw [spc_len, insC_len (n := nb) (by rw [spc_len, HNB.out]) rfl hPSn] at this
              omega
            rw [e9] at s8
            have hT7' := hT7
            have st := TabW.store (b' := .slice a8 (nb + 1) c8) (ss := insS qss ⟨xt, xv⟩) (q := ⟨qa, .slice ab nb cb, ql, qss⟩) (w' := w8) hT7' N5.out Q5.out (up_ne U5.out) (by rw [l9]; omega) (by rw [l9]; exact s8) t8 o8
            rw [← Nat.add_assoc] at st
            exact ⟨a8, c8, rfl, ⟨c1, c2, c3⟩, c4, st.1, (BW5.out.trans (B57.mono (Nat.le_trans hbw BW5.out.size))).trans st.2⟩)
          have STP := Lib.hid (show ∀ v8, rws (T1.set P ⟨qa, v8, ⟨ql, insS qss ⟨xt, xv⟩⟩⟩) = addF (rws qs) (pts (ps.take (i + 1))) ∧ UpT (rws (T1.set P ⟨qa, v8, ⟨ql, insS qss ⟨xt, xv⟩⟩⟩)) from fun v8 => by
            have e1 := STEP.out (by rw [← HTU.out.1]; exact HTU.out.2)
            rw [← HTU.out.1, ← S5.out qa v8] at e1
            refine ⟨e1.symm, ?_⟩
            rw [S5.out qa v8]
            exact insT_up _ _ HTU.out.2)
          have N5' := Lib.hid (show ∀ x, (T1.set P x).length = n5 from fun x => by rw [List.length_set]; exact N5.out.symm)
          have kk6 : W6.cell? ⟨g5, off5 + P * 2 + 1, none⟩ = some (.slice ab nb cb) ∧ W6.cell? ⟨W0.heap.size, 1, none⟩ = some (.int .i64 xt) ∧ W6.cell? ⟨W0.heap.size, 2, none⟩ = some (.int .u64 xv) := k6
          rw [hV7] at IS FIN k7
          clear hlk T6 hV7 b7 B57 hT7 hTb row7 hs7 ob7 STEP S5 U5 Q5 T5 OB5 C5 K5 HNB HPS HFS RS UPQ Z5 k6 o7
          go_upto_region 9 with fail
          obtain ⟨kk1, kk2, kk3⟩ := kk6
          obtain ⟨ka1, ka2, ka3⟩ := k7
          go_region_with (first
            | (go_at_call 47; ((with_reducible refine IS.out.mono ?_)); rintro e w8 hI; obtain ⟨a8, c8, rfl, ⟨k81, k82, k83⟩, f8, t8, b8⟩ := FIN.out _ _ hI; clear hI)
            | fail)
          all_goals
            go_wp2
            exact ⟨⟨i + 1, _, by go_num, by omega, t8, Lib.hid (STP.out _), by rw [N5'.out]; exact L5, b8⟩, by simp [intOf]; omega⟩
    · obtain rfl : i = N := by omega
      go_wp2
      go_ret
      refine ⟨_, T, rfl, HTT.out, ?_, HTU.out.2, by have := HM.out; omega, BW.out⟩
      have := HTU.out.1
      rw [this, List.take_of_length_le (by have := HN.out; omega)]
end Go.Proofs.YtfckgcckpfklaaaGreatDoor
