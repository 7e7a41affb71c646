/- Layer 25: is a sample among others, in a table, a table in another one: walked. -/
import Derived.Test.YtfckgcckpfklaaaGreatDoorMDG7
import Derived.Test.YtfckgcckpfklaaaGreatDoorMWL
import Derived.Laws.StructEq
namespace Go.Proofs.YtfckgcckpfklaaaGreatDoor
open Go.RowKit Go.Lib Hp
set_option linter.unusedVariables false

theorem eq_smp (a b c d : Int) (w : World) : (binOp BinOp.eql 34 (.agg #[.int .i64 a, .int .u64 b]) (.agg #[.int .i64 c, .int .u64 d])).run Tryz.prog w = .ok (.bool (decide ((⟨a, b⟩ : Sp) = ⟨c, d⟩))) w := by
  have u9 := Tryz.underlying2
  have a9 := Tryz.isAgg2
  have z9 := Tryz.sizeOf2
  have u8 := Tryz.underlying32
  have a8 := Tryz.isAgg32
  have z8 := Tryz.sizeOf32
  rw [run_eql_struct, show (10000 : Nat) = 9999 + 1 from rfl, run_equalIn_agg w 9999 34 _ _ (by kernel_rfl) (by kernel_rfl)]
  simp only [Program.fieldsOf, Tryz.underlying34]
  by_cases h1 : a = c
  · subst h1
    by_cases h2 : b = d
    · subst h2
      go_simp
    · have h3 : ¬ ((⟨a, b⟩ : Sp) = ⟨a, d⟩) := fun e => h2 (by injection e)
      have h4 : (b == d) = false := by simpa using h2
      rw [decide_eq_false h3]
      go_simp
  · have h3 : ¬ ((⟨a, b⟩ : Sp) = ⟨c, d⟩) := fun e => h1 (by injection e)
    have h4 : (a == c) = false := by simpa using h1
    rw [decide_eq_false h3]
    go_simp

theorem has_look {l : List Sp} {s : Sp} (hu : Up l) {x : Sp} (hx : l[posS l s.t]? = some x) : look l s.t = if x.t = s.t then some x else none := by rw [posS_look hu, hx]; rfl
set_option maxHeartbeats 1000000 in
set_option maxRecDepth 100000 in
theorem has_any (v : Value) (l : List Sp) (s : Sp) (w : World) (h : Rd w 2 v l.length (spc l)) (hu : Up l) (hm : l.length ≤ 1000000) :
    Calls Tryz.prog 40 #[v, .agg #[.int .i64 s.t, .int .u64 s.v]] w fun e w' => e = .returned (.bool (decide (look l s.t = some s))) ∧ Below w.heap.size w w' := by
  obtain ⟨xt, xv⟩ := s
  have PA := Lib.hid (fun W (bb : Below w.heap.size w W) => placeAt_any v l xt W (h.on bb) hu hm)
  obtain ⟨hl0, a, c, g, off, rfl, hg, hc⟩ := h
  obtain ⟨N, hN⟩ : ∃ N, N = l.length := ⟨_, rfl⟩
  obtain ⟨P, hP⟩ : ∃ P, P = posS l xt := ⟨_, rfl⟩
  have V1b : Below w.heap.size w (w.alloc (.cells #[.int .i64 xt, .int .u64 xv] 34)) := (Below.refl _ _).alloc (Nat.le_refl _) _
  cases hlk : look l xt with
  | none =>
    rw [hlk, ← hP, ← hN] at PA
    have HD := Lib.hid (show decide ((none : Option Sp) = some ⟨xt, xv⟩) = false by rfl)
    rw [← hN]
    clear hg hc hl0 hu hm hlk hP hN
    go_enter Tryz.func40, Tryz.ntmps40
    go_wp2_with fail
    refine (PA.out _ V1b).mono ?_
    rintro e w2 ⟨rfl, b2⟩
    have B2 := V1b.trans (b2.mono V1b.size)
    go_wp2_with fail
    go_quiet (fail)
    go_wp2
    go_ret
    exact ⟨rfl, below_draw B2 _⟩
  | some x =>
    have hpl := posS_look (l := l) (t := xt) hu
    rw [hlk] at hpl
    obtain ⟨y, hy⟩ : ∃ y, l[posS l xt]? = some y := by
      cases hq : l[posS l xt]? with
      | none => rw [hq] at hpl; cases hpl
      | some y => exact ⟨y, rfl⟩
    rw [hy, Option.bind_some] at hpl
    have hxy : x = y ∧ y.t = xt := by
      split at hpl
      · rename_i e; exact ⟨Option.some.inj hpl, e⟩
      · cases hpl
    obtain ⟨rfl, hyt⟩ := hxy
    obtain ⟨yt, yv⟩ := x
    have hPN : P < N := by rw [hP, hN]; exact (List.getElem?_eq_some_iff.1 hy).1
    obtain ⟨rfl, hgl⟩ := hg (by omega)
    obtain ⟨v0, v1⟩ := spc_at l _ _ hy
    rw [← hP] at v0 v1
    have c0 := (hc (P * 2) (by omega)).trans v0
    have c1 := (hc (P * 2 + 1) (by omega)).trans v1
    rw [← Nat.add_assoc] at c1
    rw [hlk, ← hP, ← hN] at PA
    have HD := Lib.hid (show decide (some (⟨yt, yv⟩ : Sp) = some ⟨xt, xv⟩) = decide ((⟨yt, yv⟩ : Sp) = ⟨xt, xv⟩) by simp)
    have EQ := fun W => eq_smp yt yv xt xv W
    have i1 : (P : Int) < (N : Int) := by omega
    have K1 := Lib.hid (fun W (bb : Below w.heap.size w W) => show W.cell? ⟨g, off + P * 2, none⟩ = some (.int .i64 yt) ∧ W.cell? ⟨g, off + P * 2 + 1, none⟩ = some (.int .u64 yv) from ⟨(bb.cell (p := ⟨g, _, none⟩) hgl).trans c0, (bb.cell (p := ⟨g, _, none⟩) hgl).trans c1⟩)
    obtain ⟨d, hd⟩ : ∃ d, d = decide ((⟨yt, yv⟩ : Sp) = ⟨xt, xv⟩) := ⟨_, rfl⟩
    have hbx := heap_alloc_new w (.cells #[.int .i64 xt, .int .u64 xv] 34)
    have K2 := Lib.hid (fun W (bb : Below (w.alloc (.cells #[.int .i64 xt, .int .u64 xv] 34)).heap.size (w.alloc (.cells #[.int .i64 xt, .int .u64 xv] 34)) W) => show W.cell? ⟨w.heap.size, 0, none⟩ = some (.int .i64 xt) ∧ W.cell? ⟨w.heap.size, 1, none⟩ = some (.int .u64 xv) from
      ⟨(bb.cell (p := ⟨w.heap.size, 0, none⟩) (by simp)).trans (Lib.cell_of_heap hbx 0), (bb.cell (p := ⟨w.heap.size, 1, none⟩) (by simp)).trans (Lib.cell_of_heap hbx 1)⟩)
    rw [← hd] at HD EQ
    rw [← hN]
    clear hg hc hl0 hu hm hlk hP hN hpl hy v0 v1 c0 c1 hyt hbx hd hPN
    go_enter Tryz.func40, Tryz.ntmps40
    go_wp2_with fail
    refine (PA.out _ V1b).mono ?_
    rintro e w2 ⟨rfl, b2⟩
    have B2 := V1b.trans (b2.mono V1b.size)
    obtain ⟨k1, k2⟩ := K1.out w2 B2
    obtain ⟨k3, k4⟩ := K2.out w2 b2
    go_wp2_with fail
    go_quiet (fail)
    go_wp2
    go_ret
    exact ⟨by rw [HD.out]; rfl, below_draw B2 _⟩

set_option maxHeartbeats 1000000 in
set_option maxRecDepth 100000 in
theorem samplesOf_any (v lv : Value) (T : List Rq) (ls : List Pr) (K0 : Nat) (w : World) (h : Rd w 2 v T.length (rqc T) ∧ ∀ q ∈ T, RowOk w K0 q) (k : Rd w 2 lv ls.length (prc ls)) (hu : UpT (rws T)) (hm : T.length ≤ 1000000) (hk : ls.length ≤ 1000000) :
    Calls Tryz.prog 39 #[v, lv] w fun e w' => ∃ v' ss, e = .returned v' ∧ Rd w' 2 v' ss.length (spc ss) ∧ ss = ((rowT (rws T) ls).map Rw.ss).getD [] ∧ Up ss ∧ (ss.length ≤ K0) ∧ Below w.heap.size w w' := by
  have PL := Lib.hid (place_any v lv T ls K0 w h k hu hm hk)
  obtain ⟨P, hP⟩ : ∃ P, P = posT (rws T) ls := ⟨_, rfl⟩
  obtain ⟨⟨hl0, a, c, g, off, rfl, hg, hc⟩, hok⟩ := h
  obtain ⟨va, vc, rfl⟩ := k.slice
  obtain ⟨N, hN⟩ : ∃ N, N = T.length := ⟨_, rfl⟩
  obtain ⟨M, hM⟩ : ∃ M, M = ls.length := ⟨_, rfl⟩
  cases hr : rowT (rws T) ls with
  | none =>
    rw [hr, ← hP, ← hN, ← hM] at PL
    rw [← hN, ← hM]
    clear hg hc hl0 hok k hu hm hk hP hN hM hr
    go_enter Tryz.func39, Tryz.ntmps39
    go_wp2_with fail
    refine PL.out.mono ?_
    rintro e w2 ⟨rfl, b2⟩
    go_wp2
    go_ret
    exact ⟨_, [], rfl, ⟨rfl, none, 0, 0, 0, rfl, fun h => absurd h (by decide), fun j hj => by simp at hj⟩, rfl, List.Pairwise.nil, Nat.zero_le _, b2⟩
  | some r =>
    obtain ⟨⟨qa, qb, ql, qss⟩, hq, eqr, eql, -⟩ := with_there (s := ⟨0, 0⟩) hu hr
    rw [← hP] at hq
    simp only at eqr eql
    have hPN : P < N := by rw [hN]; exact (List.getElem?_eq_some_iff.1 hq).1
    obtain ⟨rfl, hgl⟩ := hg (by omega)
    have c1 := (hc (P * 2 + 1) (by omega)).trans (rqc_at T P _ hq).2
    rw [← Nat.add_assoc] at c1
    have ok := hok _ (List.mem_of_getElem? hq)
    have rs : Rd w 2 qb qss.length (spc qss) := ok.s
    have hs : qss.length ≤ K0 := ok.hs
    have upq : Up qss := hu.2 ⟨ql, qss⟩ (List.mem_of_getElem? (rws_at hq))
    have HR := Lib.hid (show qss = ((some r).map Rw.ss).getD [] by rw [← eqr]; rfl)
    obtain ⟨ab, cb, rfl⟩ := rs.slice
    have FIN := Lib.hid (fun W (bb : Below w.heap.size w W) => (show Rd W 2 (.slice ab qss.length cb) qss.length (spc qss) ∧ Up qss ∧ qss.length ≤ K0 from ⟨rs.on bb, upq, hs⟩))
    obtain ⟨nb, hnb⟩ : ∃ nb, nb = qss.length := ⟨_, rfl⟩
    simp only at c1
    rw [← hnb] at c1 FIN
    have HNB := Lib.hid hnb
    have i1 : (P : Int) < (N : Int) := by omega
    have K1 := Lib.hid (fun W (bb : Below w.heap.size w W) => (bb.cell (p := ⟨g, off + P * 2 + 1, none⟩) hgl).trans c1)
    rw [hr, ← hP, ← hN, ← hM] at PL
    rw [← hN, ← hM]
    clear hg hc hl0 hok k hu hm hk hP hN hM hr hq eqr eql ok rs hs upq hnb hPN c1
    go_enter Tryz.func39, Tryz.ntmps39
    go_wp2_with fail
    refine PL.out.mono ?_
    rintro e w2 ⟨rfl, b2⟩
    have k1 := K1.out w2 b2
    go_wp2
    go_ret
    obtain ⟨f1, f2, f3⟩ := FIN.out w2 b2
    exact ⟨_, qss, rfl, by rw [← HNB.out]; exact f1, HR.out, f2, by rw [← HNB.out]; exact f3, b2⟩

/-- A table has all samples of another one. -/
def WithinP (small great : List Rw) : Prop := ∀ r ∈ small, ∀ s ∈ r.ss, lookT great r.ls s.t = some s
set_option maxHeartbeats 2000000 in
set_option maxRecDepth 100000 in
theorem within_any (sv gv : Value) (small great : List Rw) (K0 K1 : Nat) (w : World) (h : TabR w K0 sv small) (k : TabR w K1 gv great) (hu : UpT great) (h0 : K0 ≤ 100000) (h1 : K1 ≤ 100000) :
    Calls Tryz.prog 19 #[sv, gv] w fun e w' => Ans (WithinP small great) e ∧ Below w.heap.size w w' := by
  obtain ⟨hm, qs, hqs, ⟨hl0, a, c, g, off, rfl, hg, hc⟩, hok⟩ := h
  obtain ⟨hm2, T, rfl, hT, hokT⟩ := k
  have hTl : T.length ≤ 100000 := by simpa using hm2
  obtain ⟨N, hN⟩ : ∃ N, N = small.length := ⟨_, rfl⟩
  have hqn : qs.length = N := by rw [hN, ← hqs, List.length_map]
  have SO := Lib.hid (fun (lv : Value) (ls : List Pr) W (bb : Below w.heap.size w W) (kk : Rd W 2 lv ls.length (prc ls)) (hk : ls.length ≤ 1000000) => samplesOf_any gv lv T ls K1 W ⟨by have := hT.on bb; rw [List.length_map] at this; exact this, fun q hq => (hokT q hq).on bb⟩ kk hu (by omega) hk)
  obtain ⟨ga, gc, rfl⟩ := hT.slice
  obtain ⟨M, hM⟩ : ∃ M, M = (T.map Rq.r).length := ⟨_, rfl⟩
  rw [← hN] at hg hc hm
  rw [← hN, ← hM]
  rw [← hM] at SO
  have HLK := Lib.hid (fun ls a => lookT_row (ls := ls) hu a)
  have HC := Lib.hid hc; have HG := Lib.hid hg; have HOK := Lib.hid hok; have HQN := Lib.hid hqn; have HQS := Lib.hid hqs
  clear hg hc hok hT hokT hl0 hN hM hu hqn hqs hm2 hTl
  go_enter Tryz.func19, Tryz.ntmps19
  go_wp2_with fail
  go_loopw [6, 7, 9, 12] (fun _ _ _ i' wr => ∃ (i : Nat), i' = .int .i64 i ∧ i ≤ N ∧ Hid (WithinP (small.take i) (T.map Rq.r)) ∧ Below w.heap.size w wr) (fun _ _ _ i' _ => N - (intOf i').toNat)
  case atStart => exact ⟨0, rfl, by omega, Lib.hid (fun r hr => by simp at hr), Below.refl _ _⟩
  case round =>
    obtain ⟨W0, rfl⟩ : ∃ W0, W0 = wr := ⟨_, rfl⟩
    obtain ⟨i, rfl, hi, hw, hb⟩ := hrel
    have BW := Lib.hid hb
    by_cases hlt : i < N
    · obtain ⟨⟨qa, qb, rl, rs⟩, hx⟩ : ∃ q, qs[i]? = some q := ⟨qs[i]'(by have := HQN.out; omega), List.getElem?_eq_getElem (by have := HQN.out; omega)⟩
      have hsx : small[i]? = some ⟨rl, rs⟩ := by rw [← HQS.out, List.getElem?_map, hx]; rfl
      obtain ⟨rfl, hgl⟩ := HG.out (by omega)
      obtain ⟨v0, v1⟩ := rqc_at qs i _ hx
      have q0 := (hb.cell (p := ⟨g, off + i * 2, none⟩) hgl).trans ((HC.out (i * 2) (by omega)).trans v0)
      have q1 := (hb.cell (p := ⟨g, off + (i * 2 + 1), none⟩) hgl).trans ((HC.out (i * 2 + 1) (by omega)).trans v1)
      rw [← Nat.add_assoc] at q1
      have ok := HOK.out _ (List.mem_of_getElem? hx)
      have kl : Rd W0 2 qa rl.length (prc rl) := ok.l.on hb
      have ks : Rd W0 2 qb rs.length (spc rs) := ok.s.on hb
      have hl1 : rl.length ≤ 1000 := ok.hl
      have hs1 : rs.length ≤ K0 := ok.hs
      obtain ⟨aa, ca, rfl⟩ := kl.slice
      obtain ⟨ab, cb, rfl⟩ := ks.slice
      simp only at q0 q1
      have hstep := fun (h : ∀ s ∈ rs, lookT (T.map Rq.r) rl s.t = some s) => (show WithinP (small.take (i + 1)) (T.map Rq.r) from by
        rw [List.take_add_one, hsx]
        intro r hr
        rcases List.mem_append.1 hr with hr | hr
        · exact hw.out r hr
        · simp at hr; subst hr; exact h)
      have hno := fun (s : Sp) (hs : s ∈ rs) (h : lookT (T.map Rq.r) rl s.t ≠ some s) => (show ¬ WithinP small (T.map Rq.r) from fun hh => h (hh ⟨rl, rs⟩ (List.mem_of_getElem? hsx) s hs))
      obtain ⟨V1, hV1⟩ : ∃ V1, V1 = W0.alloc (.cells #[.slice aa rl.length ca, .slice ab rs.length cb] 43) := ⟨_, rfl⟩
      have b1 : Below W0.heap.size W0 V1 := by rw [hV1]; exact (Below.refl _ _).alloc (Nat.le_refl _) _
      have hbx : V1.heap[W0.heap.size]? = some (.cells #[.slice aa rl.length ca, .slice ab rs.length cb] 43) := by rw [hV1]; exact heap_alloc_new W0 _
      have z1 := (Array.getElem?_eq_some_iff.1 hbx).1
      have SC := Lib.hid (SO.out (.slice aa rl.length ca) rl V1 (hb.trans (b1.mono hb.size)) (kl.on b1) (by omega))
      have FX := Lib.hid (fun W (b : Below V1.heap.size V1 W) => show W.cell? ⟨W0.heap.size, 0, none⟩ = some (.slice aa rl.length ca) ∧ W.cell? ⟨W0.heap.size, 1, none⟩ = some (.slice ab rs.length cb) from
        ⟨(b.cell (p := ⟨W0.heap.size, 0, none⟩) z1).trans (Lib.cell_of_heap hbx 0), (b.cell (p := ⟨W0.heap.size, 1, none⟩) z1).trans (Lib.cell_of_heap hbx 1)⟩)
      have B1 := Lib.hid (show Below w.heap.size w V1 from hb.trans (b1.mono hb.size))
      have KS := Lib.hid (ks.on b1)
      have HST := Lib.hid hstep; have HNO := Lib.hid hno
      obtain ⟨f0, f1⟩ := FX.out V1 (Below.refl _ _)
      have LK := Lib.hid (fun a => HLK.out rl a)
      obtain ⟨nl, hnl⟩ : ∃ n, n = rl.length := ⟨_, rfl⟩
      obtain ⟨ns, hns⟩ : ∃ n, n = rs.length := ⟨_, rfl⟩
      rw [← hnl, ← hns] at FX hV1
      rw [← hnl] at SC q0 f0 hl1
      rw [← hns] at KS q1 f1 hs1
      have HNS := Lib.hid hns
      clear hbx kl ks ok v0 v1 hx hsx b1 hstep hno hw hnl hns hb
      go_upto_region 4 with fail
      rw [← hV1]
      clear hV1 q0 q1
      go_wp2_with fail
      refine SC.out.mono ?_
      rintro e w2 ⟨v2, ss, rfl, rd2, hss, up2, hsk, b2⟩
      obtain ⟨a2, c2, rfl⟩ := rd2.slice
      have B2 := Lib.hid (B1.out.trans (b2.mono B1.out.size))
      obtain ⟨f2, f3⟩ := FX.out w2 b2
      have KS2 := Lib.hid (KS.out.on b2)
      have HAS := Lib.hid (fun (s : Sp) W (bb : Below w2.heap.size w2 W) => has_any (.slice a2 ss.length c2) ss s W (rd2.on bb) up2 (by omega))
      have HSS := Lib.hid (show ∀ t, look ss t = lookT (T.map Rq.r) rl t from fun t => by
        rw [LK.out t, hss]
        show _ = ((rowT (rws T) rl).bind fun r => look r.ss t)
        cases rowT (rws T) rl <;> rfl)
      obtain ⟨n2, hn2⟩ : ∃ n, n = ss.length := ⟨_, rfl⟩
      rw [← hn2] at HAS ⊢
      clear rd2 hss up2 hsk b2 hn2 f0 f1 KS SC LK FX
      go_wp2_with fail
      go_loopw [9, 23] (fun _ j' wv => ∃ (j : Nat), j' = .int .i64 j ∧ j ≤ ns ∧ Hid (∀ s ∈ rs.take j, lookT (T.map Rq.r) rl s.t = some s) ∧ Below w2.heap.size w2 wv) (fun _ j' _ => ns - (intOf j').toNat)
      case atStart => exact ⟨0, rfl, by omega, Lib.hid (fun r hr => by simp at hr), Below.refl _ _⟩
      case round =>
        obtain ⟨U0, rfl⟩ : ∃ U0, U0 = wr := ⟨_, rfl⟩
        obtain ⟨j, rfl, hj, hjw, hbj⟩ := hrel
        have BJ := Lib.hid hbj
        by_cases hjl : j < ns
        · obtain ⟨⟨xt, xv⟩, hxj⟩ : ∃ s, rs[j]? = some s := ⟨rs[j]'(by have := HNS.out; omega), List.getElem?_eq_getElem (by have := HNS.out; omega)⟩
          obtain ⟨u0, u1⟩ := spc_at rs j _ hxj
          obtain ⟨_, a6, c6, g6, o6, e6, hg6, hc6⟩ := KS2.out
          obtain ⟨h6, hg6l⟩ := hg6 (by have := HNS.out; omega)
          obtain ⟨r1, r2, r3⟩ := Value.slice.inj e6
          subst r1
          obtain rfl := h6
          have p0 := (hbj.cell (p := ⟨g6, o6 + j * 2, none⟩) hg6l).trans ((hc6 (j * 2) (by have := HNS.out; omega)).trans u0)
          have p1 := (hbj.cell (p := ⟨g6, o6 + (j * 2 + 1), none⟩) hg6l).trans ((hc6 (j * 2 + 1) (by have := HNS.out; omega)).trans u1)
          rw [← Nat.add_assoc] at p1
          have b9 : Below U0.heap.size U0 (U0.alloc (.cells #[.int .i64 xt, .int .u64 xv] 34)) := (Below.refl _ _).alloc (Nat.le_refl _) _
          have HH := Lib.hid (HAS.out ⟨xt, xv⟩ _ (hbj.trans (b9.mono hbj.size)))
          have BU := Lib.hid (hbj.trans (b9.mono hbj.size))
          have HD := Lib.hid (show decide (look ss xt = some ⟨xt, xv⟩) = decide (lookT (T.map Rq.r) rl xt = some ⟨xt, xv⟩) by rw [HSS.out])
          have i1 : (j : Int) < (ns : Int) := by omega
          simp only [HD.out] at HH
          cases hd : decide (lookT (T.map Rq.r) rl xt = some ⟨xt, xv⟩)
          · have NO := Lib.hid (HNO.out ⟨xt, xv⟩ (List.mem_of_getElem? hxj) (by simpa using hd))
            rw [hd] at HH
            clear hd HD u0 u1 hxj r2 r3 e6 hc6 hg6 hbj b9
            go_wp2_with fail
            refine HH.out.mono ?_
            rintro e w9 ⟨rfl, b9⟩
            go_wp2
            go_ret
            exact ⟨Ans.no NO.out, B2.out.trans ((BU.out.trans (b9.mono BU.out.size)).mono B2.out.size)⟩
          · have YS := Lib.hid (show ∀ s ∈ rs.take (j + 1), lookT (T.map Rq.r) rl s.t = some s from fun s hs => by
              rw [List.take_add_one, hxj] at hs
              rcases List.mem_append.1 hs with hs | hs
              · exact hjw.out s hs
              · simp at hs; subst hs; simpa using hd)
            rw [hd] at HH
            clear hd HD u0 u1 hxj r2 r3 e6 hc6 hg6 hbj b9
            go_wp2_with fail
            refine HH.out.mono ?_
            rintro e w9 ⟨rfl, b9⟩
            go_wp2
            exact ⟨⟨j + 1, by go_num, by omega, YS, BU.out.trans (b9.mono BU.out.size)⟩, by simp [intOf]; omega⟩
        · obtain rfl : j = ns := by omega
          have ALL := Lib.hid (HST.out (by
            have := hjw.out
            rw [List.take_of_length_le (by have := HNS.out; omega)] at this
            exact this))
          go_wp2
          exact ⟨⟨i + 1, by go_num, by omega, ALL, B2.out.trans (BJ.out.mono B2.out.size)⟩, by simp [intOf]; omega⟩
    · obtain rfl : i = N := by omega
      go_wp2
      go_ret
      refine ⟨Ans.yes ?_, BW.out⟩
      have := hw.out
      rw [List.take_of_length_le (by have := HQN.out; rw [← HQS.out, List.length_map]; omega)] at this
      exact this
end Go.Proofs.YtfckgcckpfklaaaGreatDoor
