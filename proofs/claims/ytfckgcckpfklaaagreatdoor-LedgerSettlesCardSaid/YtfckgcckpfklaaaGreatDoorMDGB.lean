/- Layer 25: holds, firstOnes, walked. -/
import Derived.Test.YtfckgcckpfklaaaGreatDoorMDG9
import Derived.Test.YtfckgcckpfklaaaGreatDoorMDM
import Derived.Test.YtfckgcckpfklaaaGreatDoorMWM
import Derived.Test.YtfckgcckpfklaaaGreatDoorMLE
namespace Go.Proofs.YtfckgcckpfklaaaGreatDoor
open Go.RowKit Go.Lib Hp
set_option linter.unusedVariables false

/-- What holds answers. -/
def HoldsP (low high l : List Rw) (e : Ending) : Prop := ∃ c : Int, e = .returned (.int .i64 c) ∧ (c = 0 ↔ WithinP low l ∧ WithinP l high) ∧ (¬ WithinP low l → c = 5) ∧ (WithinP low l → ¬ WithinP l high → c = 6)
set_option maxHeartbeats 1000000 in
set_option maxRecDepth 100000 in
theorem holds_any (lv av bv : Value) (l low high : List Rw) (K0 K1 K2 : Nat) (w : World) (h : TabR w K0 lv l) (ha : TabR w K1 av low) (hb : TabR w K2 bv high) (u : UpT l) (uh : UpT high) (k0 : K0 ≤ 10000) (k1 : K1 ≤ 10000) (k2 : K2 ≤ 10000) :
    Calls Tryz.prog 33 #[lv, av, bv] w fun e w' => HoldsP low high l e ∧ Below w.heap.size w w' := by
  have G := Lib.hid (good_any lv l K0 w h h.1 (by omega))
  have HG := Lib.hid (goodI_of_up u)
  have W1 := Lib.hid (fun W (bb : Below w.heap.size w W) => within_any av lv low l K1 K0 W (ha.on bb) (h.on bb) u (by omega) (by omega))
  have W2 := Lib.hid (fun W (bb : Below w.heap.size w W) => within_any lv bv l high K0 K2 W (h.on bb) (hb.on bb) uh (by omega) (by omega))
  obtain ⟨a, c, rfl⟩ := h.2.choose_spec.2.1.slice
  obtain ⟨a2, c2, rfl⟩ := ha.2.choose_spec.2.1.slice
  obtain ⟨a3, c3, rfl⟩ := hb.2.choose_spec.2.1.slice
  obtain ⟨n1, hn1⟩ : ∃ n, n = l.length := ⟨_, rfl⟩
  obtain ⟨n2, hn2⟩ : ∃ n, n = low.length := ⟨_, rfl⟩
  obtain ⟨n3, hn3⟩ : ∃ n, n = high.length := ⟨_, rfl⟩
  rw [← hn1] at G
  rw [← hn1, ← hn2] at W1
  rw [← hn1, ← hn3] at W2
  rw [← hn1, ← hn2, ← hn3]
  clear h ha hb u uh k0 k1 k2 hn1 hn2 hn3
  go_enter Tryz.func33, Tryz.ntmps33
  go_wp2_with fail
  refine G.out.mono ?_
  rintro e w1 ⟨⟨b, rfl, hb⟩, b1⟩
  obtain rfl : b = true := hb.2 HG.out
  clear hb
  go_wp2_with fail
  refine (W1.out w1 b1).mono ?_
  rintro e w2 ⟨⟨b, rfl, hb⟩, b2⟩
  have B2 := b1.trans (b2.mono b1.size)
  cases b
  · have hno : ¬ WithinP low l := fun h => by have := hb.2 h; cases this
    have HNO := Lib.hid hno
    clear hb hno
    go_wp2
    go_ret
    exact ⟨⟨5, rfl, ⟨fun h => absurd h (by decide), fun h => absurd h.1 HNO.out⟩, fun _ => rfl, fun h => absurd h HNO.out⟩, B2⟩
  · have HY := Lib.hid (hb.1 rfl)
    clear hb
    go_wp2_with fail
    refine (W2.out w2 B2).mono ?_
    rintro e w3 ⟨⟨b, rfl, hb⟩, b3⟩
    have B3 := B2.trans (b3.mono B2.size)
    cases b
    · have HNO := Lib.hid (show ¬ WithinP l high from fun h => by have := hb.2 h; cases this)
      clear hb
      go_wp2
      go_ret
      exact ⟨⟨6, rfl, ⟨fun h => absurd h (by decide), fun h => absurd h.2 HNO.out⟩, fun h => absurd HY.out h, fun _ _ => rfl⟩, B3⟩
    · have HYY := Lib.hid (hb.1 rfl)
      clear hb
      go_wp2
      go_ret
      exact ⟨⟨0, rfl, ⟨fun _ => ⟨HY.out, HYY.out⟩, fun _ => rfl⟩, fun h => absurd HY.out h, fun _ h => absurd HYY.out h⟩, B3⟩

theorem SeenM.mono {m j j' : Nat} {N : List (List UInt8)} {w : World} (h : SeenM m N j w) (hj : j ≤ j') : SeenM m N j' w := by
  obtain ⟨es, ck, h1, h2⟩ := h
  refine ⟨es, ck, h1, fun x => ?_⟩
  have := h2 x
  cases e : lookK CEn.x x es with
  | none => rw [e] at this; exact this
  | some y => rw [e] at this; exact ⟨this.1, this.2.1, Nat.le_trans this.2.2 hj⟩
/-- A point is in a table. -/
def InT (now : List Rw) (p : Pq) : Prop := lookT now p.ls p.s.t = some p.s
/-- Of each series no point is there behind one that isn't. -/
def FirstP (now : List Rw) (ps : List Pq) : Prop := ∀ (i j : Nat) (p q : Pq), i < j → ps[i]? = some p → ps[j]? = some q → p.ls = q.ls → InT now q → InT now p
theorem first_step {now : List Rw} {ps : List Pq} {i : Nat} {q : Pq} (h : FirstP now (ps.take i)) (hq : ps[i]? = some q) (hk : InT now q → ∀ p ∈ ps.take i, p.ls = q.ls → InT now p) : FirstP now (ps.take (i + 1)) := by
  have hi : i < ps.length := (List.getElem?_eq_some_iff.1 hq).1
  intro a b p r hab hp hr e hin
  have hb : b < i + 1 := by have := (List.getElem?_eq_some_iff.1 hr).1; rw [List.length_take] at this; omega
  rw [List.getElem?_take, if_pos (by omega)] at hp
  rw [List.getElem?_take, if_pos hb] at hr
  by_cases hbi : b = i
  · subst hbi
    rw [hq] at hr
    cases hr
    exact hk hin p (List.mem_of_getElem? (i := a) (by rw [List.getElem?_take, if_pos hab]; exact hp)) e
  · exact h a b p r hab (by rw [List.getElem?_take, if_pos (by omega)]; exact hp) (by rw [List.getElem?_take, if_pos (by omega)]; exact hr) e hin

set_option maxHeartbeats 4000000 in
set_option maxRecDepth 100000 in
theorem firstOnes_any (b B K K1 : Nat) (sure now : List Rw) (ps : List Pq) (nv : Value) (w : World) (h : Led w b B K sure ps) (hn : TabR w K1 nv now) (u : UpT now) (hs : ∀ p ∈ ps, Short p.ls) (hl : ps.length ≤ 100000) (k1 : K1 ≤ 100000) :
    Calls Tryz.prog 34 #[.pointer (some ⟨b, 0, none⟩), nv] w fun e w' => Ans (FirstP now ps) e ∧ Below w.heap.size w w' := by
  obtain ⟨hm2, T, rfl, hT, hokT⟩ := hn
  have hTl : T.length ≤ 100000 := by simpa using hm2
  have SO := Lib.hid (fun (lv : Value) (ls : List Pr) W (bb : Below w.heap.size w W) (kk : Rd W 2 lv ls.length (prc ls)) (hk : ls.length ≤ 1000000) => samplesOf_any nv lv T ls K1 W ⟨by have := hT.on bb; rw [List.length_map] at this; exact this, fun q hq => (hokT q hq).on bb⟩ kk u (by omega) hk)
  obtain ⟨ga, gc, rfl⟩ := hT.slice
  obtain ⟨M, hM⟩ : ∃ M, M = (T.map Rq.r).length := ⟨_, rfl⟩
  have HLK := Lib.hid (fun ls a => lookT_row (ls := ls) u a)
  rw [← hM]
  rw [← hM] at SO
  obtain ⟨R, hR⟩ : ∃ R, R = T.map Rq.r := ⟨_, rfl⟩
  have hRT : rws T = R := by rw [hR]; rfl
  rw [hRT] at SO
  rw [← hR] at HLK ⊢
  obtain ⟨sv, ov, hb, _, hp⟩ := h.ex
  have hblt := h.blk
  obtain ⟨⟨⟨_, pa, pc, g, off, rfl, hg, hc⟩, hok⟩, hpb, hpp⟩ := hp
  obtain ⟨N, hN⟩ : ∃ N, N = ps.length := ⟨_, rfl⟩
  rw [← hN] at hg hc hl hb
  have HN := Lib.hid hN; have HC := Lib.hid hc; have HG := Lib.hid hg; have HOK := Lib.hid hok; have HSH := Lib.hid hs
  have cb1 := Lib.cell_of_heap hb 1
  clear hT hokT hM hR hRT hTl hm2 h hN hc hg hok hpb hpp hs u hb
  obtain ⟨V0, hV0⟩ : ∃ V0, V0 = w.alloc (.map #[] 0) := ⟨_, rfl⟩
  have SM0 : SeenM w.heap.size [] 0 V0 := by rw [hV0]; exact SeenM.new (heap_alloc_new w _)
  have BV0 : Below w.heap.size w V0 := by rw [hV0]; exact (Below.refl _ _).alloc (Nat.le_refl _) _
  have cbV : V0.cell? ⟨b, 1, none⟩ = some (.slice pa N pc) := (BV0.cell (p := ⟨b, 1, none⟩) hblt).trans cb1
  have SM := Lib.hid SM0
  have BV := Lib.hid BV0
  have hmm := @run_makeMap Tryz.prog
  clear SM0 BV0 cb1
  go_enter Tryz.func34, Tryz.ntmps34
  go_upto_region 2 with fail
  rw [← hV0]
  clear hV0
  go_wp2_with fail
  clear cbV
  go_loopw [7, 8, 15, 22, 35] (fun _ _ i' _ _ wr => ∃ (i : Nat) (Nm : List (List UInt8)), i' = .int .i64 i ∧ i ≤ N ∧ Hid (FirstP R (ps.take i)) ∧ Hid (SeenM w.heap.size Nm i wr) ∧ Hid (∀ x, x ∈ Nm ↔ ∃ p ∈ ps.take i, ¬ InT R p ∧ keyL p.ls = x) ∧ Below w.heap.size w wr) (fun _ _ i' _ _ _ => N - (intOf i').toNat)
  case atStart => exact ⟨0, [], rfl, by omega, Lib.hid (fun i j p q _ hp => by simp at hp), SM, Lib.hid (fun x => by simp), BV.out⟩
  case round =>
    obtain ⟨W0, rfl⟩ : ∃ W0, W0 = wr := ⟨_, rfl⟩
    obtain ⟨i, Nm, rfl, hi, hf, hsm, hnm, hb⟩ := hrel
    have BW := Lib.hid hb
    by_cases hlt : i < N
    · obtain ⟨⟨xa, xl, ⟨xt, xv⟩⟩, hx⟩ : ∃ p, ps[i]? = some p := ⟨ps[i]'(by have := HN.out; omega), List.getElem?_eq_getElem (by have := HN.out; omega)⟩
      obtain ⟨rfl, hgl⟩ := HG.out (by omega)
      obtain ⟨c0, c1, c2⟩ := pqc_at ps i _ hx
      have q0 := (hb.cell (p := ⟨g, off + i * 3, none⟩) hgl).trans ((HC.out (i * 3) (by omega)).trans c0)
      have q1 := (hb.cell (p := ⟨g, off + (i * 3 + 1), none⟩) hgl).trans ((HC.out (i * 3 + 1) (by omega)).trans c1)
      have q2 := (hb.cell (p := ⟨g, off + (i * 3 + 2), none⟩) hgl).trans ((HC.out (i * 3 + 2) (by omega)).trans c2)
      rw [← Nat.add_assoc] at q1 q2
      obtain ⟨xr1, xlen⟩ := HOK.out _ (List.mem_of_getElem? hx)
      have xr : Rd w 2 xa xl.length (prc xl) := xr1
      have xr0 : Rd W0 2 xa xl.length (prc xl) := xr.on hb
      have xsh : Short xl := HSH.out _ (List.mem_of_getElem? hx)
      clear xr1
      obtain ⟨ax, cx, rfl⟩ := xr.slice
      simp only at q0 q1 q2 xlen c0 c1 c2
      obtain ⟨V1, hV1⟩ : ∃ V1, V1 = W0.alloc (.cells #[.slice ax xl.length cx, .int .i64 xt, .int .u64 xv] 38) := ⟨_, rfl⟩
      have b1 : Below W0.heap.size W0 V1 := by rw [hV1]; exact (Below.refl _ _).alloc (Nat.le_refl _) _
      have hbox : V1.heap[W0.heap.size]? = some (.cells #[.slice ax xl.length cx, .int .i64 xt, .int .u64 xv] 38) := by rw [hV1]; exact heap_alloc_new W0 _
      have z1 := (Array.getElem?_eq_some_iff.1 hbox).1
      have FX := Lib.hid (fun W (b : Below V1.heap.size V1 W) => show W.cell? ⟨W0.heap.size, 0, none⟩ = some (.slice ax xl.length cx) ∧ W.cell? ⟨W0.heap.size, 1, none⟩ = some (.int .i64 xt) ∧ W.cell? ⟨W0.heap.size, 2, none⟩ = some (.int .u64 xv) from
        ⟨(b.cell (p := ⟨W0.heap.size, 0, none⟩) z1).trans (Lib.cell_of_heap hbox 0), (b.cell (p := ⟨W0.heap.size, 1, none⟩) z1).trans (Lib.cell_of_heap hbox 1), (b.cell (p := ⟨W0.heap.size, 2, none⟩) z1).trans (Lib.cell_of_heap hbox 2)⟩)
      have KY := Lib.hid (show Calls Tryz.prog 12 #[.slice ax xl.length cx] V1 _ from key_lb (.slice ax xl.length cx) xl V1 (xr0.on b1) (by have := key_small xl xsh; omega) (by omega))
      have B1 := Lib.hid (show Below w.heap.size w V1 from hb.trans (b1.mono hb.size))
      have SO1 := Lib.hid (fun W (bb : Below V1.heap.size V1 W) => SO.out (.slice ax xl.length cx) xl W (B1.out.trans (bb.mono B1.out.size)) ((xr0.on b1).on bb) (by omega))
      have HAS := Lib.hid (fun (v2 : Value) (ss : List Sp) W (rd2 : Rd W 2 v2 ss.length (spc ss)) (up2 : Up ss) (hsk : ss.length ≤ K1) => has_any v2 ss ⟨xt, xv⟩ W rd2 up2 (by omega))
      have HIN := Lib.hid (fun (ss : List Sp) (hss : ss = ((rowT R xl).map Rw.ss).getD []) => show decide (look ss xt = some ⟨xt, xv⟩) = decide (lookT R xl xt = some ⟨xt, xv⟩) by
        have : look ss xt = lookT R xl xt := by
          rw [HLK.out, hss]
          cases rowT R xl <;> rfl
        rw [this])
      have SMT := Lib.hid (fun W (bb : Below V1.heap.size V1 W) => hsm.out.turn (S := fun _ => False) ((Turn.of_below b1).trans (Turn.of_below bb)) (fun h => h))
      have SMV := Lib.hid (fun W (bb : Below V1.heap.size V1 W) => (SMT.out W bb).step (keyL xl))
      have HX := Lib.hid hx; have HSX := Lib.hid xsh
      obtain ⟨f0, f1, f2⟩ := FX.out V1 (Below.refl _ _)
      have xl3 := xlen
      clear hbox xr0 xr b1 c0 c1 c2 hx xsh hb
      go_upto_region 5 with fail
      rw [← hV1]
      clear hV1 q0 q1 q2
      go_wp2_with fail
      refine KY.out.mono ?_
      rintro e w2 ⟨rfl, b2⟩
      obtain ⟨g0, g1, g2⟩ := FX.out w2 b2
      clear KY f0 f1 f2
      go_upto_region 6 with fail
      have B0 : Below V1.heap.size V1 w2.drew := b2.drew
      have kk : w2.cell? ⟨W0.heap.size, 0, none⟩ = some (.slice ax xl.length cx) ∧ w2.cell? ⟨W0.heap.size, 1, none⟩ = some (.int .i64 xt) ∧ w2.cell? ⟨W0.heap.size, 2, none⟩ = some (.int .u64 xv) := ⟨g0, g1, g2⟩
      go_region_held3 (fun W => W.cell? ⟨W0.heap.size, 0, none⟩ = some (.slice ax xl.length cx) ∧ W.cell? ⟨W0.heap.size, 1, none⟩ = some (.int .i64 xt) ∧ W.cell? ⟨W0.heap.size, 2, none⟩ = some (.int .u64 xv))
        (first | exact kk | exact FX.out _ B3 | exact FX.out _ B4 | assumption | fail)
        (first
          | (go_at_call 39; ((with_reducible refine (SO1.out _ B0).mono ?_)); rintro e w3 ⟨v2, ss, rfl, rd2, hss, up2, hsk, b3⟩; have B3 : Below V1.heap.size V1 w3 := B0.trans (b3.mono B0.size); have HSS := Lib.hid hss; have HH := Lib.hid (HAS.out v2 ss w3 rd2 up2 hsk); obtain ⟨sa2, sc2, es2⟩ := rd2.slice; obtain ⟨nss, hnss⟩ : ∃ n, n = ss.length := ⟨_, rfl⟩; rw [← hnss] at es2; subst es2; clear hss rd2 up2 hsk hnss)
          | (go_at_call 40; ((with_reducible refine HH.out.mono ?_)); rintro e w4 ⟨rfl, b4⟩; have B4 : Below V1.heap.size V1 w4 := B3.trans (b4.mono B3.size))
          | fail)
      have hd2 := HIN.out ss HSS.out
      obtain ⟨d, hd⟩ : ∃ d, d = decide (look ss xt = some (⟨xt, xv⟩ : Sp)) := ⟨_, rfl⟩
      rw [← hd] at hd2 ⊢
      obtain ⟨c, W5, hcj, hc0, l1, st, tn, -, sm2⟩ := SMV.out w4 B4
      have BB4 := Lib.hid (B1.out.trans (B4.mono B1.out.size))
      have hwr : IntKind.i64.wrap ((c : Int) + 1) = (c : Int) + 1 := by rw [IntKind.wrap_i64]; omega
      have HC0 := Lib.hid hc0
      have SM4 := Lib.hid ((SMT.out w4 B4).mono (Nat.le_succ i))
      have HTN := Lib.hid tn; have SM2 := Lib.hid sm2; have BB5 := Lib.hid (BB4.out.trans (tn.below BB4.out.size fun k hk => by omega))
      have TK := Lib.hid (show ∀ p ∈ ps.take (i + 1), p ∈ ps.take i ∨ p = ⟨.slice ax xl.length cx, xl, ⟨xt, xv⟩⟩ from fun p hp => by
        rw [List.take_add_one, HX.out] at hp
        rcases List.mem_append.1 hp with hp | hp
        · exact .inl hp
        · simp at hp; exact .inr hp)
      have TK2 := Lib.hid (show ∀ p ∈ ps.take i, p ∈ ps.take (i + 1) from fun p hp => by
        rw [List.take_add_one]
        exact List.mem_append_left _ hp)
      have TK3 := Lib.hid (show (⟨.slice ax xl.length cx, xl, ⟨xt, xv⟩⟩ : Pq) ∈ ps.take (i + 1) from by
        rw [List.take_add_one, HX.out]
        simp)
      clear hd hc0 tn sm2 kk B0 B3 B4 b2 b3 b4 g0 g1 g2 HH HSS SMV SMT HIN HAS SO1 FX
      cases d
      · have hni : ¬ InT R ⟨.slice ax xl.length cx, xl, ⟨xt, xv⟩⟩ := by
          have := hd2
          simpa [InT] using this
        have HNI := Lib.hid hni
        clear hd2 hni
        go_wp2
        refine ⟨⟨i + 1, _, by go_num, by omega, Lib.hid (first_step hf.out HX.out fun h => absurd h HNI.out), Lib.hid SM2.out, Lib.hid (fun x => ?_), BB5.out⟩, by simp [intOf]; omega⟩
        constructor
        · intro hxm
          have hxm' : x ∈ Nm ∨ x = keyL xl := by
            split at hxm
            · exact .inl hxm
            · rcases List.mem_append.1 hxm with h | h
              · exact .inl h
              · simp at h; exact .inr h
          rcases hxm' with h | rfl
          · obtain ⟨p, hp, h1, h2⟩ := (hnm.out x).1 h
            exact ⟨p, TK2.out p hp, h1, h2⟩
          · exact ⟨_, TK3.out, HNI.out, rfl⟩
        · rintro ⟨p, hp, h1, h2⟩
          rcases TK.out p hp with h | rfl
          · have := (hnm.out x).2 ⟨p, h, h1, h2⟩
            split
            · exact this
            · exact List.mem_append_left _ this
          · simp only at h2
            subst h2
            split
            · assumption
            · simp
      · have hin : InT R ⟨.slice ax xl.length cx, xl, ⟨xt, xv⟩⟩ := by
          have := hd2
          simpa [InT] using this
        have HIN := Lib.hid hin
        clear hd2 hin
        by_cases hc : c = 0
        · have hno : keyL xl ∉ Nm := HC0.out.1 hc
          have HNO := Lib.hid hno
          subst hc
          clear hno
          go_wp2
          refine ⟨⟨i + 1, Nm, by go_num, by omega, Lib.hid (first_step hf.out HX.out fun _ p hp e => ?_), Lib.hid ?_, Lib.hid (fun x => ?_), BB4.out⟩, by simp [intOf]; omega⟩
          · simp only at e
            apply Classical.byContradiction
            intro hni
            exact HNO.out ((hnm.out _).2 ⟨p, hp, hni, by rw [e]⟩)
          · exact SM4.out
          · refine (hnm.out x).trans ⟨fun ⟨p, hp, h1, h2⟩ => ⟨p, TK2.out p hp, h1, h2⟩, ?_⟩
            rintro ⟨p, hp, h1, h2⟩
            rcases TK.out p hp with h | rfl
            · exact ⟨p, h, h1, h2⟩
            · exact absurd HIN.out h1
        · have hpos : (0 : Int) < (c : Int) := by omega
          have hin2 : keyL xl ∈ Nm := Classical.byContradiction fun h => hc (HC0.out.2 h)
          have HNO := Lib.hid (show ¬ FirstP R ps from fun hF => by
            obtain ⟨p, hp, h1, h2⟩ := (hnm.out _).1 hin2
            obtain ⟨a, ha⟩ := List.getElem?_of_mem hp
            have hai : a < i := by have := (List.getElem?_eq_some_iff.1 ha).1; rw [List.length_take] at this; omega
            rw [List.getElem?_take, if_pos hai] at ha
            have hpm := List.mem_of_getElem? ha
            have e := keyL_inj p.ls xl (HSH.out p hpm) HSX.out (HOK.out p hpm).2 xl3 h2
            exact h1 (hF a i p _ hai ha HX.out e HIN.out))
          clear hin2
          go_wp2
          go_ret
          exact ⟨Ans.no HNO.out, BB4.out⟩
    · obtain rfl : i = N := by omega
      go_wp2
      go_ret
      refine ⟨Ans.yes ?_, BW.out⟩
      have := hf.out
      rw [List.take_of_length_le (by have := HN.out; omega)] at this
      exact this
end Go.Proofs.YtfckgcckpfklaaaGreatDoor
