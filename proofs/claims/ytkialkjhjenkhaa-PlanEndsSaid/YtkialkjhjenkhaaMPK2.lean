/- Layer 20, the document's own: Next. -/
import Derived.Test.YtkialkjhjenkhaaMPK1
namespace Go.Proofs.Ytkialkjhjenkhaa
open Go.RowKit Go.Lib
set_option linter.unusedVariables false

theorem rd_key {w w2 W' : World} {b : Nat} (hb : Below w.heap.size w w2) (t : Turn (fun k => k = b) w2 W') (hk : w.heap.size ≤ b) {size m : Nat} {x : Value} {xs : List Value} (hr : Rd w size x m xs) : Rd W' size x m xs := by
  refine (hr.on hb).turnN t (fun hm k hk e => ?_)
  obtain ⟨g, hg, hlt⟩ := hr.own hm
  have : k = g := Option.some.inj (hk.symm.trans hg)
  omega
theorem msr_store {w w2 W' : World} {v' : Value} {s : List Mq} {b : Nat} (m : MsR w2 v' s) (hq : ∀ q ∈ s, MeR w q.m q.vf q.vs) (ho : ∀ k, v'.ownBlock = some k → b < k) (hb : Below w.heap.size w w2) (hk : w.heap.size ≤ b) (t : Turn (fun k => k = b) w2 W') : MsR W' v' s := by
  refine ⟨m.rd.turnN t (fun _ k hk e => by have := ho k hk; omega), fun q h => ?_⟩
  have h1 := hq q h
  exact ⟨rd_key hb t hk h1.1, rd_key hb t hk h1.2.1, h1.2.2⟩
structure NxT (w wr : World) (bv : Value) (rs : List Mq) : Prop where
  res : wr.heap[w.heap.size + 1]? = some (.cells #[.int .i64 0, .int .i64 0, .int .i64 0, .slice none 0 0] 38 (0, 0))
  ms : MsR wr bv rs
  below : Below w.heap.size w wr
  big : w.heap.size + 2 ≤ wr.heap.size
theorem NxT.on {w W W' : World} {bv : Value} {rs : List Mq} (h : NxT w W bv rs) (b : Below W.heap.size W W') : NxT w W' bv rs :=
  ⟨(b.block _ (by have := h.big; omega)).trans h.res, h.ms.on b, h.below.trans (b.mono (by have := h.big; omega)), Nat.le_trans h.big b.size⟩
theorem frQ_is (s : List Mq) (p0 : Mq) (h : s[0]? = some p0) : frQ s = p0.m.mn := by
  cases s with
  | nil => cases h
  | cons x l =>
    simp only [List.getElem?_cons_zero, Option.some.injEq] at h
    subst h
    rfl
/-- The plan of a block, in a box of its own. -/
theorem nxt_box {w W1 w2 : World} {bv : Value} {rs : List Mq} (h : NxT w W1 bv rs) (b : Below W1.heap.size W1 w2) (O : Obj) : NxT w (w2.alloc O) bv rs := h.on (b.alloc b.size O)
set_option maxHeartbeats 4000000 in
set_option maxRecDepth 100000 in
theorem rnext_any (at' : Int) (v : Value) (wd : Int) (ts : List (Mq × Int)) (w : World) (h : TsR w v ts) (hm : ts.length ≤ 1000) (hk : ∀ p ∈ ts, OkF p.1.m) (hs : ((freeT ts ts).map Mq.m).Pairwise ltM) (hw : wd ≤ 100000) :
    Calls Try.prog 9 #[.agg #[.int .i64 at', v], .int .i64 wd] w fun e w' => NextOut w wd (freeT ts ts) e w' ∧ Below w.heap.size w w' := by
  have FR := Lib.hid (fun W (bb : Below w.heap.size w W) => rfree_any at' v ts W (h.on bb) hm)
  obtain ⟨aq, kq, rfl⟩ := rd_form h.rd
  obtain ⟨rs, hrs⟩ : ∃ rs, rs = freeT ts ts := ⟨_, rfl⟩
  have HRF := Lib.hid hrs
  have HMT := Lib.hid (show ∀ q ∈ rs, ∃ p ∈ ts, p.1 = q from fun q hq => by
    rw [hrs] at hq
    obtain ⟨p, h1, _, h2⟩ := (freeT_in ts ts q).1 hq
    exact ⟨p, h1, h2⟩)
  have HOKT := Lib.hid (show ∀ q ∈ rs, MeR w q.m q.vf q.vs from fun q hq => by
    obtain ⟨p, h1, h2⟩ := HMT.out q hq
    rw [← h2]; exact h.ok p h1)
  have HM := Lib.hid (show ∀ q ∈ rs, OkF q.m from fun q hq => by
    obtain ⟨p, h1, h2⟩ := HMT.out q hq
    rw [← h2]; exact hk p h1)
  have HSS := Lib.hid (show (rs.map Mq.m).Pairwise ltM from by rw [hrs]; exact hs)
  have hrl : rs.length ≤ 1000 := by rw [hrs]; exact Nat.le_trans (freeT_len ts ts) hm
  rw [← hrs] at FR ⊢
  clear hrs h hk hs HMT
  obtain ⟨M, hM⟩ : ∃ M, M = ts.length := ⟨_, rfl⟩
  rw [← hM] at FR ⊢
  clear hM hm
  have BA := Lib.hid (show Below w.heap.size w ((w.alloc (.cells #[.int .i64 at', .slice aq M kq] 29)).alloc (.cells #[.int .i64 0, .int .i64 0, .int .i64 0, .slice none 0 0] 38)) from ((Below.refl _ _).alloc (Nat.le_refl _) _).alloc (by simp) _)
  have RB := Lib.hid (show ((w.alloc (.cells #[.int .i64 at', .slice aq M kq] 29)).alloc (.cells #[.int .i64 0, .int .i64 0, .int .i64 0, .slice none 0 0] 38)).heap[w.heap.size + 1]? = some (.cells #[.int .i64 0, .int .i64 0, .int .i64 0, .slice none 0 0] 38 (0, 0)) from by
    have s1 : (w.alloc (.cells #[.int .i64 at', .slice aq M kq] 29)).heap.size = w.heap.size + 1 := by simp
    have b0 := heap_alloc_new (w.alloc (.cells #[.int .i64 at', .slice aq M kq] 29)) (.cells #[.int .i64 0, .int .i64 0, .int .i64 0, .slice none 0 0] 38)
    rw [s1] at b0
    exact b0)
  obtain ⟨u, hu⟩ : ∃ u, u = max wd 1 := ⟨_, rfl⟩
  have HU := Lib.hid hu
  have hu1 : 1 ≤ u ∧ u ≤ 100000 := by omega
  have w3 : IntKind.i64.wrap (u * 3) = 3 * u := by rw [Int.mul_comm]; exact IntWalk.i64_in _ (by omega)
  have w9 : IntKind.i64.wrap (u * 9) = 9 * u := by rw [Int.mul_comm]; exact IntWalk.i64_in _ (by omega)
  have hum : max wd 1 = u := hu.symm
  clear hu
  go_enter Try.func9, Try.ntmps9
  go_wp2_with (first
    | (go_at_call 15; (with_reducible refine (FR.out _ BA.out).mono ?_); rintro e w1 ⟨bv, rfl, hsl, b1⟩; have T0 := Lib.hid (show NxT w w1 bv rs from ⟨(b1.block _ (by simp)).trans RB.out, ⟨Rd.of_sl hsl, fun q hq => ((HOKT.out q hq).on BA.out).on b1⟩, BA.out.trans (b1.mono (by simp; omega)), by have := b1.size; simp at this; omega⟩); have HSL := Lib.hid hsl; obtain ⟨ab, kb, rfl⟩ := hsl.slice; have hcap : rs.length ≤ kb := (by rcases hsl.2 with ⟨e0, e1⟩ | ⟨g, off, cap, e0, _, _, hnc, _⟩ <;> injection e0 with _ _ e2 <;> omega); clear hsl b1)
    | fail)
  obtain ⟨N, hN⟩ : ∃ N, N = rs.length := ⟨_, rfl⟩
  have HN := Lib.hid hN
  rw [← hN] at T0 hrl hcap ⊢
  clear hN
  go_loopw [7] (fun k' wr => (k' = .int .i64 3 ∨ (k' = .int .i64 9 ∧ Hid (scanQ (3 * u) rs = none)) ∨ (k' = .int .i64 15 ∧ Hid (scanQ (3 * u) rs = none ∧ scanQ (9 * u) rs = none))) ∧ NxT w wr (.slice ab N kb) rs) (fun k' _ => 15 - (RowKit.intOf k').toNat)
  case atStart => exact ⟨.inl rfl, T0.out⟩
  case round =>
    clear T0
    obtain ⟨W0, rfl⟩ : ∃ W0, W0 = wr := ⟨_, rfl⟩
    obtain ⟨hkk, td⟩ := hrel
    have TD := Lib.hid td
    clear td
    rcases hkk with rfl | ⟨rfl, hsc⟩ | ⟨rfl, hsc⟩
    · have HUW := Lib.hid (show 1 ≤ 3 * u ∧ 3 * u ≤ 1000000 by omega)
      go_wp2_with fail
      go_loopw [19] (fun i' wr => ∃ i : Nat, i' = .int .i64 i ∧ i ≤ N ∧ Hid (scanQ (3 * u) (rs.drop i) = scanQ (3 * u) rs) ∧ NxT w wr (.slice ab N kb) rs) (fun i' _ => N - (RowKit.intOf i').toNat)
      case atStart => exact ⟨0, rfl, Nat.zero_le _, rfl, TD.out⟩
      case round =>
        clear TD
        obtain ⟨W1, rfl⟩ : ∃ W1, W1 = wr := ⟨_, rfl⟩
        obtain ⟨i, rfl, hi, hdrp, td⟩ := hrel
        by_cases hil' : i < N
        · have hil : (i : Int) < N := by omega
          have hil0 : (0 : Int) ≤ i := by omega
          have hiw : IntKind.i64.wrap ((i : Int) + 1) = (i : Int) + 1 := IntWalk.i64_in _ (by omega)
          obtain ⟨q, hq⟩ : ∃ q, rs[i]? = some q := ⟨_, List.getElem?_eq_getElem (by have := HN.out; omega)⟩
          have hdr : rs.drop i = q :: rs.drop (i + 1) := by
            obtain ⟨hlt', he⟩ := List.getElem?_eq_some_iff.1 hq
            rw [List.drop_eq_getElem_cons hlt', he]
          have FS0 := try_any (.slice ab N kb) rs i (3 * u) q W1 td.ms hq (by have := HN.out; omega) HUW.out HM.out HSS.out
          have hsd : ((rs.drop i).map Mq.m).Pairwise ltM := by rw [List.map_drop]; exact HSS.out.sublist (List.drop_sublist _ _)
          rw [tryQ_is (3 * u) (by omega) (rs.drop i) hsd (fun q hq => (HM.out q (List.mem_of_mem_drop hq)).1.1.1)] at FS0
          obtain ⟨s, hs⟩ : ∃ s, s = fstQ (3 * u) (rs.drop i) := ⟨_, rfl⟩
          have HSQ := Lib.hid hs
          have hsi : ∀ q ∈ s, q ∈ rs := fun q hq => List.mem_of_mem_drop (fstQ_in _ _ q (hs ▸ hq))
          rw [← hs] at FS0
          have HSI := Lib.hid hsi
          obtain ⟨n, hn⟩ : ∃ n, n = s.length := ⟨_, rfl⟩
          have HNS := Lib.hid hn
          rw [← hn] at FS0
          have HDR := Lib.hid hdr
          have TD1 := Lib.hid td
          by_cases hlen : 1 < n
          · have RES := Lib.hid (show scanQ (3 * u) rs = some s from by
              rw [← hdrp.out, HDR.out]
              unfold scanQ
              rw [← HDR.out, ← HSQ.out, if_pos (by rw [← HNS.out]; exact hlen)])
            obtain ⟨p0, hp0⟩ : ∃ p0, s[0]? = some p0 := ⟨_, List.getElem?_eq_getElem (by rw [← HNS.out]; omega)⟩
            rw [frQ_is s p0 hp0, decide_eq_true hlen] at FS0
            obtain ⟨TQ, hTQ⟩ : ∃ T, T = toQ s := ⟨_, rfl⟩
            obtain ⟨LQ, hLQ⟩ : ∃ T, T = min (lvQ s + 1) 9 := ⟨_, rfl⟩
            have HTQ := Lib.hid hTQ; have HLQ := Lib.hid hLQ
            rw [← hTQ, ← hLQ] at FS0
            have FS := Lib.hid FS0
            have HP0 := Lib.hid hp0
            clear hp0 hdrp td hq hdr hs hn hsi FS0 hsd hlen hTQ hLQ
            go_wp2_with (first
              | (go_at_call 24; (with_reducible refine FS.out.mono ?_); rintro e w2 ⟨v2, rfl, m2, o2, b2⟩; have M2 := Lib.hid m2; have O2 := Lib.hid o2; have B2 := Lib.hid b2; obtain ⟨a2, k2, rfl⟩ := rd_form m2.rd; obtain ⟨n2, hn2⟩ : ∃ n2, n2 = s.length := (⟨_, rfl⟩); rw [← hn2] at M2 O2; rw [← hn2]; have N3 := Lib.hid (nxt_box TD1.out b2 (.cells #[.int .i64 p0.m.mn, .int .i64 TQ, .int .i64 LQ, .slice a2 n2 k2] 38)); have y0 := Lib.cell_of_heap N3.out.res 0; have y1 := Lib.cell_of_heap N3.out.res 1; have y2 := Lib.cell_of_heap N3.out.res 2; have y3 := Lib.cell_of_heap N3.out.res 3; have z0 := Lib.frozen_of_heap N3.out.res 0; have z1 := Lib.frozen_of_heap N3.out.res 1; have z2 := Lib.frozen_of_heap N3.out.res 2; have z3 := Lib.frozen_of_heap N3.out.res 3; clear m2 o2 b2 hn2)
              | fail)
            refine bodyPost_ret (v := .tuple #[planV p0.m.mn TQ LQ (.slice a2 n2 k2), .bool true]) (by simp [results, Try.results9, go_sem, y0, y1, y2, y3, planV]) rfl ?_
            have t4 := turn4 (w2.alloc (.cells #[.int .i64 p0.m.mn, .int .i64 TQ, .int .i64 LQ, .slice a2 n2 k2] 38)) (w.heap.size + 1) (.int .i64 p0.m.mn) (.int .i64 TQ) (.int .i64 LQ) (.slice a2 n2 k2)
            have hb1 := TD1.out.big
            refine ⟨.inl ⟨s, p0, _, by rw [hum, RES.out]; rfl, HP0.out, by rw [← HTQ.out, ← HLQ.out], ?_⟩, N3.out.below.trans (t4.below (B := w.heap.size) (by have := N3.out.big; omega) (fun k hk => by omega))⟩
            exact msr_store (M2.out.on ((Below.refl _ _).alloc (Nat.le_refl _) _)) (fun q hq => HOKT.out q (HSI.out q hq)) (fun k hk => by have := O2.out k hk; omega) N3.out.below (by omega) t4
          · have RES := Lib.hid (show scanQ (3 * u) (rs.drop (i + 1)) = scanQ (3 * u) rs from by
              rw [← hdrp.out, HDR.out]
              conv => rhs; unfold scanQ
              rw [← HDR.out, ← HSQ.out, if_neg (by rw [← HNS.out]; exact hlen)])
            rw [decide_eq_false hlen] at FS0
            obtain ⟨FQ, hFQ⟩ : ∃ T, T = frQ s := ⟨_, rfl⟩
            obtain ⟨TQ, hTQ⟩ : ∃ T, T = toQ s := ⟨_, rfl⟩
            obtain ⟨LQ, hLQ⟩ : ∃ T, T = min (lvQ s + 1) 9 := ⟨_, rfl⟩
            rw [← hFQ, ← hTQ, ← hLQ] at FS0
            have FS := Lib.hid FS0
            clear hdrp td hq hdr hs hn hsi FS0 hsd hlen hTQ hLQ hFQ
            go_wp2_with (first
              | (go_at_call 24; (with_reducible refine FS.out.mono ?_); rintro e w2 ⟨v2, rfl, m2, o2, b2⟩; have B2 := Lib.hid b2; obtain ⟨a2, k2, rfl⟩ := rd_form m2.rd; obtain ⟨n2, hn2⟩ : ∃ n2, n2 = s.length := (⟨_, rfl⟩); rw [← hn2]; have N3 := Lib.hid (nxt_box TD1.out b2 (.cells #[.int .i64 FQ, .int .i64 TQ, .int .i64 LQ, .slice a2 n2 k2] 38)); clear m2 o2 b2 hn2)
              | fail)
            exact ⟨⟨i + 1, by simp, by omega, RES, N3.out⟩, by simp [RowKit.intOf]; omega⟩
        · have hil : ¬ (i : Int) < N := by omega
          have hiN : i = N := by omega
          have RES := Lib.hid (show scanQ (3 * u) rs = none from by
            rw [← hdrp.out, hiN, HN.out, List.drop_of_length_le (Nat.le_refl _)]
            rfl)
          have TD1 := Lib.hid td
          clear td hdrp hiN
          go_wp2_with fail
          exact ⟨⟨.inr (.inl ⟨rfl, RES⟩), TD1.out⟩, by simp [RowKit.intOf]⟩
    · have HUW := Lib.hid (show 1 ≤ 9 * u ∧ 9 * u ≤ 1000000 by omega)
      go_wp2_with fail
      go_loopw [19] (fun i' wr => ∃ i : Nat, i' = .int .i64 i ∧ i ≤ N ∧ Hid (scanQ (9 * u) (rs.drop i) = scanQ (9 * u) rs) ∧ NxT w wr (.slice ab N kb) rs) (fun i' _ => N - (RowKit.intOf i').toNat)
      case atStart => exact ⟨0, rfl, Nat.zero_le _, rfl, TD.out⟩
      case round =>
        clear TD
        obtain ⟨W1, rfl⟩ : ∃ W1, W1 = wr := ⟨_, rfl⟩
        obtain ⟨i, rfl, hi, hdrp, td⟩ := hrel
        by_cases hil' : i < N
        · have hil : (i : Int) < N := by omega
          have hil0 : (0 : Int) ≤ i := by omega
          have hiw : IntKind.i64.wrap ((i : Int) + 1) = (i : Int) + 1 := IntWalk.i64_in _ (by omega)
          obtain ⟨q, hq⟩ : ∃ q, rs[i]? = some q := ⟨_, List.getElem?_eq_getElem (by have := HN.out; omega)⟩
          have hdr : rs.drop i = q :: rs.drop (i + 1) := by
            obtain ⟨hlt', he⟩ := List.getElem?_eq_some_iff.1 hq
            rw [List.drop_eq_getElem_cons hlt', he]
          have FS0 := try_any (.slice ab N kb) rs i (9 * u) q W1 td.ms hq (by have := HN.out; omega) HUW.out HM.out HSS.out
          have hsd : ((rs.drop i).map Mq.m).Pairwise ltM := by rw [List.map_drop]; exact HSS.out.sublist (List.drop_sublist _ _)
          rw [tryQ_is (9 * u) (by omega) (rs.drop i) hsd (fun q hq => (HM.out q (List.mem_of_mem_drop hq)).1.1.1)] at FS0
          obtain ⟨s, hs⟩ : ∃ s, s = fstQ (9 * u) (rs.drop i) := ⟨_, rfl⟩
          have HSQ := Lib.hid hs
          have hsi : ∀ q ∈ s, q ∈ rs := fun q hq => List.mem_of_mem_drop (fstQ_in _ _ q (hs ▸ hq))
          rw [← hs] at FS0
          have HSI := Lib.hid hsi
          obtain ⟨n, hn⟩ : ∃ n, n = s.length := ⟨_, rfl⟩
          have HNS := Lib.hid hn
          rw [← hn] at FS0
          have HDR := Lib.hid hdr
          have TD1 := Lib.hid td
          by_cases hlen : 1 < n
          · have RES := Lib.hid (show scanQ (9 * u) rs = some s from by
              rw [← hdrp.out, HDR.out]
              unfold scanQ
              rw [← HDR.out, ← HSQ.out, if_pos (by rw [← HNS.out]; exact hlen)])
            obtain ⟨p0, hp0⟩ : ∃ p0, s[0]? = some p0 := ⟨_, List.getElem?_eq_getElem (by rw [← HNS.out]; omega)⟩
            rw [frQ_is s p0 hp0, decide_eq_true hlen] at FS0
            obtain ⟨TQ, hTQ⟩ : ∃ T, T = toQ s := ⟨_, rfl⟩
            obtain ⟨LQ, hLQ⟩ : ∃ T, T = min (lvQ s + 1) 9 := ⟨_, rfl⟩
            have HTQ := Lib.hid hTQ; have HLQ := Lib.hid hLQ
            rw [← hTQ, ← hLQ] at FS0
            have FS := Lib.hid FS0
            have HP0 := Lib.hid hp0
            clear hp0 hdrp td hq hdr hs hn hsi FS0 hsd hlen hTQ hLQ
            go_wp2_with (first
              | (go_at_call 24; (with_reducible refine FS.out.mono ?_); rintro e w2 ⟨v2, rfl, m2, o2, b2⟩; have M2 := Lib.hid m2; have O2 := Lib.hid o2; have B2 := Lib.hid b2; obtain ⟨a2, k2, rfl⟩ := rd_form m2.rd; obtain ⟨n2, hn2⟩ : ∃ n2, n2 = s.length := (⟨_, rfl⟩); rw [← hn2] at M2 O2; rw [← hn2]; have N3 := Lib.hid (nxt_box TD1.out b2 (.cells #[.int .i64 p0.m.mn, .int .i64 TQ, .int .i64 LQ, .slice a2 n2 k2] 38)); have y0 := Lib.cell_of_heap N3.out.res 0; have y1 := Lib.cell_of_heap N3.out.res 1; have y2 := Lib.cell_of_heap N3.out.res 2; have y3 := Lib.cell_of_heap N3.out.res 3; have z0 := Lib.frozen_of_heap N3.out.res 0; have z1 := Lib.frozen_of_heap N3.out.res 1; have z2 := Lib.frozen_of_heap N3.out.res 2; have z3 := Lib.frozen_of_heap N3.out.res 3; clear m2 o2 b2 hn2)
              | fail)
            refine bodyPost_ret (v := .tuple #[planV p0.m.mn TQ LQ (.slice a2 n2 k2), .bool true]) (by simp [results, Try.results9, go_sem, y0, y1, y2, y3, planV]) rfl ?_
            have t4 := turn4 (w2.alloc (.cells #[.int .i64 p0.m.mn, .int .i64 TQ, .int .i64 LQ, .slice a2 n2 k2] 38)) (w.heap.size + 1) (.int .i64 p0.m.mn) (.int .i64 TQ) (.int .i64 LQ) (.slice a2 n2 k2)
            have hb1 := TD1.out.big
            refine ⟨.inl ⟨s, p0, _, by rw [hum, hsc.out, RES.out]; rfl, HP0.out, by rw [← HTQ.out, ← HLQ.out], ?_⟩, N3.out.below.trans (t4.below (B := w.heap.size) (by have := N3.out.big; omega) (fun k hk => by omega))⟩
            exact msr_store (M2.out.on ((Below.refl _ _).alloc (Nat.le_refl _) _)) (fun q hq => HOKT.out q (HSI.out q hq)) (fun k hk => by have := O2.out k hk; omega) N3.out.below (by omega) t4
          · have RES := Lib.hid (show scanQ (9 * u) (rs.drop (i + 1)) = scanQ (9 * u) rs from by
              rw [← hdrp.out, HDR.out]
              conv => rhs; unfold scanQ
              rw [← HDR.out, ← HSQ.out, if_neg (by rw [← HNS.out]; exact hlen)])
            rw [decide_eq_false hlen] at FS0
            obtain ⟨FQ, hFQ⟩ : ∃ T, T = frQ s := ⟨_, rfl⟩
            obtain ⟨TQ, hTQ⟩ : ∃ T, T = toQ s := ⟨_, rfl⟩
            obtain ⟨LQ, hLQ⟩ : ∃ T, T = min (lvQ s + 1) 9 := ⟨_, rfl⟩
            rw [← hFQ, ← hTQ, ← hLQ] at FS0
            have FS := Lib.hid FS0
            clear hdrp td hq hdr hs hn hsi FS0 hsd hlen hTQ hLQ hFQ
            go_wp2_with (first
              | (go_at_call 24; (with_reducible refine FS.out.mono ?_); rintro e w2 ⟨v2, rfl, m2, o2, b2⟩; have B2 := Lib.hid b2; obtain ⟨a2, k2, rfl⟩ := rd_form m2.rd; obtain ⟨n2, hn2⟩ : ∃ n2, n2 = s.length := (⟨_, rfl⟩); rw [← hn2]; have N3 := Lib.hid (nxt_box TD1.out b2 (.cells #[.int .i64 FQ, .int .i64 TQ, .int .i64 LQ, .slice a2 n2 k2] 38)); clear m2 o2 b2 hn2)
              | fail)
            exact ⟨⟨i + 1, by simp, by omega, RES, N3.out⟩, by simp [RowKit.intOf]; omega⟩
        · have hil : ¬ (i : Int) < N := by omega
          have hiN : i = N := by omega
          have RES := Lib.hid (show scanQ (9 * u) rs = none from by
            rw [← hdrp.out, hiN, HN.out, List.drop_of_length_le (Nat.le_refl _)]
            rfl)
          have TD1 := Lib.hid td
          clear td hdrp hiN
          go_wp2_with fail
          exact ⟨⟨.inr (.inr ⟨rfl, Lib.hid ⟨hsc.out, RES.out⟩⟩), TD1.out⟩, by simp [RowKit.intOf]⟩
    · have HSC := Lib.hid hsc.out
      have c0 := Lib.cell_of_heap TD.out.res 0; have c1 := Lib.cell_of_heap TD.out.res 1; have c2 := Lib.cell_of_heap TD.out.res 2; have c3 := Lib.cell_of_heap TD.out.res 3
      have f0 := Lib.frozen_of_heap TD.out.res 0; have f1 := Lib.frozen_of_heap TD.out.res 1; have f2 := Lib.frozen_of_heap TD.out.res 2; have f3 := Lib.frozen_of_heap TD.out.res 3
      clear hsc
      go_wp2_with fail
      refine bodyPost_ret (v := .tuple #[planV 0 0 0 (.slice none 0 0), .bool false]) (by simp [results, Try.results9, go_sem, c0, c1, c2, c3, planV]) rfl ?_
      refine ⟨.inr ⟨?_, rfl⟩, ?_⟩
      · rw [hum, HSC.out.1, HSC.out.2]; rfl
      · exact (TD.out.below.trans ((turn4 W0 (w.heap.size + 1) _ _ _ _).below (B := w.heap.size) (by have := TD.out.big; omega) (fun k hk => by omega)))
end Go.Proofs.Ytkialkjhjenkhaa
