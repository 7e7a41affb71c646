/- Layer 20: Next. -/
import Derived.Test.YtkialkjhjenkhaaMPLG
namespace Go.Proofs.Ytkialkjhjenkhaa
open Go.RowKit Go.Lib
set_option linter.unusedVariables false

/-- The first group of more than one. -/
def scanQ (wd : Int) : List Mq → Option (List Mq)
  | [] => none
  | q :: r => if 1 < (fstQ wd (q :: r)).length then some (fstQ wd (q :: r)) else scanQ wd r
theorem fstG_in (wd frm : Int) : ∀ (l : List Mq) (t : Tot) (acc : List Mq), ∀ q ∈ fstG wd frm l t acc, q ∈ acc ∨ q ∈ l
  | [], t, acc, q, h => .inl h
  | x :: r, t, acc, q, h => by
    unfold fstG at h
    split at h
    · exact .inl h
    · split at h
      · exact (fstG_in wd frm r t acc q h).imp id (List.mem_cons_of_mem _)
      · split at h
        · rcases fstG_in wd frm r _ _ q h with h | h
          · rcases List.mem_append.1 h with h | h
            · exact .inl h
            · rw [List.mem_singleton] at h; subst h; exact .inr (List.mem_cons_self ..)
          · exact .inr (List.mem_cons_of_mem _ h)
        · exact .inl h
theorem fstQ_in (wd : Int) (l : List Mq) : ∀ q ∈ fstQ wd l, q ∈ l := by
  intro q h
  cases l with
  | nil => exact h
  | cons x r => exact (fstG_in _ _ _ _ _ q h).resolve_left (by simp)
theorem fstG_len (wd frm : Int) : ∀ (l : List Mq) (t : Tot) (acc : List Mq), (fstG wd frm l t acc).length ≤ acc.length + l.length
  | [], t, acc => Nat.le_refl _
  | x :: r, t, acc => by
    unfold fstG
    split
    · simp
    · split
      · have := fstG_len wd frm r t acc; simp; omega
      · split
        · have := fstG_len wd frm r (t.with x.m) (acc ++ [x]); simp at this ⊢; omega
        · simp
theorem fstQ_len (wd : Int) (l : List Mq) : (fstQ wd l).length ≤ l.length := by
  cases l with
  | nil => exact Nat.le_refl _
  | cons x r => have := fstG_len wd (frmOf wd x.m.mn) (x :: r) ⟨0, 0, 0, 0⟩ []; simp only [List.length_nil, Nat.zero_add] at this; exact this
theorem MsR.tail {w : World} {g off N cap : Nat} {rs : List Mq} (h : MsR w (.slice (some ⟨g, off, none⟩) N cap) rs) (hN : N = rs.length) (i c : Nat) (hi : i < N) : MsR w (.slice (some ⟨g, off + i * 8, none⟩) (N - i) c) (rs.drop i) := by
  obtain ⟨h0, a, cap', g', off', hv, h1, h2⟩ := h.rd
  subst hN
  obtain ⟨rfl, hlt⟩ := h1 (by omega)
  injection hv with e1 _ _
  injection e1 with e1
  injection e1 with e1 e2 _
  subst e1 e2
  refine ⟨⟨by rw [msc_length], some ⟨g, off + i * 8, none⟩, c, g, off + i * 8, by rw [List.length_drop], fun _ => ⟨rfl, hlt⟩, fun j hj => ?_⟩, fun q hq => h.ok q (List.mem_of_mem_drop hq)⟩
  rw [List.length_drop] at hj
  have h3 := h2 (i * 8 + j) (by omega)
  rw [← Nat.add_assoc] at h3
  rw [h3]
  have e : rs = rs.take i ++ rs.drop i := (List.take_append_drop i rs).symm
  have e2 : msc rs = msc (rs.take i) ++ msc (rs.drop i) := by rw [← msc_append, List.take_append_drop]
  rw [e2, List.getElem?_append_right (by rw [msc_length, List.length_take]; omega), msc_length, List.length_take, Nat.min_eq_left (by omega), Nat.add_sub_cancel_left]
theorem MsR.turnN {S : Nat → Prop} {w w' : World} {v : Value} {qs : List Mq} (h : MsR w v qs) (t : Turn S w w') (hv : ∀ k, v.ownBlock = some k → ¬ S k) (hq : ∀ q ∈ qs, (∀ k, q.vf.ownBlock = some k → ¬ S k) ∧ ∀ k, q.vs.ownBlock = some k → ¬ S k) : MsR w' v qs :=
  ⟨h.rd.turnN t (fun _ => hv), fun q hm => ⟨(h.ok q hm).1.turnN t (fun _ => (hq q hm).1), (h.ok q hm).2.1.turnN t (fun _ => (hq q hm).2), (h.ok q hm).2.2⟩⟩
structure NxL (w wr : World) (bv : Value) (rs : List Mq) : Prop where
  res : wr.heap[w.heap.size + 1]? = some (.cells #[.int .i64 0, .int .i64 0, .int .i64 0, .slice none 0 0] 33 (0, 0))
  ms : MsR wr bv rs
  below : Below w.heap.size w wr
  big : w.heap.size + 2 ≤ wr.heap.size
theorem NxL.on {w W W' : World} {bv : Value} {rs : List Mq} (h : NxL w W bv rs) (b : Below W.heap.size W W') : NxL w W' bv rs :=
  ⟨(b.block _ (by have := h.big; omega)).trans h.res, h.ms.on b, h.below.trans (b.mono (by have := h.big; omega)), Nat.le_trans h.big b.size⟩
/-- What Next says. -/
def NextOut (w : World) (wd : Int) (rs : List Mq) (e : Ending) (w' : World) : Prop :=
  (∃ s p0 v', (scanQ (3 * max wd 1) rs).or (scanQ (9 * max wd 1) rs) = some s ∧ s[0]? = some p0 ∧ e = .returned (.tuple #[planV p0.m.mn (toQ s) (min (lvQ s + 1) 9) v', .bool true]) ∧ MsR w' v' s) ∨
  ((scanQ (3 * max wd 1) rs).or (scanQ (9 * max wd 1) rs) = none ∧ e = .returned (.tuple #[planV 0 0 0 (.slice none 0 0), .bool false]))
set_option maxHeartbeats 2000000 in
set_option maxRecDepth 100000 in
theorem plnext_any (v : Value) (t wd : Int) (qs : List Mq) (K : List (List UInt8)) (w : World) (h : LstR w v t qs K) (hup : UpQ qs) (hm : qs.length ≤ 1000) (hk : ∀ q ∈ qs, OkB q.m) (hw : wd ≤ 100000) :
    Calls Try.prog 8 #[v, .int .i64 wd] w fun e w' => ∃ rs, FreeIs (qs.map Mq.m) K (rs.map Mq.m) ∧ NextOut w wd rs e w' ∧ Below w.heap.size w w' := by
  have FR := Lib.hid (fun W (bb : Below w.heap.size w W) => free_any v t qs K W (show LstR W v t qs K from by
    obtain ⟨ms, mp, e, h1, h2⟩ := h
    exact ⟨ms, mp, e, h1.on bb, h2.turn (S := fun _ => False) (Turn.of_below bb) id⟩) hup hm)
  have HK := Lib.hid hk
  obtain ⟨ms, mp, rfl, h1, h2⟩ := h
  obtain ⟨aq, kq, rfl⟩ := rd_form h1.rd
  clear h1 h2 hk
  have BA := Lib.hid (show Below w.heap.size w ((w.alloc (.cells #[.int .i64 t, .slice aq qs.length kq, .map (some mp)] 26)).alloc (.cells #[.int .i64 0, .int .i64 0, .int .i64 0, .slice none 0 0] 33)) from ((Below.refl _ _).alloc (Nat.le_refl _) _).alloc (by simp) _)
  have RB := Lib.hid (show ((w.alloc (.cells #[.int .i64 t, .slice aq qs.length kq, .map (some mp)] 26)).alloc (.cells #[.int .i64 0, .int .i64 0, .int .i64 0, .slice none 0 0] 33)).heap[w.heap.size + 1]? = some (.cells #[.int .i64 0, .int .i64 0, .int .i64 0, .slice none 0 0] 33 (0, 0)) from by
    have s1 : (w.alloc (.cells #[.int .i64 t, .slice aq qs.length kq, .map (some mp)] 26)).heap.size = w.heap.size + 1 := by simp
    have b0 := heap_alloc_new (w.alloc (.cells #[.int .i64 t, .slice aq qs.length kq, .map (some mp)] 26)) (.cells #[.int .i64 0, .int .i64 0, .int .i64 0, .slice none 0 0] 33)
    rw [s1] at b0
    exact b0)
  obtain ⟨u, hu⟩ : ∃ u, u = max wd 1 := ⟨_, rfl⟩
  have HU := Lib.hid hu
  have hu1 : 1 ≤ u ∧ u ≤ 100000 := by omega
  have w3 : IntKind.i64.wrap (3 * u) = 3 * u := IntWalk.i64_in _ (by omega)
  have w9 : IntKind.i64.wrap (9 * u) = 9 * u := IntWalk.i64_in _ (by omega)
  have hum : max wd 1 = u := hu.symm
  clear hu
  have ix3 : ∀ W, (Instr.index 72 (.agg #[.int .i64 3, .int .i64 9]) (.int .i64 0)).run Try.prog W = .ok (.int .i64 3) W := fun W => rfl
  have ix9 : ∀ W, (Instr.index 72 (.agg #[.int .i64 3, .int .i64 9]) (.int .i64 1)).run Try.prog W = .ok (.int .i64 9) W := fun W => rfl
  go_enter Try.func8, Try.ntmps8
  go_wp2_with (first
    | (go_at_call 21; (with_reducible refine (FR.out _ BA.out).mono ?_); rintro e w1 ⟨bv, rs, rfl, hfr, hrl, hms, hsl, hlo, b1⟩; have HLO := Lib.hid hlo; have T0 := Lib.hid (show NxL w w1 bv rs from ⟨(b1.block _ (by simp)).trans RB.out, hms, BA.out.trans (b1.mono (by simp; omega)), by have := b1.size; simp at this; omega⟩); have HFR := Lib.hid hfr; have HSL := Lib.hid hsl; obtain ⟨ab, kb, rfl⟩ := hsl.slice; have hcap : rs.length ≤ kb := (by rcases hsl.2 with ⟨e0, e1⟩ | ⟨g, off, cap, e0, _, _, hnc, _⟩ <;> injection e0 with _ _ e2 <;> omega); clear hfr hsl hms hlo b1)
    | fail)
  obtain ⟨N, hN⟩ : ∃ N, N = rs.length := ⟨_, rfl⟩
  have HN := Lib.hid hN
  rw [← hN] at T0 hrl hcap ⊢
  clear hN
  have HM := Lib.hid (show ∀ q ∈ rs, OkB q.m from fun q hq => by
    have h8 : q.m ∈ rs.map Mq.m := List.mem_map_of_mem hq
    obtain ⟨q', h9, h10⟩ := List.mem_map.1 ((HFR.out.2 _).1 h8).1
    rw [← h10]; exact HK.out q' h9)
  have hNm : N ≤ 1000 := by omega
  go_loopw [16] (fun k' wr => (k' = .int .i64 0 ∨ (k' = .int .i64 1 ∧ Hid (scanQ (3 * u) rs = none)) ∨ (k' = .int .i64 2 ∧ Hid (scanQ (3 * u) rs = none ∧ scanQ (9 * u) rs = none))) ∧ NxL w wr (.slice ab N kb) rs) (fun k' _ => 2 - (RowKit.intOf k').toNat)
  case atStart => exact ⟨.inl rfl, T0.out⟩
  case round =>
    clear T0
    obtain ⟨W0, rfl⟩ : ∃ W0, W0 = wr := ⟨_, rfl⟩
    obtain ⟨hkk, td⟩ := hrel
    have TD := Lib.hid td
    clear td
    rcases hkk with rfl | ⟨rfl, hsc⟩ | ⟨rfl, hsc⟩
    · have HUW := Lib.hid (show 1 ≤ 3 * u ∧ 3 * u ≤ 1000000 by omega)
      go_wp2_with fail
      go_loopw [21] (fun i' wr => ∃ i : Nat, i' = .int .i64 i ∧ i ≤ N ∧ Hid (scanQ (3 * u) (rs.drop i) = scanQ (3 * u) rs) ∧ NxL w wr (.slice ab N kb) rs) (fun i' _ => N - (RowKit.intOf i').toNat)
      case atStart => exact ⟨0, rfl, Nat.zero_le _, rfl, TD.out⟩
      case round =>
        clear TD
        obtain ⟨W1, rfl⟩ : ∃ W1, W1 = wr := ⟨_, rfl⟩
        obtain ⟨i, rfl, hi, hdrp, td⟩ := hrel
        by_cases hil' : i < N
        · have hil : (i : Int) < N := by omega
          have hil0 : (0 : Int) ≤ i := by omega
          have hil1 : (i : Int) ≤ N := by omega
          have hiN : i ≤ N := by omega
          have hncap : N ≤ kb := hcap
          have hiw : IntKind.i64.wrap ((i : Int) + 1) = (i : Int) + 1 := IntWalk.i64_in _ (by omega)
          obtain ⟨q, hq⟩ : ∃ q, rs[i]? = some q := ⟨_, List.getElem?_eq_getElem (by have := HN.out; omega)⟩
          have hdr : rs.drop i = q :: rs.drop (i + 1) := by
            obtain ⟨hlt', he⟩ := List.getElem?_eq_some_iff.1 hq
            rw [List.drop_eq_getElem_cons hlt', he]
          obtain ⟨_, a9, c9, g, off, e9, hg9, _⟩ := td.ms.rd
          obtain ⟨e10, hgl⟩ := hg9 (by have := HN.out; omega)
          have e11 : ab = a9 := by injection e9
          rw [e10] at e11
          clear e9 e10 hg9
          subst e11
          have FS0 := first_any _ (rs.drop i) (3 * u) W1 (td.ms.tail HN.out i (kb - i) hil') (by rw [hdr]; simp) (by rw [List.length_drop]; have := HN.out; omega) HUW.out (fun q hq => HM.out q (List.mem_of_mem_drop hq))
          obtain ⟨s, hs⟩ : ∃ s, s = fstQ (3 * u) (rs.drop i) := ⟨_, rfl⟩
          have HSQ := Lib.hid hs
          have hsl : s.length ≤ 1000 := by
            rw [hs]
            have h9 := fstQ_len (3 * u) (rs.drop i)
            rw [List.length_drop] at h9
            have := HN.out; omega
          have hsi : ∀ q ∈ s, q ∈ rs := fun q hq => List.mem_of_mem_drop (fstQ_in _ _ q (hs ▸ hq))
          rw [← hs] at FS0
          have HSI := Lib.hid hsi
          have FS := Lib.hid FS0
          obtain ⟨n, hn⟩ : ∃ n, n = s.length := ⟨_, rfl⟩
          have HNS := Lib.hid hn
          rw [← hn] at FS hsl
          have HDR := Lib.hid hdr
          have TD1 := Lib.hid td
          clear td hq hdr hs hn hsi FS0
          by_cases hlen : 1 < n
          · have hlen' : (1 : Int) < n := by omega
            have RES := Lib.hid (show scanQ (3 * u) rs = some s from by
              rw [← hdrp.out, HDR.out]
              unfold scanQ
              rw [← HDR.out, ← HSQ.out, if_pos (by rw [← HNS.out]; exact hlen)])
            obtain ⟨p0, hp0⟩ : ∃ p0, s[0]? = some p0 := ⟨_, List.getElem?_eq_getElem (by rw [← HNS.out]; omega)⟩
            have HP0 := Lib.hid hp0
            clear hp0 hdrp
            go_wp2_with (first
              | (go_at_call 22; (with_reducible refine FS.out.mono ?_); rintro e w2 ⟨v2, rfl, sl2, b2⟩; have S2 := Lib.hid sl2; have B2 := Lib.hid b2; have M2 := Lib.hid (show MsR w2 v2 s from ⟨by have h9 := Rd.of_sl sl2; rw [HNS.out] at h9; exact h9, fun q hq => (TD1.out.ms.ok q (HSI.out q hq)).on b2⟩); obtain ⟨a2, k2, rfl⟩ := sl2.slice; have PO0 := planOf_any _ s p0 w2 M2.out HP0.out (by have := HNS.out; omega) (fun q hq => HM.out q (HSI.out q hq)); unfold planV at PO0; have PO := Lib.hid PO0; clear sl2 b2 PO0)
              | (go_at_call 23; (with_reducible refine PO.out.mono ?_); rintro e w3 ⟨rfl, b3⟩; have B3 := Lib.hid b3; have N3 := Lib.hid ((TD1.out.on B2.out).on b3); have y0 := Lib.cell_of_heap N3.out.res 0; have y1 := Lib.cell_of_heap N3.out.res 1; have y2 := Lib.cell_of_heap N3.out.res 2; have y3 := Lib.cell_of_heap N3.out.res 3; have z0 := Lib.frozen_of_heap N3.out.res 0; have z1 := Lib.frozen_of_heap N3.out.res 1; have z2 := Lib.frozen_of_heap N3.out.res 2; have z3 := Lib.frozen_of_heap N3.out.res 3; clear b3)
              | fail)
            refine bodyPost_ret (v := .tuple #[planV p0.m.mn (toQ s) (min (lvQ s + 1) 9) (.slice a2 n k2), .bool true]) (by simp [results, Try.results8, go_sem, y0, y1, y2, y3, planV]) rfl ?_
            have t4 := turn4 w3 (w.heap.size + 1) (.int .i64 p0.m.mn) (.int .i64 (toQ s)) (.int .i64 (min (lvQ s + 1) 9)) (.slice a2 n k2)
            have hb1 := TD1.out.big
            refine ⟨rs, HFR.out, .inl ⟨s, p0, _, by rw [hum, RES.out]; rfl, HP0.out, rfl, ?_⟩, N3.out.below.trans (t4.below (B := w.heap.size) (by have := N3.out.big; omega) (fun k hk => by omega))⟩
            exact (M2.out.on B3.out).turnN t4 (fun k hk e => by have := (S2.out.lt k hk).1; omega) (fun q hq => by
              have h8 := HLO.out q (HSI.out q hq)
              exact ⟨fun k hk e => by have := h8.1 k hk; simp at this; omega, fun k hk e => by have := h8.2 k hk; simp at this; omega⟩)
          · have hlen' : ¬ (1 : Int) < n := by omega
            have RES := Lib.hid (show scanQ (3 * u) (rs.drop (i + 1)) = scanQ (3 * u) rs from by
              rw [← hdrp.out, HDR.out]
              conv => rhs; unfold scanQ
              rw [← HDR.out, ← HSQ.out, if_neg (by rw [← HNS.out]; exact hlen)])
            clear hdrp
            go_wp2_with (first
              | (go_at_call 22; (with_reducible refine FS.out.mono ?_); rintro e w2 ⟨v2, rfl, sl2, b2⟩; have B2 := Lib.hid b2; obtain ⟨a2, k2, rfl⟩ := sl2.slice; clear sl2 b2)
              | fail)
            exact ⟨⟨i + 1, by simp, by omega, RES, TD1.out.on B2.out⟩, by simp [RowKit.intOf]; omega⟩
        · have hil : ¬ (i : Int) < N := by omega
          have hiN : i = N := by omega
          have RES := Lib.hid (show scanQ (3 * u) rs = none from by
            rw [← hdrp.out, hiN, HN.out, List.drop_of_length_le (Nat.le_refl _)]
            rfl)
          have TD1 := Lib.hid td
          clear td hdrp hiN
          go_wp2_with fail
          exact ⟨⟨.inr (.inl ⟨rfl, RES⟩), TD1.out⟩, by simp [RowKit.intOf]⟩
    · have HUW := Lib.hid (show 1 ≤ 9 * u ∧ 9 * u ≤ 1000000 by omega)
      go_wp2_with fail
      go_loopw [21] (fun i' wr => ∃ i : Nat, i' = .int .i64 i ∧ i ≤ N ∧ Hid (scanQ (9 * u) (rs.drop i) = scanQ (9 * u) rs) ∧ NxL w wr (.slice ab N kb) rs) (fun i' _ => N - (RowKit.intOf i').toNat)
      case atStart => exact ⟨0, rfl, Nat.zero_le _, rfl, TD.out⟩
      case round =>
        clear TD
        obtain ⟨W1, rfl⟩ : ∃ W1, W1 = wr := ⟨_, rfl⟩
        obtain ⟨i, rfl, hi, hdrp, td⟩ := hrel
        by_cases hil' : i < N
        · have hil : (i : Int) < N := by omega
          have hil0 : (0 : Int) ≤ i := by omega
          have hil1 : (i : Int) ≤ N := by omega
          have hiN : i ≤ N := by omega
          have hncap : N ≤ kb := hcap
          have hiw : IntKind.i64.wrap ((i : Int) + 1) = (i : Int) + 1 := IntWalk.i64_in _ (by omega)
          obtain ⟨q, hq⟩ : ∃ q, rs[i]? = some q := ⟨_, List.getElem?_eq_getElem (by have := HN.out; omega)⟩
          have hdr : rs.drop i = q :: rs.drop (i + 1) := by
            obtain ⟨hlt', he⟩ := List.getElem?_eq_some_iff.1 hq
            rw [List.drop_eq_getElem_cons hlt', he]
          obtain ⟨_, a9, c9, g, off, e9, hg9, _⟩ := td.ms.rd
          obtain ⟨e10, hgl⟩ := hg9 (by have := HN.out; omega)
          have e11 : ab = a9 := by injection e9
          rw [e10] at e11
          clear e9 e10 hg9
          subst e11
          have FS0 := first_any _ (rs.drop i) (9 * u) W1 (td.ms.tail HN.out i (kb - i) hil') (by rw [hdr]; simp) (by rw [List.length_drop]; have := HN.out; omega) HUW.out (fun q hq => HM.out q (List.mem_of_mem_drop hq))
          obtain ⟨s, hs⟩ : ∃ s, s = fstQ (9 * u) (rs.drop i) := ⟨_, rfl⟩
          have HSQ := Lib.hid hs
          have hsl : s.length ≤ 1000 := by
            rw [hs]
            have h9 := fstQ_len (9 * u) (rs.drop i)
            rw [List.length_drop] at h9
            have := HN.out; omega
          have hsi : ∀ q ∈ s, q ∈ rs := fun q hq => List.mem_of_mem_drop (fstQ_in _ _ q (hs ▸ hq))
          rw [← hs] at FS0
          have HSI := Lib.hid hsi
          have FS := Lib.hid FS0
          obtain ⟨n, hn⟩ : ∃ n, n = s.length := ⟨_, rfl⟩
          have HNS := Lib.hid hn
          rw [← hn] at FS hsl
          have HDR := Lib.hid hdr
          have TD1 := Lib.hid td
          clear td hq hdr hs hn hsi FS0
          by_cases hlen : 1 < n
          · have hlen' : (1 : Int) < n := by omega
            have RES := Lib.hid (show scanQ (9 * u) rs = some s from by
              rw [← hdrp.out, HDR.out]
              unfold scanQ
              rw [← HDR.out, ← HSQ.out, if_pos (by rw [← HNS.out]; exact hlen)])
            obtain ⟨p0, hp0⟩ : ∃ p0, s[0]? = some p0 := ⟨_, List.getElem?_eq_getElem (by rw [← HNS.out]; omega)⟩
            have HP0 := Lib.hid hp0
            clear hp0 hdrp
            go_wp2_with (first
              | (go_at_call 22; (with_reducible refine FS.out.mono ?_); rintro e w2 ⟨v2, rfl, sl2, b2⟩; have S2 := Lib.hid sl2; have B2 := Lib.hid b2; have M2 := Lib.hid (show MsR w2 v2 s from ⟨by have h9 := Rd.of_sl sl2; rw [HNS.out] at h9; exact h9, fun q hq => (TD1.out.ms.ok q (HSI.out q hq)).on b2⟩); obtain ⟨a2, k2, rfl⟩ := sl2.slice; have PO0 := planOf_any _ s p0 w2 M2.out HP0.out (by have := HNS.out; omega) (fun q hq => HM.out q (HSI.out q hq)); unfold planV at PO0; have PO := Lib.hid PO0; clear sl2 b2 PO0)
              | (go_at_call 23; (with_reducible refine PO.out.mono ?_); rintro e w3 ⟨rfl, b3⟩; have B3 := Lib.hid b3; have N3 := Lib.hid ((TD1.out.on B2.out).on b3); have y0 := Lib.cell_of_heap N3.out.res 0; have y1 := Lib.cell_of_heap N3.out.res 1; have y2 := Lib.cell_of_heap N3.out.res 2; have y3 := Lib.cell_of_heap N3.out.res 3; have z0 := Lib.frozen_of_heap N3.out.res 0; have z1 := Lib.frozen_of_heap N3.out.res 1; have z2 := Lib.frozen_of_heap N3.out.res 2; have z3 := Lib.frozen_of_heap N3.out.res 3; clear b3)
              | fail)
            refine bodyPost_ret (v := .tuple #[planV p0.m.mn (toQ s) (min (lvQ s + 1) 9) (.slice a2 n k2), .bool true]) (by simp [results, Try.results8, go_sem, y0, y1, y2, y3, planV]) rfl ?_
            have t4 := turn4 w3 (w.heap.size + 1) (.int .i64 p0.m.mn) (.int .i64 (toQ s)) (.int .i64 (min (lvQ s + 1) 9)) (.slice a2 n k2)
            have hb1 := TD1.out.big
            refine ⟨rs, HFR.out, .inl ⟨s, p0, _, by rw [hum, hsc.out, RES.out]; rfl, HP0.out, rfl, ?_⟩, N3.out.below.trans (t4.below (B := w.heap.size) (by have := N3.out.big; omega) (fun k hk => by omega))⟩
            exact (M2.out.on B3.out).turnN t4 (fun k hk e => by have := (S2.out.lt k hk).1; omega) (fun q hq => by
              have h8 := HLO.out q (HSI.out q hq)
              exact ⟨fun k hk e => by have := h8.1 k hk; simp at this; omega, fun k hk e => by have := h8.2 k hk; simp at this; omega⟩)
          · have hlen' : ¬ (1 : Int) < n := by omega
            have RES := Lib.hid (show scanQ (9 * u) (rs.drop (i + 1)) = scanQ (9 * u) rs from by
              rw [← hdrp.out, HDR.out]
              conv => rhs; unfold scanQ
              rw [← HDR.out, ← HSQ.out, if_neg (by rw [← HNS.out]; exact hlen)])
            clear hdrp
            go_wp2_with (first
              | (go_at_call 22; (with_reducible refine FS.out.mono ?_); rintro e w2 ⟨v2, rfl, sl2, b2⟩; have B2 := Lib.hid b2; obtain ⟨a2, k2, rfl⟩ := sl2.slice; clear sl2 b2)
              | fail)
            exact ⟨⟨i + 1, by simp, by omega, RES, TD1.out.on B2.out⟩, by simp [RowKit.intOf]; omega⟩
        · have hil : ¬ (i : Int) < N := by omega
          have hiN : i = N := by omega
          have RES := Lib.hid (show scanQ (9 * u) rs = none from by
            rw [← hdrp.out, hiN, HN.out, List.drop_of_length_le (Nat.le_refl _)]
            rfl)
          have TD1 := Lib.hid td
          clear td hdrp hiN
          go_wp2_with fail
          exact ⟨⟨.inr (.inr ⟨rfl, Lib.hid ⟨hsc.out, RES.out⟩⟩), TD1.out⟩, by simp [RowKit.intOf]⟩
    · have HSC := Lib.hid hsc.out
      have c0 := Lib.cell_of_heap TD.out.res 0; have c1 := Lib.cell_of_heap TD.out.res 1; have c2 := Lib.cell_of_heap TD.out.res 2; have c3 := Lib.cell_of_heap TD.out.res 3
      have f0 := Lib.frozen_of_heap TD.out.res 0; have f1 := Lib.frozen_of_heap TD.out.res 1; have f2 := Lib.frozen_of_heap TD.out.res 2; have f3 := Lib.frozen_of_heap TD.out.res 3
      clear hsc
      go_wp2_with fail
      refine bodyPost_ret (v := .tuple #[planV 0 0 0 (.slice none 0 0), .bool false]) (by simp [results, Try.results8, go_sem, c0, c1, c2, c3, planV]) rfl ?_
      refine ⟨rs, HFR.out, .inr ⟨?_, rfl⟩, ?_⟩
      · rw [hum, HSC.out.1, HSC.out.2]; rfl
      · exact (TD.out.below.trans ((turn4 W0 (w.heap.size + 1) _ _ _ _).below (B := w.heap.size) (by have := TD.out.big; omega) (fun k hk => by omega)))
end Go.Proofs.Ytkialkjhjenkhaa
