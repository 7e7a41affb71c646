/- Layer 14: the document's Put, walked. What a call has turned: all but some blocks is as it was. -/
import Derived.Test.YtfckgcckpfklaaaGreatDoorMRd
import Derived.Deep.CutRange
import Derived.RegionTactic
import Derived.Test.YtfckgcckpfklaaaGreatDoorMSl2
namespace Go.Proofs.YtfckgcckpfklaaaGreatDoor
open Go.RowKit Go.Lib
set_option linter.unusedVariables false

theorem zc_smp : (Tryz.prog.info? 34).map (fun i => (i.zero, i.size, i.bytes)) = some (some (.agg #[.int .i64 0, .int .u64 0]), 2, 16) := by kernel_rfl

/-- A literal of one sample, in new memory. -/
theorem lit_smp (W : World) (s : Sp) (e : TypeId) (B : Nat) (hB : W.heap.size = B) : ∀ j u, [Value.int .i64 s.t, .int .u64 s.v][j]? = some u → (W.alloc (.cells #[.int .i64 s.t, .int .u64 s.v] e)).cell? ((⟨B, 0, none⟩ : Addr).add j) = some u := by
  have := (Sl.lit W 0 2 1 #[.int .i64 s.t, .int .u64 s.v] e (Nat.zero_le _) (by decide) rfl).cells
  rw [← hB]
  exact this

set_option maxHeartbeats 4000000 in
set_option maxRecDepth 100000 in
theorem put14_any (lv : Value) (l : List Sp) (s : Sp) (w : World) (h : Rd w 2 lv l.length (spc l)) (hm : l.length ≤ 100000) :
    Calls Tryz.prog 56 #[lv, .agg #[.int .i64 s.t, .int .u64 s.v]] w fun e w' => ∃ v', e = .returned v' ∧ Sl w' w.heap.size 2 v' (putS l s).length (spc (putS l s)) ∧ Below w.heap.size w w' := by
  obtain ⟨i0, hi, hz0, hz1, hz2⟩ := info_parts zc_smp
  have Hz := Lib.hid hz0; have Hs := Lib.hid hz1; have Hb := Lib.hid hz2; have Hi := Lib.hid hi
  clear hz0 hz1 hz2 hi
  obtain ⟨_, a, cap, g, off, rfl, hg, hc⟩ := h
  obtain ⟨n, hn⟩ : ∃ n, n = l.length := ⟨_, rfl⟩
  rw [← hn] at hg hc hm ⊢
  have HN := Lib.hid hn
  have HC := Lib.hid hc
  have HG := Lib.hid hg
  have HL := Lib.hid (sofarS_len s l ([], false))
  obtain ⟨st, hst⟩ : ∃ st, st = s.t := ⟨_, rfl⟩
  obtain ⟨sv, hsv⟩ : ∃ sv, sv = s.v := ⟨_, rfl⟩
  have HST := Lib.hid hst; have HSV := Lib.hid hsv
  rw [← hst, ← hsv]
  clear hn hc hg hst hsv
  obtain ⟨W1, hW1⟩ : ∃ W1, W1 = w.alloc (.cells #[.int .i64 st, .int .u64 sv] 34) := ⟨_, rfl⟩
  have B1 : Below w.heap.size w W1 := by rw [hW1]; exact (Below.refl _ _).alloc (Nat.le_refl _) _
  have z1 : W1.heap.size = w.heap.size + 1 := by rw [hW1]; simp
  have s0 : W1.cell? ⟨w.heap.size, 0, none⟩ = some (.int .i64 st) := by rw [hW1]; exact Lib.cell_of_heap (heap_alloc_new w _) 0
  have s1 : W1.cell? ⟨w.heap.size, 1, none⟩ = some (.int .u64 sv) := by rw [hW1]; exact Lib.cell_of_heap (heap_alloc_new w _) 1
  have S0 : Sl (W1.alloc (.cells #[] 34)) W1.heap.size 2 (.slice (some ⟨W1.heap.size, 0, none⟩) 0 0) 0 [] := Sl.lit W1 W1.heap.size 2 0 #[] _ (Nat.le_refl _) (by decide) rfl
  have BA : Below W1.heap.size W1 (W1.alloc (.cells #[] 34)) := (Below.refl _ _).alloc (Nat.le_refl _) _
  have HS0 := Lib.hid s0; have HS1 := Lib.hid s1; have HB1 := Lib.hid B1; have HZ1 := Lib.hid z1
  clear s0 s1 B1
  go_enter Tryz.func56, Tryz.ntmps56
  go_upto_region 1 with fail
  rw [← hW1]
  clear hW1
  go_wp2_with fail
  rw [z1] at S0
  go_loopw [5, 6, 8, 12] (fun p' d' x' i' wr => ∃ (i : Nat) (o : List Sp) (d : Bool), i' = .int .i64 i ∧ i ≤ n ∧ Hid (sofarS s (l.take i) = (o, d)) ∧ d' = .bool d ∧ Sl wr W1.heap.size 2 p' o.length (spc o) ∧ Below W1.heap.size W1 wr) (fun _ _ _ i' _ => n - (intOf i').toNat)
  case atStart => exact ⟨0, [], false, rfl, by omega, Lib.hid rfl, rfl, by rw [HZ1.out]; exact S0, BA⟩
  case round =>
    clear S0 BA
    obtain ⟨i, o, d, rfl, hi, hof, rfl, hown, hb⟩ := hrel
    have hbz := hb.size
    have e0 : wr.cell? ⟨w.heap.size, 0, none⟩ = some (.int .i64 st) := (hb.cell (p := ⟨w.heap.size, 0, none⟩) (by have := HZ1.out; show w.heap.size < W1.heap.size; omega)).trans HS0.out
    have e1 : wr.cell? ⟨w.heap.size, 1, none⟩ = some (.int .u64 sv) := (hb.cell (p := ⟨w.heap.size, 1, none⟩) (by have := HZ1.out; show w.heap.size < W1.heap.size; omega)).trans HS1.out
    have hol : o.length ≤ 200000 := by
      have h := sofarS_len s (l.take i) ([], false)
      have h2 : (sofarS s (l.take i)).1.length ≤ 0 + 2 * (l.take i).length := h
      rw [hof.out, List.length_take] at h2
      simp only at h2
      omega
    by_cases hlt : i < n
    · obtain ⟨rfl, hgl⟩ := HG.out (by omega)
      obtain ⟨x, hx⟩ : ∃ x, l[i]? = some x := ⟨l[i]'(by have := HN.out; omega), List.getElem?_eq_getElem (by have := HN.out; omega)⟩
      obtain ⟨v0, v1⟩ := spc_at l i x hx
      have q0 := ((hb.cell (p := ⟨g, off + i * 2, none⟩) (by show g < W1.heap.size; omega)).trans ((HB1.out.cell (p := ⟨g, off + i * 2, none⟩) hgl).trans (HC.out (i * 2) (by omega)))).trans v0
      have q1 := ((hb.cell (p := ⟨g, off + (i * 2 + 1), none⟩) (by show g < W1.heap.size; omega)).trans ((HB1.out.cell (p := ⟨g, off + (i * 2 + 1), none⟩) hgl).trans (HC.out (i * 2 + 1) (by omega)))).trans v1
      rw [← Nat.add_assoc] at q1
      have hil : (i : Int) < n := by omega
      have HTK := Lib.hid (show sofarS s (l.take (i + 1)) = stepS s (o, d) x by rw [List.take_add_one, hx]; show sofarS s (l.take i ++ [x]) = _; rw [sofarS_snoc, hof.out])
      obtain ⟨xt, hxt⟩ : ∃ xt, xt = x.t := ⟨_, rfl⟩
      obtain ⟨xv, hxv⟩ : ∃ xv, xv = x.v := ⟨_, rfl⟩
      rw [← hxt] at q0
      rw [← hxv] at q1
      have HXT := Lib.hid hxt; have HXV := Lib.hid hxv
      obtain ⟨oa, oc, rfl⟩ := hown.slice
      obtain ⟨m, hml⟩ : ∃ m, m = o.length := ⟨_, rfl⟩
      rw [← hml] at hown hol ⊢
      have HML := Lib.hid hml
      have HOW := Lib.hid hown
      have hob : ∀ k, (Value.slice oa m oc).ownBlock = some k → k < wr.heap.size := fun k hk => (hown.lt k hk).2
      have hob1 : ∀ k, (Value.slice oa m oc).ownBlock = some k → W1.heap.size ≤ k := fun k hk => (hown.lt k hk).1
      obtain ⟨V1, hV1⟩ : ∃ V1, V1 = wr.alloc (.cells #[.int .i64 xt, .int .u64 xv] 34) := ⟨_, rfl⟩
      have b1 : Below wr.heap.size wr V1 := by rw [hV1]; exact (Below.refl _ _).alloc (Nat.le_refl _) _
      have y1 : V1.heap.size = wr.heap.size + 1 := by rw [hV1]; simp
      have x0 : V1.cell? ⟨wr.heap.size, 0, none⟩ = some (.int .i64 xt) := by rw [hV1]; exact Lib.cell_of_heap (heap_alloc_new wr _) 0
      have x1 : V1.cell? ⟨wr.heap.size, 1, none⟩ = some (.int .u64 xv) := by rw [hV1]; exact Lib.cell_of_heap (heap_alloc_new wr _) 1
      have hwz : w.heap.size < wr.heap.size := by have := HZ1.out; omega
      have f0 := (b1.cell (p := ⟨w.heap.size, 0, none⟩) hwz).trans e0
      have f1 := (b1.cell (p := ⟨w.heap.size, 1, none⟩) hwz).trans e1
      have own1 : Sl V1 W1.heap.size 2 (.slice oa m oc) m (spc o) := hown.below b1 hob
      clear hx hxt hxv hml hof v0 v1 hown
      go_upto_region 6 with fail
      rw [← hV1]
      clear hV1 e0 e1 q0 q1
      cases d
      · by_cases h1 : xt = st
        · have c1 : (xt == st) = true := beq_iff_eq.2 h1
          have STEP := Lib.hid (show sofarS s (l.take (i + 1)) = (o ++ [x], true) by
            rw [HTK.out]; simp only [stepS, ← HXT.out, ← HST.out]; simp [h1])
          clear h1 HTK
          obtain ⟨Y, hY⟩ : ∃ Y, Y = V1.alloc (.cells #[.int .i64 xt, .int .u64 xv] 34) := ⟨_, rfl⟩
          have ownY : Sl Y W1.heap.size 2 (.slice oa m oc) m (spc o) := by rw [hY]; exact own1.alloc _
          have litY : ∀ j u, [Value.int .i64 xt, .int .u64 xv][j]? = some u → Y.cell? ((⟨wr.heap.size + 1, 0, none⟩ : Addr).add j) = some u := by rw [hY]; exact lit_smp V1 ⟨xt, xv⟩ _ _ y1
          have bY : Below W1.heap.size W1 Y := by rw [hY]; exact (hb.trans (b1.mono hbz)).alloc (by omega) _
          have HY := Lib.hid hY
          clear hY
          go_wp2_with (at_builtin; (try rw [y1]); rw [← HY.out]; refine wpList_append_sl _ rfl _ _ 41 rfl W1.heap.size 34 i0 (.agg #[.int .i64 0, .int .u64 0]) 2 16 Tryz.underlying41 Hi.out Hz.out Hs.out Hb.out rfl (by decide) _ m _ rfl ownY ⟨wr.heap.size + 1, 0, none⟩ 1 1 [.int .i64 xt, .int .u64 xv] rfl rfl litY (spc_one [⟨xt, xv⟩]) (by unfold maxLen; omega) (by omega) bY.size ?_; intro v2 w2 hx2)
          have hnow := hx2.now
          refine ⟨⟨i + 1, o ++ [x], true, by simp, by omega, Lib.hid STEP.out, rfl, ?_, bY.trans (hx2.below (Nat.le_refl _) bY.size)⟩, by simp [intOf]; omega⟩
          have hX : x = ⟨xt, xv⟩ := by rw [HXT.out, HXV.out]
          rw [hX, spc_append, List.length_append, ← HML.out]
          exact hnow
        · have c1 : (xt == st) = false := beq_eq_false_iff_ne.2 h1
          by_cases h2 : st < xt
          · have c2 : decide (st < xt) = true := decide_eq_true h2
            have STEP := Lib.hid (show sofarS s (l.take (i + 1)) = (o ++ [s, x], true) by
              rw [HTK.out]; simp only [stepS, ← HXT.out, ← HST.out]; simp [h1, h2])
            clear h1 h2 HTK
            obtain ⟨Y, hY⟩ : ∃ Y, Y = V1.alloc (.cells #[.int .i64 st, .int .u64 sv] 34) := ⟨_, rfl⟩
            have ownY : Sl Y W1.heap.size 2 (.slice oa m oc) m (spc o) := by rw [hY]; exact own1.alloc _
            have litY : ∀ j u, [Value.int .i64 st, .int .u64 sv][j]? = some u → Y.cell? ((⟨wr.heap.size + 1, 0, none⟩ : Addr).add j) = some u := by rw [hY]; exact lit_smp V1 ⟨st, sv⟩ _ _ y1
            have bV1 := hb.trans (b1.mono hbz)
            have bY : Below W1.heap.size W1 Y := by rw [hY]; exact bV1.alloc (by omega) _
            have bVY : Below V1.heap.size V1 Y := by rw [hY]; exact (Below.refl _ _).alloc (Nat.le_refl _) _
            have g0 := (bVY.cell (p := ⟨wr.heap.size, 0, none⟩) (by show wr.heap.size < V1.heap.size; omega)).trans x0
            have g1 := (bVY.cell (p := ⟨wr.heap.size, 1, none⟩) (by show wr.heap.size < V1.heap.size; omega)).trans x1
            have hYs := bVY.size
            have HY := Lib.hid hY
            have G0 := Lib.hid g0; have G1 := Lib.hid g1
            clear hY g0 g1
            go_wp2_with (first
              | (at_builtin; (try rw [y1]); rw [← HY.out]; refine wpList_append_sl _ rfl _ _ 41 rfl W1.heap.size 34 i0 (.agg #[.int .i64 0, .int .u64 0]) 2 16 Tryz.underlying41 Hi.out Hz.out Hs.out Hb.out rfl (by decide) _ m _ rfl ownY ⟨wr.heap.size + 1, 0, none⟩ 1 1 [.int .i64 st, .int .u64 sv] rfl rfl litY (spc_one [⟨st, sv⟩]) (by unfold maxLen; omega) (by omega) bY.size ?_; intro v2 w2 hx2; have bw2 := bY.trans (hx2.below (Nat.le_refl _) bY.size); have k0 := (hx2.cell_old ⟨wr.heap.size, 0, none⟩ (by show wr.heap.size < Y.heap.size; omega) (fun k hk e => by have := hob k hk; exact absurd e (by show k ≠ wr.heap.size; omega))).trans G0.out; have k1 := (hx2.cell_old ⟨wr.heap.size, 1, none⟩ (by show wr.heap.size < Y.heap.size; omega) (fun k hk e => by have := hob k hk; exact absurd e (by show k ≠ wr.heap.size; omega))).trans G1.out; have now2 := hx2.now; obtain ⟨oa2, oc2, rfl⟩ := now2.slice; obtain ⟨Y2, hY2⟩ : ∃ Y2, Y2 = w2.alloc (.cells #[.int .i64 xt, .int .u64 xv] 34) := ⟨_, rfl⟩; have ownY2 : Sl Y2 W1.heap.size 2 (.slice oa2 (m + 1) oc2) (m + 1) (spc o ++ [.int .i64 st, .int .u64 sv]) := (by rw [hY2]; exact now2.alloc _); have litY2 : ∀ j u, [Value.int .i64 xt, .int .u64 xv][j]? = some u → Y2.cell? ((⟨w2.heap.size, 0, none⟩ : Addr).add j) = some u := (by rw [hY2]; exact lit_smp w2 ⟨xt, xv⟩ _ _ rfl); have bY2 : Below W1.heap.size W1 Y2 := (by rw [hY2]; exact bw2.alloc bw2.size _); have HY2 := Lib.hid hY2; clear hY2 hx2 now2)
              | (at_builtin; rw [← HY2.out]; refine wpList_append_sl _ rfl _ _ 41 rfl W1.heap.size 34 i0 (.agg #[.int .i64 0, .int .u64 0]) 2 16 Tryz.underlying41 Hi.out Hz.out Hs.out Hb.out rfl (by decide) _ (m + 1) _ rfl ownY2 ⟨w2.heap.size, 0, none⟩ 1 1 [.int .i64 xt, .int .u64 xv] rfl rfl litY2 (spc_one [⟨xt, xv⟩]) (by unfold maxLen; omega) (by omega) bY2.size ?_; intro v3 w3 hx3))
            have hnow := hx3.now
            refine ⟨⟨i + 1, o ++ [s, x], true, by simp, by omega, Lib.hid STEP.out, rfl, ?_, bY2.trans (hx3.below (Nat.le_refl _) bY2.size)⟩, by simp [intOf]; omega⟩
            have hX : x = ⟨xt, xv⟩ := by rw [HXT.out, HXV.out]
            have hS : s = ⟨st, sv⟩ := by rw [HST.out, HSV.out]
            rw [hX, hS, show o ++ [(⟨st, sv⟩ : Sp), ⟨xt, xv⟩] = (o ++ [⟨st, sv⟩]) ++ [⟨xt, xv⟩] by simp, spc_append, spc_append, List.length_append, List.length_append, ← HML.out]
            exact hnow
          · have c2 : decide (st < xt) = false := decide_eq_false h2
            have STEP := Lib.hid (show sofarS s (l.take (i + 1)) = (o ++ [x], false) by
              rw [HTK.out]; simp only [stepS, ← HXT.out, ← HST.out]; simp [h1, h2])
            clear h1 h2 HTK
            obtain ⟨Y, hY⟩ : ∃ Y, Y = V1.alloc (.cells #[.int .i64 xt, .int .u64 xv] 34) := ⟨_, rfl⟩
            have ownY : Sl Y W1.heap.size 2 (.slice oa m oc) m (spc o) := by rw [hY]; exact own1.alloc _
            have litY : ∀ j u, [Value.int .i64 xt, .int .u64 xv][j]? = some u → Y.cell? ((⟨wr.heap.size + 1, 0, none⟩ : Addr).add j) = some u := by rw [hY]; exact lit_smp V1 ⟨xt, xv⟩ _ _ y1
            have bY : Below W1.heap.size W1 Y := by rw [hY]; exact (hb.trans (b1.mono hbz)).alloc (by omega) _
            have HY := Lib.hid hY
            clear hY
            go_wp2_with (at_builtin; (try rw [y1]); rw [← HY.out]; refine wpList_append_sl _ rfl _ _ 41 rfl W1.heap.size 34 i0 (.agg #[.int .i64 0, .int .u64 0]) 2 16 Tryz.underlying41 Hi.out Hz.out Hs.out Hb.out rfl (by decide) _ m _ rfl ownY ⟨wr.heap.size + 1, 0, none⟩ 1 1 [.int .i64 xt, .int .u64 xv] rfl rfl litY (spc_one [⟨xt, xv⟩]) (by unfold maxLen; omega) (by omega) bY.size ?_; intro v2 w2 hx2)
            have hnow := hx2.now
            refine ⟨⟨i + 1, o ++ [x], false, by simp, by omega, Lib.hid STEP.out, rfl, ?_, bY.trans (hx2.below (Nat.le_refl _) bY.size)⟩, by simp [intOf]; omega⟩
            have hX : x = ⟨xt, xv⟩ := by rw [HXT.out, HXV.out]
            rw [hX, spc_append, List.length_append, ← HML.out]
            exact hnow
      · by_cases h1 : xt = st
        · have c1 : (xt == st) = true := beq_iff_eq.2 h1
          have STEP := Lib.hid (show sofarS s (l.take (i + 1)) = (o ++ [x], true) by
            rw [HTK.out]; simp only [stepS, ← HXT.out, ← HST.out]; simp)
          clear h1 HTK
          obtain ⟨Y, hY⟩ : ∃ Y, Y = V1.alloc (.cells #[.int .i64 xt, .int .u64 xv] 34) := ⟨_, rfl⟩
          have ownY : Sl Y W1.heap.size 2 (.slice oa m oc) m (spc o) := by rw [hY]; exact own1.alloc _
          have litY : ∀ j u, [Value.int .i64 xt, .int .u64 xv][j]? = some u → Y.cell? ((⟨wr.heap.size + 1, 0, none⟩ : Addr).add j) = some u := by rw [hY]; exact lit_smp V1 ⟨xt, xv⟩ _ _ y1
          have bY : Below W1.heap.size W1 Y := by rw [hY]; exact (hb.trans (b1.mono hbz)).alloc (by omega) _
          have HY := Lib.hid hY
          clear hY
          go_wp2_with (at_builtin; (try rw [y1]); rw [← HY.out]; refine wpList_append_sl _ rfl _ _ 41 rfl W1.heap.size 34 i0 (.agg #[.int .i64 0, .int .u64 0]) 2 16 Tryz.underlying41 Hi.out Hz.out Hs.out Hb.out rfl (by decide) _ m _ rfl ownY ⟨wr.heap.size + 1, 0, none⟩ 1 1 [.int .i64 xt, .int .u64 xv] rfl rfl litY (spc_one [⟨xt, xv⟩]) (by unfold maxLen; omega) (by omega) bY.size ?_; intro v2 w2 hx2)
          have hnow := hx2.now
          refine ⟨⟨i + 1, o ++ [x], true, by simp, by omega, Lib.hid STEP.out, rfl, ?_, bY.trans (hx2.below (Nat.le_refl _) bY.size)⟩, by simp [intOf]; omega⟩
          have hX : x = ⟨xt, xv⟩ := by rw [HXT.out, HXV.out]
          rw [hX, spc_append, List.length_append, ← HML.out]
          exact hnow
        · have c1 : (xt == st) = false := beq_eq_false_iff_ne.2 h1
          have STEP := Lib.hid (show sofarS s (l.take (i + 1)) = (o ++ [x], true) by
            rw [HTK.out]; simp only [stepS, ← HXT.out, ← HST.out]; simp)
          clear h1 HTK
          obtain ⟨Y, hY⟩ : ∃ Y, Y = V1.alloc (.cells #[.int .i64 xt, .int .u64 xv] 34) := ⟨_, rfl⟩
          have ownY : Sl Y W1.heap.size 2 (.slice oa m oc) m (spc o) := by rw [hY]; exact own1.alloc _
          have litY : ∀ j u, [Value.int .i64 xt, .int .u64 xv][j]? = some u → Y.cell? ((⟨wr.heap.size + 1, 0, none⟩ : Addr).add j) = some u := by rw [hY]; exact lit_smp V1 ⟨xt, xv⟩ _ _ y1
          have bY : Below W1.heap.size W1 Y := by rw [hY]; exact (hb.trans (b1.mono hbz)).alloc (by omega) _
          have HY := Lib.hid hY
          clear hY
          go_wp2_with (at_builtin; (try rw [y1]); rw [← HY.out]; refine wpList_append_sl _ rfl _ _ 41 rfl W1.heap.size 34 i0 (.agg #[.int .i64 0, .int .u64 0]) 2 16 Tryz.underlying41 Hi.out Hz.out Hs.out Hb.out rfl (by decide) _ m _ rfl ownY ⟨wr.heap.size + 1, 0, none⟩ 1 1 [.int .i64 xt, .int .u64 xv] rfl rfl litY (spc_one [⟨xt, xv⟩]) (by unfold maxLen; omega) (by omega) bY.size ?_; intro v2 w2 hx2)
          have hnow := hx2.now
          refine ⟨⟨i + 1, o ++ [x], true, by simp, by omega, Lib.hid STEP.out, rfl, ?_, bY.trans (hx2.below (Nat.le_refl _) bY.size)⟩, by simp [intOf]; omega⟩
          have hX : x = ⟨xt, xv⟩ := by rw [HXT.out, HXV.out]
          rw [hX, spc_append, List.length_append, ← HML.out]
          exact hnow
    · have hil : ¬ (i : Int) < n := by omega
      obtain rfl : i = n := by omega
      have HOF := Lib.hid (show sofarS s l = (o, d) by rw [← hof.out, HN.out, List.take_length])
      clear hof
      obtain ⟨oa, oc, rfl⟩ := hown.slice
      obtain ⟨m, hml⟩ : ∃ m, m = o.length := ⟨_, rfl⟩
      rw [← hml] at hown hol ⊢
      have HML := Lib.hid hml
      cases d
      · have PUT := Lib.hid (show putS l s = o ++ [s] by unfold putS; rw [HOF.out]; rfl)
        obtain ⟨Y, hY⟩ : ∃ Y, Y = wr.alloc (.cells #[.int .i64 st, .int .u64 sv] 34) := ⟨_, rfl⟩
        have ownY : Sl Y W1.heap.size 2 (.slice oa m oc) m (spc o) := by rw [hY]; exact hown.alloc _
        have litY : ∀ j u, [Value.int .i64 st, .int .u64 sv][j]? = some u → Y.cell? ((⟨wr.heap.size, 0, none⟩ : Addr).add j) = some u := by rw [hY]; exact lit_smp wr ⟨st, sv⟩ _ _ rfl
        have bY : Below W1.heap.size W1 Y := by rw [hY]; exact hb.alloc hbz _
        have HY := Lib.hid hY
        clear hY hml hown
        go_wp2_with (at_builtin; rw [← HY.out]; refine wpList_append_sl _ rfl _ _ 41 rfl W1.heap.size 34 i0 (.agg #[.int .i64 0, .int .u64 0]) 2 16 Tryz.underlying41 Hi.out Hz.out Hs.out Hb.out rfl (by decide) _ m _ rfl ownY ⟨wr.heap.size, 0, none⟩ 1 1 [.int .i64 st, .int .u64 sv] rfl rfl litY (spc_one [⟨st, sv⟩]) (by unfold maxLen; omega) (by omega) bY.size ?_; intro v2 w2 hx2)
        have hnow := hx2.now
        go_ret
        have hS : s = ⟨st, sv⟩ := by rw [HST.out, HSV.out]
        rw [PUT.out, List.length_append, ← HML.out, spc_append]
        refine ⟨_, rfl, ?_, HB1.out.trans ((bY.trans (hx2.below (Nat.le_refl _) bY.size)).mono (by have := HZ1.out; omega))⟩
        rw [hS]
        exact hnow.mono (by have := HZ1.out; omega)
      · have PUT := Lib.hid (show putS l s = o by unfold putS; rw [HOF.out]; rfl)
        have HO := Lib.hid hown
        clear hml hown
        go_wp2
        go_ret
        rw [PUT.out, ← HML.out]
        exact ⟨_, rfl, HO.out.mono (by have := HZ1.out; omega), HB1.out.trans (hb.mono (by have := HZ1.out; omega))⟩
end Go.Proofs.YtfckgcckpfklaaaGreatDoor

namespace Go.Proofs.YtfckgcckpfklaaaGreatDoor
open Go.RowKit Go.Lib

/-- Of the blocks that were there, those alone that S names have turned. -/
structure Turn (S : Nat → Prop) (w w' : World) : Prop where
  os : w'.os = w.os
  tape : w'.tape = w.tape
  output : w'.output = w.output
  size : w.heap.size ≤ w'.heap.size
  block : ∀ k, k < w.heap.size → ¬ S k → w'.heap[k]? = w.heap[k]?

theorem Turn.refl (S : Nat → Prop) (w : World) : Turn S w w := ⟨rfl, rfl, rfl, Nat.le_refl _, fun _ _ _ => rfl⟩
theorem Turn.trans {S : Nat → Prop} {a b c : World} (h : Turn S a b) (k : Turn S b c) : Turn S a c :=
  ⟨k.os.trans h.os, k.tape.trans h.tape, k.output.trans h.output, Nat.le_trans h.size k.size, fun i hi hr => (k.block i (Nat.lt_of_lt_of_le hi h.size) hr).trans (h.block i hi hr)⟩
theorem Turn.mono {S S' : Nat → Prop} {a b : World} (h : Turn S a b) (hs : ∀ k, S k → S' k) : Turn S' a b := ⟨h.os, h.tape, h.output, h.size, fun i hi hr => h.block i hi fun e => hr (hs i e)⟩
theorem Turn.of_below {S : Nat → Prop} {a b : World} (h : Below a.heap.size a b) : Turn S a b := ⟨h.os, h.tape, h.output, h.size, fun i hi _ => h.block i hi⟩
theorem Turn.below {S : Nat → Prop} {a b : World} {B : Nat} (h : Turn S a b) (hB : B ≤ a.heap.size) (hS : ∀ k, S k → B ≤ k) : Below B a b :=
  ⟨h.os, h.tape, h.output, h.size, fun i hi => h.block i (by omega) fun e => by have := hS i e; omega⟩
theorem Turn.alloc {S : Nat → Prop} {a b : World} (h : Turn S a b) (o : Obj) : Turn S a (b.alloc o) :=
  h.trans (Turn.of_below ((Below.refl _ _).alloc (Nat.le_refl _) o))
theorem Turn.drew {S : Nat → Prop} {a b : World} (h : Turn S a b) : Turn S a b.drew := ⟨h.os, h.tape, h.output, h.size, h.block⟩
theorem Turn.setCell {S : Nat → Prop} {a b : World} (h : Turn S a b) (p : Addr) (u : Value) (hp : S p.block) : Turn S a (b.setCell p u) :=
  h.trans ⟨rfl, rfl, rfl, by simp [World.setCell], fun i _ hr => Below.heap_setCell b p u i fun e => hr (e ▸ hp)⟩
theorem Turn.setNew {S : Nat → Prop} {a b : World} (h : Turn S a b) (p : Addr) (u : Value) (hp : a.heap.size ≤ p.block) : Turn S a (b.setCell p u) :=
  ⟨h.os, h.tape, h.output, by have := h.size; simpa [World.setCell] using this, fun i hi hr => (Below.heap_setCell b p u i (by omega)).trans (h.block i hi hr)⟩
theorem Turn.cell {S : Nat → Prop} {w w' : World} (h : Turn S w w') {p : Addr} (hp : p.block < w.heap.size) (hs : ¬ S p.block) : w'.cell? p = w.cell? p := World.cell?_of_block (w := w) (h.block p.block hp hs)
theorem Turn.frozen {S : Nat → Prop} {w w' : World} (h : Turn S w w') {p : Addr} (hp : p.block < w.heap.size) (hs : ¬ S p.block) : w'.frozen? p = w.frozen? p := World.frozen?_of_block (w := w) (h.block p.block hp hs)
end Go.Proofs.YtfckgcckpfklaaaGreatDoor
