/- Layer 20: PlanNext. -/
import Derived.Test.YtkialkjhjenkhaaMPK4
namespace Go.Proofs.Ytkialkjhjenkhaa
open Go.RowKit Go.Lib
set_option linter.unusedVariables false

set_option maxHeartbeats 20000000 in
set_option maxRecDepth 100000 in
theorem plannext_any (v : Value) (l : List Og) (width asked : Int) (w : World) (h : Rd w 5 v l.length (ogc l)) :
    Calls Try.prog 3 #[v, .int .i64 width, .int .i64 asked] w fun e w' => e = .returned (.bool true) ∧ Below w.heap.size w w' := by
  obtain ⟨av, kv, rfl⟩ := rd_form h
  obtain ⟨A, B, d1, d2, d3, d4, d5, d6⟩ := width_is width
  obtain ⟨wd, hwd⟩ : ∃ wd, wd = 1 + B := ⟨_, rfl⟩
  rw [← hwd] at d4 d5 d6
  have LS := Lib.hid (lst20_next (.slice av l.length kv) l wd w h ⟨d5, d6⟩)
  have d4' : IntKind.i64.wrap (1 + B) = wd := by rw [← hwd] ; exact d4
  obtain ⟨ak, hak⟩ : ∃ ak, ak = min asked 5000 := ⟨_, rfl⟩
  have hak' : min asked 5000 = ak := hak.symm
  have HAK := Lib.hid (show ak ≤ 100000 by omega)
  clear h hwd d4 hak
  go_enter Try.func3, Try.ntmps3
  go_upto_region 4 with (first
    | (go_at_call 7; (with_reducible refine LS.out.mono ?_); rintro e w1 ⟨a9, k9, n, mp, a8, k8, n8, K, rs, ts, F, rfl, hI, b1⟩; have HI := Lib.hid hI; have B1 := Lib.hid b1; clear hI b1 d1 d2 d3 d4')
    | fail)
  have X0 := Lib.hid (fun W (b : Below ((w1.alloc (.cells #[.int .i64 5, .slice a9 n k9, .map (some mp)] 26)).alloc (.cells #[.int .i64 5, .slice a8 n8 k8] 29)).heap.size ((w1.alloc (.cells #[.int .i64 5, .slice a9 n k9, .map (some mp)] 26)).alloc (.cells #[.int .i64 5, .slice a8 n8 k8] 29)) W) => two_boxes b)
  have N2 := Lib.hid (fun W (b : Below ((w1.alloc (.cells #[.int .i64 5, .slice a9 n k9, .map (some mp)] 26)).alloc (.cells #[.int .i64 5, .slice a8 n8 k8] 29)).heap.size ((w1.alloc (.cells #[.int .i64 5, .slice a9 n k9, .map (some mp)] 26)).alloc (.cells #[.int .i64 5, .slice a8 n8 k8] 29)) W) => HI.out.on (X0.out W b).2.2)
  have hxa := (X0.out ((w1.alloc (.cells #[.int .i64 5, .slice a9 n k9, .map (some mp)] 26)).alloc (.cells #[.int .i64 5, .slice a8 n8 k8] 29)) (Below.refl _ _)).1
  have c0 := Lib.cell_of_heap hxa 0; have c1 := Lib.cell_of_heap hxa 1; have c2 := Lib.cell_of_heap hxa 2
  obtain ⟨T, hT⟩ : ∃ T, T = ids (tomQ K rs) := ⟨_, rfl⟩
  have HT := Lib.hid hT
  obtain ⟨N1, hN1⟩ : ∃ N1, N1 = T.length := ⟨_, rfl⟩
  have HN1 := Lib.hid hN1
  have hN12 : N1 ≤ 1000 := by
    have h1 : (tomQ K rs).length ≤ (unmQ K rs).length := List.length_filter_le _ _
    have h2 : (unmQ K rs).length ≤ rs.length := by unfold unmQ; exact List.length_filter_le _ _
    have h3 := HI.out.len
    have h4 : N1 = (tomQ K rs).length := by rw [hN1, hT]; simp [ids]
    omega
  obtain ⟨L, hL⟩ : ∃ L, L = F.length := ⟨_, rfl⟩
  have HL := Lib.hid hL
  have hL2 : L ≤ 1000 := by have := HI.out.fl; omega
  have wL : IntKind.i64.wrap ((L : Int) - 1) = (L : Int) - 1 := IntWalk.i64_in _ (by omega)
  obtain ⟨r, hr⟩ : ∃ r : Int, r = max ((L : Int) - 1) 0 := ⟨_, rfl⟩
  have hr' : max ((L : Int) - 1) 0 = r := hr.symm
  have HR := Lib.hid (show r = max ((F.length : Int) - 1) 0 from by rw [hr, hL])
  clear hT hN1 hL hr hxa
  cases ho : scan2 ak F
  · have HO := Lib.hid ho
    have PN := Lib.hid (fun W (b : Below ((w1.alloc (.cells #[.int .i64 5, .slice a9 n k9, .map (some mp)] 26)).alloc (.cells #[.int .i64 5, .slice a8 n8 k8] 29)).heap.size ((w1.alloc (.cells #[.int .i64 5, .slice a9 n k9, .map (some mp)] 26)).alloc (.cells #[.int .i64 5, .slice a8 n8 k8] 29)) W) => pnx_none (.agg #[.int .i64 5, .slice a9 n k9, .map (some mp)]) 5 ak rs K F W (N2.out W b).l HI.out.up (Nat.le_trans HI.out.len (by decide)) HI.out.ok HAK.out HI.out.free ho)
    have RN := Lib.hid (fun W (b : Below ((w1.alloc (.cells #[.int .i64 5, .slice a9 n k9, .map (some mp)] 26)).alloc (.cells #[.int .i64 5, .slice a8 n8 k8] 29)).heap.size ((w1.alloc (.cells #[.int .i64 5, .slice a9 n k9, .map (some mp)] 26)).alloc (.cells #[.int .i64 5, .slice a8 n8 k8] 29)) W) => rnx_none 5 (.slice a8 n8 k8) ak ts F W (N2.out W b).t HI.out.tlen HI.out.tok HAK.out HI.out.tfree HI.out.free.1 ho)
    clear ho
    go_upto_region 6 with (first
      | (go_at_call 8; (with_reducible refine (PN.out _ (Below.refl _ _)).mono ?_); rintro e w2 ⟨rfl, b2⟩; have B2 := Lib.hid b2; have hy2 := (X0.out _ (b2.alloc b2.size (.cells #[.int .i64 0, .int .i64 0, .int .i64 0, .slice none 0 0] 33))).2.1; have e0 := Lib.cell_of_heap hy2 0; have e1 := Lib.cell_of_heap hy2 1; clear b2 hy2 c0 c1 c2)
      | (go_at_call 9; (with_reducible refine (RN.out _ (B2.out.alloc B2.out.size (.cells #[.int .i64 0, .int .i64 0, .int .i64 0, .slice none 0 0] 33))).mono ?_); rintro e w3 ⟨rfl, b3⟩; have B3 := Lib.hid b3; clear b3 e0 e1)
      | fail)
    have FX := Lib.hid (nx_boxes (XO := (.cells #[.int .i64 5, .slice a9 n k9, .map (some mp)] 26)) (YO := (.cells #[.int .i64 5, .slice a8 n8 k8] 29)) (PO := (.cells #[.int .i64 0, .int .i64 0, .int .i64 0, .slice none 0 0] 33)) (QO := (.cells #[.int .i64 0, .int .i64 0, .int .i64 0, .slice none 0 0] 38)) B2.out B3.out)
    have AW := Lib.hid (awake20_any (w3.alloc (.cells #[.int .i64 0, .int .i64 0, .int .i64 0, .slice none 0 0] 38)))
    go_upto_region 8 with (first
      | (go_at_call 10; (with_reducible refine AW.out.mono ?_); rintro e w5 ⟨rfl, b5⟩; have B5 := Lib.hid b5; have hp4 := (FX.out _ b5).2.2.1; have p3 := Lib.cell_of_heap hp4 3; clear b5 hp4)
      | fail)
    clear p3
    have GX := Lib.hid (fun W (b : Below w5.heap.size w5 W) => FX.out W (B5.out.trans (b.mono B5.out.size)))
    have NI := Lib.hid (fun W (b : Below w5.heap.size w5 W) => HI.out.on (GX.out W b).2.2.2.2.1)
    have TM := Lib.hid (fun W (b : Below w5.heap.size w5 W) => tomark_any (.agg #[.int .i64 5, .slice a9 n k9, .map (some mp)]) 5 rs K W (NI.out W b).l HI.out.up HI.out.len)
    have RM := Lib.hid (fun W (b : Below w5.heap.size w5 W) => rtomark_any 5 (.slice a8 n8 k8) ts W (NI.out W b).t HI.out.tlen)
    have RK := Lib.hid (fun W (b : Below w5.heap.size w5 W) => more_rank HI.out.free HR.out (fun G h => h) (NI.out W b).l HI.out.up (Nat.le_trans HI.out.len (by decide)))
    have RF := Lib.hid (fun W (b : Below w5.heap.size w5 W) => rfree_any 5 (.slice a8 n8 k8) ts W (NI.out W b).t HI.out.tlen)
    have HFL := Lib.hid (show (freeT ts ts).length = L from by have h1 := congrArg List.length HI.out.tfree; rw [List.length_map] at h1; rw [h1, HL.out])
    rw [HFL.out] at RF
    have x5 := (GX.out w5 (Below.refl _ _)).1
    have c0 := Lib.cell_of_heap x5 0; have c1 := Lib.cell_of_heap x5 1; have c2 := Lib.cell_of_heap x5 2
    clear x5
    go_upto_region 10 with (first
      | (go_at_call 12; (with_reducible refine (TM.out _ (Below.refl _ _)).mono ?_); rintro e w6 ⟨v6, rfl, sl6, b6⟩; rw [← HT.out, show (tomQ K rs).length = N1 from by rw [HN1.out, HT.out]; simp [ids]] at sl6; obtain ⟨a6, k6, rfl⟩ := sl6.slice; have SL6 := Lib.hid sl6; have B6 := Lib.hid b6; have hy6 := (GX.out _ b6).2.1; have e0 := Lib.cell_of_heap hy6 0; have e1 := Lib.cell_of_heap hy6 1; clear sl6 b6 hy6 c0 c1 c2)
      | (go_at_call 13; (with_reducible refine (RM.out _ B6.out).mono ?_); rintro e w7 ⟨v7, rfl, sl7, b7⟩; rw [HI.out.tom, ← HT.out, ← HN1.out] at sl7; obtain ⟨a7, k7, rfl⟩ := sl7.slice; have SL7 := Lib.hid sl7; have B7 := Lib.hid (B6.out.trans (b7.mono B6.out.size)); have SL6X := Lib.hid (SL6.out.on b7); clear sl7 b7 e0 e1)
      | fail)
    have CX := Lib.hid (fun W (b : Below w7.heap.size w7 W) => show W.cell? ⟨w1.heap.size, 0, none⟩ = some (.int .i64 5) ∧ W.cell? ⟨w1.heap.size, 1, none⟩ = some (.slice a9 n k9) ∧ W.cell? ⟨w1.heap.size, 2, none⟩ = some (.map (some mp)) ∧ W.cell? ⟨w1.heap.size + 1, 0, none⟩ = some (.int .i64 5) ∧ W.cell? ⟨w1.heap.size + 1, 1, none⟩ = some (.slice a8 n8 k8) from by
      have g := GX.out W (B7.out.trans (b.mono B7.out.size))
      exact ⟨Lib.cell_of_heap g.1 0, Lib.cell_of_heap g.1 1, Lib.cell_of_heap g.1 2, Lib.cell_of_heap g.2.1 0, Lib.cell_of_heap g.2.1 1⟩)
    have B0 := Below.refl w7.heap.size w7
    obtain ⟨x0, x1, x2, x3, x4⟩ := CX.out _ B0
    have BQ := B0.drew
    have B7Y := Lib.hid (B5.out.trans (B7.out.mono B5.out.size))
    have BU := Lib.hid (fun W (b : Below w7.heap.size w7 W) => B7.out.trans (b.mono B7.out.size))
    clear x0 x1 x2 x3 x4
    go_region_held3 (fun W => W.cell? ⟨w1.heap.size, 0, none⟩ = some (.int .i64 5) ∧ W.cell? ⟨w1.heap.size, 1, none⟩ = some (.slice a9 n k9) ∧ W.cell? ⟨w1.heap.size, 2, none⟩ = some (.map (some mp)) ∧ W.cell? ⟨w1.heap.size + 1, 0, none⟩ = some (.int .i64 5) ∧ W.cell? ⟨w1.heap.size + 1, 1, none⟩ = some (.slice a8 n8 k8))
      (first | (with_reducible refine CX.out _ ?_; assumption) | (with_reducible assumption) | fail)
      (first
        | (go_at_call 14; (with_reducible refine (RK.out _ (BU.out _ BQ)).mono ?_); rintro e w8 ⟨rfl, b8⟩; have B8 := BQ.trans (b8.mono BQ.size))
        | (go_at_call 15; (with_reducible refine (RF.out _ (BU.out _ B8)).mono ?_); rintro e w9 ⟨v9, rfl, sl9, b9⟩; obtain ⟨a9', k9', rfl⟩ := sl9.slice; have B9 := B8.trans (b9.mono B8.size))
        | fail)
    have B7Z := Lib.hid B9
    have BEND := Lib.hid (show Below ((w1.alloc (.cells #[.int .i64 5, .slice a9 n k9, .map (some mp)] 26)).alloc (.cells #[.int .i64 5, .slice a8 n8 k8] 29)).heap.size ((w1.alloc (.cells #[.int .i64 5, .slice a9 n k9, .map (some mp)] 26)).alloc (.cells #[.int .i64 5, .slice a8 n8 k8] 29)) w9 from ((B2.out.trans ((((Below.refl _ _).alloc (Nat.le_refl _) (.cells #[.int .i64 0, .int .i64 0, .int .i64 0, .slice none 0 0] 33)).trans (B3.out.mono (by simp))).mono B2.out.size)).trans ((((Below.refl _ _).alloc (Nat.le_refl _) (.cells #[.int .i64 0, .int .i64 0, .int .i64 0, .slice none 0 0] 38)).trans ((B7Y.out.trans (B9.mono B7Y.out.size)).mono (by simp))).mono (by have h1 := B2.out.size; have h2 := B3.out.size; simp at h2; omega))))
    clear B9 b9 b8 B8 BQ B0 sl9
    go_wp2_with fail
    have SL6Y := Lib.hid ((SL6X.out.on B7Z.out))
    have SL7Y := Lib.hid ((SL7.out.on B7Z.out))
    go_loopw [88] (fun i' wr => ∃ i : Nat, i' = .int .i64 i ∧ i ≤ N1 ∧ Below w9.heap.size w9 wr) (fun i' _ => N1 - (RowKit.intOf i').toNat)
    case atStart => exact ⟨0, rfl, Nat.zero_le _, Below.refl _ _⟩
    case round =>
      obtain ⟨W0, rfl⟩ : ∃ W0, W0 = wr := ⟨_, rfl⟩
      obtain ⟨i, rfl, hi, hb⟩ := hrel
      by_cases hlt : i < N1
      · have hil : (i : Int) < N1 := by omega
        have hil0 : (0 : Int) ≤ i := by omega
        have hiw : IntKind.i64.wrap ((i : Int) + 1) = (i : Int) + 1 := IntWalk.i64_in _ (by omega)
        obtain ⟨g6, o6, c6, hv6, hb6, hnc6, hmc6⟩ := SL6Y.out.somewhere (by omega)
        injection hv6 with hv7 _ hv8
        subst hv7
        clear hv8
        obtain ⟨g7, o7, c7, hw6, hb7, hnc7, hmc7⟩ := SL7Y.out.somewhere (by omega)
        injection hw6 with hw7 _ hw8
        subst hw7
        clear hw8
        obtain ⟨x, hx⟩ : ∃ x, T[i]? = some x := ⟨_, List.getElem?_eq_getElem (by have := HN1.out; omega)⟩
        have y6 : W0.cell? ⟨g6, o6 + i, none⟩ = some (.string (bs x)) := by
          have h1 := (SL6Y.out.on hb).cells (i * 1) _ (sc_at1 T i x hx)
          rw [Addr.add_lit, Nat.mul_one] at h1
          exact h1
        have y7 : W0.cell? ⟨g7, o7 + i, none⟩ = some (.string (bs x)) := by
          have h1 := (SL7Y.out.on hb).cells (i * 1) _ (sc_at1 T i x hx)
          rw [Addr.add_lit, Nat.mul_one] at h1
          exact h1
        have HB := Lib.hid hb
        have hxx : ((bs x).toList == (bs x).toList) = true := by simp
        clear hx hb hb6 hnc6 hmc6 hb7 hnc7 hmc7
        go_upto_region 15 with fail
        go_quiet (fail)
        go_wp2_with fail
        exact ⟨⟨i + 1, by simp, by omega, bel_drewN9 HB.out _⟩, by simp [RowKit.intOf]; omega⟩
      · have hil : ¬ (i : Int) < N1 := by omega
        have HB := Lib.hid hb
        clear hb
        go_wp2_with fail
        go_ret
        refine ⟨rfl, ?_⟩
        exact more_end B1.out (X0.out _ (Below.refl _ _)).2.2 ((BEND.out.trans (HB.out.mono BEND.out.size)))
  · rename_i S
    have HO := Lib.hid ho
    obtain ⟨pa, hpa⟩ : ∃ x, x = frM S := ⟨_, rfl⟩
    obtain ⟨pb, hpb⟩ : ∃ x, x = toM S := ⟨_, rfl⟩
    obtain ⟨pc, hpc⟩ : ∃ x, x = lvM S := ⟨_, rfl⟩
    have HP := Lib.hid (And.intro hpa (And.intro hpb hpc))
    obtain ⟨m, hm⟩ : ∃ m, m = S.length := ⟨_, rfl⟩
    have HM := Lib.hid hm
    have PN := Lib.hid (fun W (b : Below ((w1.alloc (.cells #[.int .i64 5, .slice a9 n k9, .map (some mp)] 26)).alloc (.cells #[.int .i64 5, .slice a8 n8 k8] 29)).heap.size ((w1.alloc (.cells #[.int .i64 5, .slice a9 n k9, .map (some mp)] 26)).alloc (.cells #[.int .i64 5, .slice a8 n8 k8] 29)) W) => pnx_some (.agg #[.int .i64 5, .slice a9 n k9, .map (some mp)]) 5 ak rs K F S pa pb pc W (N2.out W b).l HI.out.up (Nat.le_trans HI.out.len (by decide)) HI.out.ok HAK.out HI.out.free ho hpa hpb hpc)
    have RN := Lib.hid (fun W (b : Below ((w1.alloc (.cells #[.int .i64 5, .slice a9 n k9, .map (some mp)] 26)).alloc (.cells #[.int .i64 5, .slice a8 n8 k8] 29)).heap.size ((w1.alloc (.cells #[.int .i64 5, .slice a9 n k9, .map (some mp)] 26)).alloc (.cells #[.int .i64 5, .slice a8 n8 k8] 29)) W) => rnx_some 5 (.slice a8 n8 k8) ak ts F S pa pb pc W (N2.out W b).t HI.out.tlen HI.out.tok HAK.out HI.out.tfree HI.out.free.1 ho hpa hpb hpc)
    rw [← hm] at PN RN
    clear ho hpa hpb hpc hm
    go_upto_region 6 with (first
      | (go_at_call 8; (with_reducible refine (PN.out _ (Below.refl _ _)).mono ?_); rintro e w2 ⟨ad, k, s, rfl, hs, hms, b2⟩; have B2 := Lib.hid b2; have HS := Lib.hid hs; have HMS := Lib.hid hms; have hy2 := (X0.out _ (b2.alloc b2.size (.cells #[.int .i64 pa, .int .i64 pb, .int .i64 pc, .slice ad m k] 33))).2.1; have e0 := Lib.cell_of_heap hy2 0; have e1 := Lib.cell_of_heap hy2 1; clear hs hms b2 hy2 c0 c1 c2)
      | (go_at_call 9; (with_reducible refine (RN.out _ (B2.out.alloc B2.out.size (.cells #[.int .i64 pa, .int .i64 pb, .int .i64 pc, .slice ad m k] 33))).mono ?_); rintro e w3 ⟨ad3, k3, s3, rfl, hs3, hms3, b3⟩; have B3 := Lib.hid b3; have HS3 := Lib.hid hs3; have HMS3 := Lib.hid hms3; clear hs3 hms3 b3 e0 e1)
      | fail)
    have FX := Lib.hid (nx_boxes (XO := (.cells #[.int .i64 5, .slice a9 n k9, .map (some mp)] 26)) (YO := (.cells #[.int .i64 5, .slice a8 n8 k8] 29)) (PO := (.cells #[.int .i64 pa, .int .i64 pb, .int .i64 pc, .slice ad m k] 33)) (QO := (.cells #[.int .i64 pa, .int .i64 pb, .int .i64 pc, .slice ad3 m k3] 38)) B2.out B3.out)
    have AW := Lib.hid (awake20_any (w3.alloc (.cells #[.int .i64 pa, .int .i64 pb, .int .i64 pc, .slice ad3 m k3] 38)))
    have HSM := Lib.hid (show s.map Mq.m = s3.map Mq.m from HS.out.trans HS3.out.symm)
    have HSL := Lib.hid (show s.length ≤ 1000 from by have h1 := scan2_len ak F S HO.out; have h2 := HI.out.fl; have h3 := congrArg List.length HS.out; rw [List.length_map] at h3; omega)
    have SM0 := fun W (b : Below (w3.alloc (.cells #[.int .i64 pa, .int .i64 pb, .int .i64 pc, .slice ad3 m k3] 38)).heap.size (w3.alloc (.cells #[.int .i64 pa, .int .i64 pb, .int .i64 pc, .slice ad3 m k3] 38)) W) => psame_any pa pb pc (.slice ad m k) (.slice ad3 m k3) s s3 W (HMS.out.on (FX.out W b).2.2.2.2.2.1) (HMS3.out.on (FX.out W b).2.2.2.2.2.2) HSM.out HSL.out
    unfold planV at SM0
    have SM := Lib.hid SM0
    clear SM0
    go_upto_region 8 with (first
      | (go_at_call 10; (with_reducible refine AW.out.mono ?_); rintro e w4 ⟨rfl, b4⟩; have B4 := Lib.hid b4; have hp4 := (FX.out _ b4).2.2.1; have hq4 := (FX.out _ b4).2.2.2.1; have p0 := Lib.cell_of_heap hp4 0; have p1 := Lib.cell_of_heap hp4 1; have p2 := Lib.cell_of_heap hp4 2; have p3 := Lib.cell_of_heap hp4 3; have q0 := Lib.cell_of_heap hq4 0; have q1 := Lib.cell_of_heap hq4 1; have q2 := Lib.cell_of_heap hq4 2; have q3 := Lib.cell_of_heap hq4 3; clear b4 hp4 hq4)
      | (go_at_call 11; (with_reducible refine (SM.out _ B4.out).mono ?_); rintro e w5 ⟨rfl, b5⟩; have B5 := Lib.hid (B4.out.trans (b5.mono B4.out.size)); clear b5 p0 p1 p2 p3 q0 q1 q2 q3)
      | fail)
    have GX := Lib.hid (fun W (b : Below w5.heap.size w5 W) => FX.out W (B5.out.trans (b.mono B5.out.size)))
    have NI := Lib.hid (fun W (b : Below w5.heap.size w5 W) => HI.out.on (GX.out W b).2.2.2.2.1)
    have TM := Lib.hid (fun W (b : Below w5.heap.size w5 W) => tomark_any (.agg #[.int .i64 5, .slice a9 n k9, .map (some mp)]) 5 rs K W (NI.out W b).l HI.out.up HI.out.len)
    have RM := Lib.hid (fun W (b : Below w5.heap.size w5 W) => rtomark_any 5 (.slice a8 n8 k8) ts W (NI.out W b).t HI.out.tlen)
    have RK := Lib.hid (fun W (b : Below w5.heap.size w5 W) => more_rank HI.out.free HR.out (fun G h => h) (NI.out W b).l HI.out.up (Nat.le_trans HI.out.len (by decide)))
    have RF := Lib.hid (fun W (b : Below w5.heap.size w5 W) => rfree_any 5 (.slice a8 n8 k8) ts W (NI.out W b).t HI.out.tlen)
    have HFL := Lib.hid (show (freeT ts ts).length = L from by have h1 := congrArg List.length HI.out.tfree; rw [List.length_map] at h1; rw [h1, HL.out])
    rw [HFL.out] at RF
    have x5 := (GX.out w5 (Below.refl _ _)).1
    have c0 := Lib.cell_of_heap x5 0; have c1 := Lib.cell_of_heap x5 1; have c2 := Lib.cell_of_heap x5 2
    clear x5
    go_upto_region 10 with (first
      | (go_at_call 12; (with_reducible refine (TM.out _ (Below.refl _ _)).mono ?_); rintro e w6 ⟨v6, rfl, sl6, b6⟩; rw [← HT.out, show (tomQ K rs).length = N1 from by rw [HN1.out, HT.out]; simp [ids]] at sl6; obtain ⟨a6, k6, rfl⟩ := sl6.slice; have SL6 := Lib.hid sl6; have B6 := Lib.hid b6; have hy6 := (GX.out _ b6).2.1; have e0 := Lib.cell_of_heap hy6 0; have e1 := Lib.cell_of_heap hy6 1; clear sl6 b6 hy6 c0 c1 c2)
      | (go_at_call 13; (with_reducible refine (RM.out _ B6.out).mono ?_); rintro e w7 ⟨v7, rfl, sl7, b7⟩; rw [HI.out.tom, ← HT.out, ← HN1.out] at sl7; obtain ⟨a7, k7, rfl⟩ := sl7.slice; have SL7 := Lib.hid sl7; have B7 := Lib.hid (B6.out.trans (b7.mono B6.out.size)); have SL6X := Lib.hid (SL6.out.on b7); clear sl7 b7 e0 e1)
      | fail)
    have CX := Lib.hid (fun W (b : Below w7.heap.size w7 W) => show W.cell? ⟨w1.heap.size, 0, none⟩ = some (.int .i64 5) ∧ W.cell? ⟨w1.heap.size, 1, none⟩ = some (.slice a9 n k9) ∧ W.cell? ⟨w1.heap.size, 2, none⟩ = some (.map (some mp)) ∧ W.cell? ⟨w1.heap.size + 1, 0, none⟩ = some (.int .i64 5) ∧ W.cell? ⟨w1.heap.size + 1, 1, none⟩ = some (.slice a8 n8 k8) from by
      have g := GX.out W (B7.out.trans (b.mono B7.out.size))
      exact ⟨Lib.cell_of_heap g.1 0, Lib.cell_of_heap g.1 1, Lib.cell_of_heap g.1 2, Lib.cell_of_heap g.2.1 0, Lib.cell_of_heap g.2.1 1⟩)
    have B0 := Below.refl w7.heap.size w7
    obtain ⟨x0, x1, x2, x3, x4⟩ := CX.out _ B0
    have BQ := B0.drew
    have B7Y := Lib.hid (B5.out.trans (B7.out.mono B5.out.size))
    have BU := Lib.hid (fun W (b : Below w7.heap.size w7 W) => B7.out.trans (b.mono B7.out.size))
    clear x0 x1 x2 x3 x4
    go_region_held3 (fun W => W.cell? ⟨w1.heap.size, 0, none⟩ = some (.int .i64 5) ∧ W.cell? ⟨w1.heap.size, 1, none⟩ = some (.slice a9 n k9) ∧ W.cell? ⟨w1.heap.size, 2, none⟩ = some (.map (some mp)) ∧ W.cell? ⟨w1.heap.size + 1, 0, none⟩ = some (.int .i64 5) ∧ W.cell? ⟨w1.heap.size + 1, 1, none⟩ = some (.slice a8 n8 k8))
      (first | (with_reducible refine CX.out _ ?_; assumption) | (with_reducible assumption) | fail)
      (first
        | (go_at_call 14; (with_reducible refine (RK.out _ (BU.out _ BQ)).mono ?_); rintro e w8 ⟨rfl, b8⟩; have B8 := BQ.trans (b8.mono BQ.size))
        | (go_at_call 15; (with_reducible refine (RF.out _ (BU.out _ B8)).mono ?_); rintro e w9 ⟨v9, rfl, sl9, b9⟩; obtain ⟨a9', k9', rfl⟩ := sl9.slice; have B9 := B8.trans (b9.mono B8.size))
        | fail)
    have B7Z := Lib.hid B9
    have BEND := Lib.hid (show Below ((w1.alloc (.cells #[.int .i64 5, .slice a9 n k9, .map (some mp)] 26)).alloc (.cells #[.int .i64 5, .slice a8 n8 k8] 29)).heap.size ((w1.alloc (.cells #[.int .i64 5, .slice a9 n k9, .map (some mp)] 26)).alloc (.cells #[.int .i64 5, .slice a8 n8 k8] 29)) w9 from ((B2.out.trans ((((Below.refl _ _).alloc (Nat.le_refl _) (.cells #[.int .i64 pa, .int .i64 pb, .int .i64 pc, .slice ad m k] 33)).trans (B3.out.mono (by simp))).mono B2.out.size)).trans ((((Below.refl _ _).alloc (Nat.le_refl _) (.cells #[.int .i64 pa, .int .i64 pb, .int .i64 pc, .slice ad3 m k3] 38)).trans ((B7Y.out.trans (B9.mono B7Y.out.size)).mono (by simp))).mono (by have h1 := B2.out.size; have h2 := B3.out.size; simp at h2; omega))))
    clear B9 b9 b8 B8 BQ B0 sl9
    go_wp2_with fail
    have SL6Y := Lib.hid ((SL6X.out.on B7Z.out))
    have SL7Y := Lib.hid ((SL7.out.on B7Z.out))
    go_loopw [88] (fun i' wr => ∃ i : Nat, i' = .int .i64 i ∧ i ≤ N1 ∧ Below w9.heap.size w9 wr) (fun i' _ => N1 - (RowKit.intOf i').toNat)
    case atStart => exact ⟨0, rfl, Nat.zero_le _, Below.refl _ _⟩
    case round =>
      obtain ⟨W0, rfl⟩ : ∃ W0, W0 = wr := ⟨_, rfl⟩
      obtain ⟨i, rfl, hi, hb⟩ := hrel
      by_cases hlt : i < N1
      · have hil : (i : Int) < N1 := by omega
        have hil0 : (0 : Int) ≤ i := by omega
        have hiw : IntKind.i64.wrap ((i : Int) + 1) = (i : Int) + 1 := IntWalk.i64_in _ (by omega)
        obtain ⟨g6, o6, c6, hv6, hb6, hnc6, hmc6⟩ := SL6Y.out.somewhere (by omega)
        injection hv6 with hv7 _ hv8
        subst hv7
        clear hv8
        obtain ⟨g7, o7, c7, hw6, hb7, hnc7, hmc7⟩ := SL7Y.out.somewhere (by omega)
        injection hw6 with hw7 _ hw8
        subst hw7
        clear hw8
        obtain ⟨x, hx⟩ : ∃ x, T[i]? = some x := ⟨_, List.getElem?_eq_getElem (by have := HN1.out; omega)⟩
        have y6 : W0.cell? ⟨g6, o6 + i, none⟩ = some (.string (bs x)) := by
          have h1 := (SL6Y.out.on hb).cells (i * 1) _ (sc_at1 T i x hx)
          rw [Addr.add_lit, Nat.mul_one] at h1
          exact h1
        have y7 : W0.cell? ⟨g7, o7 + i, none⟩ = some (.string (bs x)) := by
          have h1 := (SL7Y.out.on hb).cells (i * 1) _ (sc_at1 T i x hx)
          rw [Addr.add_lit, Nat.mul_one] at h1
          exact h1
        have HB := Lib.hid hb
        have hxx : ((bs x).toList == (bs x).toList) = true := by simp
        clear hx hb hb6 hnc6 hmc6 hb7 hnc7 hmc7
        go_upto_region 15 with fail
        go_quiet (fail)
        go_wp2_with fail
        exact ⟨⟨i + 1, by simp, by omega, bel_drewN9 HB.out _⟩, by simp [RowKit.intOf]; omega⟩
      · have hil : ¬ (i : Int) < N1 := by omega
        have HB := Lib.hid hb
        clear hb
        go_wp2_with fail
        go_ret
        refine ⟨rfl, ?_⟩
        exact more_end B1.out (X0.out _ (Below.refl _ _)).2.2 ((BEND.out.trans (HB.out.mono BEND.out.size)))
end Go.Proofs.Ytkialkjhjenkhaa
