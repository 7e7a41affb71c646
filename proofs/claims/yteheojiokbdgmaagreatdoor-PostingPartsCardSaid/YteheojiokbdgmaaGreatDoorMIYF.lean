/- Layer 12: values part the series: the law. -/
import Derived.Test.YteheojiokbdgmaaGreatDoorMIYE
namespace Go.Proofs.YteheojiokbdgmaaGreatDoor
open Go.RowKit Go.Lib
open Go.ChangeMaps (setBlock)
set_option linter.unusedVariables false

theorem sl_text {w : World} {base g off n cap : Nat} {l : List (List UInt8)} (h : Sl w base 1 (.slice (some ⟨g, off, none⟩) n cap) n (stc l)) (j : Nat) (s : List UInt8) (hj : l[j]? = some s) : w.cell? ⟨g, off + j, none⟩ = some (.string (bs s)) := by
  have := h.cells j _ (stc_at l j s hj)
  rwa [Addr.add_lit] at this
theorem sl_num {w : World} {base g off n cap : Nat} {l : List Int} (h : Sl w base 1 (.slice (some ⟨g, off, none⟩) n cap) n (ic l)) (j : Nat) (x : Int) (hj : l[j]? = some x) : w.cell? ⟨g, off + j, none⟩ = some (.int .i64 x) := by
  have := h.cells j _ (ic_at l j x hj)
  rwa [Addr.add_lit] at this
/-- How much of a map is left. -/
def leftAt (es : Array MapEntry) (r : Nat) (w : World) : Nat := match w.heap[r]? with | some (.mapIter _ _ seen _) => (leftOf es seen).size | _ => 0
theorem leftAt_is {es : Array MapEntry} {r : Nat} {w : World} {m : Option Nat} {s c : Nat} {seen : Array Nat} (h : w.heap[r]? = some (.mapIter m s seen c)) : leftAt es r w = (leftOf es seen).size := by unfold leftAt; rw [h]

set_option maxHeartbeats 4000000 in
set_option maxRecDepth 100000 in
theorem pparts_any (a0 : Option Addr) (len0 cap0 : Nat) (zs : List Oi) (w : World) (h : OsR w a0 len0 zs) :
    Calls Tryz.prog 4 #[.slice a0 len0 cap0] w fun e w' => e = .returned (.bool true) ∧ Below w.heap.size w w' := by
  have hT := bs_toList
  have hmm := @run_makeMap Tryz.prog
  have GROW := Lib.hid (grow12_any a0 len0 cap0 zs w h)
  have hzl := h.hl
  have HPS := Lib.hid h.ps
  have AW := Lib.hid (fun W => pawake_any W)
  have HZL := Lib.hid (show zs.length ≤ 12 by omega)
  clear h hzl
  go_enter Tryz.func4, Tryz.ntmps4
  go_wp2_with fail
  refine GROW.out.mono ?_
  rintro e w1 ⟨b, mh, ml, tv, rfl, hG⟩
  obtain ⟨T, qs, t1, r1, hTq, b1⟩ := gst_told hG HZL.out (fun z hz => by rw [(HPS.out z hz).2.1]; omega)
  have TL1 := Lib.hid t1
  have RD1 := Lib.hid r1
  have HTQ := Lib.hid hTq
  have B1 := Lib.hid b1
  have hfew := t1.few
  obtain ⟨N, hN⟩ : ∃ N, N = qs.length := ⟨_, rfl⟩
  obtain ⟨_, ta, tcap, tg, toff, rfl, _, _⟩ := r1.rd
  have hTl : T.length = N := by rw [← hTq, List.length_map, hN]
  rw [← hN] at RD1 ⊢
  have HN := Lib.hid hN
  have HTL := Lib.hid hTl
  have hN12 : N ≤ 12 := by omega
  clear hG t1 r1 hTq b1 GROW HPS HZL hfew hN hTl
  go_wp2_with fail
  refine (AW.out _).mono ?_
  rintro e w2 ⟨rfl, b2⟩
  have TL2 := Lib.hid (TL1.out.on b2)
  have RD2 := Lib.hid (RD1.out.on b2)
  have B2 := Lib.hid (B1.out.trans (b2.mono B1.out.size))
  obtain ⟨NM, hNM⟩ : ∃ NM, NM = foldD fN T := ⟨_, rfl⟩
  have hNl : NM.length ≤ 120 := by rw [hNM]; exact fold_small _ fN_len TL2.out
  have CN := Lib.hid (told_names TL2.out)
  rw [← hNM] at CN
  clear TL1 RD1 B1 b2 AW hNM
  go_wp2_with fail
  refine CN.out.mono ?_
  rintro e w3 ⟨v3, rfl, s3, b3⟩
  obtain ⟨NL, hNL⟩ : ∃ NL, NL = NM.length := ⟨_, rfl⟩
  rw [← hNL] at s3 hNl
  obtain ⟨an, cn, rfl⟩ := s3.slice
  have S3 := Lib.hid s3
  have B3 := Lib.hid b3
  have HNL := Lib.hid hNL
  clear s3 b3 hNL CN
  go_wp2_with fail
  go_loopw [34] (fun i' wr => ∃ (i : Nat), i' = .int .i64 i ∧ i ≤ NL ∧ Below w3.heap.size w3 wr) (fun i' _ => NL - (RowKit.intOf i').toNat)
  case atStart => exact ⟨0, rfl, by omega, Below.refl _ _⟩
  case round =>
    obtain ⟨W0, rfl⟩ : ∃ W0, W0 = wr := ⟨_, rfl⟩
    obtain ⟨i, rfl, hi, hb⟩ := hrel
    by_cases hlt : i < NL
    · obtain ⟨gn, on, kn, en, hgn, -, -⟩ := S3.out.somewhere (by omega)
      have hgl : gn < w3.heap.size := by have := S3.out; rw [en] at this; exact (this.lt gn rfl).2
      cases en
      obtain ⟨x, hx⟩ : ∃ x, NM[i]? = some x := ⟨NM[i]'(by have := HNL.out; omega), List.getElem?_eq_getElem (by have := HNL.out; omega)⟩
      have c0 := (hb.cell (p := ⟨gn, on + i, none⟩) hgl).trans (sl_text S3.out i x hx)
      have hil : (i : Int) < NL := by omega
      have bT : Below w2.heap.size w2 W0 := B3.out.trans (hb.mono B3.out.size)
      obtain ⟨W1, hW1⟩ : ∃ W1, W1 = W0.alloc (.map #[] 0) := ⟨_, rfl⟩
      have b1 : Below W0.heap.size W0 W1 := by rw [hW1]; exact (Below.refl _ _).alloc (Nat.le_refl _) _
      have hm1 : MapIsJ W0.heap.size [] 0 W1 := by rw [hW1]; exact heap_alloc_new W0 _
      have hmp1 : W0.heap.size < W1.heap.size := mapIsJ_lt hm1
      obtain ⟨mp, hmp⟩ : ∃ mp, mp = W0.heap.size := ⟨_, rfl⟩
      obtain ⟨V, hV⟩ : ∃ V, V = foldD (fV x) T := ⟨_, rfl⟩
      have hVl : V.length ≤ 120 := by rw [hV]; exact fold_small _ (fV_len x) TL2.out
      have CV := Lib.hid (show Calls Tryz.prog 12 #[.pointer (some ⟨b, 0, none⟩), .string (bs x)] W1 (NewS W1 V) from by rw [hV]; exact told_values (TL2.out.on (bT.trans (b1.mono bT.size))) x)
      have VN := Lib.hid (show (partsU T x V).Nodup by rw [hV]; exact vparts_nodup TL2.out x)
      have VL0 := Lib.hid (show (partsU T x V).length = cntT x T by rw [hV]; exact vparts_len TL2.out x)
      have VS := Lib.hid (fun (y : List UInt8) (hy : y ∈ V) => show foldD (fG x y) T ≠ [] from by rw [hV] at hy; exact vparts_some x y hy)
      have HB := Lib.hid hb
      have BT := Lib.hid bT
      have B01 := Lib.hid b1
      have HM1 := Lib.hid hm1
      have HMP := Lib.hid hmp
      rw [hW1] at CV
      rw [← hmp] at HM1 hmp1
      have hmpw : w2.heap.size ≤ mp := by rw [hmp]; exact bT.size
      have HW1 := Lib.hid hW1
      obtain ⟨VL, hVL⟩ : ∃ VL, VL = V.length := ⟨_, rfl⟩
      have HVL := Lib.hid hVL
      rw [← hVL] at hVl
      clear hx hb bT b1 hm1 hV hW1 hVL hmp
      go_wp2_with fail
      refine CV.out.mono ?_
      rintro e w4 ⟨v4, rfl, s4, b4⟩
      rw [← HW1.out] at s4 b4
      rw [← HMP.out]
      rw [← HVL.out] at s4
      obtain ⟨a4, c4, rfl⟩ := s4.slice
      have SJ4 := Lib.hid ((SeenJ.new HM1.out).turn (S := fun _ => False) (Turn.of_below b4) id)
      have S4 := Lib.hid s4
      have BT4 := Lib.hid (show Below w2.heap.size w2 w4 from BT.out.trans ((B01.out.trans (b4.mono B01.out.size)).mono BT.out.size))
      have B04 := Lib.hid (show Below W0.heap.size W0 w4 from B01.out.trans (b4.mono B01.out.size))
      have hz4 := b4.size
      clear s4 b4 CV c0
      go_wp2_with fail
      go_loopw [43] (fun i' wr => ∃ (i2 : Nat), i' = .int .i64 i2 ∧ i2 ≤ VL ∧ Hid (SeenJ mp (partsU T x (V.take i2)) wr ∧ Turn (fun k => k = mp) w4 wr)) (fun i' _ => VL - (RowKit.intOf i').toNat)
      case atStart => exact ⟨0, rfl, by omega, Lib.hid ⟨SJ4.out, Turn.refl _ _⟩⟩
      case round =>
        obtain ⟨WA, rfl⟩ : ∃ WA, WA = wr := ⟨_, rfl⟩
        obtain ⟨i2, rfl, hi2, hst⟩ := hrel
        obtain ⟨sj, tA⟩ := hst.out
        by_cases hlt2 : i2 < VL
        · obtain ⟨g4, o4, k4, e4, hb4, -, -⟩ := S4.out.somewhere (by omega)
          have hg4 : g4 < w4.heap.size := by have := S4.out; rw [e4] at this; exact (this.lt g4 rfl).2
          cases e4
          obtain ⟨y, hy⟩ : ∃ y, V[i2]? = some y := ⟨V[i2]'(by have := HVL.out; omega), List.getElem?_eq_getElem (by have := HVL.out; omega)⟩
          have c1 := (tA.cell (p := ⟨g4, o4 + i2, none⟩) hg4 (by show ¬ g4 = mp; omega)).trans (sl_text S4.out i2 y hy)
          have hil2 : (i2 : Int) < VL := by omega
          have bA : Below w2.heap.size w2 WA := BT4.out.trans (tA.below BT4.out.size fun k hk => by omega)
          obtain ⟨G, hG⟩ : ∃ G, G = foldD (fG x y) T := ⟨_, rfl⟩
          have hGl : G.length ≤ 120 := by rw [hG]; exact fold_small _ (fG_len x y) TL2.out
          have hG0 : G ≠ [] := by rw [hG]; exact VS.out y (List.mem_of_getElem? hy)
          have CG := Lib.hid (show Calls Tryz.prog 9 #[.pointer (some ⟨b, 0, none⟩), .string (bs x), .string (bs y)] WA (NewN WA G) from by rw [hG]; exact told_get (TL2.out.on bA) x y)
          obtain ⟨GL, hGL⟩ : ∃ GL, GL = G.length := ⟨_, rfl⟩
          have hGL0 : 0 < GL := by rw [hGL]; exact List.length_pos_iff.2 hG0
          have hGeq : ((GL : Int) == 0) = false := by rw [beq_eq_false_iff_ne]; omega
          rw [← hGL] at hGl
          have HGL := Lib.hid hGL
          have HGd := Lib.hid hG
          have SJ := Lib.hid sj
          have TA := Lib.hid tA
          have HY := Lib.hid hy
          have hmpA := sj.lt
          clear sj tA hst bA hG hGL hG0 hy
          go_wp2_with fail
          refine CG.out.mono ?_
          rintro e w5 ⟨v5, rfl, s5, b5⟩
          rw [← HGL.out] at s5
          obtain ⟨a5, c5, rfl⟩ := s5.slice
          have S5 := Lib.hid s5
          have SJ5 := Lib.hid (SJ.out.turn (S := fun _ => False) (Turn.of_below b5) id)
          have T5 := Lib.hid (show Turn (fun k => k = mp) w4 w5 from TA.out.trans (Turn.of_below b5))
          clear s5 b5 CG c1
          go_wp2_with fail
          go_loopw [56] (fun i' wr => ∃ (j : Nat), i' = .int .i64 j ∧ j ≤ GL ∧ Hid (SeenJ mp (partsU T x (V.take i2) ++ G.take j) wr ∧ Turn (fun k => k = mp) w5 wr)) (fun i' _ => GL - (RowKit.intOf i').toNat)
          case atStart => exact ⟨0, rfl, by omega, Lib.hid ⟨by rw [List.take_zero, List.append_nil]; exact SJ5.out, Turn.refl _ _⟩⟩
          case round =>
            obtain ⟨WB, rfl⟩ : ∃ WB, WB = wr := ⟨_, rfl⟩
            obtain ⟨j, rfl, hj, hst⟩ := hrel
            obtain ⟨sj, tB⟩ := hst.out
            by_cases hlt3 : j < GL
            · obtain ⟨g5, o5, k5, e5, hb5, -, -⟩ := S5.out.somewhere (by omega)
              have hg5 : g5 < w5.heap.size := by have := S5.out; rw [e5] at this; exact (this.lt g5 rfl).2
              cases e5
              obtain ⟨n, hn⟩ : ∃ n, G[j]? = some n := ⟨G[j]'(by have := HGL.out; omega), List.getElem?_eq_getElem (by have := HGL.out; omega)⟩
              have c2 := (tB.cell (p := ⟨g5, o5 + j, none⟩) hg5 (by show ¬ g5 = mp; omega)).trans (sl_num S5.out j n hn)
              have hnew : n ∉ partsU T x (V.take i2) ++ G.take j := by
                have h1 := vparts_new (T := T) (x := x) VN.out HY.out (j := j) (n := n) (by rw [← HGd.out]; exact hn)
                rw [← HGd.out] at h1; exact h1
              obtain ⟨WC, l1, st, tC, sC⟩ := sj.step hnew
              have hil3 : (j : Int) < GL := by omega
              have FF := Lib.hid (show SeenJ mp (partsU T x (V.take i2) ++ G.take (j + 1)) WC ∧ Turn (fun k => k = mp) w5 WC from ⟨by rw [List.take_add_one, hn, ← List.append_assoc]; exact sC, tB.trans tC⟩)
              clear sj tB hst hn hnew tC sC
              go_wp2_with fail
              exact ⟨⟨j + 1, by simp, by omega, Lib.hid FF.out⟩, by simp [RowKit.intOf]; omega⟩
            · have hil3 : ¬ (j : Int) < GL := by omega
              have FF := Lib.hid (show SeenJ mp (partsU T x (V.take (i2 + 1))) WB ∧ Turn (fun k => k = mp) w4 WB from ⟨by
                rw [show G.take j = G from List.take_of_length_le (by have := HGL.out; omega)] at sj
                rw [partsU_take HY.out, ← HGd.out]
                exact sj, T5.out.trans tB⟩)
              clear sj tB hst
              go_wp2_with fail
              exact ⟨⟨i2 + 1, by simp, by omega, Lib.hid FF.out⟩, by simp [RowKit.intOf]; omega⟩
        · have hil2 : ¬ (i2 : Int) < VL := by omega
          have SJ6 := Lib.hid (show SeenJ mp (partsU T x V) WA by rw [List.take_of_length_le (by have := HVL.out; omega)] at sj; exact sj)
          have bA : Below w2.heap.size w2 WA := BT4.out.trans (tA.below BT4.out.size fun k hk => by omega)
          have RD6 := Lib.hid (RD2.out.on bA)
          have B6 := Lib.hid (show Below w3.heap.size w3 WA from HB.out.trans ((B04.out.trans (tA.below B04.out.size fun k hk => by have := HMP.out; omega)).mono HB.out.size))
          clear sj tA hst bA SJ4 S4
          go_wp2_with fail
          go_loopw [13, 68] (fun h' i' wr => ∃ (i3 c : Nat), i' = .int .i64 i3 ∧ h' = .int .i64 c ∧ i3 ≤ N ∧ c ≤ 10 * i3 ∧ Hid (c = cntT x (T.take i3)) ∧ Below WA.heap.size WA wr) (fun _ i' _ => N - (RowKit.intOf i').toNat)
          case atStart => exact ⟨0, 0, rfl, rfl, by omega, by omega, Lib.hid rfl, Below.refl _ _⟩
          case round =>
            obtain ⟨WD, rfl⟩ : ∃ WD, WD = wr := ⟨_, rfl⟩
            obtain ⟨i3, c, rfl, rfl, hi3, hc10, hc, hbD⟩ := hrel
            by_cases hlt3 : i3 < N
            · obtain ⟨q, hq⟩ : ∃ q, qs[i3]? = some q := ⟨qs[i3]'(by have := HN.out; omega), List.getElem?_eq_getElem (by have := HN.out; omega)⟩
              have R0 := (show TdR WD _ qs from RD6.out.on hbD)
              obtain ⟨g, off, cap', pa, pc, he, hqv, hgl9, r0, r1⟩ := R0.at_ hq
              rw [← HN.out] at he
              cases he
              obtain ⟨hprd, hpl⟩ := R0.each q (List.mem_of_getElem? hq)
              rw [hqv] at hprd
              obtain ⟨K, hK⟩ : ∃ K, K = q.ps.length := ⟨_, rfl⟩
              have HTI := Lib.hid (show T[i3]? = some q.sr by rw [← HTQ.out, List.getElem?_map, hq]; rfl)
              have HPR := Lib.hid hprd
              rw [← hK] at r1 hpl
              have HK := Lib.hid hK
              obtain ⟨qn, hqn⟩ : ∃ qn, qn = q.n := ⟨_, rfl⟩
              rw [← hqn] at r0
              have HC := Lib.hid hc.out
              have HBD := Lib.hid hbD
              have hil3 : (i3 : Int) < N := by omega
              obtain ⟨WE, hWE⟩ : ∃ WE, WE = WD.alloc (.cells #[.int .i64 qn, .slice pa K pc] 31) := ⟨_, rfl⟩
              have bE : Below WD.heap.size WD WE := by rw [hWE]; exact (Below.refl _ _).alloc (Nat.le_refl _) _
              have BE := Lib.hid bE
              have HWE := Lib.hid hWE
              clear hq hqv hprd hK hqn hc hbD hWE bE R0
              go_wp2_with fail
              rw [← HWE.out]
              go_loopw [13, 75] (fun h' i' wr => ∃ (j c2 : Nat), i' = .int .i64 j ∧ h' = .int .i64 c2 ∧ j ≤ K ∧ c2 ≤ c + j ∧ Hid (c2 = c + cntP x (q.ps.take j)) ∧ Below WE.heap.size WE wr) (fun _ i' _ => K - (RowKit.intOf i').toNat)
              case atStart => exact ⟨0, c, rfl, rfl, by omega, by omega, Lib.hid rfl, Below.refl _ _⟩
              case round =>
                obtain ⟨WF, rfl⟩ : ∃ WF, WF = wr := ⟨_, rfl⟩
                obtain ⟨j, c2, rfl, rfl, hj, hcj, hc2, hbF⟩ := hrel
                have hbDF : Below WD.heap.size WD WF := BE.out.trans (hbF.mono BE.out.size)
                by_cases hjk : j < K
                · obtain ⟨p, hp⟩ : ∃ p, q.ps[j]? = some p := ⟨q.ps[j]'(by have := HK.out; omega), List.getElem?_eq_getElem (by have := HK.out; omega)⟩
                  obtain ⟨g2, off2, rfl, hg2, p0, p1⟩ := (HPR.out.on hbDF).pr_at hp
                  have hji : (j : Int) < K := by omega
                  have HP1 := Lib.hid (show cntP x (q.ps.take (j + 1)) = cntP x (q.ps.take j) + (if p.n = x then 1 else 0) by rw [List.take_add_one, hp]; exact cntP_snoc x _ p)
                  have HC2 := Lib.hid hc2.out
                  obtain ⟨WG, hWG⟩ : ∃ WG, WG = WF.alloc (.cells #[.string (bs p.n), .string (bs p.v)] 34) := ⟨_, rfl⟩
                  have BG := Lib.hid (show Below WE.heap.size WE WG from hbF.trans (((show Below WF.heap.size WF WG by rw [hWG]; exact (Below.refl _ _).alloc (Nat.le_refl _) _)).mono hbF.size))
                  have HWG := Lib.hid hWG
                  clear hp hc2 hbF hbDF hWG
                  by_cases he1 : p.n = x
                  · have hbq : (p.n == x) = true := by simpa using he1
                    have HQ := Lib.hid (show c2 + 1 = c + cntP x (q.ps.take (j + 1)) by rw [HP1.out, if_pos he1, HC2.out]; omega)
                    clear he1
                    go_wp2_with fail
                    rw [← HWG.out]
                    exact ⟨⟨j + 1, c2 + 1, by simp, by simp, by omega, by omega, Lib.hid HQ.out, BG.out⟩, by simp [RowKit.intOf]; omega⟩
                  · have hbq : (p.n == x) = false := by simpa using he1
                    have HQ := Lib.hid (show c2 = c + cntP x (q.ps.take (j + 1)) by rw [HP1.out, if_neg he1, HC2.out]; omega)
                    clear he1
                    go_wp2_with fail
                    rw [← HWG.out]
                    exact ⟨⟨j + 1, c2, by simp, rfl, by omega, by omega, Lib.hid HQ.out, BG.out⟩, by simp [RowKit.intOf]; omega⟩
                · have hjk2 : ¬ (j : Int) < K := by omega
                  have HQ := Lib.hid (show c2 = cntT x (T.take (i3 + 1)) by
                    rw [List.take_add_one, HTI.out]
                    show c2 = cntT x (T.take i3 ++ [q.sr])
                    rw [cntT_snoc, ← HC.out, hc2.out, List.take_of_length_le (by have := HK.out; omega)]; rfl)
                  have BB := Lib.hid (HBD.out.trans (hbDF.mono HBD.out.size))
                  clear hc2 hbF hbDF
                  go_wp2_with fail
                  exact ⟨⟨i3 + 1, c2, by simp, rfl, by omega, by omega, Lib.hid HQ.out, BB.out⟩, by simp [RowKit.intOf]; omega⟩
            · obtain rfl : i3 = N := by omega
              have hil3 : ¬ (i3 : Int) < i3 := by omega
              have HCU := Lib.hid (show c = (partsU T x V).length by rw [hc.out, List.take_of_length_le (by have := HTL.out; omega)]; exact VL0.out.symm)
              have sjD := SJ6.out.turn (S := fun _ => False) (Turn.of_below hbD) id
              have SJD := Lib.hid sjD
              obtain ⟨es0, ck, hmD, hkU, hbn⟩ := sjD
              obtain ⟨es, hes⟩ : ∃ es : Array MapEntry, es = ((es0.map NEn.en).map EnJ.ent).toArray := ⟨_, rfl⟩
              have hmh : WD.heap[mp]? = some (.map es ck) := by rw [hes]; exact hmD
              have hrg := run_range_map (P := Tryz.prog) WD 47 3 3 mp es ck Tryz.underlying47 hmh
              have HMH := Lib.hid hmh
              have HMPD := Lib.hid (mapIsJ_lt hmD)
              have HOLD := Lib.hid (show ∀ x ∈ es.toList, x.born < ck by
                rw [hes]
                intro z hz
                simp only [List.mem_map] at hz
                obtain ⟨y, ⟨u, hu, rfl⟩, rfl⟩ := hz
                exact hbn.1 u hu)
              have HBN := Lib.hid (show (es.toList.map (·.born)).Nodup by
                rw [hes]
                have e2 : (((es0.map NEn.en).map EnJ.ent).toArray.toList.map (·.born)) = es0.map NEn.born := by
                  simp only [List.map_map]
                  exact List.map_congr_left fun a _ => rfl
                rw [e2]; exact hbn.2)
              have HVAL := Lib.hid (show ∀ x ∈ es.toList, x.val = .int .i64 1 by
                rw [hes]
                intro z hz
                simp only [List.mem_map] at hz
                obtain ⟨y, ⟨u, hu, rfl⟩, rfl⟩ := hz
                rfl)
              have HBD := Lib.hid hbD
              clear hc hmD hkU hbn hes hmh hbD SJ6 RD6
              go_wp2_with fail
              go_loopw [19] (fun l' wr => Hid (∃ seen c9, wr.heap[WD.heap.size]? = some (.mapIter (some mp) ck seen c9) ∧ ck ≤ c9 ∧ Below WD.heap.size WD wr)) (fun _ wr => leftAt es WD.heap.size wr)
              case atStart => exact Lib.hid ⟨_, _, heap_alloc_new WD _, Nat.le_refl _, (Below.refl _ _).alloc (Nat.le_refl _) _⟩
              case round =>
                obtain ⟨WH, rfl⟩ : ∃ WH, WH = wr := ⟨_, rfl⟩
                obtain ⟨seen, c9, hit, hck, hbH⟩ := hrel.out
                have hmr : WH.heap[mp]? = some (.map es ck) := (hbH.block mp HMPD.out).trans HMH.out
                rcases run_next_at (P := Tryz.prog) WH 0 WD.heap.size mp ck c9 seen es ck hit hmr HOLD.out hck with ⟨hz, hn⟩ | ⟨e, hmem, w9, hw9, hn⟩
                · have hl := (SJD.out.turn (S := fun _ => False) (Turn.of_below hbH) id).len 3
                  rw [← HCU.out] at hl
                  have HBH := Lib.hid (B6.out.trans ((HBD.out.trans (hbH.mono HBD.out.size)).mono B6.out.size))
                  clear hrel hit hmr hz hbH
                  go_wp2_with fail
                  exact ⟨⟨i + 1, by simp, by omega, HBH.out⟩, by simp [RowKit.intOf]; omega⟩
                · have hval := HVAL.out e (mem_left hmem).1
                  rw [hval] at hn
                  have hsh := left_shrinks es seen e hmem
                  have heE := (mem_left hmem).1
                  obtain ⟨WI, hWI⟩ : ∃ WI, WI = setBlock w9 WD.heap.size (.mapIter (some mp) ck (seen.push e.born) ck) := ⟨_, rfl⟩
                  rw [← hWI] at hn
                  have hlt9 : WD.heap.size < WH.heap.size := (Array.getElem?_eq_some_iff.1 hit).1
                  have zI : WI.heap.size = WH.heap.size := by rw [hWI]; rcases hw9 with rfl | rfl <;> simp [setBlock]
                  have hrI : WI.heap[WD.heap.size]? = some (.mapIter (some mp) ck (seen.push e.born) ck) := by rw [hWI]; rcases hw9 with rfl | rfl <;> simp [setBlock, hlt9]
                  have hbI : ∀ k, k ≠ WD.heap.size → WI.heap[k]? = WH.heap[k]? := fun k hk => by
                    rw [hWI]
                    rcases hw9 with rfl | rfl
                    · simp [setBlock, Array.getElem?_setIfInBounds_ne (Ne.symm hk)]
                    · simp [setBlock, Array.getElem?_setIfInBounds_ne (Ne.symm hk)]; rfl
                  have hbel : Below WD.heap.size WD WI := by
                    refine ⟨?_, ?_, ?_, by have := hbH.size; omega, fun k hk => (hbI k (by omega)).trans (hbH.block k hk)⟩
                    all_goals rw [hWI]; rcases hw9 with rfl | rfl
                    · exact hbH.os
                    · exact hbH.os
                    · exact hbH.tape
                    · exact hbH.tape
                    · exact hbH.output
                    · exact hbH.output
                  have hen := run_entry_at (P := Tryz.prog) WI WD.heap.size mp ck seen es ck e hrI ((hbI mp (by have := HMPD.out; omega)).trans hmr) heE HBN.out
                  rw [hval] at hen
                  have HRI := Lib.hid (show ∃ seen c9, WI.heap[WD.heap.size]? = some (.mapIter (some mp) ck seen c9) ∧ ck ≤ c9 ∧ Below WD.heap.size WD WI from ⟨_, _, hrI, Nat.le_refl _, hbel⟩)
                  have HME := Lib.hid (show leftAt es WD.heap.size WI < leftAt es WD.heap.size WH by rw [leftAt_is hrI, leftAt_is hit]; exact hsh)
                  clear hrel hit hmr hmem hval hsh heE hw9 hWI zI hrI hbI hbel hbH hlt9
                  go_wp2_with fail
                  exact ⟨Lib.hid HRI.out, HME.out⟩
    · have hil : ¬ (i : Int) < NL := by omega
      have BB := Lib.hid (B2.out.trans ((B3.out.trans (hb.mono B3.out.size)).mono B2.out.size))
      clear hb
      go_wp2_with fail
      go_ret
      exact ⟨rfl, BB.out⟩
end Go.Proofs.YteheojiokbdgmaaGreatDoor
