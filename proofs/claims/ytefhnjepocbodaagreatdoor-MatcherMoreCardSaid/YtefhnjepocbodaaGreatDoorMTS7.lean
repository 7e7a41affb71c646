/- Layer 13: with one matcher more no more series are asked for: the law. -/
import Derived.Test.YtefhnjepocbodaaGreatDoorMTS5
import Derived.Test.YtefhnjepocbodaaGreatDoorMIYE
namespace Go.Proofs.YtefhnjepocbodaaGreatDoor
open Go.RowKit Go.Lib
set_option linter.unusedVariables false

theorem SeenJ.has {m : Nat} {U : List Int} {w : World} (h : SeenJ m U w) {n : Int} (hn : n ∈ U) :
    (Instr.lookup 43 (.map (some m)) (.int .i64 n) false).run Tryz.prog w = .ok (.int .i64 1) w := by
  obtain ⟨es, ck, h1, h2, h3⟩ := h
  have l1 := run_lookJ (P := Tryz.prog) Tryz.underlying43 Tryz.underlying3 (.int .i64 0) zv_int h1 n false
  rw [lookJ_map NEn.n NEn.en (fun _ => rfl)] at l1
  cases hl : lookK NEn.n n es with
  | none =>
    rw [← h2] at hn
    obtain ⟨e, he, rfl⟩ := List.mem_map.1 hn
    exact absurd rfl ((lookK_none NEn.n).1 hl e he)
  | some e =>
    rw [hl] at l1
    exact l1
theorem sl_num13 {w : World} {base g off n cap : Nat} {l : List Int} (h : Sl w base 1 (.slice (some ⟨g, off, none⟩) n cap) n (ic l)) (j : Nat) (x : Int) (hj : l[j]? = some x) : w.cell? ⟨g, off + j, none⟩ = some (.int .i64 x) := by
  have := h.cells j _ (ic_at l j x hj)
  rwa [Addr.add_lit] at this
theorem slice_ms (g off N cap k : Nat) (hN : N = k + 1) (hN3 : (N : Int) ≤ cap) : ∃ v' a' c', (∀ W, (Instr.slice 23 (.slice (some ⟨g, off, none⟩) N cap) (some (.int .i64 1)) none none).run Tryz.prog W = .ok v' W) ∧ v' = .slice a' k c' ∧ (0 < k → a' = some ⟨g, off + 3, none⟩) := by
  have hu := run_underlying Tryz.underlying23
  have hsz := Tryz.sizeOf59
  by_cases hcap : cap = 1
  · have hl0 : k = 0 := by omega
    have hN0 : N = 1 := by omega
    subst hcap hN0 hl0
    refine ⟨.slice (some ⟨g, off, none⟩) 0 0, some ⟨g, off, none⟩, 0, fun W => ?_, rfl, fun h => absurd h (by omega)⟩
    simp [Instr.slice, Instr.sliceBounds, go_sem, hu, hsz, Addr.add]
  · subst hN
    have hN2 : (1 : Int) ≤ ((k + 1 : Nat) : Int) := by omega
    refine ⟨.slice (some ⟨g, off + 3, none⟩) k (cap - 1), _, cap - 1, fun W => ?_, rfl, fun h => rfl⟩
    simp [Instr.slice, Instr.sliceBounds, go_sem, hu, hsz, hcap, Addr.add]
    omega
theorem mcs_cons (p : Mr × Value) (ms : List (Mr × Value)) (j : Nat) : (mcs (p :: ms))[3 + j]? = (mcs ms)[j]? := by
  have e : mcs (p :: ms) = .int .i64 p.1.k :: .string (bs p.1.n) :: p.2 :: mcs ms := rfl
  rw [e, Nat.add_comm]; rfl
theorem msr_tail {W : World} {g off cap c' : Nat} {a' : Option Addr} {p : Mr × Value} {ms : List (Mr × Value)} (h : MsR W (.slice (some ⟨g, off, none⟩) (ms.length + 1) cap) (p :: ms)) (ha : 0 < ms.length → a' = some ⟨g, off + 3, none⟩) :
    MsR W (.slice a' ms.length c') ms := by
  obtain ⟨_, a, cap2, g2, off2, e, hg, hc⟩ := h.r
  simp only [List.length_cons] at hg hc
  cases e
  obtain ⟨e2, hgl⟩ := hg (by omega)
  cases e2
  refine ⟨⟨mcs_len ms, a', c', g, off + 3, rfl, fun hn => ⟨ha hn, hgl⟩, fun j hj => ?_⟩, fun q hq => h.vs q (List.mem_cons_of_mem _ hq)⟩
  rw [Nat.add_assoc, hc (3 + j) (by omega), mcs_cons]

set_option maxHeartbeats 4000000 in
set_option maxRecDepth 100000 in
theorem mmore_any (a0 : Option Addr) (len0 cap0 : Nat) (zs : List Oi) (a1 : Option Addr) (len1 cap1 : Nat) (ys : List Om) (w : World) (h : OsR w a0 len0 zs) (w1 : OmR w a1 len1 ys) :
    Calls Tryz.prog 4 #[.slice a0 len0 cap0, .slice a1 len1 cap1] w fun e w' => e = .returned (.bool true) ∧ Below w.heap.size w w' := by
  have hT := bs_toList
  have hmm := @run_makeMap Tryz.prog
  have GROW := Lib.hid (grow12_any a0 len0 cap0 zs w h)
  have hzl := h.hl
  have HPS := Lib.hid h.ps
  have FW := Lib.hid (fun W (b : Below w.heap.size w W) => few13_any a1 len1 cap1 ys W (w1.on b))
  have AW := Lib.hid (fun W => awake13_any W)
  have HZL := Lib.hid (show zs.length ≤ 12 by omega)
  clear h hzl w1
  go_enter Tryz.func4, Tryz.ntmps4
  go_wp2_with fail
  refine GROW.out.mono ?_
  rintro e w1 ⟨b, mh, ml, tv, rfl, hG⟩
  obtain ⟨T, qs, t1, r1, hTq, b1⟩ := gst_told hG HZL.out (fun z hz => by rw [(HPS.out z hz).2.1]; omega)
  have TL1 := Lib.hid t1
  have B1 := Lib.hid b1
  have hfew := t1.few
  obtain ⟨N, hN⟩ : ∃ N, N = qs.length := ⟨_, rfl⟩
  obtain ⟨_, ta, tcap, tg, toff, rfl, _, _⟩ := r1.rd
  have hTl : T.length = N := by rw [← hTq, List.length_map, hN]
  rw [← hN]
  have HTL := Lib.hid hTl
  have hN12 : N ≤ 12 := by omega
  clear hG t1 r1 hTq b1 GROW HPS HZL hfew hN hTl
  go_wp2_with fail
  refine (FW.out _ B1.out).mono ?_
  rintro e w2 ⟨v1, v2, ms, rfl, F1, hml⟩
  have TL2 := Lib.hid (TL1.out.on F1.b)
  have B2 := Lib.hid (B1.out.trans (F1.b.mono B1.out.size))
  cases ms with
  | nil =>
    obtain ⟨b1a, b1c, rfl⟩ := F1.s1.slice
    obtain ⟨b2a, b2c, rfl⟩ := F1.s2.slice
    clear F1 TL1 B1 FW
    rw [List.length_nil]
    go_wp2_with fail
    refine (AW.out _).mono ?_
    rintro e w3 ⟨rfl, b3⟩
    have B3 := Lib.hid (B2.out.trans (b3.mono B2.out.size))
    clear b3
    go_wp2_with fail
    refine (AW.out _).mono ?_
    rintro e w4 ⟨rfl, b4⟩
    have B4 := Lib.hid (B3.out.trans (b4.mono B3.out.size))
    clear b4
    go_wp2_with fail
    go_ret
    exact ⟨rfl, B4.out⟩
  | cons p ms =>
    obtain ⟨g, off, cap, e1, -, hcap, -⟩ := F1.s1.somewhere (by simp)
    obtain ⟨b2a, b2c, rfl⟩ := F1.s2.slice
    subst e1
    obtain ⟨n, hn⟩ : ∃ n, n = ms.length := ⟨_, rfl⟩
    have M1 := F1.r1S
    rw [List.length_cons, ← hn] at M1 hcap hml ⊢
    obtain ⟨v', a', c', hsl, rfl, ha'⟩ := slice_ms g off (n + 1) cap n rfl (by omega)
    have HM1 := Lib.hid M1
    have HM2 := Lib.hid (show MsR w2 (.slice a' n c') ms from by rw [hn] at M1 ha' ⊢; exact msr_tail M1 ha')
    have HN := Lib.hid hn
    have hn0 : (((n + 1 : Nat) : Int) == 0) = false := by rw [beq_eq_false_iff_ne]; omega
    clear F1 TL1 B1 FW M1 ha' hn
    go_wp2_with fail
    refine (AW.out _).mono ?_
    rintro e w3 ⟨rfl, b3⟩
    have TL3 := Lib.hid (TL2.out.on b3)
    have HM13 := Lib.hid (HM1.out.on b3)
    have HM23 := Lib.hid (HM2.out.on b3)
    have B3 := Lib.hid (B2.out.trans (b3.mono B2.out.size))
    obtain ⟨RA, hRA⟩ : ∃ RA, RA = selN T (ms.map (·.1)) := ⟨_, rfl⟩
    obtain ⟨RS, hRS⟩ : ∃ RS, RS = selN T ((p :: ms).map (·.1)) := ⟨_, rfl⟩
    have SM := sel_more T p.1 (ms.map (·.1))
    have hTf := TL3.out.few
    have S1 := Lib.hid (show Calls Tryz.prog 9 #[.pointer (some ⟨b, 0, none⟩), .slice a' n c'] w3 (NewN w3 RA) from by rw [hRA]; exact select13_any (.slice a' n c') ms w3 TL3.out HM23.out (by have := HN.out; omega))
    have S2 := Lib.hid (fun W (bb : Below w3.heap.size w3 W) => show Calls Tryz.prog 9 #[.pointer (some ⟨b, 0, none⟩), .slice (some ⟨g, off, none⟩) (n + 1) cap] W (NewN W RS) from by rw [hRS]; exact select13_any (.slice (some ⟨g, off, none⟩) (n + 1) cap) (p :: ms) W (TL3.out.on bb) (HM13.out.on bb) (by rw [List.length_cons]; have := HN.out; omega))
    have nd : ∀ {l : List Int}, Up l → l.Nodup := fun h => h.imp (fun h => Int.ne_of_lt h)
    have HND := Lib.hid (show RA.Nodup by rw [hRA]; exact nd (sel_up T _))
    have HSUB := Lib.hid (show ∀ x ∈ RS, x ∈ RA by rw [hRA, hRS]; exact SM.1)
    obtain ⟨NA, hNA⟩ : ∃ NA, NA = RA.length := ⟨_, rfl⟩
    obtain ⟨NS, hNS⟩ : ∃ NS, NS = RS.length := ⟨_, rfl⟩
    have hle1 : NS ≤ NA := by rw [hNA, hNS, hRA, hRS]; exact SM.2.1
    have hle2 : NA ≤ N := by rw [hNA, hRA]; have := SM.2.2; have := HTL.out; omega
    have HNA := Lib.hid hNA
    have HNS := Lib.hid hNS
    clear b3 B2 TL2 TL3 HM1 HM2 HM13 HM23 SM hRA hRS nd hNA hNS hTf
    go_wp2_with fail
    refine S1.out.mono ?_
    rintro e w4 ⟨v4, rfl, s4, b4⟩
    rw [← HNA.out] at s4
    obtain ⟨a4, c4, rfl⟩ := s4.slice
    have S4 := Lib.hid s4
    have B4 := Lib.hid b4
    clear s4 b4 S1 hsl
    go_wp2_with fail
    refine (S2.out _ B4.out).mono ?_
    rintro e w5 ⟨v5, rfl, s5, b5⟩
    rw [← HNS.out] at s5
    obtain ⟨a5, c5, rfl⟩ := s5.slice
    have S45 := Lib.hid (S4.out.on b5)
    have S5 := Lib.hid s5
    have B5 := Lib.hid (B3.out.trans ((B4.out.trans (b5.mono B4.out.size)).mono B3.out.size))
    have hz5 := B5.out.size
    clear s5 b5 S2 B4 S4 B3
    obtain ⟨w6, hw6⟩ : ∃ w6, w6 = w5.alloc (.map #[] 0) := ⟨_, rfl⟩
    have hm6 : MapIsJ w5.heap.size [] 0 w6 := by rw [hw6]; exact heap_alloc_new w5 _
    have b6 : Below w5.heap.size w5 w6 := by rw [hw6]; exact (Below.refl _ _).alloc (Nat.le_refl _) _
    have S46 := Lib.hid (S45.out.on b6)
    have S56 := Lib.hid (S5.out.on b6)
    have S45c := Lib.hid S45.out
    have S55 := Lib.hid S5.out
    have hz6 : w6.heap.size = w5.heap.size + 1 := by rw [hw6]; simp
    have SJ0 := Lib.hid (SeenJ.new hm6)
    have B6 := Lib.hid (B5.out.trans (b6.mono hz5))
    have HW6 := Lib.hid hw6
    clear hm6 b6 hw6 S45 S5
    obtain ⟨mp, hmp⟩ : ∃ mp, mp = w5.heap.size := ⟨_, rfl⟩
    rw [← hmp] at SJ0 hz6
    have HMP := Lib.hid hmp
    clear hmp
    go_wp2_with fail
    rw [← HW6.out, ← HMP.out]
    go_loopw [48] (fun i' wr => ∃ (i : Nat), i' = .int .i64 i ∧ i ≤ NA ∧ Hid (SeenJ mp (RA.take i) wr ∧ Turn (fun k => k = mp) w6 wr)) (fun i' _ => NA - (RowKit.intOf i').toNat)
    case atStart => exact ⟨0, rfl, by omega, Lib.hid ⟨SJ0.out, Turn.refl _ _⟩⟩
    case round =>
      obtain ⟨WA, rfl⟩ : ∃ WA, WA = wr := ⟨_, rfl⟩
      obtain ⟨i, rfl, hi, hst⟩ := hrel
      obtain ⟨sj, tA⟩ := hst.out
      by_cases hlt : i < NA
      · obtain ⟨g4, o4, k4, e4, hb4, -, -⟩ := S46.out.somewhere (by omega)
        have hg4 : g4 < w5.heap.size := by have := S45c.out; rw [e4] at this; exact (this.lt g4 rfl).2
        cases e4
        obtain ⟨x, hx⟩ : ∃ x, RA[i]? = some x := ⟨RA[i]'(by have := HNA.out; omega), List.getElem?_eq_getElem (by have := HNA.out; omega)⟩
        have c1 := (tA.cell (p := ⟨g4, o4 + i, none⟩) (by have := HMP.out; show g4 < _; omega) (by have := HMP.out; show ¬ g4 = mp; omega)).trans (sl_num13 S46.out i x hx)
        have hnew : x ∉ RA.take i := fun hm => by
          have h1 := List.mem_iff_getElem?.1 hm
          obtain ⟨j, hj⟩ := h1
          have hjl := (List.getElem?_eq_some_iff.1 hj).1
          rw [List.length_take] at hjl
          rw [List.getElem?_take_of_lt (by omega)] at hj
          have h2 := (List.getElem?_inj (by have := HNA.out; omega) HND.out).1 (hj.trans hx.symm)
          omega
        obtain ⟨WC, l1, st, tC, sC⟩ := sj.step hnew
        have hil : (i : Int) < NA := by omega
        have FF := Lib.hid (show SeenJ mp (RA.take (i + 1)) WC ∧ Turn (fun k => k = mp) w6 WC from ⟨by rw [List.take_add_one, hx]; exact sC, tA.trans tC⟩)
        clear sj tA hst hx hnew tC sC
        go_wp2_with fail
        exact ⟨⟨i + 1, by simp, by omega, Lib.hid FF.out⟩, by simp [RowKit.intOf]; omega⟩
      · have hil : ¬ (i : Int) < NA := by omega
        have SJA := Lib.hid (show SeenJ mp RA WA by rw [show RA.take i = RA from List.take_of_length_le (by have := HNA.out; omega)] at sj; exact sj)
        have S5A := Lib.hid (show Sl WA w4.heap.size 1 (.slice a5 NS c5) NS (ic RS) from S56.out.same tA.size fun k hk => tA.block k (S56.out.lt k hk).2 (by have := (S55.out.lt k hk).2; have := HMP.out; show ¬ k = mp; omega))
        have BA := Lib.hid (show Below w.heap.size w WA from B6.out.trans (tA.below B6.out.size fun k hk => by have := HMP.out; omega))
        clear sj tA hst SJ0
        go_wp2_with fail
        go_loopw [59] (fun i' wr => ∃ (i : Nat), i' = .int .i64 i ∧ i ≤ NS ∧ wr = WA) (fun i' _ => NS - (RowKit.intOf i').toNat)
        case atStart => exact ⟨0, rfl, by omega, rfl⟩
        case round =>
          obtain ⟨i2, rfl, hi2, rfl⟩ := hrel
          by_cases hlt2 : i2 < NS
          · obtain ⟨g5, o5, k5, e5, hb5, -, -⟩ := S5A.out.somewhere (by omega)
            cases e5
            obtain ⟨x, hx⟩ : ∃ x, RS[i2]? = some x := ⟨RS[i2]'(by have := HNS.out; omega), List.getElem?_eq_getElem (by have := HNS.out; omega)⟩
            have c1 := sl_num13 S5A.out i2 x hx
            have l1 := SJA.out.has (HSUB.out x (List.mem_of_getElem? hx))
            have hil2 : (i2 : Int) < NS := by omega
            clear hx
            go_wp2_with fail
            exact ⟨⟨i2 + 1, by simp, by omega, trivial⟩, by simp [RowKit.intOf]; omega⟩
          · have hil2 : ¬ (i2 : Int) < NS := by omega
            have hq1 : (NS : Int) ≤ NA := by omega
            have hq2 : (NA : Int) ≤ N := by omega
            go_wp2_with fail
            go_ret
            exact ⟨rfl, BA.out⟩
end Go.Proofs.YtefhnjepocbodaaGreatDoor
