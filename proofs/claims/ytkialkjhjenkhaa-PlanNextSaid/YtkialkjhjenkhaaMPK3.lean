/- Layer 20: same, of plans that are the same. -/
import Derived.Test.YtkialkjhjenkhaaMPK2
import Derived.Test.YtkialkjhjenkhaaMMR
namespace Go.Proofs.Ytkialkjhjenkhaa
open Go.RowKit Go.Lib
set_option linter.unusedVariables false

theorem cell_at {w : World} {b : Nat} {cs : Array Value} {T : TypeId} {f : Nat × Nat} (h : w.heap[b]? = some (.cells cs T f)) (k : Nat) {x : Value} (hx : cs[k]? = some x) : w.cell? ⟨b, k, none⟩ = some x := (Lib.cell_of_heap h k).trans hx
set_option maxHeartbeats 8000000 in
set_option maxRecDepth 100000 in
theorem psame_any (fr to lv : Int) (v v' : Value) (s s2 : List Mq) (w : World) (h : MsR w v s) (h2 : MsR w v' s2) (hm : s.map Mq.m = s2.map Mq.m) (hl : s.length ≤ 1000) :
    Calls Try.prog 11 #[planV fr to lv v, planV fr to lv v'] w fun e w' => e = .returned (.bool true) ∧ Below w.heap.size w w' := by
  have hlen : s2.length = s.length := by have := congrArg List.length hm; simpa using this.symm
  have HH := Lib.hid h; have H2 := Lib.hid h2; have HM := Lib.hid hm
  obtain ⟨_, ap, cp, gp, op, rfl, hgp, hcp⟩ := h.rd
  obtain ⟨_, ax, cx, gx, ox, rfl, hgx, hcx⟩ := h2.rd
  have HQ := Lib.hid (fun W (bb : Below w.heap.size w W) i q (hq : s[i]? = some q) (h0 : 0 < s.length) => mq_at hcp bb (hgp h0).2 i q hq)
  have HX := Lib.hid (fun W (bb : Below w.heap.size w W) i q (hq : s2[i]? = some q) (h0 : 0 < s2.length) => mq_at hcx bb (hgx h0).2 i q hq)
  have HGP := Lib.hid hgp; have HGX := Lib.hid hgx
  clear h h2 hgp hcp hgx hcx hm
  obtain ⟨N, hN⟩ : ∃ N, N = s.length := ⟨_, rfl⟩
  have HN := Lib.hid hN
  have HN2 := Lib.hid hlen
  rw [hlen]
  rw [← hN] at hl ⊢
  clear hN hlen
  unfold planV
  have R0 := Lib.hid (show ((w.alloc (.cells #[.int .i64 fr, .int .i64 to, .int .i64 lv, .slice ap N cp] 33)).alloc (.cells #[.int .i64 fr, .int .i64 to, .int .i64 lv, .slice ax N cx] 38)).heap[w.heap.size]? = some (.cells #[.int .i64 fr, .int .i64 to, .int .i64 lv, .slice ap N cp] 33) ∧ Below w.heap.size w ((w.alloc (.cells #[.int .i64 fr, .int .i64 to, .int .i64 lv, .slice ap N cp] 33)).alloc (.cells #[.int .i64 fr, .int .i64 to, .int .i64 lv, .slice ax N cx] 38)) from box_two w _ _)
  go_enter Try.func11, Try.ntmps11
  go_wp2_with fail
  go_loopw [38] (fun i' wr => ∃ i : Nat, i' = .int .i64 i ∧ i ≤ N ∧ Hid (wr.heap[w.heap.size]? = some (.cells #[.int .i64 fr, .int .i64 to, .int .i64 lv, .slice ap N cp] 33)) ∧ Below w.heap.size w wr) (fun i' _ => N - (RowKit.intOf i').toNat)
  case atStart => exact ⟨0, rfl, Nat.zero_le _, Lib.hid R0.out.1, R0.out.2⟩
  case round =>
    clear R0
    obtain ⟨W0, rfl⟩ : ∃ W0, W0 = wr := ⟨_, rfl⟩
    obtain ⟨i, rfl, hi, hpb, hb⟩ := hrel
    by_cases hlt : i < N
    · have hil : (i : Int) < N := by omega
      have hil0 : (0 : Int) ≤ i := by omega
      have hiw : IntKind.i64.wrap ((i : Int) + 1) = (i : Int) + 1 := IntWalk.i64_in _ (by omega)
      obtain ⟨q, hq⟩ : ∃ q, s[i]? = some q := ⟨_, List.getElem?_eq_getElem (by have := HN.out; omega)⟩
      obtain ⟨q2, hq2⟩ : ∃ q, s2[i]? = some q := ⟨_, List.getElem?_eq_getElem (by have := HN.out; have := HN2.out; omega)⟩
      have hqm : q2.m = q.m := by
        have e1 : (s.map Mq.m)[i]? = some q.m := by rw [List.getElem?_map, hq]; rfl
        have e2 : (s2.map Mq.m)[i]? = some q2.m := by rw [List.getElem?_map, hq2]; rfl
        rw [HM.out, e2] at e1
        exact Option.some.inj e1
      have mq0 := HH.out.ok q (List.mem_of_getElem? hq)
      have mx0 := H2.out.ok q2 (List.mem_of_getElem? hq2)
      obtain ⟨m, vf, vs⟩ := q
      obtain ⟨m2, vf2, vs2⟩ := q2
      simp only at hqm
      subst hqm
      replace mq0 : MeR w m2 vf vs := mq0
      replace mx0 : MeR w m2 vf2 vs2 := mx0
      obtain ⟨m, hmm⟩ : ∃ m, m = m2 := ⟨_, rfl⟩
      subst hmm
      obtain ⟨af, kf, rfl⟩ := rd_form mq0.1
      obtain ⟨az, kz, rfl⟩ := rd_form mq0.2.1
      obtain ⟨af2, kf2, rfl⟩ := rd_form mx0.1
      obtain ⟨az2, ks2, rfl⟩ := rd_form mx0.2.1
      obtain ⟨rfl, hgl⟩ := HGP.out (by have := HN.out; omega)
      obtain ⟨rfl, hxl⟩ := HGX.out (by have := HN.out; have := HN2.out; omega)
      have hqq := fun W (bb : Below w.heap.size w W) => HQ.out W bb i _ hq (by have := HN.out; omega)
      have hxx := HX.out W0 hb i _ hq2 (by have := HN.out; have := HN2.out; omega)
      have TD0 := fun W (hh : MeR W m (.slice af m.files.length kf) (.slice az m.src.length kz)) => told9_any m _ _ W hh
      have SA0 := fun vf W (h1 : MeR W m vf (.slice az m.src.length kz)) (h2 : MeR W m (.slice af2 m.files.length kf2) (.slice az2 m.src.length ks2)) => same9_refl m _ _ _ _ W h1 h2
      unfold ToldP at TD0
      unfold meV at TD0 SA0
      have MQ := Lib.hid mq0; have MX := Lib.hid mx0
      obtain ⟨nf, hnf⟩ : ∃ nf, nf = m.files.length := ⟨_, rfl⟩
      obtain ⟨ns, hns⟩ : ∃ ns, ns = m.src.length := ⟨_, rfl⟩
      rw [← hnf, ← hns] at MQ MX TD0 SA0 hxx
      unfold MqAt at hqq
      simp only at hqq
      rw [← hnf, ← hns] at hqq
      have TD := Lib.hid TD0; have SA := Lib.hid SA0
      have HNF := Lib.hid hnf
      obtain ⟨x0, x1, x2, x3, x4, x5, x6, x7⟩ := hxx
      simp only at x0 x1 x2 x3 x4 x5 x6 x7
      have hz0 : w.heap.size < W0.heap.size := (Array.getElem?_eq_some_iff.1 hpb.out).1
      have SX := Lib.hid (fun W (b : Below (W0.alloc (.cells #[.string (bs m.id), .int .i64 m.mn, .int .i64 m.mx, .int .i64 m.lv, .int .i64 m.se, .int .i64 m.sa, .slice af2 nf kf2, .slice az2 ns ks2] 67)).heap.size (W0.alloc (.cells #[.string (bs m.id), .int .i64 m.mn, .int .i64 m.mx, .int .i64 m.lv, .int .i64 m.se, .int .i64 m.sa, .slice af2 nf kf2, .slice az2 ns ks2] 67)) W) => show W.cell? ⟨w.heap.size, 3, none⟩ = some (.slice (some ⟨gp, op, none⟩) N cp) ∧ W.cell? ⟨gp, op + i * 8, none⟩ = some (.string (bs m.id)) ∧ W.cell? ⟨gp, op + i * 8 + 1, none⟩ = some (.int .i64 m.mn) ∧ W.cell? ⟨gp, op + i * 8 + 2, none⟩ = some (.int .i64 m.mx) ∧ W.cell? ⟨gp, op + i * 8 + 3, none⟩ = some (.int .i64 m.lv) ∧ W.cell? ⟨gp, op + i * 8 + 4, none⟩ = some (.int .i64 m.se) ∧ W.cell? ⟨gp, op + i * 8 + 5, none⟩ = some (.int .i64 m.sa) ∧ W.cell? ⟨gp, op + i * 8 + 6, none⟩ = some (.slice af nf kf) ∧ W.cell? ⟨gp, op + i * 8 + 7, none⟩ = some (.slice az ns kz) ∧ W.cell? ⟨W0.heap.size, 0, none⟩ = some (.string (bs m.id)) ∧ W.cell? ⟨W0.heap.size, 1, none⟩ = some (.int .i64 m.mn) ∧ W.cell? ⟨W0.heap.size, 2, none⟩ = some (.int .i64 m.mx) ∧ W.cell? ⟨W0.heap.size, 3, none⟩ = some (.int .i64 m.lv) ∧ W.cell? ⟨W0.heap.size, 4, none⟩ = some (.int .i64 m.se) ∧ W.cell? ⟨W0.heap.size, 5, none⟩ = some (.int .i64 m.sa) ∧ W.cell? ⟨W0.heap.size, 6, none⟩ = some (.slice af2 nf kf2) ∧ W.cell? ⟨W0.heap.size, 7, none⟩ = some (.slice az2 ns ks2) from by
        have e1 := (b.block w.heap.size (by simp; omega)).trans ((Below.heap_alloc W0 (.cells #[.string (bs m.id), .int .i64 m.mn, .int .i64 m.mx, .int .i64 m.lv, .int .i64 m.se, .int .i64 m.sa, .slice af2 nf kf2, .slice az2 ns ks2] 67) w.heap.size hz0).trans hpb.out)
        have e2 := (b.block W0.heap.size (by simp)).trans (heap_alloc_new W0 (.cells #[.string (bs m.id), .int .i64 m.mn, .int .i64 m.mx, .int .i64 m.lv, .int .i64 m.se, .int .i64 m.sa, .slice af2 nf kf2, .slice az2 ns ks2] 67))
        obtain ⟨y0, y1, y2, y3, y4, y5, y6, y7⟩ := hqq W ((hb.alloc hb.size (.cells #[.string (bs m.id), .int .i64 m.mn, .int .i64 m.mx, .int .i64 m.lv, .int .i64 m.se, .int .i64 m.sa, .slice af2 nf kf2, .slice az2 ns ks2] 67)).trans (b.mono (by simp; have := hb.size; omega)))
        exact ⟨Lib.cell_of_heap e1 3, y0, y1, y2, y3, y4, y5, y6, y7, cells8 e2⟩)
      have BW := Lib.hid (fun W (b : Below (W0.alloc (.cells #[.string (bs m.id), .int .i64 m.mn, .int .i64 m.mx, .int .i64 m.lv, .int .i64 m.se, .int .i64 m.sa, .slice af2 nf kf2, .slice az2 ns ks2] 67)).heap.size (W0.alloc (.cells #[.string (bs m.id), .int .i64 m.mn, .int .i64 m.mx, .int .i64 m.lv, .int .i64 m.se, .int .i64 m.sa, .slice af2 nf kf2, .slice az2 ns ks2] 67)) W) => show Below w.heap.size w W ∧ W.heap[w.heap.size]? = some (.cells #[.int .i64 fr, .int .i64 to, .int .i64 lv, .slice (some ⟨gp, op, none⟩) N cp] 33) from
        ⟨(hb.alloc hb.size (.cells #[.string (bs m.id), .int .i64 m.mn, .int .i64 m.mx, .int .i64 m.lv, .int .i64 m.se, .int .i64 m.sa, .slice af2 nf kf2, .slice az2 ns ks2] 67)).trans (b.mono (by simp; have := hb.size; omega)), (b.block w.heap.size (by simp; omega)).trans ((Below.heap_alloc W0 (.cells #[.string (bs m.id), .int .i64 m.mn, .int .i64 m.mx, .int .i64 m.lv, .int .i64 m.se, .int .i64 m.sa, .slice af2 nf kf2, .slice az2 ns ks2] 67) w.heap.size hz0).trans hpb.out)⟩)
      have B0 := Below.refl (W0.alloc (.cells #[.string (bs m.id), .int .i64 m.mn, .int .i64 m.mx, .int .i64 m.lv, .int .i64 m.se, .int .i64 m.sa, .slice af2 nf kf2, .slice az2 ns ks2] 67)).heap.size (W0.alloc (.cells #[.string (bs m.id), .int .i64 m.mn, .int .i64 m.mx, .int .i64 m.lv, .int .i64 m.se, .int .i64 m.sa, .slice af2 nf kf2, .slice az2 ns ks2] 67))
      have BX := Lib.cell_of_heap hpb.out 3
      have hpx := Lib.hid hpb.out
      clear hq hq2 mq0 mx0 hqq TD0 SA0 hnf hns hpb hz0 BX hlt hi
      go_upto_region 6 with fail
      have BQ := B0.drew
      clear x0 x1 x2 x3 x4 x5 x6 x7
      go_region_held3 (fun W => W.cell? ⟨w.heap.size, 3, none⟩ = some (.slice (some ⟨gp, op, none⟩) N cp) ∧ W.cell? ⟨gp, op + i * 8, none⟩ = some (.string (bs m.id)) ∧ W.cell? ⟨gp, op + i * 8 + 1, none⟩ = some (.int .i64 m.mn) ∧ W.cell? ⟨gp, op + i * 8 + 2, none⟩ = some (.int .i64 m.mx) ∧ W.cell? ⟨gp, op + i * 8 + 3, none⟩ = some (.int .i64 m.lv) ∧ W.cell? ⟨gp, op + i * 8 + 4, none⟩ = some (.int .i64 m.se) ∧ W.cell? ⟨gp, op + i * 8 + 5, none⟩ = some (.int .i64 m.sa) ∧ W.cell? ⟨gp, op + i * 8 + 6, none⟩ = some (.slice af nf kf) ∧ W.cell? ⟨gp, op + i * 8 + 7, none⟩ = some (.slice az ns kz) ∧ W.cell? ⟨W0.heap.size, 0, none⟩ = some (.string (bs m.id)) ∧ W.cell? ⟨W0.heap.size, 1, none⟩ = some (.int .i64 m.mn) ∧ W.cell? ⟨W0.heap.size, 2, none⟩ = some (.int .i64 m.mx) ∧ W.cell? ⟨W0.heap.size, 3, none⟩ = some (.int .i64 m.lv) ∧ W.cell? ⟨W0.heap.size, 4, none⟩ = some (.int .i64 m.se) ∧ W.cell? ⟨W0.heap.size, 5, none⟩ = some (.int .i64 m.sa) ∧ W.cell? ⟨W0.heap.size, 6, none⟩ = some (.slice af2 nf kf2) ∧ W.cell? ⟨W0.heap.size, 7, none⟩ = some (.slice az2 ns ks2))
        (first | (with_reducible refine SX.out _ ?_; assumption) | (with_reducible assumption) | fail)
        (first
          | (go_at_call 20; (with_reducible refine (TD.out _ (MQ.out.on (BW.out _ BQ).1)).mono ?_); rintro e w10 ⟨v10, rfl, s10, b10⟩; have B10 := BQ.trans (b10.mono BQ.size); have R10 : MeR w10 m v10 (.slice az ns kz) := ⟨by have h9 := Rd.of_sl s10; rw [HNF.out] at h9; exact h9, (MQ.out.on (BW.out _ B10).1).2.1, MQ.out.2.2⟩)
          | (go_at_call 25; (with_reducible refine (SA.out _ _ R10 (MX.out.on (BW.out _ B10).1)).mono ?_); rintro e w12 ⟨rfl, b12⟩; have B12 := B10.trans (b12.mono B10.size))
          | fail)
      have HB12 := Lib.hid (BW.out _ B12)
      clear B12 b12 b10 B10 BQ B0
      go_wp2_with fail
      exact ⟨⟨i + 1, by simp, by omega, Lib.hid HB12.out.2, HB12.out.1⟩, by simp [RowKit.intOf]; omega⟩
    · have hil : ¬ (i : Int) < N := by omega
      have HB := Lib.hid hb
      clear hb hpb
      go_wp2_with fail
      go_ret
      exact ⟨rfl, HB.out⟩
end Go.Proofs.Ytkialkjhjenkhaa
