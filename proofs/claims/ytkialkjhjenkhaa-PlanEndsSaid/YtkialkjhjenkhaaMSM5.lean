/- Layer 20: PlanEnds. -/
import Derived.Test.YtkialkjhjenkhaaMSM2
import Derived.Test.YtkialkjhjenkhaaMHeld
import Derived.Deep.RegionHeld3
import Derived.Deep.CutRange
namespace Go.Proofs.Ytkialkjhjenkhaa
open Go.RowKit Go.Lib
set_option linter.unusedVariables false
set_option linter.unusedSimpArgs false

theorem Rd.alloc5 {w : World} {size n : Nat} {v : Value} {xs : List Value} (h : Rd w size v n xs) (o : Obj) : Rd (w.alloc o) size v n xs := h.on ((Below.refl _ _).alloc (Nat.le_refl _) o)
theorem Rd.set5 {w : World} {size n : Nat} {v : Value} {xs : List Value} (h : Rd w size v n xs) (g o : Nat) (u : Value) (ho : ∀ k, v.ownBlock = some k → k ≠ g) : Rd (w.setCell ⟨g, o, none⟩ u) size v n xs :=
  h.turnN ((Turn.refl (fun k => k = g) w).setCell ⟨g, o, none⟩ u rfl) (fun _ k hk e => ho k hk e)
theorem rd_far {a b k q : Nat} (h : a ≤ k ∧ k < b) (hq : q < a ∨ b ≤ q) : q ≠ k := by omega
theorem bcell5 {W w1 : World} (hb : Below W.heap.size W w1) : (∀ b o, b < W.heap.size → w1.cell? ⟨b, o, none⟩ = W.cell? ⟨b, o, none⟩) ∧ (∀ b o, b < W.heap.size → w1.frozen? ⟨b, o, none⟩ = W.frozen? ⟨b, o, none⟩) :=
  ⟨fun b o h => hb.cell (p := ⟨b, o, none⟩) h, fun b o h => hb.frozen (p := ⟨b, o, none⟩) h⟩
theorem up_alloc5 {w0 W : World} {X : Obj} (b : Below w0.heap.size w0 W) : Below w0.heap.size w0 (W.alloc X) := b.alloc b.size X
theorem up_drew5 {w0 W : World} (b : Below w0.heap.size w0 W) : Below w0.heap.size w0 W.drew := b.drew
theorem up_set5 {w0 W : World} {p : Addr} {v : Value} (h : w0.heap.size ≤ p.block) (b : Below w0.heap.size w0 W) : Below w0.heap.size w0 (W.setCell p v) := b.setCell h v
set_option maxHeartbeats 20000000 in
set_option maxRecDepth 100000 in
theorem planends_any (v : Value) (l : List Og) (width : Int) (w : World) (h : Rd w 5 v l.length (ogc l)) :
    Calls Try.prog 5 #[v, .int .i64 width] w fun e w' => e = .returned (.bool true) ∧ Below w.heap.size w w' := by
  obtain ⟨i0, hi, hz0, hz1, hz2⟩ := info_parts zc_met
  have Hz := Lib.hid hz0; have Hs := Lib.hid hz1; have Hb := Lib.hid hz2; have Hi := Lib.hid hi
  clear hz0 hz1 hz2 hi
  obtain ⟨av, kv, rfl⟩ := rd_form h
  obtain ⟨A, B, d1, d2, d3, d4, d5, d6⟩ := width_is width
  obtain ⟨wd, hwd⟩ : ∃ wd, wd = 1 + B := ⟨_, rfl⟩
  rw [← hwd] at d4 d5 d6
  have LS := Lib.hid (lst20_ends (.slice av l.length kv) l wd w h ⟨d5, d6⟩)
  have d4' : IntKind.i64.wrap (1 + B) = wd := by rw [← hwd] ; exact d4
  have HW := Lib.hid (show wd ≤ 100000 by omega)
  clear h hwd d4
  go_enter Try.func5, Try.ntmps5
  go_upto_region 5 with (first
    | (go_at_call 7; (with_reducible refine LS.out.mono ?_); rintro e w1 ⟨a9, k9, n, mp, a8, k8, n8, K, rs, F, rfl, hI, hK, b1⟩; have HI := Lib.hid hI; have HK := Lib.hid hK; have B1 := Lib.hid b1; have AW := Lib.hid (awake20_any ((w1.alloc (.cells #[.int .i64 5, .slice a9 n k9, .map (some mp)] 26)).alloc (.cells #[.int .i64 5, .slice a8 n8 k8] 29))); clear hI hK b1 d1 d2 d3 d4')
    | (go_at_call 10; (with_reducible refine AW.out.mono ?_); rintro e w2 ⟨rfl, b2⟩; have X2 := Lib.hid (two_boxes b2); clear b2)
    | fail)
  have I2 := Lib.hid (HI.out.on X2.out.2.2)
  have BW := Lib.hid (show Below w.heap.size w w2 from B1.out.trans (X2.out.2.2.mono B1.out.size))
  have Z2 := Lib.hid (show w1.heap.size + 1 ≤ w2.heap.size from by have := (Array.getElem?_eq_some_iff.1 X2.out.2.1).1; omega)
  have XB2 := Lib.hid X2.out.1
  obtain ⟨b0, hb0⟩ : ∃ b, b = w1.heap.size := ⟨_, rfl⟩
  have HB0 := Lib.hid (show w.heap.size ≤ b0 from by rw [hb0]; exact B1.out.size)
  rw [← hb0] at XB2 Z2 ⊢
  clear X2 AW HI
  clear hb0
  go_upto_region 6 with fail
  go_loopw [7] (fun t' wr => ∃ (T : Nat) (a9 : Option Addr) (n k9 mp : Nat) (rs : List Mq) (F : List Mt.Me), t' = .int .i64 T ∧ T ≤ 12 ∧ Hid (wr.heap[b0]? = some (.cells #[.int .i64 5, .slice a9 n k9, .map (some mp)] 26)) ∧ Hid (EnI wr a9 n k9 mp T K rs F) ∧ Below w.heap.size w wr) (fun t' _ => 13 - (RowKit.intOf t').toNat)
  case atStart => exact ⟨0, a9, n, k9, mp, rs, F, rfl, by omega, XB2, I2, BW.out⟩
  case round =>
    clear XB2 I2 BW Z2
    obtain ⟨W0, rfl⟩ : ∃ W0, W0 = wr := ⟨_, rfl⟩
    obtain ⟨T, a9, n, k9, mp, rs, F, rfl, hT, xb, ei, bw⟩ := hrel
    have hT13 : (T : Int) < 13 := by omega
    have hTw : IntKind.i64.wrap ((T : Int) + 1) = (T : Int) + 1 := IntWalk.i64_in _ (by omega)
    have BW := Lib.hid bw
    have c0 := Lib.cell_of_heap xb.out 0; have c1 := Lib.cell_of_heap xb.out 1; have c2 := Lib.cell_of_heap xb.out 2
    have hb0 := (Array.getElem?_eq_some_iff.1 xb.out).1
    have hrl : rs.length ≤ 1000 := by have := ei.out.len; omega
    clear bw
    cases ho : scan2 wd F
    · have PN := Lib.hid (pnx_none (.agg #[.int .i64 5, .slice a9 n k9, .map (some mp)]) 5 wd rs K F W0 ei.out.l ei.out.up hrl ei.out.ok HW.out ei.out.free ho)
      clear ho
      go_wp2_with (first
        | (go_at_call 8; (with_reducible refine PN.out.mono ?_); rintro e w3 ⟨rfl, b3⟩; have B3 := Lib.hid (BW.out.trans (b3.mono BW.out.size)); clear b3)
        | fail)
      go_ret
      exact ⟨rfl, B3.out.alloc B3.out.size _⟩
    · rename_i S
      obtain ⟨hsub, hS1⟩ := scan2_sub wd F S ho
      have HSUB := Lib.hid hsub
      obtain ⟨pa, hpa⟩ : ∃ x, x = frM S := ⟨_, rfl⟩
      obtain ⟨pb, hpb⟩ : ∃ x, x = toM S := ⟨_, rfl⟩
      obtain ⟨pc, hpc⟩ : ∃ x, x = lvM S := ⟨_, rfl⟩
      have HP := Lib.hid (And.intro hpa (And.intro hpb hpc))
      obtain ⟨m, hm⟩ : ∃ m, m = S.length := ⟨_, rfl⟩
      have HM := Lib.hid hm
      have hm1000 : m ≤ 1000 := by have h1 := hsub.length_le; have h2 := ei.out.fl; omega
      have PN0 := pnx_some (.agg #[.int .i64 5, .slice a9 n k9, .map (some mp)]) 5 wd rs K F S pa pb pc W0 ei.out.l ei.out.up hrl ei.out.ok HW.out ei.out.free ho hpa hpb hpc
      rw [← hm] at PN0
      have PN := Lib.hid PN0
      have hFl : 1 < F.length := Nat.lt_of_lt_of_le hS1 hsub.length_le
      obtain ⟨r, hr⟩ : ∃ r : Int, r = max ((F.length : Int) - 1) 0 := ⟨_, rfl⟩
      have HR := Lib.hid hr
      have HS1 := Lib.hid hS1
      have HFL := Lib.hid hFl
      clear ho hsub hpa hpb hpc hm PN0 hr hS1 hFl
      have MK := Lib.hid (fun W => show Calls Try.prog 18 #[.int .i64 2, .int .i64 (T : Int)] W (fun e w' => e = .returned (.tuple #[.string (bs (Idn.nam 2 T)), .int .i64 0]) ∧ Below W.heap.size W w') from make_ok 2 T W (by decide) (by omega))
      obtain ⟨ID, hID⟩ : ∃ x, x = Idn.nam 2 T := ⟨_, rfl⟩
      have HID := Lib.hid hID
      rw [← hID] at MK
      clear hID
      go_upto_region 13 with (first
        | (go_at_call 8; (with_reducible refine PN.out.mono ?_); rintro e w3 ⟨ad, k, s, rfl, hs, hms, b3⟩; have B3 := Lib.hid b3; have HS := Lib.hid hs; have HMS := Lib.hid hms; have RK := Lib.hid (more_rank ei.out.free HR.out (fun G h => h) (ei.out.l.on (b3.alloc b3.size (.cells #[.int .i64 pa, .int .i64 pb, .int .i64 pc, .slice ad m k] 33))) ei.out.up hrl); have xb3 := ((b3.alloc b3.size (.cells #[.int .i64 pa, .int .i64 pb, .int .i64 pc, .slice ad m k] 33)).block b0 hb0).trans xb.out; clear c0 c1 c2; have c0 := Lib.cell_of_heap xb3 0; have c1 := Lib.cell_of_heap xb3 1; have c2 := Lib.cell_of_heap xb3 2; clear hs hms b3 xb3)
        | (go_at_call 14; (with_reducible refine RK.out.mono ?_); rintro e w4 ⟨rfl, b4⟩; have B4 := Lib.hid b4; clear b4 c0 c1 c2)
        | (go_at_call 18; (with_reducible refine (MK.out _).mono ?_); rintro e w5 ⟨rfl, b5⟩; have B5 := Lib.hid (B4.out.trans (b5.mono B4.out.size)); clear b5)
        | fail)
      have HPB := Lib.hid (fun W (b : Below w5.heap.size w5 W) => show W.heap[w3.heap.size]? = some (.cells #[.int .i64 pa, .int .i64 pb, .int .i64 pc, .slice ad m k] 33) ∧ W.heap[b0]? = some (.cells #[.int .i64 5, .slice a9 n k9, .map (some mp)] 26) ∧ Below W0.heap.size W0 W from by
        have z3 := B3.out.size
        have c := B5.out.trans (b.mono B5.out.size)
        have d : Below W0.heap.size W0 W := (B3.out.alloc z3 (.cells #[.int .i64 pa, .int .i64 pb, .int .i64 pc, .slice ad m k] 33)).trans (c.mono (by simp; omega))
        exact ⟨(c.block _ (by simp)).trans (heap_alloc_new w3 (.cells #[.int .i64 pa, .int .i64 pb, .int .i64 pc, .slice ad m k] 33)), (d.block b0 hb0).trans xb.out, d⟩)
      have NM0 := fun W (b : Below w5.heap.size w5 W) => pnames_any pa pb pc (.slice ad m k) s W (HMS.out.on (((Below.refl _ _).alloc (Nat.le_refl _) (.cells #[.int .i64 pa, .int .i64 pb, .int .i64 pc, .slice ad m k] 33)).trans ((B5.out.trans (b.mono B5.out.size)).mono (by simp)))) (by have h3 := congrArg List.length HS.out; rw [List.length_map, ← HM.out] at h3; omega)
      unfold planV at NM0
      have HSL := Lib.hid (show s.length = m from by have h3 := congrArg List.length HS.out; rw [List.length_map, ← HM.out] at h3; exact h3)
      rw [HSL.out] at NM0
      have NM := Lib.hid NM0
      have B0 := Below.refl w5.heap.size w5
      have BQ := B0.drew
      have PX := Lib.hid (fun W (b : Below w5.heap.size w5 W) => show W.cell? ⟨w3.heap.size, 0, none⟩ = some (.int .i64 pa) ∧ W.cell? ⟨w3.heap.size, 1, none⟩ = some (.int .i64 pb) ∧ W.cell? ⟨w3.heap.size, 2, none⟩ = some (.int .i64 pc) ∧ W.cell? ⟨w3.heap.size, 3, none⟩ = some (.slice ad m k) from by
        have h := (HPB.out W b).1
        exact ⟨Lib.cell_of_heap h 0, Lib.cell_of_heap h 1, Lib.cell_of_heap h 2, Lib.cell_of_heap h 3⟩)
      clear NM0
      obtain ⟨NS, hNS⟩ : ∃ NS, NS = sc (sortN (ids s)) := ⟨_, rfl⟩
      have HNS := Lib.hid hNS
      rw [← hNS] at NM
      have B0d : Below w5.heap.size w5 w5.drew := B0.drew
      clear hNS BQ
      go_cut [13] from 46 to 59 (fun p wc => ∃ q fb a6 k6, p = .pointer (some ⟨q, 0, none⟩) ∧ Below w5.heap.size w5 wc ∧ (w5.heap.size ≤ q ∧ q < wc.heap.size ∧ w5.heap.size ≤ fb ∧ fb < wc.heap.size) ∧ Rd wc 1 (.slice a6 m k6) m NS ∧ (∀ k, (Value.slice a6 m k6).ownBlock = some k → w5.heap.size ≤ k) ∧ wc.cell? ⟨q, 0, none⟩ = some (.string (bs ID)) ∧ wc.cell? ⟨q, 1, none⟩ = some (.int .i64 pa) ∧ wc.cell? ⟨q, 2, none⟩ = some (.int .i64 pb) ∧ wc.cell? ⟨q, 3, none⟩ = some (.int .i64 pc) ∧ wc.cell? ⟨q, 4, none⟩ = some (.int .i64 1) ∧ wc.cell? ⟨q, 5, none⟩ = some (.int .i64 1) ∧ wc.cell? ⟨q, 6, none⟩ = some (.slice (some ⟨fb, 0, none⟩) 2 2) ∧ wc.cell? ⟨q, 7, none⟩ = some (.slice a6 m k6) ∧ wc.cell? ⟨fb, 0, none⟩ = some (.string ⟨#[99, 104, 117, 110, 107, 115]⟩) ∧ wc.cell? ⟨fb, 1, none⟩ = some (.int .i64 10) ∧ wc.cell? ⟨fb, 2, none⟩ = some (.int .u32 0) ∧ wc.cell? ⟨fb, 3, none⟩ = some (.string ⟨#[105, 110, 100, 101, 120]⟩) ∧ wc.cell? ⟨fb, 4, none⟩ = some (.int .i64 10) ∧ wc.cell? ⟨fb, 5, none⟩ = some (.int .u32 0))
      case first =>
        go_region_held3 (fun W => W.cell? ⟨w3.heap.size, 0, none⟩ = some (.int .i64 pa) ∧ W.cell? ⟨w3.heap.size, 1, none⟩ = some (.int .i64 pb) ∧ W.cell? ⟨w3.heap.size, 2, none⟩ = some (.int .i64 pc) ∧ W.cell? ⟨w3.heap.size, 3, none⟩ = some (.slice ad m k))
          (first | (with_reducible refine PX.out _ ?_; repeat (with_reducible (first | assumption | apply up_drew5 | apply up_alloc5 | (refine up_set5 (by dsimp only; omega) ?_)))) | fail)
          (first
            | (go_at_call 16; (with_reducible refine (NM.out _ (by repeat (with_reducible (first | assumption | apply up_drew5 | apply up_alloc5 | (refine up_set5 (by dsimp only; omega) ?_))))).mono ?_); rintro e w6 ⟨v6, rfl, sl6, b6⟩; have B6 : Below w5.heap.size w5 w6 := bel_monoP (by repeat (with_reducible (first | assumption | apply up_drew5 | apply up_alloc5 | (refine up_set5 (by dsimp only; omega) ?_)))) b6; obtain ⟨a6, k6, rfl⟩ := sl6.slice; have LT6 := Lib.hid (fun k (hk : (Value.slice a6 m k6).ownBlock = some k) => sl6.lt k hk); have RD6 := Lib.hid (Rd.of_sl sl6); clear sl6; obtain ⟨hc6, hf6⟩ := bcell5 b6; have z6 := b6.size; clear b6; (try simp only [World.size_alloc, World.size_drew] at z6); (try simp only [World.size_alloc, World.size_drew] at hc6 hf6); have hl6 : w5.heap.size ≤ w6.heap.size := B6.size; (try (have hm6 : w5.heap.size < w6.heap.size := (by omega))); (try (have hn6 : w5.heap.size + 1 < w6.heap.size := (by omega))))
            | fail)
        all_goals (go_wp2_with fail)
        all_goals go_meet
        · refine ⟨_, w5.heap.size, a6, k6, rfl, ?w1, ⟨?w2, ?w3, ?w4, ?w5⟩, ?w6, ?w7, ?w8⟩
          case w1 => (repeat (with_reducible (first | assumption | apply up_drew5 | apply up_alloc5 | (refine up_set5 (by dsimp only; omega) ?_))))
          case w2 => (try simp only [World.size_alloc, World.size_setCell, World.size_drew]); omega
          case w3 => (try simp only [World.size_alloc, World.size_setCell, World.size_drew]); omega
          case w4 => (try simp only [World.size_alloc, World.size_setCell, World.size_drew]); omega
          case w5 => (try simp only [World.size_alloc, World.size_setCell, World.size_drew]); omega
          case w6 => repeat (with_reducible (first | exact RD6.out | refine Rd.alloc5 ?_ _ | refine Rd.set5 ?_ _ _ _ (fun k hk => Ne.symm (rd_far (LT6.out k hk) (by (try simp only [World.size_alloc, World.size_setCell, World.size_drew]); omega)))))
          case w7 => intro k hk; have h9 := (LT6.out k hk).1; (try simp only [World.size_alloc, World.size_setCell, World.size_drew] at h9); omega
          case w8 =>
            (with_reducible refine ⟨?_, ?_, ?_, ?_, ?_, ?_, ?_, ?_, ?_, ?_, ?_, ?_, ?_, ?_⟩) <;> (go_simp; try (refine cell_setCell_same _ _ _ _ ?_; go_simp))
        · refine ⟨_, w5.heap.size, a6, k6, rfl, ?w1, ⟨?w2, ?w3, ?w4, ?w5⟩, ?w6, ?w7, ?w8⟩
          case w1 => (repeat (with_reducible (first | assumption | apply up_drew5 | apply up_alloc5 | (refine up_set5 (by dsimp only; omega) ?_))))
          case w2 => (try simp only [World.size_alloc, World.size_setCell, World.size_drew]); omega
          case w3 => (try simp only [World.size_alloc, World.size_setCell, World.size_drew]); omega
          case w4 => (try simp only [World.size_alloc, World.size_setCell, World.size_drew]); omega
          case w5 => (try simp only [World.size_alloc, World.size_setCell, World.size_drew]); omega
          case w6 => repeat (with_reducible (first | exact RD6.out | refine Rd.alloc5 ?_ _ | refine Rd.set5 ?_ _ _ _ (fun k hk => Ne.symm (rd_far (LT6.out k hk) (by (try simp only [World.size_alloc, World.size_setCell, World.size_drew]); omega)))))
          case w7 => intro k hk; have h9 := (LT6.out k hk).1; (try simp only [World.size_alloc, World.size_setCell, World.size_drew] at h9); omega
          case w8 =>
            (with_reducible refine ⟨?_, ?_, ?_, ?_, ?_, ?_, ?_, ?_, ?_, ?_, ?_, ?_, ?_, ?_⟩) <;> (go_simp; try (refine cell_setCell_same _ _ _ _ ?_; go_simp))
        · refine ⟨_, w6.heap.size, a6, k6, rfl, ?w1, ⟨?w2, ?w3, ?w4, ?w5⟩, ?w6, ?w7, ?w8⟩
          case w1 => (repeat (with_reducible (first | assumption | apply up_drew5 | apply up_alloc5 | (refine up_set5 (by dsimp only; omega) ?_))))
          case w2 => (try simp only [World.size_alloc, World.size_setCell, World.size_drew]); omega
          case w3 => (try simp only [World.size_alloc, World.size_setCell, World.size_drew]); omega
          case w4 => (try simp only [World.size_alloc, World.size_setCell, World.size_drew]); omega
          case w5 => (try simp only [World.size_alloc, World.size_setCell, World.size_drew]); omega
          case w6 => repeat (with_reducible (first | exact RD6.out | refine Rd.alloc5 ?_ _ | refine Rd.set5 ?_ _ _ _ (fun k hk => Ne.symm (rd_far (LT6.out k hk) (by (try simp only [World.size_alloc, World.size_setCell, World.size_drew]); omega)))))
          case w7 => intro k hk; have h9 := (LT6.out k hk).1; (try simp only [World.size_alloc, World.size_setCell, World.size_drew] at h9); omega
          case w8 =>
            (with_reducible refine ⟨?_, ?_, ?_, ?_, ?_, ?_, ?_, ?_, ?_, ?_, ?_, ?_, ?_, ?_⟩) <;> (go_simp; try (refine cell_setCell_same _ _ _ _ ?_; go_simp))
        · refine ⟨_, (w6.heap.size + 1), a6, k6, rfl, ?w1, ⟨?w2, ?w3, ?w4, ?w5⟩, ?w6, ?w7, ?w8⟩
          case w1 => (repeat (with_reducible (first | assumption | apply up_drew5 | apply up_alloc5 | (refine up_set5 (by dsimp only; omega) ?_))))
          case w2 => (try simp only [World.size_alloc, World.size_setCell, World.size_drew]); omega
          case w3 => (try simp only [World.size_alloc, World.size_setCell, World.size_drew]); omega
          case w4 => (try simp only [World.size_alloc, World.size_setCell, World.size_drew]); omega
          case w5 => (try simp only [World.size_alloc, World.size_setCell, World.size_drew]); omega
          case w6 => repeat (with_reducible (first | exact RD6.out | refine Rd.alloc5 ?_ _ | refine Rd.set5 ?_ _ _ _ (fun k hk => Ne.symm (rd_far (LT6.out k hk) (by (try simp only [World.size_alloc, World.size_setCell, World.size_drew]); omega)))))
          case w7 => intro k hk; have h9 := (LT6.out k hk).1; (try simp only [World.size_alloc, World.size_setCell, World.size_drew] at h9); omega
          case w8 =>
            (with_reducible refine ⟨?_, ?_, ?_, ?_, ?_, ?_, ?_, ?_, ?_, ?_, ?_, ?_, ?_, ?_⟩) <;> (go_simp; try (refine cell_setCell_same _ _ _ _ ?_; go_simp))
        · refine ⟨_, (w5.heap.size + 1), a6, k6, rfl, ?w1, ⟨?w2, ?w3, ?w4, ?w5⟩, ?w6, ?w7, ?w8⟩
          case w1 => (repeat (with_reducible (first | assumption | apply up_drew5 | apply up_alloc5 | (refine up_set5 (by dsimp only; omega) ?_))))
          case w2 => (try simp only [World.size_alloc, World.size_setCell, World.size_drew]); omega
          case w3 => (try simp only [World.size_alloc, World.size_setCell, World.size_drew]); omega
          case w4 => (try simp only [World.size_alloc, World.size_setCell, World.size_drew]); omega
          case w5 => (try simp only [World.size_alloc, World.size_setCell, World.size_drew]); omega
          case w6 => repeat (with_reducible (first | exact RD6.out | refine Rd.alloc5 ?_ _ | refine Rd.set5 ?_ _ _ _ (fun k hk => Ne.symm (rd_far (LT6.out k hk) (by (try simp only [World.size_alloc, World.size_setCell, World.size_drew]); omega)))))
          case w7 => intro k hk; have h9 := (LT6.out k hk).1; (try simp only [World.size_alloc, World.size_setCell, World.size_drew] at h9); omega
          case w8 =>
            (with_reducible refine ⟨?_, ?_, ?_, ?_, ?_, ?_, ?_, ?_, ?_, ?_, ?_, ?_, ?_, ?_⟩) <;> (go_simp; try (refine cell_setCell_same _ _ _ _ ?_; go_simp))
        · refine ⟨_, w6.heap.size, a6, k6, rfl, ?w1, ⟨?w2, ?w3, ?w4, ?w5⟩, ?w6, ?w7, ?w8⟩
          case w1 => (repeat (with_reducible (first | assumption | apply up_drew5 | apply up_alloc5 | (refine up_set5 (by dsimp only; omega) ?_))))
          case w2 => (try simp only [World.size_alloc, World.size_setCell, World.size_drew]); omega
          case w3 => (try simp only [World.size_alloc, World.size_setCell, World.size_drew]); omega
          case w4 => (try simp only [World.size_alloc, World.size_setCell, World.size_drew]); omega
          case w5 => (try simp only [World.size_alloc, World.size_setCell, World.size_drew]); omega
          case w6 => repeat (with_reducible (first | exact RD6.out | refine Rd.alloc5 ?_ _ | refine Rd.set5 ?_ _ _ _ (fun k hk => Ne.symm (rd_far (LT6.out k hk) (by (try simp only [World.size_alloc, World.size_setCell, World.size_drew]); omega)))))
          case w7 => intro k hk; have h9 := (LT6.out k hk).1; (try simp only [World.size_alloc, World.size_setCell, World.size_drew] at h9); omega
          case w8 =>
            (with_reducible refine ⟨?_, ?_, ?_, ?_, ?_, ?_, ?_, ?_, ?_, ?_, ?_, ?_, ?_, ?_⟩) <;> (go_simp; try (refine cell_setCell_same _ _ _ _ ?_; go_simp))
      case rest =>
        obtain ⟨q, fb, a6, k6, rfl, BC, ⟨hq1, hq2, hf1, hf2⟩, RD, OW, m0, m1, m2, m3, m4, m5, m6, m7, f0, f1, f2, f3, f4, f5⟩ := hcut
        have XB := (HPB.out wc BC).2.1
        have PBX := (HPB.out wc BC).1
        have B0W := Lib.hid (HPB.out wc BC).2.2
        have hb0c := (Array.getElem?_eq_some_iff.1 XB).1
        have HXB := Lib.hid XB; have HPX := Lib.hid PBX
        obtain ⟨SRC, hSRC⟩ : ∃ x, x = sortN (ids s) := ⟨_, rfl⟩
        have hNS2 := HNS.out
        rw [← hSRC] at hNS2
        rw [hNS2] at RD
        have HSRC := Lib.hid (show ∀ x ∈ S, x.id ∈ SRC from fun x hx => by
          rw [hSRC]
          unfold sortN
          rw [List.mem_mergeSort]
          rw [← HS.out] at hx
          obtain ⟨y, hy, rfl⟩ := List.mem_map.1 hx
          exact List.mem_map_of_mem (f := fun q : Mq => q.m.id) hy)
        have hml : m = SRC.length := by rw [hSRC]; unfold sortN; rw [List.length_mergeSort]; unfold ids; rw [List.length_map, HSL.out]
        have HMER := Lib.hid (en_mer (ID := ID) (pa := pa) (pb := pb) (pc := pc) hf2 f0 f1 f2 f3 f4 f5 RD hml (by omega))
        have HOKM := Lib.hid (show OkB (meN ID pa pb pc SRC) from by
          obtain ⟨e1, e2, e3⟩ := HP.out
          rw [e1, e2, e3]
          refine en_ok ID SRC S (fun e => by have := HS1.out; rw [e] at this; simp at this) (fun x hx => ?_)
          have h1 := ((ei.out.free.2 x).1 (HSUB.out.subset hx)).1
          obtain ⟨y, hy, rfl⟩ := List.mem_map.1 h1
          exact ei.out.ok y hy)
        have EW := Lib.hid (ei.out.on B0W.out)
        have hmsr := EW.out.l.ms
        have RDX := Lib.hid (show Rd wc 8 (.slice a9 n k9) n (msc rs) from by have h9 := hmsr.rd; rw [← ei.out.n] at h9; exact h9)
        have ONE := Lib.hid (msc_oneCell hmsr)
        have n24 : n ≤ 24 := by have h1 := ei.out.len; have h2 := ei.out.n; omega
        have hm1 : n ≤ maxLen := by unfold maxLen; omega
        have hm2 : n + 1 ≤ maxLen := by unfold maxLen; omega
        have hmb : n * 104 ≤ 140737488355328 := by omega
        have hmb2 : (n + 1) * 104 ≤ 140737488355328 := by omega
        have FX := Lib.hid (fun W (b : Below wc.heap.size wc W) => show W.cell? ⟨b0, 1, none⟩ = some (.slice a9 n k9) ∧ W.cell? ⟨b0, 2, none⟩ = some (.map (some mp)) ∧ W.cell? ⟨q, 0, none⟩ = some (.string (bs ID)) ∧ W.cell? ⟨q, 1, none⟩ = some (.int .i64 pa) ∧ W.cell? ⟨q, 2, none⟩ = some (.int .i64 pb) ∧ W.cell? ⟨q, 3, none⟩ = some (.int .i64 pc) ∧ W.cell? ⟨q, 4, none⟩ = some (.int .i64 1) ∧ W.cell? ⟨q, 5, none⟩ = some (.int .i64 1) ∧ W.cell? ⟨q, 6, none⟩ = some (.slice (some ⟨fb, 0, none⟩) 2 2) ∧ W.cell? ⟨q, 7, none⟩ = some (.slice a6 m k6) from
          ⟨Lib.cell_of_heap ((b.block b0 hb0c).trans HXB.out) 1, Lib.cell_of_heap ((b.block b0 hb0c).trans HXB.out) 2, (b.cell (p := ⟨q, 0, none⟩) hq2).trans m0, (b.cell (p := ⟨q, 1, none⟩) hq2).trans m1, (b.cell (p := ⟨q, 2, none⟩) hq2).trans m2, (b.cell (p := ⟨q, 3, none⟩) hq2).trans m3, (b.cell (p := ⟨q, 4, none⟩) hq2).trans m4, (b.cell (p := ⟨q, 5, none⟩) hq2).trans m5, (b.cell (p := ⟨q, 6, none⟩) hq2).trans m6, (b.cell (p := ⟨q, 7, none⟩) hq2).trans m7⟩)
        have LA := Lib.hid (show ((wc.alloc (.cells #[] 53)).alloc (.cells #[.string (bs ID), .int .i64 pa, .int .i64 pb, .int .i64 pc, .int .i64 1, .int .i64 1, .slice (some ⟨fb, 0, none⟩) 2 2, .slice a6 m k6] 53)).heap[wc.heap.size + 1]? = some (.cells #[.string (bs ID), .int .i64 pa, .int .i64 pb, .int .i64 pc, .int .i64 1, .int .i64 1, .slice (some ⟨fb, 0, none⟩) 2 2, .slice a6 m k6] 53) from by
          have := heap_alloc_new (wc.alloc (.cells #[] 53)) (.cells #[.string (bs ID), .int .i64 pa, .int .i64 pb, .int .i64 pc, .int .i64 1, .int .i64 1, .slice (some ⟨fb, 0, none⟩) 2 2, .slice a6 m k6] 53)
          rwa [show (wc.alloc (.cells #[] 53)).heap.size = wc.heap.size + 1 by simp] at this)
        have LB := Lib.hid (show ((wc.alloc (.cells #[.string (bs ID), .int .i64 pa, .int .i64 pb, .int .i64 pc, .int .i64 1, .int .i64 1, .slice (some ⟨fb, 0, none⟩) 2 2, .slice a6 m k6] 53)).alloc (.cells #[] 53)).heap[wc.heap.size]? = some (.cells #[.string (bs ID), .int .i64 pa, .int .i64 pb, .int .i64 pc, .int .i64 1, .int .i64 1, .slice (some ⟨fb, 0, none⟩) 2 2, .slice a6 m k6] 53) from (Below.heap_alloc _ _ _ (by simp)).trans (heap_alloc_new wc _))
        have HUP5 := Lib.hid (show UpQ (rs ++ [(⟨meN ID pa pb pc SRC, .slice (some ⟨fb, 0, none⟩) 2 2, .slice a6 m k6⟩ : Mq)]) from ei.out.up.push5 (fun x hx => by show x.m.id < ID; rw [HID.out]; exact ei.out.lt x hx))
        have HLN := Lib.hid (show (rs ++ [(⟨meN ID pa pb pc SRC, .slice (some ⟨fb, 0, none⟩) 2 2, .slice a6 m k6⟩ : Mq)]).length = n + 1 from by rw [List.length_append, ← ei.out.n]; rfl)
        have LN := Lib.hid (fun W v10 (b : Below wc.heap.size wc W) (sl : Sl W wc.heap.size 8 v10 (n + 1) (msc rs ++ #[.string (bs ID), .int .i64 pa, .int .i64 pb, .int .i64 pc, .int .i64 1, .int .i64 1, .slice (some ⟨fb, 0, none⟩) 2 2, .slice a6 m k6].toList)) => show Calls Try.prog 19 #[.int .i64 5, v10, .map (some mp)] W (fun e w' => ∃ a11 n11 k11 mp2 rs2, e = .returned (.agg #[.int .i64 5, .slice a11 n11 k11, .map (some mp2)]) ∧ n11 = rs2.length ∧ rs2.map Mq.m = rs.map Mq.m ++ [meN ID pa pb pc SRC] ∧ LstR w' (.agg #[.int .i64 5, .slice a11 n11 k11, .map (some mp2)]) 5 rs2 K ∧ LstLo W.heap.size (.agg #[.int .i64 5, .slice a11 n11 k11, .map (some mp2)]) rs2 ∧ Below W.heap.size W w') from by
          have hms : MsR W v10 (rs ++ [(⟨meN ID pa pb pc SRC, .slice (some ⟨fb, 0, none⟩) 2 2, .slice a6 m k6⟩ : Mq)]) := ⟨by rw [HLN.out, msc_append]; exact Rd.of_sl sl, fun x hx => by
            rcases List.mem_append.1 hx with hx | hx
            · exact ((EW.out.l.ms).ok x hx).on b
            · rw [List.mem_singleton.1 hx]; exact HMER.out.on b⟩
          have hmk : MkV W (.map (some mp)) K := by
            obtain ⟨ms', mp', e, _, h2⟩ := EW.out.l
            have e1 : mp' = mp := by
              injection e with e; injection e with e
              simp only [List.cons.injEq, Value.map.injEq, Option.some.injEq, and_true] at e
              exact e.2.2.symm
            rw [e1] at h2
            exact .inr ⟨mp, rfl, h2.turn (S := fun _ => False) (Turn.of_below b) id⟩
          refine (lnewg_any 5 v10 (rs ++ [(⟨meN ID pa pb pc SRC, .slice (some ⟨fb, 0, none⟩) 2 2, .slice a6 m k6⟩ : Mq)]) (.map (some mp)) K W hms HUP5.out (by rw [HLN.out]; omega) hmk).mono ?_
          rintro e w' ⟨lv2, rs2, rfl, hrm2, hl2, b2, hlo⟩
          obtain ⟨ms2, mp2, rfl, h1, h2⟩ := hl2
          obtain ⟨a11, k11, rfl⟩ := rd_form h1.rd
          exact ⟨a11, _, k11, mp2, rs2, rfl, rfl, by rw [hrm2, List.map_append]; rfl, ⟨_, mp2, rfl, h1, h2⟩, hlo, b2⟩)
        have BWC := Lib.hid (show Below w.heap.size w wc from BW.out.trans (B0W.out.mono BW.out.size))
        have hpb0 : w3.heap.size ≠ b0 := by have h1 := B3.out.size; omega
        have hone2 := oneCell8 ID pa pb pc 1 1 (some ⟨fb, 0, none⟩) a6 2 2 m k6
        have hpbl := (Array.getElem?_eq_some_iff.1 PBX).1
        have HQ2 := Lib.hid hq2
        clear OW RD m0 m1 m2 m3 m4 m5 m6 m7 f0 f1 f2 f3 f4 f5 hmsr hSRC hNS2 hml XB PBX BC
        have B0 := Below.refl wc.heap.size wc
        obtain ⟨x0, x1, x2, x3, x4, x5, x6, x7, x8, x9⟩ := FX.out _ B0
        obtain ⟨y0, y1, y2, y3, y4, y5, y6, y7, y8, y9⟩ := FX.out _ (bel_allocP (o := (.cells #[] 53)) B0)
        go_upto_region 14 with fail
        go_cut [12] from 59 to 69 (fun p wd => ∃ a11 n11 k11 mp2 rs2, p = .int .i64 0 ∧ wd.heap[b0]? = some (.cells #[.int .i64 5, .slice a11 n11 k11, .map (some mp2)] 26 (0, 0)) ∧ n11 = rs2.length ∧ rs2.map Mq.m = rs.map Mq.m ++ [meN ID pa pb pc SRC] ∧ LstR wd (.agg #[.int .i64 5, .slice a11 n11 k11, .map (some mp2)]) 5 rs2 K ∧ wd.heap[w3.heap.size]? = some (.cells #[.int .i64 pa, .int .i64 pb, .int .i64 pc, .slice ad m k] 33) ∧ Below w.heap.size w wd)
        case first =>
          refine wp_region_held_drew (S := fun _ => True) (by kernel_rfl) trivial (fun hH => ?_)
          refine until_begin (T := fun W => Below wc.heap.size wc W) 10 ?_
          have hU := fun (L : Array Bool) => (show Until (fun _ => True) (fun W => Below wc.heap.size wc W) 10 L wc.drew from ⟨trivial, fun _ => B0.drew⟩)
          refine until_take (i := 1) (oi := ⟨some 60, _, _, _, _, _⟩) (v := ?_) rfl (by kernel_rfl) (by kernel_rfl) (by kernel_rfl) (fun _ _ _ h => h) (by decide) (Or.inl ⟨by rfl, ?_⟩) (hU _) ?_
          rotate_left
          · intro W hSw; (try dsimp only at hSw); go_simp; try with_reducible rfl
          try simp only [Act.put, List.setIfInBounds_toArray, List.set_cons_zero, List.set_cons_succ]
          refine until_take' (i := 2) (oi := ⟨some 61, _, _, _, _, _⟩) (v := ?_) rfl (by kernel_rfl) (by kernel_rfl) (by kernel_rfl) (fun _ _ _ h => h) (by decide) (by kernel_rfl) (by kernel_rfl) (Or.inl ⟨by rfl, ?_⟩) (hU _) ?_
          rotate_left
          · intro W hSw; obtain ⟨x0, x1, x2, x3, x4, x5, x6, x7, x8, x9⟩ := FX.out W hSw.2; (try dsimp only at hSw); go_simp; try with_reducible rfl
          try simp only [Act.put, List.setIfInBounds_toArray, List.set_cons_zero, List.set_cons_succ]
          refine until_take' (i := 4) (oi := ⟨some 63, _, _, _, _, _⟩) (v := ?_) rfl (by kernel_rfl) (by kernel_rfl) (by kernel_rfl) (fun _ _ _ h => h) (by decide) (by kernel_rfl) (by kernel_rfl) (Or.inl ⟨by rfl, ?_⟩) (hU _) ?_
          rotate_left
          · intro W hSw; obtain ⟨x0, x1, x2, x3, x4, x5, x6, x7, x8, x9⟩ := FX.out W hSw.2; (try dsimp only at hSw); go_simp; try with_reducible rfl
          try simp only [Act.put, List.setIfInBounds_toArray, List.set_cons_zero, List.set_cons_succ]
          refine until_take (i := 7) (oi := ⟨some 66, _, _, _, _, _⟩) (v := ?_) rfl (by kernel_rfl) (by kernel_rfl) (by kernel_rfl) (fun _ _ _ h => h) (by decide) (Or.inl ⟨by rfl, ?_⟩) (hU _) ?_
          rotate_left
          · intro W hSw; (try dsimp only at hSw); go_simp; try with_reducible rfl
          try simp only [Act.put, List.setIfInBounds_toArray, List.set_cons_zero, List.set_cons_succ]
          refine until_take' (i := 8) (oi := ⟨some 67, _, _, _, _, _⟩) (v := ?_) rfl (by kernel_rfl) (by kernel_rfl) (by kernel_rfl) (fun _ _ _ h => h) (by decide) (by kernel_rfl) (by kernel_rfl) (Or.inl ⟨by rfl, ?_⟩) (hU _) ?_
          rotate_left
          · intro W hSw; obtain ⟨x0, x1, x2, x3, x4, x5, x6, x7, x8, x9⟩ := FX.out W hSw.2; (try dsimp only at hSw); go_simp; try with_reducible rfl
          try simp only [Act.put, List.setIfInBounds_toArray, List.set_cons_zero, List.set_cons_succ]
          refine un_two (i := 0) (j := 5) (oi := ⟨some 59, _, _, _, _, _⟩) (oj := ⟨some 64, _, _, _, _, _⟩) (by kernel_rfl) rfl rfl (fun K hK => ?_) (fun K hK => ?_)
          · go_simp
            refine hK.out _ _ trivial (by with_reducible repeat (first | exact Below.refl _ _ | assumption | apply Below.drew | apply bel_allocP)) ?_
            clear hK K
            try simp only [Act.put, List.setIfInBounds_toArray, List.set_cons_zero, List.set_cons_succ]
            refine un_two (i := 3) (j := 5) (oi := ⟨some 62, _, _, _, _, _⟩) (oj := ⟨some 64, _, _, _, _, _⟩) (by kernel_rfl) rfl rfl (fun K hK => ?_) (fun K hK => ?_)
            · (refine stp_app1 wc (.tmp 59) (.tmp 61) 23 rfl rfl 53 i0 _ 8 104 Try.underlying23 Hi.out Hz.out Hs.out Hb.out rfl (by decide) _ rfl (by first | (simp; done) | (simp; omega) | omega) (by first | (simp; done) | (simp; omega) | omega) _ rfl n (msc rs) RDX.out ONE.out hm1 hmb (by with_reducible repeat (first | exact Below.refl _ _ | assumption | apply Below.drew | apply bel_allocP)) ?_; intro v8 w8 s8 b8 k8'; obtain ⟨a8', c8', rfl⟩ := s8.slice)
              refine hK.out _ _ trivial b8 ?_
              clear hK K
              try simp only [Act.put, List.setIfInBounds_toArray, List.set_cons_zero, List.set_cons_succ]
              refine un_one (i := 5) (oi := ⟨some 64, _, _, _, _, _⟩) (by kernel_rfl) rfl (fun K hK => ?_)
              go_simp
              refine hK.out _ _ trivial (by with_reducible repeat (first | exact Below.refl _ _ | assumption | apply Below.drew | apply bel_allocP)) ?_
              clear hK K
              try simp only [Act.put, List.setIfInBounds_toArray, List.set_cons_zero, List.set_cons_succ]
              refine un_one (i := 6) (oi := ⟨some 65, _, _, _, _, _⟩) (by kernel_rfl) rfl (fun K hK => ?_)
              (refine stp_app2 wc (.tmp 62) (.tmp 64) 23 rfl rfl 53 i0 _ 8 104 Try.underlying23 Hi.out Hz.out Hs.out Hb.out rfl (by decide) _ rfl n (msc rs) (by first | exact s8 | exact s8.alloc _) _ rfl #[.string (bs ID), .int .i64 pa, .int .i64 pb, .int .i64 pc, .int .i64 1, .int .i64 1, .slice (some ⟨fb, 0, none⟩) 2 2, .slice a6 m k6] _ (by first | exact heap_alloc_new _ _ | exact k8' _ _ LA.out (by simp) | exact k8' _ _ LB.out (by simp)) rfl hone2 hm2 hmb2 (by with_reducible repeat (first | exact Below.refl _ _ | assumption | apply Below.drew | apply bel_allocP)) ?_; intro v10 w10 s10 b10; obtain ⟨a10, c10, rfl⟩ := s10.slice)
              refine hK.out _ _ trivial b10 ?_
              clear hK K k8' hU
              have S10 := Lib.hid s10; have B10 := Lib.hid b10
              clear s10 b10 s8 b8 hone2 x0 x1 x2 x3 x4 x5 x6 x7 x8 x9 y0 y1 y2 y3 y4 y5 y6 y7 y8 y9 B0 hm1 hm2 hmb hmb2 hq1 hf1 hf2 hq2 hH
              try simp only [Act.put, List.setIfInBounds_toArray, List.set_cons_zero, List.set_cons_succ]
              refine un_one (i := 9) (oi := ⟨some 68, _, _, _, _, _⟩) (by kernel_rfl) rfl (fun K hK => ?_)
              go_simp
              (with_reducible refine (LN.out _ _ B10.out S10.out).mono ?_)
              rintro e w11 ⟨a11, n11, k11, mp2, rs2, rfl, hn11, hrm2, hl2, hlo2, b11⟩; have HRM2 := Lib.hid hrm2; have HN11 := Lib.hid hn11; have B11 := Lib.hid (B10.out.trans (b11.mono B10.out.size)); have hx11 := (B11.out.block b0 hb0c).trans HXB.out; have hp11 := (B11.out.block w3.heap.size hpbl).trans HPX.out; rw [hn11] at hl2 hlo2; have h9 := en_store (w := w) hl2 hlo2 hx11 (Nat.lt_of_lt_of_le hb0c B10.out.size) hp11 hpb0 (BWC.out.trans (B11.out.mono BWC.out.size)) HB0.out; rw [← hn11] at h9; have DONE := Lib.hid h9; clear h9; have i0' := Lib.cell_of_heap hx11 0; have i1' := Lib.cell_of_heap hx11 1; have i2' := Lib.cell_of_heap hx11 2; have l0 := Lib.frozen_of_heap hx11 0; have l1 := Lib.frozen_of_heap hx11 1; have l2 := Lib.frozen_of_heap hx11 2; clear hrm2 hl2 hlo2 b11 hx11 hp11 hn11
              go_wp2_with fail
              refine hK.out _ _ trivial B11.out ?_
              clear hK K
              try simp only [Act.put, List.setIfInBounds_toArray, List.set_cons_zero, List.set_cons_succ]
              refine un_write (o := ⟨none, _, _, _, _, _⟩) (by kernel_rfl) rfl (by kernel_rfl) (fun K hK => ?_)
              go_simp
              refine hK.out _ _ trivial (fun _ => ?_)
              clear hK K
              refine wpAnyH_done (by kernel_rfl) ?_ _
              go_wp2_with fail
              go_meet
              case rel => exact ⟨a11, n11, k11, mp2, rs2, rfl, DONE.out.1, HN11.out, HRM2.out, DONE.out.2.1, DONE.out.2.2.1, DONE.out.2.2.2⟩
            · go_simp
              refine hK.out _ _ trivial (by with_reducible repeat (first | exact Below.refl _ _ | assumption | apply Below.drew | apply bel_allocP)) ?_
              clear hK K
              try simp only [Act.put, List.setIfInBounds_toArray, List.set_cons_zero, List.set_cons_succ]
              refine un_one (i := 3) (oi := ⟨some 62, _, _, _, _, _⟩) (by kernel_rfl) rfl (fun K hK => ?_)
              (refine stp_app1 wc (.tmp 59) (.tmp 61) 23 rfl rfl 53 i0 _ 8 104 Try.underlying23 Hi.out Hz.out Hs.out Hb.out rfl (by decide) _ rfl (by first | (simp; done) | (simp; omega) | omega) (by first | (simp; done) | (simp; omega) | omega) _ rfl n (msc rs) RDX.out ONE.out hm1 hmb (by with_reducible repeat (first | exact Below.refl _ _ | assumption | apply Below.drew | apply bel_allocP)) ?_; intro v8 w8 s8 b8 k8'; obtain ⟨a8', c8', rfl⟩ := s8.slice)
              refine hK.out _ _ trivial b8 ?_
              clear hK K
              try simp only [Act.put, List.setIfInBounds_toArray, List.set_cons_zero, List.set_cons_succ]
              refine un_one (i := 6) (oi := ⟨some 65, _, _, _, _, _⟩) (by kernel_rfl) rfl (fun K hK => ?_)
              (refine stp_app2 wc (.tmp 62) (.tmp 64) 23 rfl rfl 53 i0 _ 8 104 Try.underlying23 Hi.out Hz.out Hs.out Hb.out rfl (by decide) _ rfl n (msc rs) (by first | exact s8 | exact s8.alloc _) _ rfl #[.string (bs ID), .int .i64 pa, .int .i64 pb, .int .i64 pc, .int .i64 1, .int .i64 1, .slice (some ⟨fb, 0, none⟩) 2 2, .slice a6 m k6] _ (by first | exact heap_alloc_new _ _ | exact k8' _ _ LA.out (by simp) | exact k8' _ _ LB.out (by simp)) rfl hone2 hm2 hmb2 (by with_reducible repeat (first | exact Below.refl _ _ | assumption | apply Below.drew | apply bel_allocP)) ?_; intro v10 w10 s10 b10; obtain ⟨a10, c10, rfl⟩ := s10.slice)
              refine hK.out _ _ trivial b10 ?_
              clear hK K k8' hU
              have S10 := Lib.hid s10; have B10 := Lib.hid b10
              clear s10 b10 s8 b8 hone2 x0 x1 x2 x3 x4 x5 x6 x7 x8 x9 y0 y1 y2 y3 y4 y5 y6 y7 y8 y9 B0 hm1 hm2 hmb hmb2 hq1 hf1 hf2 hq2 hH
              try simp only [Act.put, List.setIfInBounds_toArray, List.set_cons_zero, List.set_cons_succ]
              refine un_one (i := 9) (oi := ⟨some 68, _, _, _, _, _⟩) (by kernel_rfl) rfl (fun K hK => ?_)
              go_simp
              (with_reducible refine (LN.out _ _ B10.out S10.out).mono ?_)
              rintro e w11 ⟨a11, n11, k11, mp2, rs2, rfl, hn11, hrm2, hl2, hlo2, b11⟩; have HRM2 := Lib.hid hrm2; have HN11 := Lib.hid hn11; have B11 := Lib.hid (B10.out.trans (b11.mono B10.out.size)); have hx11 := (B11.out.block b0 hb0c).trans HXB.out; have hp11 := (B11.out.block w3.heap.size hpbl).trans HPX.out; rw [hn11] at hl2 hlo2; have h9 := en_store (w := w) hl2 hlo2 hx11 (Nat.lt_of_lt_of_le hb0c B10.out.size) hp11 hpb0 (BWC.out.trans (B11.out.mono BWC.out.size)) HB0.out; rw [← hn11] at h9; have DONE := Lib.hid h9; clear h9; have i0' := Lib.cell_of_heap hx11 0; have i1' := Lib.cell_of_heap hx11 1; have i2' := Lib.cell_of_heap hx11 2; have l0 := Lib.frozen_of_heap hx11 0; have l1 := Lib.frozen_of_heap hx11 1; have l2 := Lib.frozen_of_heap hx11 2; clear hrm2 hl2 hlo2 b11 hx11 hp11 hn11
              go_wp2_with fail
              refine hK.out _ _ trivial B11.out ?_
              clear hK K
              try simp only [Act.put, List.setIfInBounds_toArray, List.set_cons_zero, List.set_cons_succ]
              refine un_write (o := ⟨none, _, _, _, _, _⟩) (by kernel_rfl) rfl (by kernel_rfl) (fun K hK => ?_)
              go_simp
              refine hK.out _ _ trivial (fun _ => ?_)
              clear hK K
              refine wpAnyH_done (by kernel_rfl) ?_ _
              go_wp2_with fail
              go_meet
              case rel => exact ⟨a11, n11, k11, mp2, rs2, rfl, DONE.out.1, HN11.out, HRM2.out, DONE.out.2.1, DONE.out.2.2.1, DONE.out.2.2.2⟩
          · go_simp
            refine hK.out _ _ trivial (by with_reducible repeat (first | exact Below.refl _ _ | assumption | apply Below.drew | apply bel_allocP)) ?_
            clear hK K
            try simp only [Act.put, List.setIfInBounds_toArray, List.set_cons_zero, List.set_cons_succ]
            refine un_one (i := 0) (oi := ⟨some 59, _, _, _, _, _⟩) (by kernel_rfl) rfl (fun K hK => ?_)
            go_simp
            refine hK.out _ _ trivial (by with_reducible repeat (first | exact Below.refl _ _ | assumption | apply Below.drew | apply bel_allocP)) ?_
            clear hK K
            try simp only [Act.put, List.setIfInBounds_toArray, List.set_cons_zero, List.set_cons_succ]
            refine un_one (i := 3) (oi := ⟨some 62, _, _, _, _, _⟩) (by kernel_rfl) rfl (fun K hK => ?_)
            (refine stp_app1 wc (.tmp 59) (.tmp 61) 23 rfl rfl 53 i0 _ 8 104 Try.underlying23 Hi.out Hz.out Hs.out Hb.out rfl (by decide) _ rfl (by first | (simp; done) | (simp; omega) | omega) (by first | (simp; done) | (simp; omega) | omega) _ rfl n (msc rs) RDX.out ONE.out hm1 hmb (by with_reducible repeat (first | exact Below.refl _ _ | assumption | apply Below.drew | apply bel_allocP)) ?_; intro v8 w8 s8 b8 k8'; obtain ⟨a8', c8', rfl⟩ := s8.slice)
            refine hK.out _ _ trivial b8 ?_
            clear hK K
            try simp only [Act.put, List.setIfInBounds_toArray, List.set_cons_zero, List.set_cons_succ]
            refine un_one (i := 6) (oi := ⟨some 65, _, _, _, _, _⟩) (by kernel_rfl) rfl (fun K hK => ?_)
            (refine stp_app2 wc (.tmp 62) (.tmp 64) 23 rfl rfl 53 i0 _ 8 104 Try.underlying23 Hi.out Hz.out Hs.out Hb.out rfl (by decide) _ rfl n (msc rs) (by first | exact s8 | exact s8.alloc _) _ rfl #[.string (bs ID), .int .i64 pa, .int .i64 pb, .int .i64 pc, .int .i64 1, .int .i64 1, .slice (some ⟨fb, 0, none⟩) 2 2, .slice a6 m k6] _ (by first | exact heap_alloc_new _ _ | exact k8' _ _ LA.out (by simp) | exact k8' _ _ LB.out (by simp)) rfl hone2 hm2 hmb2 (by with_reducible repeat (first | exact Below.refl _ _ | assumption | apply Below.drew | apply bel_allocP)) ?_; intro v10 w10 s10 b10; obtain ⟨a10, c10, rfl⟩ := s10.slice)
            refine hK.out _ _ trivial b10 ?_
            clear hK K k8' hU
            have S10 := Lib.hid s10; have B10 := Lib.hid b10
            clear s10 b10 s8 b8 hone2 x0 x1 x2 x3 x4 x5 x6 x7 x8 x9 y0 y1 y2 y3 y4 y5 y6 y7 y8 y9 B0 hm1 hm2 hmb hmb2 hq1 hf1 hf2 hq2 hH
            try simp only [Act.put, List.setIfInBounds_toArray, List.set_cons_zero, List.set_cons_succ]
            refine un_one (i := 9) (oi := ⟨some 68, _, _, _, _, _⟩) (by kernel_rfl) rfl (fun K hK => ?_)
            go_simp
            (with_reducible refine (LN.out _ _ B10.out S10.out).mono ?_)
            rintro e w11 ⟨a11, n11, k11, mp2, rs2, rfl, hn11, hrm2, hl2, hlo2, b11⟩; have HRM2 := Lib.hid hrm2; have HN11 := Lib.hid hn11; have B11 := Lib.hid (B10.out.trans (b11.mono B10.out.size)); have hx11 := (B11.out.block b0 hb0c).trans HXB.out; have hp11 := (B11.out.block w3.heap.size hpbl).trans HPX.out; rw [hn11] at hl2 hlo2; have h9 := en_store (w := w) hl2 hlo2 hx11 (Nat.lt_of_lt_of_le hb0c B10.out.size) hp11 hpb0 (BWC.out.trans (B11.out.mono BWC.out.size)) HB0.out; rw [← hn11] at h9; have DONE := Lib.hid h9; clear h9; have i0' := Lib.cell_of_heap hx11 0; have i1' := Lib.cell_of_heap hx11 1; have i2' := Lib.cell_of_heap hx11 2; have l0 := Lib.frozen_of_heap hx11 0; have l1 := Lib.frozen_of_heap hx11 1; have l2 := Lib.frozen_of_heap hx11 2; clear hrm2 hl2 hlo2 b11 hx11 hp11 hn11
            go_wp2_with fail
            refine hK.out _ _ trivial B11.out ?_
            clear hK K
            try simp only [Act.put, List.setIfInBounds_toArray, List.set_cons_zero, List.set_cons_succ]
            refine un_write (o := ⟨none, _, _, _, _, _⟩) (by kernel_rfl) rfl (by kernel_rfl) (fun K hK => ?_)
            go_simp
            refine hK.out _ _ trivial (fun _ => ?_)
            clear hK K
            refine wpAnyH_done (by kernel_rfl) ?_ _
            go_wp2_with fail
            go_meet
            case rel => exact ⟨a11, n11, k11, mp2, rs2, rfl, DONE.out.1, HN11.out, HRM2.out, DONE.out.2.1, DONE.out.2.2.1, DONE.out.2.2.2⟩
        case rest =>
          obtain ⟨a11, n11, k11, mp2, rs2, rfl, hx2, rfl, hrm2, hl2, hp2, bw2⟩ := hcut
          have HX2 := Lib.hid hx2; have HRM2 := Lib.hid hrm2; have HL2 := Lib.hid hl2; have HP2 := Lib.hid hp2; have BW2 := Lib.hid bw2
          have hl2n : rs2.length ≤ 1000 := by have h1 := congrArg List.length hrm2; rw [List.length_map, List.length_append, List.length_map] at h1; have h2 := ei.out.n; simp at h1; omega
          have HUP2 := Lib.hid (HUP5.out.of (show rs2.map Mq.m = (rs ++ [(⟨meN ID pa pb pc SRC, .slice (some ⟨fb, 0, none⟩) 2 2, .slice a6 m k6⟩ : Mq)]).map Mq.m from by rw [hrm2, List.map_append]; rfl))
          have RK2 := Lib.hid (fun W (b : Below wc.heap.size wc W) => en_rank (W := W) (v := (.agg #[.int .i64 5, .slice a11 rs2.length k11, .map (some mp2)])) ei.out HSUB.out HS1.out HSRC.out HRM2.out (HL2.out.on b) HUP2.out hl2n HR.out)
          have MK2 := Lib.hid (fun W (b : Below wc.heap.size wc W) => en_mark (W := W) (v := (.agg #[.int .i64 5, .slice a11 rs2.length k11, .map (some mp2)])) ei.out HSUB.out (show (meN ID pa pb pc SRC).id ∉ K from by show ID ∉ K; rw [HID.out]; exact HK.out T (by omega)) HSRC.out HRM2.out (HL2.out.on b) HUP2.out hl2n HM.out)
          obtain ⟨n11, hn11⟩ : ∃ x, x = rs2.length := ⟨_, rfl⟩
          have HN11 := Lib.hid hn11
          rw [← hn11] at RK2 MK2
          rw [← hn11] at HX2
          have hbx := (Array.getElem?_eq_some_iff.1 hx2).1
          have hpx := (Array.getElem?_eq_some_iff.1 hp2).1
          have FY := Lib.hid (fun W (b : Below wc.heap.size wc W) => show W.cell? ⟨b0, 0, none⟩ = some (.int .i64 5) ∧ W.cell? ⟨b0, 1, none⟩ = some (.slice a11 n11 k11) ∧ W.cell? ⟨b0, 2, none⟩ = some (.map (some mp2)) ∧ W.cell? ⟨w3.heap.size, 3, none⟩ = some (.slice ad m k) from by
            have e := (b.block b0 hbx).trans HX2.out
            exact ⟨Lib.cell_of_heap e 0, Lib.cell_of_heap e 1, Lib.cell_of_heap e 2, Lib.cell_of_heap ((b.block _ hpx).trans HP2.out) 3⟩)
          have B0 := Below.refl wc.heap.size wc
          have BQ := B0.drew
          clear hx2 hrm2 hl2 hp2 bw2 hn11
          go_upto_region 15 with fail
          go_region_held3 (fun W => W.cell? ⟨b0, 0, none⟩ = some (.int .i64 5) ∧ W.cell? ⟨b0, 1, none⟩ = some (.slice a11 n11 k11) ∧ W.cell? ⟨b0, 2, none⟩ = some (.map (some mp2)) ∧ W.cell? ⟨w3.heap.size, 3, none⟩ = some (.slice ad m k))
            (first | (with_reducible refine FY.out _ ?_; assumption) | (with_reducible assumption) | fail)
            (first
              | (go_at_call 14; (with_reducible refine (RK2.out _ BQ).mono ?_); rintro e w8 ⟨G, r2, hG, rfl, hr2, b8⟩; have B8 := BQ.trans (b8.mono BQ.size); have HG := Lib.hid hG; have hra : decide (r ≤ r2) = false := decide_eq_false hr2; have hra2 : decide (r2 ≥ r) = false := hra)
              | (go_at_call 12; (with_reducible refine (MK2.out _ B8).mono ?_); rintro e w9 ⟨a12, N2, k12, rfl, hN2, b9⟩; have B9 := B8.trans (b9.mono B8.size); have hnb : decide ((N2 : Int) < (m : Int)) = false := (by first | exact decide_eq_false hN2 | exact decide_eq_false (Int.not_lt.2 hN2)))
              | fail)
          have HB9 := Lib.hid B9
          clear B9 b9 B8 b8 BQ B0 hG
          go_wp2_with fail
          have hfin := en_next ei.out HSUB.out HS1.out (me := meN ID pa pb pc SRC) HID.out HSRC.out HOKM.out HRM2.out (HL2.out.on HB9.out) (by omega) HG.out
          have hfl := hfin.fl
          rw [← HN11.out] at hfin
          exact ⟨⟨T + 1, a11, n11, k11, mp2, rs2, G, by simp, by omega, Lib.hid ((HB9.out.block b0 hbx).trans HX2.out), Lib.hid hfin, BW2.out.trans (HB9.out.mono BW2.out.size)⟩, by simp [RowKit.intOf]; omega⟩
end Go.Proofs.Ytkialkjhjenkhaa
