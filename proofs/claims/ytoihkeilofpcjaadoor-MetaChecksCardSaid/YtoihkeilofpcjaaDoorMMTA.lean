/- The statement MetaChecks, walked. -/
import Derived.Test.YtoihkeilofpcjaaDoorMMT9
import Derived.Test.YtoihkeilofpcjaaDoorMMP
import Derived.Test.YtoihkeilofpcjaaDoorMM4
import Derived.Test.YtoihkeilofpcjaaDoorMQC
import Derived.Deep.CutRange
import Derived.Deep.RegionHeld3
import Derived.Lib.SlBytesConst
namespace Go.Proofs.YtoihkeilofpcjaaDoor
open Go.RowKit Go.Lib
set_option linter.unusedVariables false

theorem fewM_sum (m : Mt.Me) (h : ∀ f ∈ m.files, f.sum < 4294967296) : ∀ f ∈ (fewM m).files, f.sum < 4294967296 := by
  intro f hf
  simp only [fewM, List.mem_map] at hf
  obtain ⟨g, hg, rfl⟩ := hf
  exact h g hg

theorem rd_one (w : World) (x : UInt8) (e : TypeId) (f : Nat × Nat) : Rd (w.alloc (.cells #[.int .u8 x.toNat] e f)) 1 (.slice (some ⟨w.heap.size, 0, none⟩) 1 1) 1 (cb [x]) := by
  refine ⟨rfl, _, 1, _, 0, rfl, fun _ => ⟨rfl, by simp⟩, fun j hj => ?_⟩
  obtain rfl : j = 0 := by omega
  rw [cell_of_row _ _ (0 + 0) _ _ _ (heap_alloc_new w _)]
  rfl

set_option maxHeartbeats 8000000 in
set_option maxRecDepth 100000 in
theorem checks_any (m : Mt.Me) (af : Option Addr) (nf kf : Nat) (a5 : Option Addr) (ns k5 : Nat) (id : ByteArray) (fr tt : Int) (data : ByteArray) (w : World) (hi : MIn w m af nf kf a5 ns k5) (hP : PartsAt w) :
    Calls Tryd.prog 3 #[.agg #[.string (bs m.id), .int .i64 m.mn, .int .i64 m.mx, .int .i64 m.lv, .int .i64 m.se, .int .i64 m.sa, .slice af nf kf, .slice a5 ns k5], .string id, .int .i64 fr, .int .i64 tt, .string data] w fun e w' => e = .returned (.bool true) ∧ Below w.heap.size w w' := by
  have hT := bs_toList
  obtain ⟨k, rfl⟩ : ∃ k, id = bs k := ⟨id.data.toList, rfl⟩
  obtain ⟨l, rfl⟩ : ∃ l, data = bs l := ⟨data.data.toList, rfl⟩
  obtain ⟨d, hd⟩ : ∃ d, d = l.take 100 := ⟨_, rfl⟩
  have hd1 : d.length ≤ 100 := by rw [hd, List.length_take]; omega
  have CUT := Lib.hid (fun W => show Calls Tryd.prog 5 #[.string (bs l), .int .i64 100] W (fun e w' => e = .returned (.string (bs d)) ∧ W = w') by
    rw [hd, ← cutB_bs l 100]
    exact cut_any (bs l) 100 W (by omega))
  clear hd
  obtain ⟨M, hM⟩ : ∃ M, M = fewM m := ⟨_, rfl⟩
  have FEW := Lib.hid (fun W (b : Below w.heap.size w W) => show Calls Tryd.prog 4 #[.agg #[.string (bs m.id), .int .i64 m.mn, .int .i64 m.mx, .int .i64 m.lv, .int .i64 m.se, .int .i64 m.sa, .slice af nf kf, .slice a5 ns k5]] W (fun e w' => ∃ vf vs, e = .returned (meV M vf vs) ∧ Sl w' W.heap.size 3 vf M.files.length (flc M.files) ∧ Sl w' W.heap.size 1 vs M.src.length (sc M.src) ∧ Below W.heap.size W w') by
    rw [hM]
    exact few9_any m af nf kf a5 ns k5 W hi.hf hi.hs hi.hkf hi.hks hi.hmf hi.hms (hi.rf.on b) (hi.rs.on b))
  have SUM := Lib.hid (show ∀ f ∈ M.files, f.sum < 4294967296 by rw [hM]; exact fewM_sum m hi.sum)
  have LEN := Lib.hid (show M.files.length ≤ 1000000 ∧ M.src.length ≤ 1000000 by
    have h1 := hi.hf; have h2 := hi.hs
    rw [hM]; simp only [fewM, List.length_map]; omega)
  have HP := Lib.hid hP
  clear hM hi hP
  go_enter Tryd.func3, Tryd.ntmps3
  go_wp2_with fail
  refine (FEW.out _ ((Below.refl _ _).alloc (Nat.le_refl _) _)).mono ?_
  rintro e w1 ⟨vf, vs, rfl, sf, ss, b1'⟩
  have hx := b1'.block w.heap.size (by simp)
  rw [heap_alloc_new w _] at hx
  have B1 := Lib.hid (((Below.refl w.heap.size w).alloc (Nat.le_refl _) _).trans (b1'.mono (by simp)))
  replace sf := sf.mono (show w.heap.size + 1 ≤ _ by simp)
  replace ss := ss.mono (show w.heap.size + 1 ≤ _ by simp)
  obtain ⟨af1, kf1, rfl⟩ := sf.slice
  obtain ⟨as1, ks1, rfl⟩ := ss.slice
  clear b1'
  unfold meV
  obtain ⟨c0, c1, c2, c3, c4, c5, c6, c7⟩ := cells8 hx
  have f0 := Lib.frozen_of_heap hx 0
  have f1 := Lib.frozen_of_heap hx 1
  have f2 := Lib.frozen_of_heap hx 2
  have f3 := Lib.frozen_of_heap hx 3
  have f4 := Lib.frozen_of_heap hx 4
  have f5 := Lib.frozen_of_heap hx 5
  have f6 := Lib.frozen_of_heap hx 6
  have f7 := Lib.frozen_of_heap hx 7
  obtain ⟨W1, hW1⟩ : ∃ W1, W1 = fill8 w1 w.heap.size (.string (bs M.id)) (.int .i64 M.mn) (.int .i64 M.mx) (.int .i64 M.lv) (.int .i64 M.se) (.int .i64 M.sa) (.slice af1 M.files.length kf1) (.slice as1 M.src.length ks1) := ⟨_, rfl⟩
  have HX := Lib.hid (show W1.heap[w.heap.size]? = some (.cells #[.string (bs M.id), .int .i64 M.mn, .int .i64 M.mx, .int .i64 M.lv, .int .i64 M.se, .int .i64 M.sa, .slice af1 M.files.length kf1, .slice as1 M.src.length ks1] 25) by rw [hW1]; exact fill8_heap _ _ _ _ _ _ _ _ _ _ _ _ _ _ _ _ _ _ _ hx)
  have MR := Lib.hid (show MeR W1 M (.slice af1 M.files.length kf1) (.slice as1 M.src.length ks1) by rw [hW1]; exact ⟨Rd.of_sl (fill8_sl sf _ _ _ _ _ _ _ _ _ (by omega)), Rd.of_sl (fill8_sl ss _ _ _ _ _ _ _ _ _ (by omega)), LEN.out⟩)
  have B2 := Lib.hid (show Below w.heap.size w W1 by rw [hW1]; exact fill8_below B1.out _ _ _ _ _ _ _ _ _ (by omega))
  have hs1 : w.heap.size < W1.heap.size := (Array.getElem?_eq_some_iff.1 HX.out).1
  unfold fill8 at hW1
  go_upto_region 2 with fail
  rw [← hW1]
  clear hW1 hx sf ss B1 c0 c1 c2 c3 c4 c5 c6 c7 f0 f1 f2 f3 f4 f5 f6 f7 w1 FEW
  go_wp2_with fail
  refine (CUT.out _).mono ?_
  rintro e w1 ⟨rfl, rfl⟩
  have TD := Lib.hid (told9_any M _ _ _ MR.out)
  unfold meV at TD
  obtain ⟨c0, c1, c2, c3, c4, c5, c6, c7⟩ := cells8 HX.out
  go_wp2_with fail
  refine (TD.out).mono ?_
  rintro e w3 ⟨vg, rfl, sg, b3⟩
  clear c0 c1 c2 c3 c4 c5 c6 c7 TD CUT
  obtain ⟨ag1, kg1, rfl⟩ := sg.slice
  unfold meV
  obtain ⟨X, hX⟩ : ∃ X : Obj, X = .cells #[.string (bs M.id), .int .i64 M.mn, .int .i64 M.mx, .int .i64 M.lv, .int .i64 M.se, .int .i64 M.sa, .slice ag1 M.files.length kg1, .slice as1 M.src.length ks1] 30 := ⟨_, rfl⟩
  obtain ⟨W4, hW4⟩ : ∃ W4, W4 = w3.alloc X := ⟨_, rfl⟩
  have b4 : Below W1.heap.size W1 W4 := by rw [hW4]; exact b3.alloc b3.size _
  have h3s := b3.size
  have g4 : Below w3.heap.size w3 W4 := by rw [hW4]; exact (Below.refl _ _).alloc (Nat.le_refl _) _
  have HXA := Lib.hid ((b4.block w.heap.size hs1).trans HX.out)
  obtain ⟨G, hG⟩ : ∃ G, G = w3.heap.size := ⟨_, rfl⟩
  have HXB := Lib.hid (show W4.heap[G]? = some X by rw [hW4, hG]; exact heap_alloc_new w3 X)
  rw [hX] at HXB
  have MRA := Lib.hid (MR.out.on b4)
  have MRB := Lib.hid (show MeR W4 M (.slice ag1 M.files.length kg1) (.slice as1 M.src.length ks1) from ⟨(Rd.of_sl sg).on g4, MRA.out.2.1, LEN.out⟩)
  have B4 := Lib.hid (B2.out.trans (b4.mono B2.out.size))
  have HP4 := Lib.hid (HP.out.below B4.out)
  rw [hX] at hW4
  go_upto_region 4 with fail
  rw [← hG, ← hW4]
  clear hX hW4 hG sg b3 b4 g4 h3s HX MR B2 hs1 W1 w3 HP X
  have FF := Lib.hid (fun W (hW : Below W4.heap.size W4 W) => show W.cell? ⟨w.heap.size, 0, none⟩ = some (.string (bs M.id)) ∧ W.cell? ⟨w.heap.size, 1, none⟩ = some (.int .i64 M.mn) ∧ W.cell? ⟨w.heap.size, 2, none⟩ = some (.int .i64 M.mx) ∧ W.cell? ⟨w.heap.size, 3, none⟩ = some (.int .i64 M.lv) ∧ W.cell? ⟨w.heap.size, 4, none⟩ = some (.int .i64 M.se) ∧ W.cell? ⟨w.heap.size, 5, none⟩ = some (.int .i64 M.sa) ∧ W.cell? ⟨w.heap.size, 6, none⟩ = some (.slice af1 M.files.length kf1) ∧ W.cell? ⟨w.heap.size, 7, none⟩ = some (.slice as1 M.src.length ks1) ∧ W.cell? ⟨G, 0, none⟩ = some (.string (bs M.id)) ∧ W.cell? ⟨G, 1, none⟩ = some (.int .i64 M.mn) ∧ W.cell? ⟨G, 2, none⟩ = some (.int .i64 M.mx) ∧ W.cell? ⟨G, 3, none⟩ = some (.int .i64 M.lv) ∧ W.cell? ⟨G, 4, none⟩ = some (.int .i64 M.se) ∧ W.cell? ⟨G, 5, none⟩ = some (.int .i64 M.sa) ∧ W.cell? ⟨G, 6, none⟩ = some (.slice ag1 M.files.length kg1) ∧ W.cell? ⟨G, 7, none⟩ = some (.slice as1 M.src.length ks1) from by
    obtain ⟨c0, c1, c2, c3, c4, c5, c6, c7⟩ := cells8 ((hW.block w.heap.size (Array.getElem?_eq_some_iff.1 HXA.out).1).trans HXA.out)
    obtain ⟨d0, d1, d2, d3, d4, d5, d6, d7⟩ := cells8 ((hW.block G (Array.getElem?_eq_some_iff.1 HXB.out).1).trans HXB.out)
    exact ⟨c0, c1, c2, c3, c4, c5, c6, c7, d0, d1, d2, d3, d4, d5, d6, d7⟩)
  have B44 := Lib.hid ((Below.refl W4.heap.size W4).drew)
  have QA := Lib.hid (fun W (hW : Below W4.heap.size W4 W) => quiet_below hW (Nat.le_refl _) (mawake_any W))
  have QC := Lib.hid (fun W (hW : Below W4.heap.size W4 W) => quiet_below hW (Nat.le_refl _) (check_any M _ _ W (MRA.out.on hW) (HP4.out.below hW)))
  have QR := Lib.hid (fun W (hW : Below W4.heap.size W4 W) => quiet_below hW (Nat.le_refl _) (rcheck9_any M _ _ W (MRB.out.on hW)))
  have QE := Lib.hid (fun hc W (hW : Below W4.heap.size W4 W) => encode_any M _ _ W (MRA.out.on hW) hc SUM.out)
  have QF := Lib.hid (fun hc W (hW : Below W4.heap.size W4 W) => rencode9_any M _ _ W (MRB.out.on hW) hc SUM.out)
  have QP := Lib.hid (fun hc vb W (hW : Below W4.heap.size W4 W) (hb : Rd W 1 vb 1 (cb [97])) => put2_any [97] vb M _ _ W hb (by decide) (MRA.out.on hW) hc SUM.out)
  have QG := Lib.hid (fun hc W (hW : Below W4.heap.size W4 W) => rfields9_any M _ _ W (MRB.out.on hW) hc SUM.out)
  have HC := Lib.hid (fun hc => Mt.fld_len M hc)
  unfold meV at QC QR QE QF QP QG
  obtain ⟨c, hc⟩ : ∃ c, c = Mt.chk M := ⟨_, rfl⟩
  rw [← hc] at QC QR QE QF QP QG HC
  clear hc
  have hB := B44.out
  go_cut [41] from 16 to 62 (fun p wc => p = .bool false ∧ Below W4.heap.size W4 wc)
  case first =>
    clear QE QF QP QG HC
    cases c
    · have QC2 := Lib.hid (fun W hW => show Calls Tryd.prog 8 #[.agg #[.string (bs M.id), .int .i64 M.mn, .int .i64 M.mx, .int .i64 M.lv, .int .i64 M.se, .int .i64 M.sa, .slice af1 M.files.length kf1, .slice as1 M.src.length ks1]] W (fun e w' => e = .returned (.int .i64 3) ∧ Below W4.heap.size W4 w') from QC.out W hW)
      clear QC
      refine wp_region_quietC (C := fun W => Below W4.heap.size W4 W) (by kernel_rfl) (by kernel_rfl) hB ?_
      repeat (first
        | go_big_quiet_skip
        | (go_big_quiet_want; go_big_quiet_op; go_big_quiet_on)
        | (go_big_quiet_want; go_big_quiet_op; refine ⟨_, fun _ _ => rfl, ?_⟩; go_big_quiet_on)
        | (go_big_quiet_want; go_big_quiet_op; apply Exists.intro; refine And.intro (fun W hW => ?_) ?_; (obtain ⟨c0, c1, c2, c3, c4, c5, c6, c7, c8, c9, c10, c11, c12, c13, c14, c15⟩ := FF.out W hW; (try go_simp); (first | done | with_reducible rfl | (go_at_call 7; with_reducible exact QA.out _ hW) | (go_at_call 8; with_reducible exact QC2.out _ hW) | (go_at_call 9; with_reducible exact QR.out _ hW) | fail)); go_big_quiet_on)
        | (go_big_quiet_want; apply Exists.intro; refine And.intro (fun W hW => ?_) ?_; (obtain ⟨c0, c1, c2, c3, c4, c5, c6, c7, c8, c9, c10, c11, c12, c13, c14, c15⟩ := FF.out W hW; go_simp; (first | done | with_reducible rfl | (go_at_call 7; with_reducible exact QA.out _ hW) | (go_at_call 8; with_reducible exact QC2.out _ hW) | (go_at_call 9; with_reducible exact QR.out _ hW) | fail)); go_big_quiet_on; try simp only [Act.put, List.setIfInBounds_toArray, List.set_cons_zero, List.set_cons_succ]))
      with_reducible refine wpQuiet_nil ?_
      intro w5 hw5
      go_wp2
      go_meet
      exact ⟨rfl, hw5⟩
    · have QC2 := Lib.hid (fun W hW => show Calls Tryd.prog 8 #[.agg #[.string (bs M.id), .int .i64 M.mn, .int .i64 M.mx, .int .i64 M.lv, .int .i64 M.se, .int .i64 M.sa, .slice af1 M.files.length kf1, .slice as1 M.src.length ks1]] W (fun e w' => e = .returned (.int .i64 0) ∧ Below W4.heap.size W4 w') from QC.out W hW)
      clear QC
      refine wp_region_quietC (C := fun W => Below W4.heap.size W4 W) (by kernel_rfl) (by kernel_rfl) hB ?_
      repeat (first
        | go_big_quiet_skip
        | (go_big_quiet_want; go_big_quiet_op; go_big_quiet_on)
        | (go_big_quiet_want; go_big_quiet_op; refine ⟨_, fun _ _ => rfl, ?_⟩; go_big_quiet_on)
        | (go_big_quiet_want; go_big_quiet_op; apply Exists.intro; refine And.intro (fun W hW => ?_) ?_; (obtain ⟨c0, c1, c2, c3, c4, c5, c6, c7, c8, c9, c10, c11, c12, c13, c14, c15⟩ := FF.out W hW; (try go_simp); (first | done | with_reducible rfl | (go_at_call 7; with_reducible exact QA.out _ hW) | (go_at_call 8; with_reducible exact QC2.out _ hW) | (go_at_call 9; with_reducible exact QR.out _ hW) | fail)); go_big_quiet_on)
        | (go_big_quiet_want; apply Exists.intro; refine And.intro (fun W hW => ?_) ?_; (obtain ⟨c0, c1, c2, c3, c4, c5, c6, c7, c8, c9, c10, c11, c12, c13, c14, c15⟩ := FF.out W hW; go_simp; (first | done | with_reducible rfl | (go_at_call 7; with_reducible exact QA.out _ hW) | (go_at_call 8; with_reducible exact QC2.out _ hW) | (go_at_call 9; with_reducible exact QR.out _ hW) | fail)); go_big_quiet_on; try simp only [Act.put, List.setIfInBounds_toArray, List.set_cons_zero, List.set_cons_succ]))
      with_reducible refine wpQuiet_nil ?_
      intro w5 hw5
      go_wp2
      go_meet
      exact ⟨rfl, hw5⟩
  case rest =>
    clear QA QC
    obtain ⟨rfl, hw5⟩ := hcut
    go_upto_region 6 with fail
    have HW5 := Lib.hid hw5
    go_cut [61] from 16 to 62 (fun p wc => p = .bool false ∧ Below W4.heap.size W4 wc)
    case first =>
      have hB5 := HW5.out.drew
      clear hB
      cases c
      · clear QE QF QP QG HC
        refine wp_region_quietC (C := fun W => Below W4.heap.size W4 W) (by kernel_rfl) (by kernel_rfl) hB5 ?_
        repeat (first
          | go_big_quiet_skip
          | (go_big_quiet_want; go_big_quiet_op; go_big_quiet_on)
          | (go_big_quiet_want; go_big_quiet_op; refine ⟨_, fun _ _ => rfl, ?_⟩; go_big_quiet_on)
          | (go_big_quiet_want; go_big_quiet_op; apply Exists.intro; refine And.intro (fun W hW => ?_) ?_; (obtain ⟨c0, c1, c2, c3, c4, c5, c6, c7, c8, c9, c10, c11, c12, c13, c14, c15⟩ := FF.out W hW; (try go_simp); (first | done | with_reducible rfl | (go_at_call 9; with_reducible exact QR.out _ hW) | fail)); go_big_quiet_on)
          | (go_big_quiet_want; apply Exists.intro; refine And.intro (fun W hW => ?_) ?_; (obtain ⟨c0, c1, c2, c3, c4, c5, c6, c7, c8, c9, c10, c11, c12, c13, c14, c15⟩ := FF.out W hW; go_simp; (first | done | with_reducible rfl | (go_at_call 9; with_reducible exact QR.out _ hW) | fail)); go_big_quiet_on; try simp only [Act.put, List.setIfInBounds_toArray, List.set_cons_zero, List.set_cons_succ]))
        with_reducible refine wpQuiet_nil ?_
        intro w6 hw6
        go_wp2
        go_meet
        exact ⟨rfl, hw6⟩
      · obtain ⟨D, hD⟩ : ∃ D, D = Mt.fld M := ⟨_, rfl⟩
        have hfl := HC.out (by trivial)
        rw [← hD] at QE QF QP QG hfl
        have hDz := bs_size D
        have j1 : ¬ 9223372036854775807 < 1 + (bs D).size := by omega
        obtain ⟨X, hX⟩ : ∃ X, X = [97] ++ D := ⟨_, rfl⟩
        have hJ : (⟨#[97]⟩ : ByteArray) ++ bs D = bs X := by rw [hX]; exact bs_append [97] D
        rw [← hX] at QP
        clear hX
        have kc := fun (W : World) (C : Array Value) (n c : Nat) => Lib.run_convert_bytes_const (P := Tryd.prog) W 38 5 C n c Tryd.underlying38 Tryd.underlying5
        clear HC hD hfl hDz
        refine wp_region_held_drew (S := fun W => Below W4.heap.size W4 W) (by kernel_rfl) hB5 (fun hH => ?_)
        refine wpAnyH_take (i := 0) (oi := ⟨some 42, _, _, _, _, _⟩) (v := ?_) rfl (by kernel_rfl) (by kernel_rfl) (by kernel_rfl) (fun _ _ _ h => h) (Or.inl ⟨by rfl, ?_⟩) hH ?_
        rotate_left
        · intro W hSw; obtain ⟨c0, c1, c2, c3, c4, c5, c6, c7, c8, c9, c10, c11, c12, c13, c14, c15⟩ := FF.out W hSw; go_simp; try with_reducible rfl
        try simp only [Act.put, List.setIfInBounds_toArray, List.set_cons_zero, List.set_cons_succ]
        refine wpAnyH_ready (rs := [1]) (by kernel_rfl) (by simp) ?_
        refine AllReadyH.cons (o := ⟨some 43, _, _, _, _, _⟩) rfl (fun K hK => ?_) AllReadyH.nil
        go_simp
        refine (QR.out _ hH).mono ?_
        rintro e w6 ⟨rfl, b6⟩
        refine hK.out _ _ b6 (fun hH => ?_)
        clear hK K
        try simp only [Act.put, List.setIfInBounds_toArray, List.set_cons_zero, List.set_cons_succ]
        refine wpAnyH_take (i := 2) (oi := ⟨some 44, _, _, _, _, _⟩) (v := ?_) rfl (by kernel_rfl) (by kernel_rfl) (by kernel_rfl) (fun _ _ _ h => h) (Or.inl ⟨by rfl, ?_⟩) hH ?_
        rotate_left
        · intro W hSw; go_simp; try with_reducible rfl
        try simp only [Act.put, List.setIfInBounds_toArray, List.set_cons_zero, List.set_cons_succ]
        refine wpAnyH_take (i := 3) (oi := ⟨some 45, _, _, _, _, _⟩) (v := ?_) rfl (by kernel_rfl) (by kernel_rfl) (by kernel_rfl) (fun _ _ _ h => h) (Or.inl ⟨by rfl, ?_⟩) hH ?_
        rotate_left
        · intro W hSw; obtain ⟨c0, c1, c2, c3, c4, c5, c6, c7, c8, c9, c10, c11, c12, c13, c14, c15⟩ := FF.out W hSw; go_simp; try with_reducible rfl
        try simp only [Act.put, List.setIfInBounds_toArray, List.set_cons_zero, List.set_cons_succ]
        refine wpAnyH_take (i := 5) (oi := ⟨some 47, _, _, _, _, _⟩) (v := ?_) rfl (by kernel_rfl) (by kernel_rfl) (by kernel_rfl) (fun _ _ _ h => h) (Or.inl ⟨by rfl, ?_⟩) hH ?_
        rotate_left
        · intro W hSw; obtain ⟨c0, c1, c2, c3, c4, c5, c6, c7, c8, c9, c10, c11, c12, c13, c14, c15⟩ := FF.out W hSw; go_simp; try with_reducible rfl
        try simp only [Act.put, List.setIfInBounds_toArray, List.set_cons_zero, List.set_cons_succ]
        refine wpAnyH_ready (rs := [4]) (by kernel_rfl) (by simp) ?_
        refine AllReadyH.cons (o := ⟨some 46, _, _, _, _, _⟩) rfl (fun K hK => ?_) AllReadyH.nil
        go_simp
        refine (QE.out (by trivial) _ hH).mono ?_
        rintro e w7 ⟨rfl, b7⟩
        refine hK.out _ _ (hH.trans (b7.mono hH.size)) (fun hH => ?_)
        clear hK K
        try simp only [Act.put, List.setIfInBounds_toArray, List.set_cons_zero, List.set_cons_succ]
        refine wpAnyH_ready (rs := [6]) (by kernel_rfl) (by simp) ?_
        refine AllReadyH.cons (o := ⟨some 48, _, _, _, _, _⟩) rfl (fun K hK => ?_) AllReadyH.nil
        go_simp
        refine (QF.out (by trivial) _ hH).mono ?_
        rintro e w8 ⟨rfl, b8⟩
        refine hK.out _ _ (hH.trans (b8.mono hH.size)) (fun hH => ?_)
        clear hK K
        try simp only [Act.put, List.setIfInBounds_toArray, List.set_cons_zero, List.set_cons_succ]
        refine wpAnyH_take (i := 7) (oi := ⟨some 49, _, _, _, _, _⟩) (v := ?_) rfl (by kernel_rfl) (by kernel_rfl) (by kernel_rfl) (fun _ _ _ h => h) (Or.inl ⟨by rfl, ?_⟩) hH ?_
        rotate_left
        · intro W hSw; go_simp; try with_reducible rfl
        try simp only [Act.put, List.setIfInBounds_toArray, List.set_cons_zero, List.set_cons_succ]
        refine wpAnyH_take (i := 8) (oi := ⟨some 50, _, _, _, _, _⟩) (v := ?_) rfl (by kernel_rfl) (by kernel_rfl) (by kernel_rfl) (fun _ _ _ h => h) (Or.inl ⟨by rfl, ?_⟩) hH ?_
        rotate_left
        · intro W hSw; go_simp; try with_reducible rfl
        try simp only [Act.put, List.setIfInBounds_toArray, List.set_cons_zero, List.set_cons_succ]
        refine wpAnyH_take (i := 11) (oi := ⟨some 53, _, _, _, _, _⟩) (v := ?_) rfl (by kernel_rfl) (by kernel_rfl) (by kernel_rfl) (fun _ _ _ h => h) (Or.inl ⟨by rfl, ?_⟩) hH ?_
        rotate_left
        · intro W hSw; obtain ⟨c0, c1, c2, c3, c4, c5, c6, c7, c8, c9, c10, c11, c12, c13, c14, c15⟩ := FF.out W hSw; go_simp; try with_reducible rfl
        try simp only [Act.put, List.setIfInBounds_toArray, List.set_cons_zero, List.set_cons_succ]
        refine wpAnyH_take (i := 14) (oi := ⟨some 56, _, _, _, _, _⟩) (v := ?_) rfl (by kernel_rfl) (by kernel_rfl) (by kernel_rfl) (fun _ _ _ h => h) (Or.inl ⟨by rfl, ?_⟩) hH ?_
        rotate_left
        · intro W hSw; obtain ⟨c0, c1, c2, c3, c4, c5, c6, c7, c8, c9, c10, c11, c12, c13, c14, c15⟩ := FF.out W hSw; go_simp; try with_reducible rfl
        try simp only [Act.put, List.setIfInBounds_toArray, List.set_cons_zero, List.set_cons_succ]
        have b8x := fun o => hH.alloc hH.size o
        refine wpAnyH_ready (rs := [9]) (by kernel_rfl) (by simp) ?_
        refine AllReadyH.cons (o := ⟨some 51, _, _, _, _, _⟩) rfl (fun K hK => ?_) AllReadyH.nil
        go_simp
        refine hK.out _ _ (b8x _) (fun hH => ?_)
        clear hK K
        try simp only [Act.put, List.setIfInBounds_toArray, List.set_cons_zero, List.set_cons_succ]
        refine wpAnyH_ready (rs := [10]) (by kernel_rfl) (by simp) ?_
        refine AllReadyH.cons (o := ⟨some 52, _, _, _, _, _⟩) rfl (fun K hK => ?_) AllReadyH.nil
        go_simp
        refine hK.out _ _ (b8x _) (fun hH => ?_)
        clear hK K
        try simp only [Act.put, List.setIfInBounds_toArray, List.set_cons_zero, List.set_cons_succ]
        refine wpAnyH_ready (rs := [12]) (by kernel_rfl) (by simp) ?_
        refine AllReadyH.cons (o := ⟨some 54, _, _, _, _, _⟩) rfl (fun K hK => ?_) AllReadyH.nil
        go_simp
        refine (QP.out (by trivial) _ _ hH (rd_one w8 97 _ _)).mono ?_
        rintro e w9 ⟨a9, k9, rfl, s9, b9⟩
        have cv9 := text_conv s9
        refine hK.out _ _ (hH.trans (b9.mono hH.size)) (fun hH => ?_)
        clear hK K
        try simp only [Act.put, List.setIfInBounds_toArray, List.set_cons_zero, List.set_cons_succ]
        have hH9 := hH
        refine wpAnyH_ready (rs := [13, 15]) (by kernel_rfl) (by simp) ?_
        refine AllReadyH.cons (o := ⟨some 55, _, _, _, _, _⟩) rfl (fun K hK => ?_) (AllReadyH.cons (o := ⟨some 57, _, _, _, _, _⟩) rfl (fun K hK => ?_) AllReadyH.nil)
        · go_simp
          refine hK.out _ _ hH9 (fun hH => ?_)
          clear hK K
          try simp only [Act.put, List.setIfInBounds_toArray, List.set_cons_zero, List.set_cons_succ]
          refine wpAnyH_ready (rs := [15]) (by kernel_rfl) (by simp) ?_
          refine AllReadyH.cons (o := ⟨some 57, _, _, _, _, _⟩) rfl (fun K hK => ?_) AllReadyH.nil
          go_simp
          refine (QG.out (by trivial) _ hH).mono ?_
          rintro e w10 ⟨rfl, b10⟩
          refine hK.out _ _ (hH.trans (b10.mono hH.size)) (fun hH => ?_)
          clear hK K
          try simp only [Act.put, List.setIfInBounds_toArray, List.set_cons_zero, List.set_cons_succ]
          refine wpAnyH_take (i := 16) (oi := ⟨some 58, _, _, _, _, _⟩) (v := ?_) rfl (by kernel_rfl) (by kernel_rfl) (by kernel_rfl) (fun _ _ _ h => h) (Or.inl ⟨by rfl, ?_⟩) hH ?_
          rotate_left
          · intro W hSw; go_simp; try with_reducible rfl
          try simp only [Act.put, List.setIfInBounds_toArray, List.set_cons_zero, List.set_cons_succ]
          refine wpAnyH_take (i := 17) (oi := ⟨some 59, _, _, _, _, _⟩) (v := ?_) rfl (by kernel_rfl) (by kernel_rfl) (by kernel_rfl) (fun _ _ _ h => h) (Or.inl ⟨by rfl, ?_⟩) hH ?_
          rotate_left
          · intro W hSw; go_simp; try with_reducible rfl
          try simp only [Act.put, List.setIfInBounds_toArray, List.set_cons_zero, List.set_cons_succ]
          refine wpAnyH_take (i := 18) (oi := ⟨some 60, _, _, _, _, _⟩) (v := ?_) rfl (by kernel_rfl) (by kernel_rfl) (by kernel_rfl) (fun _ _ _ h => h) (Or.inl ⟨by rfl, ?_⟩) hH ?_
          rotate_left
          · intro W hSw; go_simp; try with_reducible rfl
          try simp only [Act.put, List.setIfInBounds_toArray, List.set_cons_zero, List.set_cons_succ]
          refine wpAnyH_take (i := 19) (oi := ⟨some 61, _, _, _, _, _⟩) (v := ?_) rfl (by kernel_rfl) (by kernel_rfl) (by kernel_rfl) (fun _ _ _ h => h) (Or.inl ⟨by rfl, ?_⟩) hH ?_
          rotate_left
          · intro W hSw; go_simp; try with_reducible rfl
          try simp only [Act.put, List.setIfInBounds_toArray, List.set_cons_zero, List.set_cons_succ]
          refine wpAnyH_done (by kernel_rfl) ?_ _
          go_wp2
          go_meet
          exact ⟨rfl, hH⟩
        · go_simp
          refine (QG.out (by trivial) _ hH9).mono ?_
          rintro e w10 ⟨rfl, b10⟩
          have cv10 := text_conv (s9.on b10)
          clear cv9
          refine hK.out _ _ (hH9.trans (b10.mono hH9.size)) (fun hH => ?_)
          clear hK K
          try simp only [Act.put, List.setIfInBounds_toArray, List.set_cons_zero, List.set_cons_succ]
          refine wpAnyH_take (i := 16) (oi := ⟨some 58, _, _, _, _, _⟩) (v := ?_) rfl (by kernel_rfl) (by kernel_rfl) (by kernel_rfl) (fun _ _ _ h => h) (Or.inl ⟨by rfl, ?_⟩) hH ?_
          rotate_left
          · intro W hSw; go_simp; try with_reducible rfl
          try simp only [Act.put, List.setIfInBounds_toArray, List.set_cons_zero, List.set_cons_succ]
          refine wpAnyH_ready (rs := [13]) (by kernel_rfl) (by simp) ?_
          refine AllReadyH.cons (o := ⟨some 55, _, _, _, _, _⟩) rfl (fun K hK => ?_) AllReadyH.nil
          go_simp
          refine hK.out _ _ hH (fun hH => ?_)
          clear hK K
          try simp only [Act.put, List.setIfInBounds_toArray, List.set_cons_zero, List.set_cons_succ]
          refine wpAnyH_take (i := 17) (oi := ⟨some 59, _, _, _, _, _⟩) (v := ?_) rfl (by kernel_rfl) (by kernel_rfl) (by kernel_rfl) (fun _ _ _ h => h) (Or.inl ⟨by rfl, ?_⟩) hH ?_
          rotate_left
          · intro W hSw; go_simp; try with_reducible rfl
          try simp only [Act.put, List.setIfInBounds_toArray, List.set_cons_zero, List.set_cons_succ]
          refine wpAnyH_take (i := 18) (oi := ⟨some 60, _, _, _, _, _⟩) (v := ?_) rfl (by kernel_rfl) (by kernel_rfl) (by kernel_rfl) (fun _ _ _ h => h) (Or.inl ⟨by rfl, ?_⟩) hH ?_
          rotate_left
          · intro W hSw; go_simp; try with_reducible rfl
          try simp only [Act.put, List.setIfInBounds_toArray, List.set_cons_zero, List.set_cons_succ]
          refine wpAnyH_take (i := 19) (oi := ⟨some 61, _, _, _, _, _⟩) (v := ?_) rfl (by kernel_rfl) (by kernel_rfl) (by kernel_rfl) (fun _ _ _ h => h) (Or.inl ⟨by rfl, ?_⟩) hH ?_
          rotate_left
          · intro W hSw; go_simp; try with_reducible rfl
          try simp only [Act.put, List.setIfInBounds_toArray, List.set_cons_zero, List.set_cons_succ]
          refine wpAnyH_done (by kernel_rfl) ?_ _
          go_wp2
          go_meet
          exact ⟨rfl, hH⟩
    case rest =>
      clear QE QF QP QG QR HC HW5 hw5 hB
      obtain ⟨rfl, hw6⟩ := hcut
      obtain ⟨n, hn⟩ : ∃ n, n = M.src.length := ⟨_, rfl⟩
      have HN := Lib.hid hn
      obtain ⟨c0, c1, c2, c3, c4, c5, c6, c7, -⟩ := FF.out _ hw6
      have hSR := (MRA.out.on hw6).2.1
      obtain ⟨-, gA, gk, gs, os, hes, hgs, hcs⟩ := hSR
      cases hes
      have hn6 := LEN.out.2
      simp only [Nat.mul_one] at hgs hcs
      rw [← hn] at hgs hcs hn6 c7
      have HGS := Lib.hid hgs
      have HCS := Lib.hid hcs
      have HW6 := Lib.hid hw6
      clear hgs hcs hn hw6
      rename_i wc0 wc
      go_wp2_with fail
      clear c0 c1 c2 c3 c4 c5 c6 c7
      go_loopw [12, 14, 65] (fun b' s' i' wr => ∃ i : Nat, i' = .int .i64 i ∧ i ≤ n ∧ b' = .bool (decide (k ∈ M.src.take i)) ∧ wr = wc) (fun _ _ i' _ => n - (intOf i').toNat)
      case atStart => exact ⟨0, rfl, by omega, by simp, rfl⟩
      case round =>
        obtain ⟨i, rfl, hi, rfl, rfl⟩ := hrel
        by_cases hlt : i < n
        · obtain ⟨rfl, hgl⟩ := HGS.out (by omega)
          obtain ⟨x, hx⟩ : ∃ x, M.src[i]? = some x := ⟨M.src[i]'(by have := HN.out; omega), List.getElem?_eq_getElem (by have := HN.out; omega)⟩
          have q0 := (HCS.out i (by omega)).trans (sc_at M.src i x hx)
          have hil : (i : Int) < n := by omega
          have HQ := Lib.hid (show decide (k ∈ M.src.take (i + 1)) = (decide (k ∈ M.src.take i) || (x == k)) by
            rw [List.take_add_one, hx]
            by_cases hxk : x = k
            · subst hxk; simp
            · have : ¬ k = x := fun e => hxk e.symm
              simp [List.mem_append, hxk, this])
          clear hx
          obtain ⟨bi, hbi⟩ : ∃ bi, bi = decide (k ∈ M.src.take i) := ⟨_, rfl⟩
          rw [← hbi] at HQ ⊢
          clear hbi
          cases bi
          · go_wp2_with fail
            exact ⟨⟨i + 1, by go_num, by omega, by rw [HQ.out]; rfl, trivial⟩, by simp [intOf]; omega⟩
          · go_wp2_with fail
            exact ⟨⟨i + 1, by go_num, by omega, by rw [HQ.out]; rfl, trivial⟩, by simp [intOf]; omega⟩
        · have hil : ¬ (i : Int) < n := by omega
          obtain rfl : i = n := by omega
          have hbE := Lib.hid (show decide (k ∈ M.src.take i) = decide (k ∈ M.src) by rw [HN.out, List.take_length])
          obtain ⟨bi, hbi⟩ : ∃ bi, bi = decide (k ∈ M.src.take i) := ⟨_, rfl⟩
          rw [← hbi] at hbE ⊢
          clear hbi
          have OF := Lib.hid (of_any k d wr (by omega))
          obtain ⟨Z, hZ⟩ : ∃ Z, Z = d.length := ⟨_, rfl⟩
          obtain ⟨cs, hcs⟩ : ∃ cs, cs = Crc.sum d := ⟨_, rfl⟩
          obtain ⟨Y, hY⟩ : ∃ Y, Y = d ++ [120] := ⟨_, rfl⟩
          have hYl : Y.length = Z + 1 := by rw [hY, hZ]; simp
          have QH1 := Lib.hid (fun W => show Calls Tryd.prog 17 #[.agg #[.string (bs k), .int .i64 Z, .int .u32 cs], .string (bs d)] W (fun e w' => e = .returned (.bool true) ∧ Below W.heap.size W w') by
            have h := holds9_any (bs k) Z cs d W (by omega)
            simpa [hZ, hcs] using h)
          have QH2 := Lib.hid (fun W => show Calls Tryd.prog 17 #[.agg #[.string (bs k), .int .i64 Z, .int .u32 cs], .string (bs Y)] W (fun e w' => e = .returned (.bool false) ∧ Below W.heap.size W w') by
            have h := holds9_any (bs k) Z cs Y W (by omega)
            have hne : ¬ (Z : Int) = Y.length := by omega
            simpa [hne] using h)
          have hz : (bs d).size = Z := by rw [bs_size, hZ]
          have hJ : bs d ++ (⟨#[120]⟩ : ByteArray) = bs Y := by rw [hY]; exact bs_append d [120]
          have j1 : ¬ 9223372036854775807 < Z + 1 := by omega
          rw [← hZ, ← hcs] at OF
          clear hZ hcs hY hYl hd1
          go_wp2_with fail
          refine OF.out.mono ?_
          rintro e w7 ⟨rfl, rfl⟩
          obtain ⟨F, hF⟩ : ∃ F : Obj, F = .cells #[.string (bs k), .int .i64 Z, .int .u32 cs] 42 := ⟨_, rfl⟩
          obtain ⟨W8, hW8⟩ : ∃ W8, W8 = (wr.alloc F).alloc F := ⟨_, rfl⟩
          obtain ⟨G8, hG8⟩ : ∃ G8, G8 = wr.heap.size + 1 := ⟨_, rfl⟩
          have H8 : W8.heap[G8]? = some F := by
            have h1 := heap_alloc_new (wr.alloc F) F
            rw [show (wr.alloc F).heap.size = G8 by rw [hG8]; simp] at h1
            rw [hW8]; exact h1
          have hg8 := (Array.getElem?_eq_some_iff.1 H8).1
          have L8 : Below W4.heap.size W4 W8 := by rw [hW8]; exact (HW6.out.alloc HW6.out.size _).alloc (HW6.out.alloc HW6.out.size _).size _
          rw [hF] at H8 hW8
          have F8 := Lib.hid (fun W (hW : Below W8.heap.size W8 W) => show (W.cell? ⟨w.heap.size, 0, none⟩ = some (.string (bs M.id)) ∧ W.cell? ⟨w.heap.size, 1, none⟩ = some (.int .i64 M.mn) ∧ W.cell? ⟨w.heap.size, 2, none⟩ = some (.int .i64 M.mx) ∧ W.cell? ⟨w.heap.size, 3, none⟩ = some (.int .i64 M.lv) ∧ W.cell? ⟨w.heap.size, 4, none⟩ = some (.int .i64 M.se) ∧ W.cell? ⟨w.heap.size, 5, none⟩ = some (.int .i64 M.sa) ∧ W.cell? ⟨w.heap.size, 6, none⟩ = some (.slice af1 M.files.length kf1) ∧ W.cell? ⟨w.heap.size, 7, none⟩ = some (.slice as1 M.src.length ks1) ∧ W.cell? ⟨G, 0, none⟩ = some (.string (bs M.id)) ∧ W.cell? ⟨G, 1, none⟩ = some (.int .i64 M.mn) ∧ W.cell? ⟨G, 2, none⟩ = some (.int .i64 M.mx) ∧ W.cell? ⟨G, 3, none⟩ = some (.int .i64 M.lv) ∧ W.cell? ⟨G, 4, none⟩ = some (.int .i64 M.se) ∧ W.cell? ⟨G, 5, none⟩ = some (.int .i64 M.sa) ∧ W.cell? ⟨G, 6, none⟩ = some (.slice ag1 M.files.length kg1) ∧ W.cell? ⟨G, 7, none⟩ = some (.slice as1 M.src.length ks1)) ∧ W.cell? ⟨G8, 0, none⟩ = some (.string (bs k)) ∧ W.cell? ⟨G8, 1, none⟩ = some (.int .i64 Z) ∧ W.cell? ⟨G8, 2, none⟩ = some (.int .u32 cs) from
            ⟨FF.out W (L8.trans (hW.mono L8.size)), (hW.cell (p := ⟨G8, 0, none⟩) hg8).trans (cell_of_row _ _ 0 _ _ _ H8), (hW.cell (p := ⟨G8, 1, none⟩) hg8).trans (cell_of_row _ _ 1 _ _ _ H8), (hW.cell (p := ⟨G8, 2, none⟩) hg8).trans (cell_of_row _ _ 2 _ _ _ H8)⟩)
          have QL := Lib.hid (fun W (hW : Below W8.heap.size W8 W) => quiet_below hW (Nat.le_refl _) (lists9_any M _ _ k W (MRA.out.on (L8.trans (hW.mono L8.size)))))
          have QM := Lib.hid (fun W (hW : Below W8.heap.size W8 W) => quiet_below hW (Nat.le_refl _) (meets_any (bs M.id) M.mn M.mx M.lv M.se M.sa (.slice af1 M.files.length kf1) (.slice as1 M.src.length ks1) fr tt W))
          have Q1 := Lib.hid (fun W (hW : Below W8.heap.size W8 W) => quiet_below hW (Nat.le_refl _) (QH1.out W))
          have Q2 := Lib.hid (fun W (hW : Below W8.heap.size W8 W) => quiet_below hW (Nat.le_refl _) (QH2.out W))
          unfold meV at QL
          rw [← hbE.out] at QL
          have hB8 := (Below.refl W8.heap.size W8).drew
          have LW := Lib.hid (B4.out.trans (L8.mono B4.out.size))
          clear OF QH1 QH2 HGS HCS HW6 FF H8 hF F hg8 L8
          go_upto_region 15 with fail
          rw [← hG8, ← hW8]
          clear hG8 hW8
          obtain ⟨p1, e1⟩ : ∃ p1, decide (M.mn < tt) = p1 := ⟨_, rfl⟩
          obtain ⟨p2, e2⟩ : ∃ p2, decide (fr < M.mx) = p2 := ⟨_, rfl⟩
          rw [e1, e2] at QM
          clear hbE
          cases bi <;> cases p1 <;> cases p2
          all_goals
            refine wp_region_quietC (C := fun W => Below W8.heap.size W8 W) (by kernel_rfl) (by kernel_rfl) hB8 ?_
            repeat (first
              | go_big_quiet_skip
              | (go_big_quiet_want; go_big_quiet_op; go_big_quiet_on)
              | (go_big_quiet_want; go_big_quiet_op; refine ⟨_, fun _ _ => rfl, ?_⟩; go_big_quiet_on)
              | (go_big_quiet_want; go_big_quiet_op; apply Exists.intro; refine And.intro (fun W hW => ?_) ?_; (obtain ⟨⟨c0, c1, c2, c3, c4, c5, c6, c7, c8, c9, c10, c11, c12, c13, c14, c15⟩, g0, g1, g2⟩ := F8.out W hW; (try go_simp); (first | done | with_reducible rfl | (go_at_call 15; with_reducible exact QL.out _ hW) | (go_at_call 16; with_reducible exact QM.out _ hW) | (go_at_call 17; with_reducible exact Q1.out _ hW) | (go_at_call 17; with_reducible exact Q2.out _ hW) | fail)); go_big_quiet_on)
              | (go_big_quiet_want; apply Exists.intro; refine And.intro (fun W hW => ?_) ?_; (obtain ⟨⟨c0, c1, c2, c3, c4, c5, c6, c7, c8, c9, c10, c11, c12, c13, c14, c15⟩, g0, g1, g2⟩ := F8.out W hW; go_simp; (first | done | with_reducible rfl | (go_at_call 15; with_reducible exact QL.out _ hW) | (go_at_call 16; with_reducible exact QM.out _ hW) | (go_at_call 17; with_reducible exact Q1.out _ hW) | (go_at_call 17; with_reducible exact Q2.out _ hW) | fail)); go_big_quiet_on; try simp only [Act.put, List.setIfInBounds_toArray, List.set_cons_zero, List.set_cons_succ]))
            with_reducible refine wpQuiet_nil ?_
            intro w9 hw9
            go_wp2
            go_ret
            exact ⟨rfl, LW.out.trans (hw9.mono LW.out.size)⟩
end Go.Proofs.YtoihkeilofpcjaaDoor
