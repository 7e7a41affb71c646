/- Layer 4: a call on both: kind 6: a fault armed. -/
import Derived.Test.YtnjoojffefhgpaaMJI
namespace Go.Proofs.Ytnjoojffefhgpaa
open Go.Conc Go.RowKit Go.Lib
set_option linter.unusedVariables false

theorem arm_two (f c : Nat) (A : List Ft) (a : Int) (dn : Bool) (w : World) (h : Holds f c A w) (ha : Ft.Fits (a, dn)) :
    Calls Try.prog 21 #[.pointer (some ⟨f, 0, none⟩), .int .i64 a, .bool dn] w fun e w' => (e = .returned (.int .i64 0) ∧ A.length ≤ 16 ∧ Holds f c (A ++ [(max a 0, dn)]) w' ∧ Turn (Own f c) w w') ∨ (e = .returned (.int .i64 7) ∧ 16 ≤ A.length ∧ w = w') := by
  obtain ⟨L, armed, now, hF, rfl⟩ := h
  by_cases hl : L.length < 16
  · refine (arm_room f c L armed now a dn w hF hl).mono ?_
    rintro e w' ⟨rfl, hc, t⟩
    refine .inl ⟨rfl, ?_, ⟨L ++ [(a, dn)], armed, now, hF.turn t hc (by simp; omega) (fun x hx => ?_), ?_⟩, t.mono fun k hk => .inr hk⟩
    · unfold view
      cases armed <;> simp <;> omega
    · rw [List.mem_append, List.mem_singleton] at hx
      rcases hx with hx | rfl
      · exact hF.fits x hx
      · exact ha
    · unfold view
      cases armed <;> simp
  · refine (arm_full f c L armed now a dn w hF (by omega)).mono ?_
    rintro e w' ⟨rfl, rfl⟩
    refine .inr ⟨rfl, ?_, rfl⟩
    unfold view
    cases armed <;> simp <;> omega

set_option maxHeartbeats 2000000 in
set_option maxRecDepth 100000 in
theorem does6_any (base d f c m ck : Nat) (rm : Int) (fs : List Fl) (v u : Value) (xs : List Rj) (A : List Ft) (an : Int) (ta tb : ByteArray) (dd : Bool) (ca : Option Addr) (cn cc : Nat) (w : World) (hdk : DiskAt base d f c m rm fs A ck w) (hrel : RelD fs xs) (hs : Sl w 0 3 v xs.length (rjc xs)) (hlen : xs.length ≤ 900) (hu : Sl w 0 2 u A.length (ftc A)) (hfv : ∀ k, v.ownBlock = some k → ¬ Mine d f c m fs k) (hfu : ∀ k, u.ownBlock = some k → ¬ Mine d f c m fs k) (hA : A.length ≤ 101) (hf : ∀ x ∈ A, Ft.Fits x) (hused : usedF fs ≤ 900000) (hft : Ft.Fits (an, dd)) :
    Calls Try.prog 7 #[.pointer (some ⟨d, 0, none⟩), rdv v rm u, .agg #[.int .i64 6, .int .i64 an, .string ta, .string tb, .bool dd, .slice ca cn cc]] w fun e w' => ∃ v' u' fs' A', (A' = A ∨ A' = A ++ [(max an 0, dd)]) ∧ e = .returned (.tuple #[rdv v' rm u', .bool true]) ∧ DoneD base d f c m rm fs v u w v' u' fs' xs A' w' := by
  obtain ⟨name, hname⟩ : ∃ name, name = cutB ta 45 := ⟨_, rfl⟩
  obtain ⟨sb, hsb⟩ : ∃ sb, sb = cutB tb 50 := ⟨_, rfl⟩
  have CU := Lib.hid (fun W => show Calls Try.prog 23 #[.string ta, .int .i64 45] W (fun e w' => e = .returned (.string name) ∧ W = w') by rw [hname]; exact cut_any ta 45 W (by omega))
  have CV := Lib.hid (fun W => show Calls Try.prog 23 #[.string tb, .int .i64 50] W (fun e w' => e = .returned (.string sb) ∧ W = w') by rw [hsb]; exact cut_any tb 50 W (by omega))
  have hss : sb.size ≤ 50 := by rw [hsb]; exact cutB_le4 tb 50
  clear hname hsb
  have hvl := Lib.hid (fun k hk => And.intro (hs.lt k hk).2 (hfv k hk))
  have hul := Lib.hid (fun k hk => And.intro (hu.lt k hk).2 (hfu k hk))
  have hml := Lib.hid (Mine.lt hdk)
  have hd0 : d < w.heap.size := Mine.lt hdk d (.inl rfl)
  obtain ⟨V, hV⟩ : ∃ V, V = ((w.alloc (.cells #[v, .int .i64 rm, u] 30)).alloc (.cells #[.int .i64 6, .int .i64 an, .string ta, .string tb, .bool dd, .slice ca cn cc] 40)).alloc (.cells #[.slice none 0 0, .int .i64 0, .slice none 0 0] 30) := ⟨_, rfl⟩
  obtain ⟨D0, bV, zV⟩ := DV.start w v rm u 6 an ta tb dd ca cn cc V hV
  have SV := Lib.hid hs
  have TV := Lib.hid hu
  have HK := Lib.hid (fun W (b : Below w.heap.size w W) => (hdk.below b).fuse)
  have AR := Lib.hid (fun W (b : Below w.heap.size w W) => arm_two f c A an dd W (hdk.below b).fuse hft)
  have NT := Lib.hid (fun W W' A' (b : Below w.heap.size w W) (t : Turn (Own f c) W W') (h : Holds f c A' W') => show Both base d f c m rm fs xs A' W W' from ⟨fs, Now.tried (hdk.below b) (Below.refl _ W) t h, hrel, by omega⟩)
  have N0 := Lib.hid (fun W W' (b : Below w.heap.size w W) (b' : Below W.heap.size W W') => show Both base d f c m rm fs xs A W W' from ⟨fs, Now.same (hdk.below b) b', hrel, by omega⟩)
  have C0 := Lib.hid hdk.c0
  have HO := Lib.hid (fun k (hk : Own f c k) => hml.out k (by rcases hk with e | e; exact .inr (.inl e); exact .inr (.inr (.inl e))))
  have DO := Lib.hid (show ¬ Own f c d from fun e => by rcases e with e | e; exact hdk.df e; exact hdk.dc e)
  have NV := Lib.hid (fun k hk (h : Own f c k) => hfv k hk (by rcases h with e | e; exact .inr (.inl e); exact .inr (.inr (.inl e))))
  have NU := Lib.hid (fun k hk (h : Own f c k) => hfu k hk (by rcases h with e | e; exact .inr (.inl e); exact .inr (.inr (.inl e))))
  have R7 := Lib.hid (fun W (h1 : Sl W 0 3 v xs.length (rjc xs)) (h2 : Sl W 0 2 u A.length (ftc A)) (h : 16 ≤ A.length) => rarm7_any v rm u xs A 6 an ta tb dd ca cn cc W h1 h2 h)
  have R0 := Lib.hid (fun W (h1 : Sl W 0 3 v xs.length (rjc xs)) (h2 : Sl W 0 2 u A.length (ftc A)) (h : A.length ≤ 16) => rarm0_any v rm u xs A 6 an ta tb dd ca cn cc W h1 h2 h)
  obtain ⟨va, vc, ev⟩ := hs.slice
  obtain ⟨ua, uc, eu⟩ := hu.slice
  obtain ⟨vn, hvn⟩ : ∃ n, n = xs.length := ⟨_, rfl⟩
  obtain ⟨un, hun⟩ : ∃ n, n = A.length := ⟨_, rfl⟩
  rw [← hvn] at ev
  rw [← hun] at eu
  subst ev eu
  have HV := Lib.hid hV
  have HVN := Lib.hid hvn
  have HUN := Lib.hid hun
  have D0 := Lib.hid D0
  have BV := Lib.hid bV
  have ZV := Lib.hid zV
  clear hdk hrel hs hlen hu hfv hfu hA hf hused hV bV zV hss hft
  rw [← hvn] at SV R7 R0
  rw [← hun] at TV
  clear hvn hun
  unfold rdv
  unfold rdv at R7 R0
  go_enter Try.func7, Try.ntmps7
  go_upto_region 1 with fail
  rw [← HV.out]
  have a2 := D0.out.cells.2.2.2.2.2.1
  have a3 := D0.out.cells.2.2.2.2.2.2.1
  go_region_held3 (fun W => W.cell? ⟨w.heap.size + 1, 2, none⟩ = some (.string ta) ∧ W.cell? ⟨w.heap.size + 1, 3, none⟩ = some (.string tb)) (first | exact ⟨a2, a3⟩ | assumption)
    (first
      | (go_at_call 23; (with_reducible refine (CU.out _).mono ?_); rintro e w3 ⟨rfl, rfl⟩)
      | (go_at_call 23; (with_reducible refine (CV.out _).mono ?_); rintro e w3 ⟨rfl, rfl⟩)
      | fail)
  clear a2 a3
  have a0 := D0.out.cells.2.2.2.1
  go_upto_region 17 with fail
  clear a0
  have BD := BV.out.drew
  have c0 : V.cell? ⟨d, 0, none⟩ = some (.pointer (some ⟨f, 0, none⟩)) := (BV.out.cell (p := ⟨d, 0, none⟩) hd0).trans C0.out
  have n1 := D0.out.cells.2.2.2.2.1
  have n5 := D0.out.cells.2.2.2.2.2.2.2.1
  have KEEP := Lib.hid (fun W' (t : Turn (Own f c) V W') => show W'.cell? ⟨d, 0, none⟩ = some (.pointer (some ⟨f, 0, none⟩)) ∧ W'.cell? ⟨w.heap.size + 1, 1, none⟩ = some (.int .i64 an) ∧ W'.cell? ⟨w.heap.size + 1, 4, none⟩ = some (.bool dd) from
    ⟨(t.cell (p := ⟨d, 0, none⟩) (Nat.lt_of_lt_of_le hd0 BV.out.size) DO.out).trans c0, (D0.out.turn t fun k hk => .inl (HO.out k hk)).cells.2.2.2.2.1, (D0.out.turn t fun k hk => .inl (HO.out k hk)).cells.2.2.2.2.2.2.2.1⟩)
  have AR2 := Lib.hid (fun W (b : Below V.heap.size V W) => (AR.out W (BV.out.trans (b.mono BV.out.size))).mono (show ∀ e w', _ → ∃ er A', e = .returned (.int .i64 er) ∧ ((er = 0 ∧ A.length ≤ 16 ∧ A' = A ++ [(max an 0, dd)]) ∨ (er = 7 ∧ 16 ≤ A.length ∧ A' = A)) ∧ Holds f c A' w' ∧ Turn (Own f c) W w' from by
    rintro e w' (⟨rfl, h1, h2, h3⟩ | ⟨rfl, h1, rfl⟩)
    · exact ⟨0, _, rfl, .inl ⟨rfl, h1, rfl⟩, h2, h3⟩
    · exact ⟨7, _, rfl, .inr ⟨rfl, h1, rfl⟩, HK.out W (BV.out.trans (b.mono BV.out.size)), Turn.refl _ _⟩))
  have B0 : Below V.heap.size V V := Below.refl _ _
  obtain ⟨VD, hVD⟩ : ∃ VD, VD = V.drew := ⟨_, rfl⟩
  have tVD : Turn (Own f c) V VD := by rw [hVD]; exact (Turn.refl _ V).drew
  have bVD : Below V.heap.size V VD := by rw [hVD]; exact (Below.refl _ V).drew
  rw [← hVD]
  obtain ⟨c0', n1', n5'⟩ := KEEP.out VD tVD
  clear c0 n1 n5 hVD BD B0
  go_region_held3 (fun W => W.cell? ⟨d, 0, none⟩ = some (.pointer (some ⟨f, 0, none⟩)) ∧ W.cell? ⟨w.heap.size + 1, 1, none⟩ = some (.int .i64 an) ∧ W.cell? ⟨w.heap.size + 1, 4, none⟩ = some (.bool dd)) (first | exact ⟨c0', n1', n5'⟩ | assumption)
    (first
      | (go_at_call 21; refine (AR2.out _ bVD.drew).mono ?_; rintro e w1 ⟨er, A2, rfl, hcase, D1, t1⟩; have d1 := KEEP.out w1 ((tVD.drew).trans t1))
      | fail)
  have tV : Turn (Own f c) V w1 := tVD.drew.trans t1
  have HB := Lib.hid (NT.out V w1 A2 BV.out tV D1)
  clear D1
  have D1 := Lib.hid (D0.out.turn tV fun k hk => .inl (HO.out k hk))
  have S1 : Sl w1 0 3 (.slice va vn vc) vn (rjc xs) := (SV.out.on BV.out).same tV.size fun k hk => tV.block k ((SV.out.on BV.out).lt k hk).2 (NV.out k hk)
  have U1 : Sl w1 0 2 (.slice ua un uc) un (ftc A) := (TV.out.on BV.out).same tV.size fun k hk => tV.block k ((TV.out.on BV.out).lt k hk).2 (NU.out k hk)
  have S1h := Lib.hid S1
  have U1h := Lib.hid U1
  have U1 : Sl w1 0 2 (.slice ua un uc) A.length (ftc A) := by
    obtain ⟨z, hz⟩ : ∃ z, z = Value.slice ua un uc := ⟨_, rfl⟩
    rw [← hz] at U1 ⊢
    rw [← HUN.out]
    exact U1
  clear d1 tV t1 tVD bVD c0' n1' n5'
  have x0 := D1.out.cells.1
  have x1 := D1.out.cells.2.1
  have x2 := D1.out.cells.2.2.1
  have a0 := D1.out.cells.2.2.2.1
  have a1 := D1.out.cells.2.2.2.2.1
  have a2 := D1.out.cells.2.2.2.2.2.1
  have a3 := D1.out.cells.2.2.2.2.2.2.1
  have a4 := D1.out.cells.2.2.2.2.2.2.2.1
  have a5 := D1.out.cells.2.2.2.2.2.2.2.2
  rcases hcase with ⟨rfl, hl, rfl⟩ | ⟨rfl, hl, rfl⟩
  · have RD1 := Lib.hid (R0.out w1 S1 U1 hl)
    clear S1 U1 hl
    go_wp2_with fail
    refine RD1.out.mono ?_
    rintro e w2 ⟨u2, rfl, t2, b2⟩
    obtain ⟨z3, y3, rfl⟩ := t2.slice
    obtain ⟨n3, hn3⟩ : ∃ n, n = A.length + 1 := ⟨_, rfl⟩
    rw [← hn3] at t2 ⊢
    have T2 := Lib.hid t2
    have HN3 := Lib.hid hn3
    clear t2 hn3
    have D2 := Lib.hid (D1.out.turn (S := fun _ => False) (Turn.of_below b2) fun k hk => hk.elim)
    have B2 := Lib.hid b2
    have TW0 := Lib.hid (Turn.refl (fun i => i = w.heap.size ∨ i = w.heap.size + 2) w2)
    clear x0 x1 x2 a0 a1 a2 a3 a4 a5 b2 RD1
    obtain ⟨⟨r0, r1, r2⟩, hfr, hfx⟩ := D2.out.res
    have f0 := hfr 0
    have f1 := hfr 1
    have f2 := hfr 2
    have g2 := hfx 2
    clear hfr hfx
    go_wp2_with fail
    obtain ⟨W6, hW6⟩ : ∃ W6, W6 = ((w2.setCell ⟨w.heap.size + 2, 0, none⟩ (.slice va vn vc)).setCell ⟨w.heap.size + 2, 1, none⟩ (.int .i64 rm)).setCell ⟨w.heap.size + 2, 2, none⟩ (.slice z3 n3 y3) := ⟨_, rfl⟩
    have c0 : W6.cell? ⟨w.heap.size + 2, 0, none⟩ = some (.slice va vn vc) := by
      rw [hW6, cell_setCell_other _ _ _ _ _ (.inr (by simp)), cell_setCell_other _ _ _ _ _ (.inr (by simp))]
      exact cell_setCell_same _ _ _ _ (by rw [r0]; rfl)
    have c1 : W6.cell? ⟨w.heap.size + 2, 1, none⟩ = some (.int .i64 rm) := by
      rw [hW6, cell_setCell_other _ _ _ _ _ (.inr (by simp))]
      exact cell_setCell_same _ _ _ _ (by rw [cell_setCell_other _ _ _ _ _ (.inr (by simp)), r1]; rfl)
    have c2 : W6.cell? ⟨w.heap.size + 2, 2, none⟩ = some (.slice z3 n3 y3) := by
      rw [hW6]
      exact cell_setCell_same _ _ _ _ (by rw [cell_setCell_other _ _ _ _ _ (.inr (by simp)), cell_setCell_other _ _ _ _ _ (.inr (by simp)), r2]; rfl)
    have TW : Turn (fun i => i = w.heap.size ∨ i = w.heap.size + 2) w2 W6 := by
      rw [hW6]
      exact Turn.setCell (S := fun i => i = w.heap.size ∨ i = w.heap.size + 2) (Turn.setCell (S := fun i => i = w.heap.size ∨ i = w.heap.size + 2) (Turn.setCell (S := fun i => i = w.heap.size ∨ i = w.heap.size + 2) TW0.out ⟨w.heap.size + 2, 0, none⟩ _ (.inr rfl)) ⟨w.heap.size + 2, 1, none⟩ _ (.inr rfl)) ⟨w.heap.size + 2, 2, none⟩ _ (.inr rfl)
    rw [← hW6]
    refine bodyPost_ret (by simp [results, Try.results7, go_sem, c0, c1, c2]; rfl) rfl ?_
    obtain ⟨fs', hDone⟩ := DoneD.of HB.out BV.out (by have := ZV.out; omega) hvl.out hul.out hml.out (by rw [← HVN.out]; exact S1h.out.on B2.out) (by rw [List.length_append]; show Sl _ 0 2 _ (A.length + 1) _; rw [← HN3.out]; exact T2.out.mono (Nat.zero_le _)) (fun _ hk => .inl hk) (fun k hk => .inr (T2.out.lt k hk).1) B2.out TW
    exact ⟨_, _, fs', _, .inr rfl, rfl, hDone⟩
  · have RD1 := Lib.hid (R7.out w1 S1 U1 hl)
    clear S1 U1 hl
    go_wp2_with fail
    refine RD1.out.mono ?_
    rintro e w2 ⟨rfl, b2⟩
    have D2 := Lib.hid (D1.out.turn (S := fun _ => False) (Turn.of_below b2) fun k hk => hk.elim)
    have B2 := Lib.hid b2
    have TW0 := Lib.hid (Turn.refl (fun i => i = w.heap.size ∨ i = w.heap.size + 2) w2)
    clear x0 x1 x2 a0 a1 a2 a3 a4 a5 b2 RD1
    obtain ⟨⟨r0, r1, r2⟩, hfr, hfx⟩ := D2.out.res
    have f0 := hfr 0
    have f1 := hfr 1
    have f2 := hfr 2
    have g2 := hfx 2
    clear hfr hfx
    go_wp2_with fail
    obtain ⟨W6, hW6⟩ : ∃ W6, W6 = ((w2.setCell ⟨w.heap.size + 2, 0, none⟩ (.slice va vn vc)).setCell ⟨w.heap.size + 2, 1, none⟩ (.int .i64 rm)).setCell ⟨w.heap.size + 2, 2, none⟩ (.slice ua un uc) := ⟨_, rfl⟩
    have c0 : W6.cell? ⟨w.heap.size + 2, 0, none⟩ = some (.slice va vn vc) := by
      rw [hW6, cell_setCell_other _ _ _ _ _ (.inr (by simp)), cell_setCell_other _ _ _ _ _ (.inr (by simp))]
      exact cell_setCell_same _ _ _ _ (by rw [r0]; rfl)
    have c1 : W6.cell? ⟨w.heap.size + 2, 1, none⟩ = some (.int .i64 rm) := by
      rw [hW6, cell_setCell_other _ _ _ _ _ (.inr (by simp))]
      exact cell_setCell_same _ _ _ _ (by rw [cell_setCell_other _ _ _ _ _ (.inr (by simp)), r1]; rfl)
    have c2 : W6.cell? ⟨w.heap.size + 2, 2, none⟩ = some (.slice ua un uc) := by
      rw [hW6]
      exact cell_setCell_same _ _ _ _ (by rw [cell_setCell_other _ _ _ _ _ (.inr (by simp)), cell_setCell_other _ _ _ _ _ (.inr (by simp)), r2]; rfl)
    have TW : Turn (fun i => i = w.heap.size ∨ i = w.heap.size + 2) w2 W6 := by
      rw [hW6]
      exact Turn.setCell (S := fun i => i = w.heap.size ∨ i = w.heap.size + 2) (Turn.setCell (S := fun i => i = w.heap.size ∨ i = w.heap.size + 2) (Turn.setCell (S := fun i => i = w.heap.size ∨ i = w.heap.size + 2) TW0.out ⟨w.heap.size + 2, 0, none⟩ _ (.inr rfl)) ⟨w.heap.size + 2, 1, none⟩ _ (.inr rfl)) ⟨w.heap.size + 2, 2, none⟩ _ (.inr rfl)
    rw [← hW6]
    refine bodyPost_ret (by simp [results, Try.results7, go_sem, c0, c1, c2]; rfl) rfl ?_
    obtain ⟨fs', hDone⟩ := DoneD.of HB.out BV.out (by have := ZV.out; omega) hvl.out hul.out hml.out (by rw [← HVN.out]; exact S1h.out.on B2.out) (by rw [← HUN.out]; exact U1h.out.on B2.out) (fun _ hk => .inl hk) (fun _ hk => .inl hk) B2.out TW
    exact ⟨_, _, fs', _, .inl rfl, rfl, hDone⟩
end Go.Proofs.Ytnjoojffefhgpaa
