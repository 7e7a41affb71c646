/- Layer 4: a call on both: kind 7: no fault any more. Layer 4: a call on both: kind 8. Layer 4: a call on both disks, whatever its kind. -/
import Derived.Test.YtnjoojffefhgpaaMJD
import Derived.Test.YtnjoojffefhgpaaMJH0
import Derived.Test.YtnjoojffefhgpaaMJH3
import Derived.Test.YtnjoojffefhgpaaMJH6
namespace Go.Proofs.Ytnjoojffefhgpaa
open Go.Conc Go.RowKit Go.Lib
set_option linter.unusedVariables false

set_option maxHeartbeats 2000000 in
set_option maxRecDepth 100000 in
theorem does7_any (base d f c m ck : Nat) (rm : Int) (fs : List Fl) (v u : Value) (xs : List Rj) (A : List Ft) (an : Int) (ta tb : ByteArray) (dd : Bool) (ca : Option Addr) (cn cc : Nat) (w : World) (hdk : DiskAt base d f c m rm fs A ck w) (hrel : RelD fs xs) (hs : Sl w 0 3 v xs.length (rjc xs)) (hlen : xs.length ≤ 900) (hu : Sl w 0 2 u A.length (ftc A)) (hfv : ∀ k, v.ownBlock = some k → ¬ Mine d f c m fs k) (hfu : ∀ k, u.ownBlock = some k → ¬ Mine d f c m fs k) (hA : A.length ≤ 101) (hf : ∀ x ∈ A, Ft.Fits x) (hused : usedF fs ≤ 900000) :
    Calls Try.prog 7 #[.pointer (some ⟨d, 0, none⟩), rdv v rm u, .agg #[.int .i64 7, .int .i64 an, .string ta, .string tb, .bool dd, .slice ca cn cc]] w fun e w' => ∃ v' u' fs', e = .returned (.tuple #[rdv v' rm u', .bool true]) ∧ DoneD base d f c m rm fs v u w v' u' fs' xs [] w' := by
  obtain ⟨name, hname⟩ : ∃ name, name = cutB ta 45 := ⟨_, rfl⟩
  obtain ⟨sb, hsb⟩ : ∃ sb, sb = cutB tb 50 := ⟨_, rfl⟩
  have CU := Lib.hid (fun W => show Calls Try.prog 23 #[.string ta, .int .i64 45] W (fun e w' => e = .returned (.string name) ∧ W = w') by rw [hname]; exact cut_any ta 45 W (by omega))
  have CV := Lib.hid (fun W => show Calls Try.prog 23 #[.string tb, .int .i64 50] W (fun e w' => e = .returned (.string sb) ∧ W = w') by rw [hsb]; exact cut_any tb 50 W (by omega))
  have hss : sb.size ≤ 50 := by rw [hsb]; exact cutB_le4 tb 50
  clear hname hsb
  have hvl := Lib.hid (fun k hk => And.intro (hs.lt k hk).2 (hfv k hk))
  have hul := Lib.hid (fun k hk => And.intro (hu.lt k hk).2 (hfu k hk))
  have hml := Lib.hid (Mine.lt hdk)
  have hd0 : d < w.heap.size := Mine.lt hdk d (.inl rfl)
  obtain ⟨V, hV⟩ : ∃ V, V = ((w.alloc (.cells #[v, .int .i64 rm, u] 30)).alloc (.cells #[.int .i64 7, .int .i64 an, .string ta, .string tb, .bool dd, .slice ca cn cc] 40)).alloc (.cells #[.slice none 0 0, .int .i64 0, .slice none 0 0] 30) := ⟨_, rfl⟩
  obtain ⟨D0, bV, zV⟩ := DV.start w v rm u 7 an ta tb dd ca cn cc V hV
  have SV := Lib.hid hs
  have TV := Lib.hid hu
  obtain ⟨fL, fa, fn, hFU, _⟩ := hdk.fuse
  have CL := Lib.hid (fun W (b : Below w.heap.size w W) => clear_any f c fL fa fn W (hFU.same b.size (b.block f hFU.lt) (b.block c hFU.clt)))
  have NT := Lib.hid (fun W W' (b : Below w.heap.size w W) (t : Turn (Own f c) W W') (h : Holds f c [] W') => show Both base d f c m rm fs xs [] W W' from ⟨fs, Now.tried (hdk.below b) (Below.refl _ W) t h, hrel, by omega⟩)
  have HFV := Lib.hid hfv
  have C0 := Lib.hid hdk.c0
  have HO := Lib.hid (fun k (hk : Own f c k) => hml.out k (by rcases hk with e | e; exact .inr (.inl e); exact .inr (.inr (.inl e))))
  have NV := Lib.hid (fun k hk (h : Own f c k) => hfv k hk (by rcases h with e | e; exact .inr (.inl e); exact .inr (.inr (.inl e))))
  obtain ⟨va, vc, ev⟩ := hs.slice
  obtain ⟨ua, uc, eu⟩ := hu.slice
  obtain ⟨vn, hvn⟩ : ∃ n, n = xs.length := ⟨_, rfl⟩
  obtain ⟨un, hun⟩ : ∃ n, n = A.length := ⟨_, rfl⟩
  rw [← hvn] at ev
  rw [← hun] at eu
  subst ev eu
  have HV := Lib.hid hV
  have HVN := Lib.hid hvn
  have HUN := Lib.hid hun
  have D0 := Lib.hid D0
  have BV := Lib.hid bV
  have ZV := Lib.hid zV
  clear hdk hrel hs hlen hu hfv hfu hA hf hused hV bV zV hvn hun hss hFU
  unfold rdv
  go_enter Try.func7, Try.ntmps7
  go_upto_region 1 with fail
  rw [← HV.out]
  have a2 := D0.out.cells.2.2.2.2.2.1
  have a3 := D0.out.cells.2.2.2.2.2.2.1
  go_region_held3 (fun W => W.cell? ⟨w.heap.size + 1, 2, none⟩ = some (.string ta) ∧ W.cell? ⟨w.heap.size + 1, 3, none⟩ = some (.string tb)) (first | exact ⟨a2, a3⟩ | assumption)
    (first
      | (go_at_call 23; (with_reducible refine (CU.out _).mono ?_); rintro e w3 ⟨rfl, rfl⟩)
      | (go_at_call 23; (with_reducible refine (CV.out _).mono ?_); rintro e w3 ⟨rfl, rfl⟩)
      | fail)
  clear a2 a3
  have a0 := D0.out.cells.2.2.2.1
  have c0 : V.cell? ⟨d, 0, none⟩ = some (.pointer (some ⟨f, 0, none⟩)) := (BV.out.cell (p := ⟨d, 0, none⟩) hd0).trans C0.out
  go_wp2_with fail
  refine (CL.out _ BV.out.drew).mono ?_
  rintro e w1 ⟨rfl, hFF, t1⟩
  have t2 : Turn (Own f c) V w1 := (Turn.refl _ V).drew.trans t1
  have HB := Lib.hid (NT.out V w1 BV.out t2 ⟨[], false, (0, false), hFF, rfl⟩)
  have D1 := Lib.hid (D0.out.turn t2 fun k hk => .inl (HO.out k hk))
  have S1 := Lib.hid (show Sl w1 0 3 (.slice va vn vc) xs.length (rjc xs) from (SV.out.on BV.out).same t2.size fun k hk => t2.block k ((SV.out.on BV.out).lt k hk).2 (NV.out k hk))
  clear t1 t2 hFF a0 c0
  have x0 := D1.out.cells.1
  have x1 := D1.out.cells.2.1
  have x2 := D1.out.cells.2.2.1
  obtain ⟨⟨r0, r1, r2⟩, hfr, hfx⟩ := D1.out.res
  have f0 := hfr 0
  have f1 := hfr 1
  have f2 := hfr 2
  have g2 := hfx 2
  clear hfr hfx
  have hlz : w.heap.size < w1.heap.size := by have := D1.out.size; omega
  clear f0 f1 f2
  go_upto_region 22 with fail
  obtain ⟨W2, hW2⟩ : ∃ W2, W2 = w1.setCell ⟨w.heap.size, 2, none⟩ (.slice none 0 0) := ⟨_, rfl⟩
  have TW0 := Lib.hid (show Turn (fun i => i = w.heap.size ∨ i = w.heap.size + 2) w1 W2 from by rw [hW2]; exact Turn.setCell (S := fun i => i = w.heap.size ∨ i = w.heap.size + 2) (Turn.refl _ w1) ⟨w.heap.size, 2, none⟩ _ (.inl rfl))
  have y0 : W2.cell? ⟨w.heap.size, 0, none⟩ = some (.slice va vn vc) := by rw [hW2, cell_setCell_other _ _ _ _ _ (.inr (by simp))]; exact x0
  have y1 : W2.cell? ⟨w.heap.size, 1, none⟩ = some (.int .i64 rm) := by rw [hW2, cell_setCell_other _ _ _ _ _ (.inr (by simp))]; exact x1
  have y2 : W2.cell? ⟨w.heap.size, 2, none⟩ = some (.slice none 0 0) := by rw [hW2]; exact cell_setCell_same _ _ _ _ (by rw [x2]; rfl)
  have s0 : W2.cell? ⟨w.heap.size + 2, 0, none⟩ = some (.slice none 0 0) := by rw [hW2, cell_setCell_other _ _ _ _ _ (.inl (by simp))]; exact r0
  have s1 : W2.cell? ⟨w.heap.size + 2, 1, none⟩ = some (.int .i64 0) := by rw [hW2, cell_setCell_other _ _ _ _ _ (.inl (by simp))]; exact r1
  have s2 : W2.cell? ⟨w.heap.size + 2, 2, none⟩ = some (.slice none 0 0) := by rw [hW2, cell_setCell_other _ _ _ _ _ (.inl (by simp))]; exact r2
  have f0 : W2.frozen? ⟨w.heap.size + 2, 0, none⟩ = false := by rw [hW2, frozen_setCell]; exact D1.out.res.2.1 0
  have f1 : W2.frozen? ⟨w.heap.size + 2, 1, none⟩ = false := by rw [hW2, frozen_setCell]; exact D1.out.res.2.1 1
  have f2 : W2.frozen? ⟨w.heap.size + 2, 2, none⟩ = false := by rw [hW2, frozen_setCell]; exact D1.out.res.2.1 2
  rw [← hW2]
  clear hW2 x0 x1 x2 r0 r1 r2 g2 hlz
  go_wp2_with fail
  obtain ⟨W6, hW6⟩ : ∃ W6, W6 = ((W2.setCell ⟨w.heap.size + 2, 0, none⟩ (.slice va vn vc)).setCell ⟨w.heap.size + 2, 1, none⟩ (.int .i64 rm)).setCell ⟨w.heap.size + 2, 2, none⟩ (.slice none 0 0) := ⟨_, rfl⟩
  have c0 : W6.cell? ⟨w.heap.size + 2, 0, none⟩ = some (.slice va vn vc) := by
    rw [hW6, cell_setCell_other _ _ _ _ _ (.inr (by simp)), cell_setCell_other _ _ _ _ _ (.inr (by simp))]
    exact cell_setCell_same _ _ _ _ (by rw [s0]; rfl)
  have c1 : W6.cell? ⟨w.heap.size + 2, 1, none⟩ = some (.int .i64 rm) := by
    rw [hW6, cell_setCell_other _ _ _ _ _ (.inr (by simp))]
    exact cell_setCell_same _ _ _ _ (by rw [cell_setCell_other _ _ _ _ _ (.inr (by simp)), s1]; rfl)
  have c2 : W6.cell? ⟨w.heap.size + 2, 2, none⟩ = some (.slice none 0 0) := by
    rw [hW6]
    exact cell_setCell_same _ _ _ _ (by rw [cell_setCell_other _ _ _ _ _ (.inr (by simp)), cell_setCell_other _ _ _ _ _ (.inr (by simp)), s2]; rfl)
  have TW : Turn (fun i => i = w.heap.size ∨ i = w.heap.size + 2) w1 W6 := by
    rw [hW6]
    exact Turn.setCell (S := fun i => i = w.heap.size ∨ i = w.heap.size + 2) (Turn.setCell (S := fun i => i = w.heap.size ∨ i = w.heap.size + 2) (Turn.setCell (S := fun i => i = w.heap.size ∨ i = w.heap.size + 2) TW0.out ⟨w.heap.size + 2, 0, none⟩ _ (.inr rfl)) ⟨w.heap.size + 2, 1, none⟩ _ (.inr rfl)) ⟨w.heap.size + 2, 2, none⟩ _ (.inr rfl)
  rw [← hW6]
  refine bodyPost_ret (by simp [results, Try.results7, go_sem, c0, c1, c2]; rfl) rfl ?_
  obtain ⟨fs', hDone⟩ := DoneD.of HB.out BV.out (by have := ZV.out; omega) hvl.out hul.out hml.out S1.out (Sl.nil _ _ _) (fun _ hk => .inl hk) (fun _ hk => nomatch hk) (Below.refl _ w1) TW
  exact ⟨_, _, fs', rfl, hDone⟩
end Go.Proofs.Ytnjoojffefhgpaa

namespace Go.Proofs.Ytnjoojffefhgpaa
open Go.Conc Go.RowKit Go.Lib
set_option linter.unusedVariables false

set_option maxHeartbeats 2000000 in
set_option maxRecDepth 100000 in
theorem does8_any (base d f c m ck : Nat) (rm : Int) (fs : List Fl) (v u : Value) (xs : List Rj) (A : List Ft) (an : Int) (ta tb : ByteArray) (dd : Bool) (ca : Option Addr) (cn cc : Nat) (w : World) (hdk : DiskAt base d f c m rm fs A ck w) (hrel : RelD fs xs) (hs : Sl w 0 3 v xs.length (rjc xs)) (hlen : xs.length ≤ 900) (hu : Sl w 0 2 u A.length (ftc A)) (hfv : ∀ k, v.ownBlock = some k → ¬ Mine d f c m fs k) (hfu : ∀ k, u.ownBlock = some k → ¬ Mine d f c m fs k) (hA : A.length ≤ 101) (hf : ∀ x ∈ A, Ft.Fits x) (hused : usedF fs ≤ 900000) :
    Calls Try.prog 7 #[.pointer (some ⟨d, 0, none⟩), rdv v rm u, .agg #[.int .i64 8, .int .i64 an, .string ta, .string tb, .bool dd, .slice ca cn cc]] w fun e w' => ∃ v' u' fs', e = .returned (.tuple #[rdv v' rm u', .bool true]) ∧ DoneD base d f c m rm fs v u w v' u' fs' (rcutR (cutB ta 45) an xs A).1 (rcutR (cutB ta 45) an xs A).2.1 w' := by
  obtain ⟨name, hname⟩ : ∃ name, name = cutB ta 45 := ⟨_, rfl⟩
  obtain ⟨sb, hsb⟩ : ∃ sb, sb = cutB tb 50 := ⟨_, rfl⟩
  have CU := Lib.hid (fun W => show Calls Try.prog 23 #[.string ta, .int .i64 45] W (fun e w' => e = .returned (.string name) ∧ W = w') by rw [hname]; exact cut_any ta 45 W (by omega))
  have CV := Lib.hid (fun W => show Calls Try.prog 23 #[.string tb, .int .i64 50] W (fun e w' => e = .returned (.string sb) ∧ W = w') by rw [hsb]; exact cut_any tb 50 W (by omega))
  have hss : sb.size ≤ 50 := by rw [hsb]; exact cutB_le4 tb 50
  rw [← hname]
  clear hname hsb
  have hvl := Lib.hid (fun k hk => And.intro (hs.lt k hk).2 (hfv k hk))
  have hul := Lib.hid (fun k hk => And.intro (hu.lt k hk).2 (hfu k hk))
  have hml := Lib.hid (Mine.lt hdk)
  have hd0 : d < w.heap.size := Mine.lt hdk d (.inl rfl)
  obtain ⟨V, hV⟩ : ∃ V, V = ((w.alloc (.cells #[v, .int .i64 rm, u] 30)).alloc (.cells #[.int .i64 8, .int .i64 an, .string ta, .string tb, .bool dd, .slice ca cn cc] 40)).alloc (.cells #[.slice none 0 0, .int .i64 0, .slice none 0 0] 30) := ⟨_, rfl⟩
  obtain ⟨D0, bV, zV⟩ := DV.start w v rm u 8 an ta tb dd ca cn cc V hV
  have PK := Lib.hid (fun W (b : Below w.heap.size w W) => play_trunc base d f c m rm fs xs A ck name an W (hdk.below b) hrel)
  have hdz : ∀ x ∈ xs, x.data.size ≤ 1000000 := fun x hx => by
    have h1 : x.data.size ≤ usedR xs := used_mem hx
    have h2 := used_D hrel
    omega
  have hru : usedR xs ≤ 2000000 := by have := used_D hrel; omega
  have RD := Lib.hid (fun W (h1 : Sl W 0 3 v xs.length (rjc xs)) (h2 : Sl W 0 2 u A.length (ftc A)) => rcut_any 0 v rm u xs A name an W h1 hlen h2 (Nat.zero_le _) hA hf hdz)
  obtain ⟨D, hD⟩ : ∃ D, D = rcutR (name) an xs A := ⟨_, rfl⟩
  rw [← hD] at PK RD ⊢
  obtain ⟨L2, hL2⟩ : ∃ L2, L2 = D.1 := ⟨_, rfl⟩
  obtain ⟨A2, hA2⟩ : ∃ A2, A2 = D.2.1 := ⟨_, rfl⟩
  obtain ⟨e1, he1⟩ : ∃ e1, e1 = D.2.2 := ⟨_, rfl⟩
  unfold BothE at PK
  unfold DoP at RD
  rw [← hL2, ← hA2, ← he1] at PK RD
  rw [← hL2, ← hA2]
  have SV := Lib.hid hs
  have TV := Lib.hid hu
  have HFV := Lib.hid hfv
  have HFU := Lib.hid hfu
  obtain ⟨va, vc, ev⟩ := hs.slice
  obtain ⟨ua, uc, eu⟩ := hu.slice
  obtain ⟨vn, hvn⟩ : ∃ n, n = xs.length := ⟨_, rfl⟩
  obtain ⟨un, hun⟩ : ∃ n, n = A.length := ⟨_, rfl⟩
  rw [← hvn] at ev
  rw [← hun] at eu
  subst ev eu
  rw [← hvn] at SV RD
  rw [← hun] at TV RD
  have HV := Lib.hid hV
  have HVN := Lib.hid hvn
  have HUN := Lib.hid hun
  have D0 := Lib.hid D0
  have BV := Lib.hid bV
  have ZV := Lib.hid zV
  clear hdk hrel hs hlen hu hfv hfu hA hf hused hV bV zV hD hL2 hA2 he1 hdz hru hvn hun hss
  unfold rdv
  unfold rdv at RD
  go_enter Try.func7, Try.ntmps7
  go_upto_region 1 with fail
  rw [← HV.out]
  have a2 := D0.out.cells.2.2.2.2.2.1
  have a3 := D0.out.cells.2.2.2.2.2.2.1
  go_region_held3 (fun W => W.cell? ⟨w.heap.size + 1, 2, none⟩ = some (.string ta) ∧ W.cell? ⟨w.heap.size + 1, 3, none⟩ = some (.string tb)) (first | exact ⟨a2, a3⟩ | assumption)
    (first
      | (go_at_call 23; (with_reducible refine (CU.out _).mono ?_); rintro e w3 ⟨rfl, rfl⟩)
      | (go_at_call 23; (with_reducible refine (CV.out _).mono ?_); rintro e w3 ⟨rfl, rfl⟩)
      | fail)
  clear a2 a3
  obtain ⟨x0, x1, x2, a0, a1, a2, a3, a4, a5⟩ := D0.out.cells
  clear x0 x1 x2 a2 a3 a4
  go_wp2_with fail
  refine (PK.out _ BV.out.drew).mono ?_
  rintro e w1 ⟨rfl, hB⟩
  have t1 : Turn (Mine d f c m fs) V w1 := by
    obtain ⟨fs', ⟨_, h, _⟩, _, _⟩ := hB
    exact (Turn.refl _ V).drew.trans h
  have hB' : Both base d f c m rm fs L2 A2 V w1 := by
    obtain ⟨fs', ⟨h0, h, h9⟩, h7, h8⟩ := hB
    exact ⟨fs', ⟨h0, t1, h9⟩, h7, h8⟩
  have D1 := Lib.hid (D0.out.turn t1 fun k hk => .inl (hml.out k hk))
  have s1 : Sl w1 0 3 (.slice va vn vc) vn (rjc xs) := (SV.out.on BV.out).same t1.size fun k hk => t1.block k ((SV.out.on BV.out).lt k hk).2 (HFV.out k hk)
  have u1 : Sl w1 0 2 (.slice ua un uc) un (ftc A) := (TV.out.on BV.out).same t1.size fun k hk => t1.block k ((TV.out.on BV.out).lt k hk).2 (HFU.out k hk)
  have RD1 := Lib.hid (RD.out w1 s1 u1)
  have HB := Lib.hid hB'
  have T1 := Lib.hid t1.size
  clear hB hB' t1 s1 u1 RD PK
  obtain ⟨x0, x1, x2, a0, a1, a2, a3, a4, a5⟩ := D1.out.cells
  go_wp2_with fail
  refine RD1.out.mono ?_
  rintro e w2 ⟨v2, u2, rfl, s2, t2, o2, q2, b2⟩
  obtain ⟨z2, y2, rfl⟩ := s2.slice
  obtain ⟨z3, y3, rfl⟩ := t2.slice
  have D2 := Lib.hid (D1.out.turn (S := fun _ => False) (Turn.of_below b2) fun k hk => hk.elim)
  have hz2 : w.heap.size + 2 < w2.heap.size := by have := D2.out.size; omega
  have HZ2 := Lib.hid hz2
  obtain ⟨n2, hn2⟩ : ∃ n, n = L2.length := ⟨_, rfl⟩
  obtain ⟨n3, hn3⟩ : ∃ n, n = A2.length := ⟨_, rfl⟩
  rw [← hn2, ← hn3]
  rw [← hn2] at s2 o2
  rw [← hn3] at t2 q2
  have S2 := Lib.hid s2
  have T2 := Lib.hid t2
  have O2 := Lib.hid o2
  have Q2 := Lib.hid q2
  have B2 := Lib.hid b2
  have HN2 := Lib.hid hn2
  have HN3 := Lib.hid hn3
  clear x0 x1 x2 a0 a1 a2 a3 a4 a5 s2 t2 o2 q2 b2 hn2 hn3 RD1
  obtain ⟨⟨r0, r1, r2⟩, hfr, _⟩ := D2.out.res
  have f0 := hfr 0
  have f1 := hfr 1
  have f2 := hfr 2
  clear hfr
  go_wp2_with fail
  obtain ⟨W6, hW6⟩ : ∃ W6, W6 = (((w2.setCell ⟨w.heap.size + 2, 0, none⟩ (.slice z2 n2 y2)).setCell ⟨w.heap.size + 2, 1, none⟩ (.int .i64 rm)).setCell ⟨w.heap.size + 2, 2, none⟩ (.slice z3 n3 y3)).alloc (.cells #[.slice z2 n2 y2, .int .i64 rm, .slice z3 n3 y3] 30) := ⟨_, rfl⟩
  have hz4 : w.heap.size + 2 < (((w2.setCell ⟨w.heap.size + 2, 0, none⟩ (.slice z2 n2 y2)).setCell ⟨w.heap.size + 2, 1, none⟩ (.int .i64 rm)).setCell ⟨w.heap.size + 2, 2, none⟩ (.slice z3 n3 y3)).heap.size := by simp only [World.size_setCell]; exact HZ2.out
  have c0 : W6.cell? ⟨w.heap.size + 2, 0, none⟩ = some (.slice z2 n2 y2) := by
    rw [hW6, World.cell?_alloc_past _ _ _ hz4, cell_setCell_other _ _ _ _ _ (.inr (by simp)), cell_setCell_other _ _ _ _ _ (.inr (by simp))]
    exact cell_setCell_same _ _ _ _ (by rw [r0]; rfl)
  have c1 : W6.cell? ⟨w.heap.size + 2, 1, none⟩ = some (.int .i64 rm) := by
    rw [hW6, World.cell?_alloc_past _ _ _ hz4, cell_setCell_other _ _ _ _ _ (.inr (by simp))]
    exact cell_setCell_same _ _ _ _ (by rw [cell_setCell_other _ _ _ _ _ (.inr (by simp)), r1]; rfl)
  have c2 : W6.cell? ⟨w.heap.size + 2, 2, none⟩ = some (.slice z3 n3 y3) := by
    rw [hW6, World.cell?_alloc_past _ _ _ hz4]
    exact cell_setCell_same _ _ _ _ (by rw [cell_setCell_other _ _ _ _ _ (.inr (by simp)), cell_setCell_other _ _ _ _ _ (.inr (by simp)), r2]; rfl)
  have TW : Turn (fun i => i = w.heap.size ∨ i = w.heap.size + 2) w2 W6 := by
    rw [hW6]
    exact (Turn.setCell (S := fun i => i = w.heap.size ∨ i = w.heap.size + 2) (Turn.setCell (S := fun i => i = w.heap.size ∨ i = w.heap.size + 2) (Turn.setCell (S := fun i => i = w.heap.size ∨ i = w.heap.size + 2) (Turn.refl _ w2) ⟨w.heap.size + 2, 0, none⟩ _ (.inr rfl)) ⟨w.heap.size + 2, 1, none⟩ _ (.inr rfl)) ⟨w.heap.size + 2, 2, none⟩ _ (.inr rfl)).alloc _
  rw [← hW6]
  refine bodyPost_ret (by simp [results, Try.results7, go_sem, c0, c1, c2]; rfl) rfl ?_
  obtain ⟨fs', hDone⟩ := DoneD.of HB.out BV.out (by have := ZV.out; omega) hvl.out hul.out hml.out (by rw [← HN2.out]; exact S2.out) (by rw [← HN3.out]; exact T2.out) O2.out Q2.out B2.out TW
  exact ⟨_, _, fs', rfl, hDone⟩
end Go.Proofs.Ytnjoojffefhgpaa

namespace Go.Proofs.Ytnjoojffefhgpaa
open Go.Conc Go.RowKit
set_option linter.unusedVariables false

theorem withR_len (x : Rj) (xs : List Rj) : (withR x xs).length ≤ xs.length + 1 := by
  unfold withR
  rw [insL_len]
  have := outR_le x.name xs
  omega
theorem triedR_len (xs' xs : List Rj) (A : List Ft) (n : Nat) (h : xs'.length ≤ n) (k : xs.length ≤ n) : (triedR xs' xs A).1.length ≤ n ∧ (triedR xs' xs A).2.1 = (tryL A).2 := by
  refine ⟨?_, rfl⟩
  show (if (tryL A).1.2 = true then xs' else xs).length ≤ n
  split
  · exact h
  · exact k
/-- So many more, the faults that are left. -/
def FewD (D : List Rj × List Ft × Int) (xs : List Rj) (A : List Ft) : Prop := D.1.length ≤ xs.length + 1 ∧ (D.2.1 = A ∨ D.2.1 = (tryL A).2)
theorem few_same (xs : List Rj) (A : List Ft) (e : Int) : FewD (xs, A, e) xs A := ⟨Nat.le_succ _, .inl rfl⟩
theorem few_tried (xs' xs : List Rj) (A : List Ft) (h : xs'.length ≤ xs.length + 1) : FewD (triedR xs' xs A) xs A := by
  obtain ⟨h1, h2⟩ := triedR_len xs' xs A (xs.length + 1) h (Nat.le_succ _)
  exact ⟨h1, .inr h2⟩
theorem few_app (rm : Int) (k s : ByteArray) (xs : List Rj) (A : List Ft) : FewD (appR rm k s xs A) xs A := by
  unfold appR
  split
  · split
    · exact few_same _ _ _
    · exact few_tried _ _ _ (withR_len _ _)
  · exact few_same _ _ _
theorem few_syn (k : ByteArray) (xs : List Rj) (A : List Ft) : FewD (synR k xs A) xs A := by
  unfold synR
  split
  · exact few_same _ _ _
  · exact few_tried _ _ _ (withR_len _ _)
theorem few_ren (k s : ByteArray) (xs : List Rj) (A : List Ft) : FewD (renR k s xs A) xs A := by
  unfold renR
  split
  · exact few_same _ _ _
  · split
    · refine few_tried _ _ _ (Nat.le_trans (withR_len _ _) ?_)
      have := outR_le k xs
      omega
    · exact few_same _ _ _
theorem few_rmv (k : ByteArray) (xs : List Rj) (A : List Ft) : FewD (rmvR k xs A) xs A := by
  unfold rmvR
  split
  · exact few_tried _ _ _ (by have := outR_le k xs; omega)
  · exact few_same _ _ _
theorem few_cut (k : ByteArray) (n : Int) (xs : List Rj) (A : List Ft) : FewD (rcutR k n xs A) xs A := by
  unfold rcutR
  split
  · exact few_same _ _ _
  · split
    · exact few_tried _ _ _ (withR_len _ _)
    · exact few_same _ _ _
theorem few_A {D : List Rj × List Ft × Int} {xs : List Rj} {A : List Ft} (h : FewD D xs A) (hf : ∀ x ∈ A, Ft.Fits x) : D.2.1.length ≤ A.length + 1 ∧ ∀ x ∈ D.2.1, Ft.Fits x := by
  rcases h.2 with e | e <;> rw [e]
  · exact ⟨Nat.le_succ _, hf⟩
  · exact ⟨Nat.le_trans (tryL_few4 A) (Nat.le_succ _), tryL_fit4 A hf⟩

theorem ddoes_any (base d f c m ck : Nat) (rm : Int) (fs : List Fl) (v u : Value) (xs : List Rj) (A : List Ft) (kd an : Int) (ta tb : ByteArray) (dd : Bool) (ca : Option Addr) (cn cc : Nat) (cs : List Int) (w : World) (hdk : DiskAt base d f c m rm fs A ck w) (hrel : RelD fs xs) (hs : Sl w 0 3 v xs.length (rjc xs)) (hlen : xs.length ≤ 900) (hu : Sl w 0 2 u A.length (ftc A)) (hfv : ∀ k, v.ownBlock = some k → ¬ Mine d f c m fs k) (hfu : ∀ k, u.ownBlock = some k → ¬ Mine d f c m fs k) (hA : A.length ≤ 101) (hf : ∀ x ∈ A, Ft.Fits x) (hused : usedF fs ≤ 900000)
    (hft : Ft.Fits (an, dd)) (hi : IntsIn w (.slice ca cn cc) cs) (hrc : Reach cs) (hch : 0 < cs.length → ∀ k, (Value.slice ca cn cc).ownBlock = some k → k < w.heap.size ∧ ¬ Mine d f c m fs k) :
    Calls Try.prog 7 #[.pointer (some ⟨d, 0, none⟩), rdv v rm u, .agg #[.int .i64 kd, .int .i64 an, .string ta, .string tb, .bool dd, .slice ca cn cc]] w fun e w' => ∃ v' u' fs' xs' A', e = .returned (.tuple #[rdv v' rm u', .bool true]) ∧ DoneD base d f c m rm fs v u w v' u' fs' xs' A' w' ∧ xs'.length ≤ xs.length + 1 ∧ A'.length ≤ A.length + 1 ∧ ∀ x ∈ A', Ft.Fits x := by
  by_cases h1 : kd = 1
  · subst h1
    refine (does1_any base d f c m ck rm fs v u xs A an ta tb dd ca cn cc w hdk hrel hs hlen hu hfv hfu hA hf hused).mono ?_
    rintro e w' ⟨v', u', fs', rfl, p⟩
    have h := few_app rm (cutB ta 45) (cutB tb 50) xs A
    obtain ⟨q1, q2⟩ := few_A h hf
    exact ⟨v', u', fs', _, _, rfl, p, h.1, q1, q2⟩
  by_cases h2 : kd = 2
  · subst h2
    refine (does2_any base d f c m ck rm fs v u xs A an ta tb dd ca cn cc w hdk hrel hs hlen hu hfv hfu hA hf hused).mono ?_
    rintro e w' ⟨v', u', fs', rfl, p⟩
    have h := few_syn (cutB ta 45) xs A
    obtain ⟨q1, q2⟩ := few_A h hf
    exact ⟨v', u', fs', _, _, rfl, p, h.1, q1, q2⟩
  by_cases h3 : kd = 3
  · subst h3
    refine (does3_any base d f c m ck rm fs v u xs A an ta tb dd ca cn cc w hdk hrel hs hlen hu hfv hfu hA hf hused).mono ?_
    rintro e w' ⟨v', u', fs', rfl, p⟩
    have h := few_ren (cutB ta 45) (cutB tb 50) xs A
    obtain ⟨q1, q2⟩ := few_A h hf
    exact ⟨v', u', fs', _, _, rfl, p, h.1, q1, q2⟩
  by_cases h4 : kd = 4
  · subst h4
    refine (does4_any base d f c m ck rm fs v u xs A an ta tb dd ca cn cc w hdk hrel hs hlen hu hfv hfu hA hf hused).mono ?_
    rintro e w' ⟨v', u', fs', rfl, p⟩
    have h := few_rmv (cutB ta 45) xs A
    obtain ⟨q1, q2⟩ := few_A h hf
    exact ⟨v', u', fs', _, _, rfl, p, h.1, q1, q2⟩
  by_cases h8 : kd = 8
  · subst h8
    refine (does8_any base d f c m ck rm fs v u xs A an ta tb dd ca cn cc w hdk hrel hs hlen hu hfv hfu hA hf hused).mono ?_
    rintro e w' ⟨v', u', fs', rfl, p⟩
    have h := few_cut (cutB ta 45) an xs A
    obtain ⟨q1, q2⟩ := few_A h hf
    exact ⟨v', u', fs', _, _, rfl, p, h.1, q1, q2⟩
  by_cases h5 : kd = 5
  · subst h5
    refine (does5_any base d f c m ck rm fs v u xs A an ta tb dd ca cn cc w hdk hrel hs hlen hu hfv hfu hA hf hused cs hi hrc hch).mono ?_
    rintro e w' ⟨v', u', fs', rfl, p⟩
    exact ⟨v', u', fs', _, _, rfl, p, by rw [crashR_len]; omega, by simp, by simp⟩
  by_cases h6 : kd = 6
  · subst h6
    refine (does6_any base d f c m ck rm fs v u xs A an ta tb dd ca cn cc w hdk hrel hs hlen hu hfv hfu hA hf hused hft).mono ?_
    rintro e w' ⟨v', u', fs', A', hA', rfl, p⟩
    refine ⟨v', u', fs', _, _, rfl, p, Nat.le_succ _, ?_, ?_⟩
    · rcases hA' with e | e <;> rw [e]
      · exact Nat.le_succ _
      · simp
    · rcases hA' with e | e <;> rw [e]
      · exact hf
      · intro x hx
        rcases List.mem_append.1 hx with hx | hx
        · exact hf x hx
        · rw [List.mem_singleton] at hx
          rw [hx]
          unfold Ft.Fits at hft ⊢
          simp only at hft ⊢
          omega
  by_cases h7 : kd = 7
  · subst h7
    refine (does7_any base d f c m ck rm fs v u xs A an ta tb dd ca cn cc w hdk hrel hs hlen hu hfv hfu hA hf hused).mono ?_
    rintro e w' ⟨v', u', fs', rfl, p⟩
    exact ⟨v', u', fs', _, _, rfl, p, Nat.le_succ _, by simp, by simp⟩
  refine (does0_any base d f c m ck rm fs v u xs A an ta tb dd ca cn cc w hdk hrel hs hlen hu hfv hfu hA hf hused kd h1 h2 h3 h4 h5 h6 h7 h8).mono ?_
  rintro e w' ⟨v', u', fs', rfl, p⟩
  exact ⟨v', u', fs', _, _, rfl, p, Nat.le_succ _, Nat.le_succ _, hf⟩
end Go.Proofs.Ytnjoojffefhgpaa
