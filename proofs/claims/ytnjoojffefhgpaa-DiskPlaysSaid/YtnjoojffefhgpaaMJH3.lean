/- Layer 4: a call on both: kind 3. Layer 4: a call on both: kind 4. Layer 4: a call on both: kind 5: a crash. -/
import Derived.Test.YtnjoojffefhgpaaMJD
namespace Go.Proofs.Ytnjoojffefhgpaa
open Go.Conc Go.RowKit Go.Lib
set_option linter.unusedVariables false

set_option maxHeartbeats 2000000 in
set_option maxRecDepth 100000 in
theorem does3_any (base d f c m ck : Nat) (rm : Int) (fs : List Fl) (v u : Value) (xs : List Rj) (A : List Ft) (an : Int) (ta tb : ByteArray) (dd : Bool) (ca : Option Addr) (cn cc : Nat) (w : World) (hdk : DiskAt base d f c m rm fs A ck w) (hrel : RelD fs xs) (hs : Sl w 0 3 v xs.length (rjc xs)) (hlen : xs.length ≤ 900) (hu : Sl w 0 2 u A.length (ftc A)) (hfv : ∀ k, v.ownBlock = some k → ¬ Mine d f c m fs k) (hfu : ∀ k, u.ownBlock = some k → ¬ Mine d f c m fs k) (hA : A.length ≤ 101) (hf : ∀ x ∈ A, Ft.Fits x) (hused : usedF fs ≤ 900000) :
    Calls Try.prog 7 #[.pointer (some ⟨d, 0, none⟩), rdv v rm u, .agg #[.int .i64 3, .int .i64 an, .string ta, .string tb, .bool dd, .slice ca cn cc]] w fun e w' => ∃ v' u' fs', e = .returned (.tuple #[rdv v' rm u', .bool true]) ∧ DoneD base d f c m rm fs v u w v' u' fs' (renR (cutB ta 45) (cutB tb 50) xs A).1 (renR (cutB ta 45) (cutB tb 50) xs A).2.1 w' := by
  obtain ⟨name, hname⟩ : ∃ name, name = cutB ta 45 := ⟨_, rfl⟩
  obtain ⟨sb, hsb⟩ : ∃ sb, sb = cutB tb 50 := ⟨_, rfl⟩
  have CU := Lib.hid (fun W => show Calls Try.prog 23 #[.string ta, .int .i64 45] W (fun e w' => e = .returned (.string name) ∧ W = w') by rw [hname]; exact cut_any ta 45 W (by omega))
  have CV := Lib.hid (fun W => show Calls Try.prog 23 #[.string tb, .int .i64 50] W (fun e w' => e = .returned (.string sb) ∧ W = w') by rw [hsb]; exact cut_any tb 50 W (by omega))
  have hss : sb.size ≤ 50 := by rw [hsb]; exact cutB_le4 tb 50
  rw [← hname, ← hsb]
  clear hname hsb
  have hvl := Lib.hid (fun k hk => And.intro (hs.lt k hk).2 (hfv k hk))
  have hul := Lib.hid (fun k hk => And.intro (hu.lt k hk).2 (hfu k hk))
  have hml := Lib.hid (Mine.lt hdk)
  have hd0 : d < w.heap.size := Mine.lt hdk d (.inl rfl)
  obtain ⟨V, hV⟩ : ∃ V, V = ((w.alloc (.cells #[v, .int .i64 rm, u] 30)).alloc (.cells #[.int .i64 3, .int .i64 an, .string ta, .string tb, .bool dd, .slice ca cn cc] 40)).alloc (.cells #[.slice none 0 0, .int .i64 0, .slice none 0 0] 30) := ⟨_, rfl⟩
  obtain ⟨D0, bV, zV⟩ := DV.start w v rm u 3 an ta tb dd ca cn cc V hV
  have PK := Lib.hid (fun W (b : Below w.heap.size w W) => play_rename base d f c m rm fs xs A ck name sb W (hdk.below b) hrel)
  have hdz : ∀ x ∈ xs, x.data.size ≤ 1000000 := fun x hx => by
    have h1 : x.data.size ≤ usedR xs := used_mem hx
    have h2 := used_D hrel
    omega
  have hru : usedR xs ≤ 2000000 := by have := used_D hrel; omega
  have RD := Lib.hid (fun W (h1 : Sl W 0 3 v xs.length (rjc xs)) (h2 : Sl W 0 2 u A.length (ftc A)) => rdo3_any 0 v rm u xs A name sb W h1 hlen h2 (Nat.zero_le _) hA hf)
  obtain ⟨D, hD⟩ : ∃ D, D = renR (name) (sb) xs A := ⟨_, rfl⟩
  rw [← hD] at PK RD ⊢
  obtain ⟨L2, hL2⟩ : ∃ L2, L2 = D.1 := ⟨_, rfl⟩
  obtain ⟨A2, hA2⟩ : ∃ A2, A2 = D.2.1 := ⟨_, rfl⟩
  obtain ⟨e1, he1⟩ : ∃ e1, e1 = D.2.2 := ⟨_, rfl⟩
  unfold BothE at PK
  unfold DoP at RD
  rw [← hL2, ← hA2, ← he1] at PK RD
  rw [← hL2, ← hA2]
  have SV := Lib.hid hs
  have TV := Lib.hid hu
  have HFV := Lib.hid hfv
  have HFU := Lib.hid hfu
  obtain ⟨va, vc, ev⟩ := hs.slice
  obtain ⟨ua, uc, eu⟩ := hu.slice
  obtain ⟨vn, hvn⟩ : ∃ n, n = xs.length := ⟨_, rfl⟩
  obtain ⟨un, hun⟩ : ∃ n, n = A.length := ⟨_, rfl⟩
  rw [← hvn] at ev
  rw [← hun] at eu
  subst ev eu
  rw [← hvn] at SV RD
  rw [← hun] at TV RD
  have HV := Lib.hid hV
  have HVN := Lib.hid hvn
  have HUN := Lib.hid hun
  have D0 := Lib.hid D0
  have BV := Lib.hid bV
  have ZV := Lib.hid zV
  clear hdk hrel hs hlen hu hfv hfu hA hf hused hV bV zV hD hL2 hA2 he1 hdz hru hvn hun hss
  unfold rdv
  unfold rdv at RD
  go_enter Try.func7, Try.ntmps7
  go_upto_region 1 with fail
  rw [← HV.out]
  have a2 := D0.out.cells.2.2.2.2.2.1
  have a3 := D0.out.cells.2.2.2.2.2.2.1
  go_region_held3 (fun W => W.cell? ⟨w.heap.size + 1, 2, none⟩ = some (.string ta) ∧ W.cell? ⟨w.heap.size + 1, 3, none⟩ = some (.string tb)) (first | exact ⟨a2, a3⟩ | assumption)
    (first
      | (go_at_call 23; (with_reducible refine (CU.out _).mono ?_); rintro e w3 ⟨rfl, rfl⟩)
      | (go_at_call 23; (with_reducible refine (CV.out _).mono ?_); rintro e w3 ⟨rfl, rfl⟩)
      | fail)
  clear a2 a3
  obtain ⟨x0, x1, x2, a0, a1, a2, a3, a4, a5⟩ := D0.out.cells
  clear x0 x1 x2 a2 a3 a4
  go_wp2_with fail
  refine (PK.out _ BV.out.drew).mono ?_
  rintro e w1 ⟨rfl, hB⟩
  have t1 : Turn (Mine d f c m fs) V w1 := by
    obtain ⟨fs', ⟨_, h, _⟩, _, _⟩ := hB
    exact (Turn.refl _ V).drew.trans h
  have hB' : Both base d f c m rm fs L2 A2 V w1 := by
    obtain ⟨fs', ⟨h0, h, h9⟩, h7, h8⟩ := hB
    exact ⟨fs', ⟨h0, t1, h9⟩, h7, h8⟩
  have D1 := Lib.hid (D0.out.turn t1 fun k hk => .inl (hml.out k hk))
  have s1 : Sl w1 0 3 (.slice va vn vc) vn (rjc xs) := (SV.out.on BV.out).same t1.size fun k hk => t1.block k ((SV.out.on BV.out).lt k hk).2 (HFV.out k hk)
  have u1 : Sl w1 0 2 (.slice ua un uc) un (ftc A) := (TV.out.on BV.out).same t1.size fun k hk => t1.block k ((TV.out.on BV.out).lt k hk).2 (HFU.out k hk)
  have RD1 := Lib.hid (RD.out w1 s1 u1)
  have HB := Lib.hid hB'
  have T1 := Lib.hid t1.size
  clear hB hB' t1 s1 u1 RD PK
  obtain ⟨x0, x1, x2, a0, a1, a2, a3, a4, a5⟩ := D1.out.cells
  go_wp2_with fail
  refine RD1.out.mono ?_
  rintro e w2 ⟨v2, u2, rfl, s2, t2, o2, q2, b2⟩
  obtain ⟨z2, y2, rfl⟩ := s2.slice
  obtain ⟨z3, y3, rfl⟩ := t2.slice
  have D2 := Lib.hid (D1.out.turn (S := fun _ => False) (Turn.of_below b2) fun k hk => hk.elim)
  have hz2 : w.heap.size + 2 < w2.heap.size := by have := D2.out.size; omega
  have HZ2 := Lib.hid hz2
  obtain ⟨n2, hn2⟩ : ∃ n, n = L2.length := ⟨_, rfl⟩
  obtain ⟨n3, hn3⟩ : ∃ n, n = A2.length := ⟨_, rfl⟩
  rw [← hn2, ← hn3]
  rw [← hn2] at s2 o2
  rw [← hn3] at t2 q2
  have S2 := Lib.hid s2
  have T2 := Lib.hid t2
  have O2 := Lib.hid o2
  have Q2 := Lib.hid q2
  have B2 := Lib.hid b2
  have HN2 := Lib.hid hn2
  have HN3 := Lib.hid hn3
  clear x0 x1 x2 a0 a1 a2 a3 a4 a5 s2 t2 o2 q2 b2 hn2 hn3 RD1
  obtain ⟨⟨r0, r1, r2⟩, hfr, _⟩ := D2.out.res
  have f0 := hfr 0
  have f1 := hfr 1
  have f2 := hfr 2
  clear hfr
  go_wp2_with fail
  obtain ⟨W6, hW6⟩ : ∃ W6, W6 = (((w2.setCell ⟨w.heap.size + 2, 0, none⟩ (.slice z2 n2 y2)).setCell ⟨w.heap.size + 2, 1, none⟩ (.int .i64 rm)).setCell ⟨w.heap.size + 2, 2, none⟩ (.slice z3 n3 y3)).alloc (.cells #[.slice z2 n2 y2, .int .i64 rm, .slice z3 n3 y3] 30) := ⟨_, rfl⟩
  have hz4 : w.heap.size + 2 < (((w2.setCell ⟨w.heap.size + 2, 0, none⟩ (.slice z2 n2 y2)).setCell ⟨w.heap.size + 2, 1, none⟩ (.int .i64 rm)).setCell ⟨w.heap.size + 2, 2, none⟩ (.slice z3 n3 y3)).heap.size := by simp only [World.size_setCell]; exact HZ2.out
  have c0 : W6.cell? ⟨w.heap.size + 2, 0, none⟩ = some (.slice z2 n2 y2) := by
    rw [hW6, World.cell?_alloc_past _ _ _ hz4, cell_setCell_other _ _ _ _ _ (.inr (by simp)), cell_setCell_other _ _ _ _ _ (.inr (by simp))]
    exact cell_setCell_same _ _ _ _ (by rw [r0]; rfl)
  have c1 : W6.cell? ⟨w.heap.size + 2, 1, none⟩ = some (.int .i64 rm) := by
    rw [hW6, World.cell?_alloc_past _ _ _ hz4, cell_setCell_other _ _ _ _ _ (.inr (by simp))]
    exact cell_setCell_same _ _ _ _ (by rw [cell_setCell_other _ _ _ _ _ (.inr (by simp)), r1]; rfl)
  have c2 : W6.cell? ⟨w.heap.size + 2, 2, none⟩ = some (.slice z3 n3 y3) := by
    rw [hW6, World.cell?_alloc_past _ _ _ hz4]
    exact cell_setCell_same _ _ _ _ (by rw [cell_setCell_other _ _ _ _ _ (.inr (by simp)), cell_setCell_other _ _ _ _ _ (.inr (by simp)), r2]; rfl)
  have TW : Turn (fun i => i = w.heap.size ∨ i = w.heap.size + 2) w2 W6 := by
    rw [hW6]
    exact (Turn.setCell (S := fun i => i = w.heap.size ∨ i = w.heap.size + 2) (Turn.setCell (S := fun i => i = w.heap.size ∨ i = w.heap.size + 2) (Turn.setCell (S := fun i => i = w.heap.size ∨ i = w.heap.size + 2) (Turn.refl _ w2) ⟨w.heap.size + 2, 0, none⟩ _ (.inr rfl)) ⟨w.heap.size + 2, 1, none⟩ _ (.inr rfl)) ⟨w.heap.size + 2, 2, none⟩ _ (.inr rfl)).alloc _
  rw [← hW6]
  refine bodyPost_ret (by simp [results, Try.results7, go_sem, c0, c1, c2]; rfl) rfl ?_
  obtain ⟨fs', hDone⟩ := DoneD.of HB.out BV.out (by have := ZV.out; omega) hvl.out hul.out hml.out (by rw [← HN2.out]; exact S2.out) (by rw [← HN3.out]; exact T2.out) O2.out Q2.out B2.out TW
  exact ⟨_, _, fs', rfl, hDone⟩
end Go.Proofs.Ytnjoojffefhgpaa

namespace Go.Proofs.Ytnjoojffefhgpaa
open Go.Conc Go.RowKit Go.Lib
set_option linter.unusedVariables false

set_option maxHeartbeats 2000000 in
set_option maxRecDepth 100000 in
theorem does4_any (base d f c m ck : Nat) (rm : Int) (fs : List Fl) (v u : Value) (xs : List Rj) (A : List Ft) (an : Int) (ta tb : ByteArray) (dd : Bool) (ca : Option Addr) (cn cc : Nat) (w : World) (hdk : DiskAt base d f c m rm fs A ck w) (hrel : RelD fs xs) (hs : Sl w 0 3 v xs.length (rjc xs)) (hlen : xs.length ≤ 900) (hu : Sl w 0 2 u A.length (ftc A)) (hfv : ∀ k, v.ownBlock = some k → ¬ Mine d f c m fs k) (hfu : ∀ k, u.ownBlock = some k → ¬ Mine d f c m fs k) (hA : A.length ≤ 101) (hf : ∀ x ∈ A, Ft.Fits x) (hused : usedF fs ≤ 900000) :
    Calls Try.prog 7 #[.pointer (some ⟨d, 0, none⟩), rdv v rm u, .agg #[.int .i64 4, .int .i64 an, .string ta, .string tb, .bool dd, .slice ca cn cc]] w fun e w' => ∃ v' u' fs', e = .returned (.tuple #[rdv v' rm u', .bool true]) ∧ DoneD base d f c m rm fs v u w v' u' fs' (rmvR (cutB ta 45) xs A).1 (rmvR (cutB ta 45) xs A).2.1 w' := by
  obtain ⟨name, hname⟩ : ∃ name, name = cutB ta 45 := ⟨_, rfl⟩
  obtain ⟨sb, hsb⟩ : ∃ sb, sb = cutB tb 50 := ⟨_, rfl⟩
  have CU := Lib.hid (fun W => show Calls Try.prog 23 #[.string ta, .int .i64 45] W (fun e w' => e = .returned (.string name) ∧ W = w') by rw [hname]; exact cut_any ta 45 W (by omega))
  have CV := Lib.hid (fun W => show Calls Try.prog 23 #[.string tb, .int .i64 50] W (fun e w' => e = .returned (.string sb) ∧ W = w') by rw [hsb]; exact cut_any tb 50 W (by omega))
  have hss : sb.size ≤ 50 := by rw [hsb]; exact cutB_le4 tb 50
  rw [← hname]
  clear hname hsb
  have hvl := Lib.hid (fun k hk => And.intro (hs.lt k hk).2 (hfv k hk))
  have hul := Lib.hid (fun k hk => And.intro (hu.lt k hk).2 (hfu k hk))
  have hml := Lib.hid (Mine.lt hdk)
  have hd0 : d < w.heap.size := Mine.lt hdk d (.inl rfl)
  obtain ⟨V, hV⟩ : ∃ V, V = ((w.alloc (.cells #[v, .int .i64 rm, u] 30)).alloc (.cells #[.int .i64 4, .int .i64 an, .string ta, .string tb, .bool dd, .slice ca cn cc] 40)).alloc (.cells #[.slice none 0 0, .int .i64 0, .slice none 0 0] 30) := ⟨_, rfl⟩
  obtain ⟨D0, bV, zV⟩ := DV.start w v rm u 4 an ta tb dd ca cn cc V hV
  have PK := Lib.hid (fun W (b : Below w.heap.size w W) => play_remove base d f c m rm fs xs A ck name W (hdk.below b) hrel)
  have hdz : ∀ x ∈ xs, x.data.size ≤ 1000000 := fun x hx => by
    have h1 : x.data.size ≤ usedR xs := used_mem hx
    have h2 := used_D hrel
    omega
  have hru : usedR xs ≤ 2000000 := by have := used_D hrel; omega
  have RD := Lib.hid (fun W (h1 : Sl W 0 3 v xs.length (rjc xs)) (h2 : Sl W 0 2 u A.length (ftc A)) => rdo4_any 0 v rm u xs A name sb W h1 hlen h2 (Nat.zero_le _) hA hf)
  obtain ⟨D, hD⟩ : ∃ D, D = rmvR (name) xs A := ⟨_, rfl⟩
  rw [← hD] at PK RD ⊢
  obtain ⟨L2, hL2⟩ : ∃ L2, L2 = D.1 := ⟨_, rfl⟩
  obtain ⟨A2, hA2⟩ : ∃ A2, A2 = D.2.1 := ⟨_, rfl⟩
  obtain ⟨e1, he1⟩ : ∃ e1, e1 = D.2.2 := ⟨_, rfl⟩
  unfold BothE at PK
  unfold DoP at RD
  rw [← hL2, ← hA2, ← he1] at PK RD
  rw [← hL2, ← hA2]
  have SV := Lib.hid hs
  have TV := Lib.hid hu
  have HFV := Lib.hid hfv
  have HFU := Lib.hid hfu
  obtain ⟨va, vc, ev⟩ := hs.slice
  obtain ⟨ua, uc, eu⟩ := hu.slice
  obtain ⟨vn, hvn⟩ : ∃ n, n = xs.length := ⟨_, rfl⟩
  obtain ⟨un, hun⟩ : ∃ n, n = A.length := ⟨_, rfl⟩
  rw [← hvn] at ev
  rw [← hun] at eu
  subst ev eu
  rw [← hvn] at SV RD
  rw [← hun] at TV RD
  have HV := Lib.hid hV
  have HVN := Lib.hid hvn
  have HUN := Lib.hid hun
  have D0 := Lib.hid D0
  have BV := Lib.hid bV
  have ZV := Lib.hid zV
  clear hdk hrel hs hlen hu hfv hfu hA hf hused hV bV zV hD hL2 hA2 he1 hdz hru hvn hun hss
  unfold rdv
  unfold rdv at RD
  go_enter Try.func7, Try.ntmps7
  go_upto_region 1 with fail
  rw [← HV.out]
  have a2 := D0.out.cells.2.2.2.2.2.1
  have a3 := D0.out.cells.2.2.2.2.2.2.1
  go_region_held3 (fun W => W.cell? ⟨w.heap.size + 1, 2, none⟩ = some (.string ta) ∧ W.cell? ⟨w.heap.size + 1, 3, none⟩ = some (.string tb)) (first | exact ⟨a2, a3⟩ | assumption)
    (first
      | (go_at_call 23; (with_reducible refine (CU.out _).mono ?_); rintro e w3 ⟨rfl, rfl⟩)
      | (go_at_call 23; (with_reducible refine (CV.out _).mono ?_); rintro e w3 ⟨rfl, rfl⟩)
      | fail)
  clear a2 a3
  obtain ⟨x0, x1, x2, a0, a1, a2, a3, a4, a5⟩ := D0.out.cells
  clear x0 x1 x2 a2 a3 a4
  go_wp2_with fail
  refine (PK.out _ BV.out.drew).mono ?_
  rintro e w1 ⟨rfl, hB⟩
  have t1 : Turn (Mine d f c m fs) V w1 := by
    obtain ⟨fs', ⟨_, h, _⟩, _, _⟩ := hB
    exact (Turn.refl _ V).drew.trans h
  have hB' : Both base d f c m rm fs L2 A2 V w1 := by
    obtain ⟨fs', ⟨h0, h, h9⟩, h7, h8⟩ := hB
    exact ⟨fs', ⟨h0, t1, h9⟩, h7, h8⟩
  have D1 := Lib.hid (D0.out.turn t1 fun k hk => .inl (hml.out k hk))
  have s1 : Sl w1 0 3 (.slice va vn vc) vn (rjc xs) := (SV.out.on BV.out).same t1.size fun k hk => t1.block k ((SV.out.on BV.out).lt k hk).2 (HFV.out k hk)
  have u1 : Sl w1 0 2 (.slice ua un uc) un (ftc A) := (TV.out.on BV.out).same t1.size fun k hk => t1.block k ((TV.out.on BV.out).lt k hk).2 (HFU.out k hk)
  have RD1 := Lib.hid (RD.out w1 s1 u1)
  have HB := Lib.hid hB'
  have T1 := Lib.hid t1.size
  clear hB hB' t1 s1 u1 RD PK
  obtain ⟨x0, x1, x2, a0, a1, a2, a3, a4, a5⟩ := D1.out.cells
  go_wp2_with fail
  refine RD1.out.mono ?_
  rintro e w2 ⟨v2, u2, rfl, s2, t2, o2, q2, b2⟩
  obtain ⟨z2, y2, rfl⟩ := s2.slice
  obtain ⟨z3, y3, rfl⟩ := t2.slice
  have D2 := Lib.hid (D1.out.turn (S := fun _ => False) (Turn.of_below b2) fun k hk => hk.elim)
  have hz2 : w.heap.size + 2 < w2.heap.size := by have := D2.out.size; omega
  have HZ2 := Lib.hid hz2
  obtain ⟨n2, hn2⟩ : ∃ n, n = L2.length := ⟨_, rfl⟩
  obtain ⟨n3, hn3⟩ : ∃ n, n = A2.length := ⟨_, rfl⟩
  rw [← hn2, ← hn3]
  rw [← hn2] at s2 o2
  rw [← hn3] at t2 q2
  have S2 := Lib.hid s2
  have T2 := Lib.hid t2
  have O2 := Lib.hid o2
  have Q2 := Lib.hid q2
  have B2 := Lib.hid b2
  have HN2 := Lib.hid hn2
  have HN3 := Lib.hid hn3
  clear x0 x1 x2 a0 a1 a2 a3 a4 a5 s2 t2 o2 q2 b2 hn2 hn3 RD1
  obtain ⟨⟨r0, r1, r2⟩, hfr, _⟩ := D2.out.res
  have f0 := hfr 0
  have f1 := hfr 1
  have f2 := hfr 2
  clear hfr
  go_wp2_with fail
  obtain ⟨W6, hW6⟩ : ∃ W6, W6 = (((w2.setCell ⟨w.heap.size + 2, 0, none⟩ (.slice z2 n2 y2)).setCell ⟨w.heap.size + 2, 1, none⟩ (.int .i64 rm)).setCell ⟨w.heap.size + 2, 2, none⟩ (.slice z3 n3 y3)).alloc (.cells #[.slice z2 n2 y2, .int .i64 rm, .slice z3 n3 y3] 30) := ⟨_, rfl⟩
  have hz4 : w.heap.size + 2 < (((w2.setCell ⟨w.heap.size + 2, 0, none⟩ (.slice z2 n2 y2)).setCell ⟨w.heap.size + 2, 1, none⟩ (.int .i64 rm)).setCell ⟨w.heap.size + 2, 2, none⟩ (.slice z3 n3 y3)).heap.size := by simp only [World.size_setCell]; exact HZ2.out
  have c0 : W6.cell? ⟨w.heap.size + 2, 0, none⟩ = some (.slice z2 n2 y2) := by
    rw [hW6, World.cell?_alloc_past _ _ _ hz4, cell_setCell_other _ _ _ _ _ (.inr (by simp)), cell_setCell_other _ _ _ _ _ (.inr (by simp))]
    exact cell_setCell_same _ _ _ _ (by rw [r0]; rfl)
  have c1 : W6.cell? ⟨w.heap.size + 2, 1, none⟩ = some (.int .i64 rm) := by
    rw [hW6, World.cell?_alloc_past _ _ _ hz4, cell_setCell_other _ _ _ _ _ (.inr (by simp))]
    exact cell_setCell_same _ _ _ _ (by rw [cell_setCell_other _ _ _ _ _ (.inr (by simp)), r1]; rfl)
  have c2 : W6.cell? ⟨w.heap.size + 2, 2, none⟩ = some (.slice z3 n3 y3) := by
    rw [hW6, World.cell?_alloc_past _ _ _ hz4]
    exact cell_setCell_same _ _ _ _ (by rw [cell_setCell_other _ _ _ _ _ (.inr (by simp)), cell_setCell_other _ _ _ _ _ (.inr (by simp)), r2]; rfl)
  have TW : Turn (fun i => i = w.heap.size ∨ i = w.heap.size + 2) w2 W6 := by
    rw [hW6]
    exact (Turn.setCell (S := fun i => i = w.heap.size ∨ i = w.heap.size + 2) (Turn.setCell (S := fun i => i = w.heap.size ∨ i = w.heap.size + 2) (Turn.setCell (S := fun i => i = w.heap.size ∨ i = w.heap.size + 2) (Turn.refl _ w2) ⟨w.heap.size + 2, 0, none⟩ _ (.inr rfl)) ⟨w.heap.size + 2, 1, none⟩ _ (.inr rfl)) ⟨w.heap.size + 2, 2, none⟩ _ (.inr rfl)).alloc _
  rw [← hW6]
  refine bodyPost_ret (by simp [results, Try.results7, go_sem, c0, c1, c2]; rfl) rfl ?_
  obtain ⟨fs', hDone⟩ := DoneD.of HB.out BV.out (by have := ZV.out; omega) hvl.out hul.out hml.out (by rw [← HN2.out]; exact S2.out) (by rw [← HN3.out]; exact T2.out) O2.out Q2.out B2.out TW
  exact ⟨_, _, fs', rfl, hDone⟩
end Go.Proofs.Ytnjoojffefhgpaa

namespace Go.Proofs.Ytnjoojffefhgpaa
open Go.Conc Go.RowKit Go.Lib
set_option linter.unusedVariables false

set_option maxHeartbeats 2000000 in
set_option maxRecDepth 100000 in
theorem does5_any (base d f c m ck : Nat) (rm : Int) (fs : List Fl) (v u : Value) (xs : List Rj) (A : List Ft) (an : Int) (ta tb : ByteArray) (dd : Bool) (ca : Option Addr) (cn cc : Nat) (w : World) (hdk : DiskAt base d f c m rm fs A ck w) (hrel : RelD fs xs) (hs : Sl w 0 3 v xs.length (rjc xs)) (hlen : xs.length ≤ 900) (hu : Sl w 0 2 u A.length (ftc A)) (hfv : ∀ k, v.ownBlock = some k → ¬ Mine d f c m fs k) (hfu : ∀ k, u.ownBlock = some k → ¬ Mine d f c m fs k) (hA : A.length ≤ 101) (hf : ∀ x ∈ A, Ft.Fits x) (hused : usedF fs ≤ 900000) (cs : List Int) (hi : IntsIn w (.slice ca cn cc) cs) (hrc : Reach cs) (hch : 0 < cs.length → ∀ k, (Value.slice ca cn cc).ownBlock = some k → k < w.heap.size ∧ ¬ Mine d f c m fs k) :
    Calls Try.prog 7 #[.pointer (some ⟨d, 0, none⟩), rdv v rm u, .agg #[.int .i64 5, .int .i64 an, .string ta, .string tb, .bool dd, .slice ca cn cc]] w fun e w' => ∃ v' u' fs', e = .returned (.tuple #[rdv v' rm u', .bool true]) ∧ DoneD base d f c m rm fs v u w v' u' fs' (crashR cs 0 xs) [] w' := by
  obtain ⟨name, hname⟩ : ∃ name, name = cutB ta 45 := ⟨_, rfl⟩
  obtain ⟨sb, hsb⟩ : ∃ sb, sb = cutB tb 50 := ⟨_, rfl⟩
  have CU := Lib.hid (fun W => show Calls Try.prog 23 #[.string ta, .int .i64 45] W (fun e w' => e = .returned (.string name) ∧ W = w') by rw [hname]; exact cut_any ta 45 W (by omega))
  have CV := Lib.hid (fun W => show Calls Try.prog 23 #[.string tb, .int .i64 50] W (fun e w' => e = .returned (.string sb) ∧ W = w') by rw [hsb]; exact cut_any tb 50 W (by omega))
  have hss : sb.size ≤ 50 := by rw [hsb]; exact cutB_le4 tb 50
  clear hname hsb
  have hvl := Lib.hid (fun k hk => And.intro (hs.lt k hk).2 (hfv k hk))
  have hul := Lib.hid (fun k hk => And.intro (hu.lt k hk).2 (hfu k hk))
  have hml := Lib.hid (Mine.lt hdk)
  have hd0 : d < w.heap.size := Mine.lt hdk d (.inl rfl)
  obtain ⟨V, hV⟩ : ∃ V, V = ((w.alloc (.cells #[v, .int .i64 rm, u] 30)).alloc (.cells #[.int .i64 5, .int .i64 an, .string ta, .string tb, .bool dd, .slice ca cn cc] 40)).alloc (.cells #[.slice none 0 0, .int .i64 0, .slice none 0 0] 30) := ⟨_, rfl⟩
  obtain ⟨D0, bV, zV⟩ := DV.start w v rm u 5 an ta tb dd ca cn cc V hV
  have SV := Lib.hid hs
  have TV := Lib.hid hu
  have HFV := Lib.hid hfv
  have hgc : ∃ gc : Option Nat, (0 < cs.length → ∀ k, (Value.slice ca cn cc).ownBlock = some k → gc = some k) ∧ ∀ k, gc = some k → k < w.heap.size ∧ ¬ Mine d f c m fs k := by
    by_cases h0 : 0 < cs.length
    · exact ⟨(Value.slice ca cn cc).ownBlock, fun _ k hk => hk, fun k hk => hch h0 k hk⟩
    · exact ⟨none, fun h => absurd h h0, fun k hk => nomatch hk⟩
  obtain ⟨gc, hg1, hg2⟩ := hgc
  have hfew : fs.length ≤ 1000 := by have := len_D hrel; omega
  have PK := Lib.hid (fun W (b : Below w.heap.size w W) => play_crash base d f c m rm fs xs A ck (.slice ca cn cc) cs gc W (hdk.below b) hrel hfew (hi.on fun h0 k hk => b.block k (hch h0 k hk).1) hrc hg1 (fun k hk => ⟨Nat.lt_of_lt_of_le (hg2 k hk).1 b.size, (hg2 k hk).2⟩))
  have hdz : ∀ x ∈ xs, x.data.size ≤ 1000000 ∧ 0 ≤ x.tm ∧ x.tm ≤ x.data.size := fun x hx => by
    have h1 : x.data.size ≤ usedR xs := used_mem hx
    have h2 := used_D hrel
    have hm : x ∈ (fs.map Fl.toO).map Ob.toR := hrel.2.mem_iff.2 hx
    rw [List.map_map] at hm
    obtain ⟨y, hy, rfl⟩ := List.mem_map.1 hm
    have h3 := hdk.files.sure y hy
    have h4 : (bs y.data).size = y.data.length := bs_size y.data
    refine ⟨by omega, ?_, ?_⟩
    · show (0 : Int) ≤ (y.sure : Nat)
      omega
    · show ((y.sure : Nat) : Int) ≤ (bs y.data).size
      omega
  have IC := Lib.hid (fun W (t : Turn (Mine d f c m fs) V W) => show IntsIn W (.slice ca cn cc) cs ∧ (0 < cs.length → ∀ k, (Value.slice ca cn cc).ownBlock = some k → k < W.heap.size) from
    ⟨hi.on fun h0 k hk => (t.block k (by have := (hch h0 k hk).1; omega) (hch h0 k hk).2).trans (bV.block k (hch h0 k hk).1), fun h0 k hk => by have := (hch h0 k hk).1; have := t.size; omega⟩)
  have RD := Lib.hid (fun W (h1 : Sl W 0 3 v xs.length (rjc xs)) (h2 : IntsIn W (.slice ca cn cc) cs) (h3 : 0 < cs.length → ∀ k, (Value.slice ca cn cc).ownBlock = some k → k < W.heap.size) => rcrash_any 0 v rm u xs (.slice ca cn cc) cs W h1 hlen (by obtain ⟨a, b, h⟩ := hu.slice; exact ⟨a, _, b, h⟩) hdz h2 hrc h3)
  obtain ⟨L2, hL2⟩ : ∃ L2, L2 = crashR cs 0 xs := ⟨_, rfl⟩
  have hll : L2.length = xs.length := by rw [hL2]; exact crashR_len cs 0 xs
  rw [← hL2] at PK RD ⊢
  obtain ⟨va, vc, ev⟩ := hs.slice
  obtain ⟨ua, uc, eu⟩ := hu.slice
  obtain ⟨vn, hvn⟩ : ∃ n, n = xs.length := ⟨_, rfl⟩
  obtain ⟨un, hun⟩ : ∃ n, n = A.length := ⟨_, rfl⟩
  rw [← hvn] at ev
  rw [← hun] at eu
  subst ev eu
  have HV := Lib.hid hV
  have HVN := Lib.hid hvn
  have HUN := Lib.hid hun
  have D0 := Lib.hid D0
  have BV := Lib.hid bV
  have ZV := Lib.hid zV
  rw [← hvn] at RD SV
  have HLL := Lib.hid hll
  clear hdk hrel hs hlen hu hfv hfu hA hf hused hV bV zV hvn hun hss hL2 hi hch hrc hfew hdz hg1 hg2 hll
  unfold rdv
  unfold rdv at RD
  go_enter Try.func7, Try.ntmps7
  go_upto_region 1 with fail
  rw [← HV.out]
  have a2 := D0.out.cells.2.2.2.2.2.1
  have a3 := D0.out.cells.2.2.2.2.2.2.1
  go_region_held3 (fun W => W.cell? ⟨w.heap.size + 1, 2, none⟩ = some (.string ta) ∧ W.cell? ⟨w.heap.size + 1, 3, none⟩ = some (.string tb)) (first | exact ⟨a2, a3⟩ | assumption)
    (first
      | (go_at_call 23; (with_reducible refine (CU.out _).mono ?_); rintro e w3 ⟨rfl, rfl⟩)
      | (go_at_call 23; (with_reducible refine (CV.out _).mono ?_); rintro e w3 ⟨rfl, rfl⟩)
      | fail)
  clear a2 a3
  have a0 := D0.out.cells.2.2.2.1
  have a5 := D0.out.cells.2.2.2.2.2.2.2.2
  go_wp2_with fail
  refine (PK.out _ BV.out.drew).mono ?_
  rintro e w1 ⟨rfl, hB⟩
  have t1 : Turn (Mine d f c m fs) V w1 := by
    obtain ⟨fs', ⟨_, h, _⟩, _, _⟩ := hB
    exact (Turn.refl _ V).drew.trans h
  have HB := Lib.hid (show Both base d f c m rm fs L2 [] V w1 from by
    obtain ⟨fs', ⟨h0, h, h9⟩, h7, h8⟩ := hB
    exact ⟨fs', ⟨h0, t1, h9⟩, h7, h8⟩)
  have D1 := Lib.hid (D0.out.turn t1 fun k hk => .inl (hml.out k hk))
  have S1 : Sl w1 0 3 (.slice va vn vc) vn (rjc xs) := (SV.out.on BV.out).same t1.size fun k hk => t1.block k ((SV.out.on BV.out).lt k hk).2 (HFV.out k hk)
  have RD1 := Lib.hid (RD.out w1 S1 (IC.out w1 t1).1 (IC.out w1 t1).2)
  clear hB t1 S1 a0 a5 RD PK IC
  have x0 := D1.out.cells.1
  have x1 := D1.out.cells.2.1
  have x2 := D1.out.cells.2.2.1
  have a5 := D1.out.cells.2.2.2.2.2.2.2.2
  go_wp2_with fail
  refine RD1.out.mono ?_
  rintro e w2 ⟨v2, rfl, s2, b2⟩
  obtain ⟨z2, y2, rfl⟩ := s2.slice
  have D2 := Lib.hid (D1.out.turn (S := fun _ => False) (Turn.of_below b2) fun k hk => hk.elim)
  have S2 := Lib.hid s2
  have B2 := Lib.hid b2
  have TW0 := Lib.hid (Turn.refl (fun i => i = w.heap.size ∨ i = w.heap.size + 2) w2)
  clear x0 x1 x2 a5 s2 b2 RD1
  obtain ⟨⟨r0, r1, r2⟩, hfr, hfx⟩ := D2.out.res
  have f0 := hfr 0
  have f1 := hfr 1
  have f2 := hfr 2
  have g2 := hfx 2
  clear hfr hfx
  go_wp2_with fail
  obtain ⟨W6, hW6⟩ : ∃ W6, W6 = ((w2.setCell ⟨w.heap.size + 2, 0, none⟩ (.slice z2 vn y2)).setCell ⟨w.heap.size + 2, 1, none⟩ (.int .i64 rm)).setCell ⟨w.heap.size + 2, 2, none⟩ (.slice none 0 0) := ⟨_, rfl⟩
  have c0 : W6.cell? ⟨w.heap.size + 2, 0, none⟩ = some (.slice z2 vn y2) := by
    rw [hW6, cell_setCell_other _ _ _ _ _ (.inr (by simp)), cell_setCell_other _ _ _ _ _ (.inr (by simp))]
    exact cell_setCell_same _ _ _ _ (by rw [r0]; rfl)
  have c1 : W6.cell? ⟨w.heap.size + 2, 1, none⟩ = some (.int .i64 rm) := by
    rw [hW6, cell_setCell_other _ _ _ _ _ (.inr (by simp))]
    exact cell_setCell_same _ _ _ _ (by rw [cell_setCell_other _ _ _ _ _ (.inr (by simp)), r1]; rfl)
  have c2 : W6.cell? ⟨w.heap.size + 2, 2, none⟩ = some (.slice none 0 0) := by
    rw [hW6]
    exact cell_setCell_same _ _ _ _ (by rw [cell_setCell_other _ _ _ _ _ (.inr (by simp)), cell_setCell_other _ _ _ _ _ (.inr (by simp)), r2]; rfl)
  have TW : Turn (fun i => i = w.heap.size ∨ i = w.heap.size + 2) w2 W6 := by
    rw [hW6]
    exact Turn.setCell (S := fun i => i = w.heap.size ∨ i = w.heap.size + 2) (Turn.setCell (S := fun i => i = w.heap.size ∨ i = w.heap.size + 2) (Turn.setCell (S := fun i => i = w.heap.size ∨ i = w.heap.size + 2) TW0.out ⟨w.heap.size + 2, 0, none⟩ _ (.inr rfl)) ⟨w.heap.size + 2, 1, none⟩ _ (.inr rfl)) ⟨w.heap.size + 2, 2, none⟩ _ (.inr rfl)
  rw [← hW6]
  refine bodyPost_ret (by simp [results, Try.results7, go_sem, c0, c1, c2]; rfl) rfl ?_
  obtain ⟨fs', hDone⟩ := DoneD.of HB.out BV.out (by have := ZV.out; omega) hvl.out hul.out hml.out (by rw [HLL.out, ← HVN.out]; exact S2.out.mono (Nat.zero_le _)) (Sl.nil _ _ _) (fun k hk => .inr (S2.out.lt k hk).1) (fun _ hk => nomatch hk) B2.out TW
  exact ⟨_, _, fs', rfl, hDone⟩
end Go.Proofs.Ytnjoojffefhgpaa
