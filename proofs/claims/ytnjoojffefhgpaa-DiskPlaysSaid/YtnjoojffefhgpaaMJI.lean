/- Layer 4: the law's arm: a fault more on the document's disk. -/
import Derived.Test.YtnjoojffefhgpaaMJD
import Derived.Test.YtnjoojffefhgpaaMHeld
namespace Go.Proofs.Ytnjoojffefhgpaa
open Go.Conc Go.RowKit Go.Lib
set_option linter.unusedVariables false

section
variable {P : Program} {ops : Array Oper} {Q : Exit → Act → World → Prop} {md : Region.Mode}
/-- One of two may come up. -/
theorem until_two {B T : World → Prop} {p i j : Nat} {o oj : Oper} {fuel : Nat} {listed : Array Bool} {a : Act} {w : World} (hr : Region.ready md ops listed = [i, j]) (ho : ops[i]? = some o) (hoj : ops[j]? = some oj)
    (h : ∀ K' : Act → World → Prop, Shut (∀ a w, B w → T w → (B w → T w → wpAnyL P md ops Q (Until B T p) fuel (listed.setIfInBounds i true) a w) → K' a w) → if Region.wanted o (yielded ops a.tmps) = true then Oper.wp P o a w K' Q else K' (a.put o.dst undef) w)
    (h2 : ∀ K' : Act → World → Prop, Shut (∀ a w, B w → T w → (B w → T w → wpAnyL P md ops Q (Until B T p) fuel (listed.setIfInBounds j true) a w) → K' a w) → if Region.wanted oj (yielded ops a.tmps) = true then Oper.wp P oj a w K' Q else K' (a.put oj.dst undef) w) :
    wpAnyL P md ops Q (Until B T p) (fuel + 1) listed a w := by
  refine until_ready hr (by simp) fun l hl => ?_
  simp only [List.mem_cons, List.not_mem_nil, or_false] at hl
  rcases hl with rfl | rfl
  · exact wpOp_step ho (fun K' hK => h K' (fun a w hB hT hW => hK a w ⟨⟨hB, fun _ => hT⟩, hW hB hT⟩))
  · exact wpOp_step hoj (fun K' hK => h2 K' (fun a w hB hT hW => hK a w ⟨⟨hB, fun _ => hT⟩, hW hB hT⟩))
end

/-- An append of whatever slice of one's own, as one step of a region that draws its order. -/
theorem step_append_sl2 {P : Program} {ops : Array Oper} {o : Oper} {a : Act} {w : World} {K : Act → World → Prop} {Q : Exit → Act → World → Prop} {E : Prop}
    (hg : o.guard = none) (s x : Operand) (t : TypeId) (ho : o.op = Op.call { callee := Callee.builtin Builtin.append, args := #[s, x], argTypes := #[t, t] })
    (base : Nat) (e : TypeId) (i : TypeInfo) (z : Value) (size bytes : Nat) (ht : P.underlying t = some (.slice e)) (hi : P.info? e = some i) (hz : i.zero = some z)
    (hsize : i.size = size) (hby : i.bytes = bytes) (hzs : z.cells.size = size) (hsz : 0 < size)
    (v : Value) (n : Nat) (xs : List Value) (hs : a.eval s = v) (hown : Sl w base size v n xs)
    (b2 : Nat) (xv : Value) (m : Nat) (news : List Value) (hx : a.eval x = xv) (hnew : Sl w b2 size xv m news) (h1 : ∀ u ∈ news, u.oneCell' = true)
    (h63 : n + m ≤ maxLen) (hbytes : (n + m) * bytes ≤ 140737488355328) (hbase : base ≤ w.heap.size)
    (hK : ∀ v' w', Ext base size w v n xs w' v' (n + m) (xs ++ news) → K (a.put o.dst v') w') :
    if Region.wanted o (yielded ops a.tmps) = true then Oper.wp P o a w K Q else E := by
  rcases hnew.2 with ⟨rfl, rfl⟩ | ⟨g, off, cap, rfl, _, _, _, _, _, _⟩
  · have hn : news = [] := List.eq_nil_of_length_eq_zero (by have := hnew.1; omega)
    subst hn
    have hw : Region.wanted o (yielded ops a.tmps) = true := by simp [Region.wanted, hg]
    rw [if_pos hw]
    have hr := run_append_none_sl (P := P) w base t o.type e i size ht hi v n xs hown
    unfold Oper.wp
    simp [execOp, ho, resolve, invoke, builtin, hs, hx, hr, Result.andThen]
    have := hK v w
    rw [Nat.add_zero, List.append_nil] at this
    exact this (Ext.refl hown)
  · exact step_append_sl hg s x t ho base e i z size bytes ht hi hz hsize hby hzs hsz v n xs hs hown ⟨g, off, none⟩ m cap news hx hnew.1 hnew.cells h1 h63 hbytes hbase hK


set_option maxHeartbeats 2000000 in
set_option maxRecDepth 100000 in
theorem rarm7_any (v : Value) (rm : Int) (u : Value) (xs : List Rj) (A : List Ft) (kd an : Int) (ta tb : ByteArray) (dd : Bool) (ca : Option Addr) (cn cc : Nat) (w : World) (hs : Sl w 0 3 v xs.length (rjc xs)) (hu : Sl w 0 2 u A.length (ftc A)) (hA : 16 ≤ A.length) :
    Calls Try.prog 27 #[rdv v rm u, .agg #[.int .i64 kd, .int .i64 an, .string ta, .string tb, .bool dd, .slice ca cn cc], .int .i64 7] w fun e w' => e = .returned (.tuple #[rdv v rm u, .bool true]) ∧ Below w.heap.size w w' := by
  obtain ⟨V, hV⟩ : ∃ V, V = ((w.alloc (.cells #[v, .int .i64 rm, u] 30)).alloc (.cells #[.int .i64 kd, .int .i64 an, .string ta, .string tb, .bool dd, .slice ca cn cc] 40)).alloc (.cells #[.slice none 0 0, .int .i64 0, .slice none 0 0] 30) := ⟨_, rfl⟩
  obtain ⟨D0, bV, zV⟩ := DV.start w v rm u kd an ta tb dd ca cn cc V hV
  have SV := Lib.hid hs
  have TV := Lib.hid hu
  obtain ⟨va, vc, ev⟩ := hs.slice
  obtain ⟨ua, uc, eu⟩ := hu.slice
  obtain ⟨vn, hvn⟩ : ∃ n, n = xs.length := ⟨_, rfl⟩
  obtain ⟨un, hun⟩ : ∃ n, n = A.length := ⟨_, rfl⟩
  rw [← hvn] at ev
  rw [← hun] at eu
  subst ev eu
  have HV := Lib.hid hV
  have HVN := Lib.hid hvn
  have HUN := Lib.hid hun
  have D0 := Lib.hid D0
  have BV := Lib.hid bV
  have ZV := Lib.hid zV
  have h16 : (16 : Int) ≤ un := by rw [hun]; omega
  clear hs hu hA hV bV zV hvn hun
  unfold rdv
  go_enter Try.func27, Try.ntmps27
  go_upto_region 2 with fail
  rw [← HV.out]
  rw [show w.heap.size + 1 + 1 = w.heap.size + 2 from rfl]
  have x0 := D0.out.cells.1
  have x1 := D0.out.cells.2.1
  have x2 := D0.out.cells.2.2.1
  obtain ⟨⟨r0, r1, r2⟩, hfr, _⟩ := D0.out.res
  have f0 := hfr 0
  have f1 := hfr 1
  have f2 := hfr 2
  clear hfr
  go_region
  all_goals
    go_wp2
    obtain ⟨W6, hW6⟩ : ∃ W6, W6 = ((V.setCell ⟨w.heap.size + 2, 0, none⟩ (.slice va vn vc)).setCell ⟨w.heap.size + 2, 1, none⟩ (.int .i64 rm)).setCell ⟨w.heap.size + 2, 2, none⟩ (.slice ua un uc) := ⟨_, rfl⟩
    have c0 : W6.cell? ⟨w.heap.size + 2, 0, none⟩ = some (.slice va vn vc) := by
      rw [hW6, cell_setCell_other _ _ _ _ _ (.inr (by simp)), cell_setCell_other _ _ _ _ _ (.inr (by simp))]
      exact cell_setCell_same _ _ _ _ (by rw [r0]; rfl)
    have c1 : W6.cell? ⟨w.heap.size + 2, 1, none⟩ = some (.int .i64 rm) := by
      rw [hW6, cell_setCell_other _ _ _ _ _ (.inr (by simp))]
      exact cell_setCell_same _ _ _ _ (by rw [cell_setCell_other _ _ _ _ _ (.inr (by simp)), r1]; rfl)
    have c2 : W6.cell? ⟨w.heap.size + 2, 2, none⟩ = some (.slice ua un uc) := by
      rw [hW6]
      exact cell_setCell_same _ _ _ _ (by rw [cell_setCell_other _ _ _ _ _ (.inr (by simp)), cell_setCell_other _ _ _ _ _ (.inr (by simp)), r2]; rfl)
    have TW : Turn (fun i => i = w.heap.size + 2) V W6 := by
      rw [hW6]
      exact Turn.setCell (S := fun i => i = w.heap.size + 2) (Turn.setCell (S := fun i => i = w.heap.size + 2) (Turn.setCell (S := fun i => i = w.heap.size + 2) (Turn.refl _ V) ⟨w.heap.size + 2, 0, none⟩ _ rfl) ⟨w.heap.size + 2, 1, none⟩ _ rfl) ⟨w.heap.size + 2, 2, none⟩ _ rfl
    rw [← hW6]
    have c0' : W6.drew.cell? ⟨w.heap.size + 2, 0, none⟩ = some (.slice va vn vc) := c0
    have c1' : W6.drew.cell? ⟨w.heap.size + 2, 1, none⟩ = some (.int .i64 rm) := c1
    have c2' : W6.drew.cell? ⟨w.heap.size + 2, 2, none⟩ = some (.slice ua un uc) := c2
    refine bodyPost_ret (by simp [results, Try.results27, go_sem, c0', c1', c2']; rfl) rfl ?_
    exact ⟨rfl, (BV.out.trans (TW.below BV.out.size fun k hk => by omega)).drew⟩
set_option maxHeartbeats 4000000 in
set_option maxRecDepth 100000 in
theorem rarm0_any (v : Value) (rm : Int) (u : Value) (xs : List Rj) (A : List Ft) (kd an : Int) (ta tb : ByteArray) (dd : Bool) (ca : Option Addr) (cn cc : Nat) (w : World) (hs : Sl w 0 3 v xs.length (rjc xs)) (hu : Sl w 0 2 u A.length (ftc A)) (hA : A.length ≤ 16) :
    Calls Try.prog 27 #[rdv v rm u, .agg #[.int .i64 kd, .int .i64 an, .string ta, .string tb, .bool dd, .slice ca cn cc], .int .i64 0] w fun e w' => ∃ u', e = .returned (.tuple #[rdv v rm u', .bool true]) ∧ Sl w' w.heap.size 2 u' (A.length + 1) (ftc (A ++ [(max an 0, dd)])) ∧ Below w.heap.size w w' := by
  obtain ⟨i0, hi, hz0, hz1, hz2⟩ := info_parts zc_fault
  have Hz := Lib.hid hz0; have Hs := Lib.hid hz1; have Hb := Lib.hid hz2; have Hi := Lib.hid hi
  clear hz0 hz1 hz2 hi
  obtain ⟨V, hV⟩ : ∃ V, V = ((w.alloc (.cells #[v, .int .i64 rm, u] 30)).alloc (.cells #[.int .i64 kd, .int .i64 an, .string ta, .string tb, .bool dd, .slice ca cn cc] 40)).alloc (.cells #[.slice none 0 0, .int .i64 0, .slice none 0 0] 30) := ⟨_, rfl⟩
  obtain ⟨D0, bV, zV⟩ := DV.start w v rm u kd an ta tb dd ca cn cc V hV
  have SV := Lib.hid hs
  have TV := Lib.hid hu
  obtain ⟨va, vc, ev⟩ := hs.slice
  obtain ⟨ua, uc, eu⟩ := hu.slice
  obtain ⟨vn, hvn⟩ : ∃ n, n = xs.length := ⟨_, rfl⟩
  obtain ⟨un, hun⟩ : ∃ n, n = A.length := ⟨_, rfl⟩
  rw [← hvn] at ev
  rw [← hun] at eu
  subst ev eu
  have HV := Lib.hid hV
  have HVN := Lib.hid hvn
  have HUN := Lib.hid hun
  have D0 := Lib.hid D0
  have BV := Lib.hid bV
  have ZV := Lib.hid zV
  have HUA := Lib.hid hA
  clear hs hu hA hV bV zV hvn hun
  unfold rdv
  go_enter Try.func27, Try.ntmps27
  go_upto_region 3 with fail
  rw [← HV.out]
  rw [show w.heap.size + 1 + 1 = w.heap.size + 2 from rfl]
  obtain ⟨w1, hw1⟩ : ∃ w1, w1 = V := ⟨_, rfl⟩
  rw [← hw1]
  rw [← hw1] at D0 BV ZV
  clear HV hw1
  have k0 := D0.out.cells.1
  have k1 := D0.out.cells.2.1
  have k2 := D0.out.cells.2.2.1
  have e2 := D0.out.cells.2.2.2.2.1
  have e3 := D0.out.cells.2.2.2.2.2.2.2.1
  have l2 := D0.out.res.2.2 2
  have hz : w.heap.size + 2 < w1.heap.size := by have := ZV.out; omega
  have hz0 : w.heap.size < w1.heap.size := by omega
  have hz1 : w.heap.size + 1 < w1.heap.size := by omega
  have UW := TV.out.on BV.out
  go_cut [2] from 8 to 40 (fun p wc => ∃ a6 c6, p = .int .i64 0 ∧ wc.cell? ⟨w.heap.size, 0, none⟩ = some (.slice va vn vc) ∧ wc.cell? ⟨w.heap.size, 1, none⟩ = some (.int .i64 rm) ∧ wc.cell? ⟨w.heap.size, 2, none⟩ = some (.slice a6 (A.length + 1) c6) ∧ (wc.cell? ⟨w.heap.size + 2, 0, none⟩ = some (.slice none 0 0) ∧ wc.cell? ⟨w.heap.size + 2, 1, none⟩ = some (.int .i64 0) ∧ wc.cell? ⟨w.heap.size + 2, 2, none⟩ = some (.slice none 0 0)) ∧ (∀ o, wc.frozen? ⟨w.heap.size + 2, o, none⟩ = false) ∧ Sl wc w1.heap.size 2 (.slice a6 (A.length + 1) c6) (A.length + 1) (ftc A ++ [.int .i64 (max an 0), .bool dd]) ∧ Below w.heap.size w wc)
  case first =>
    obtain ⟨L0, hL0⟩ : ∃ L0 : Obj, L0 = .cells #[] 101 := ⟨_, rfl⟩
    obtain ⟨L1, hL1⟩ : ∃ L1 : Obj, L1 = .cells #[.int .i64 (max an 0), .bool dd] 101 := ⟨_, rfl⟩
    have FF := Lib.hid (fun (W : World) (b : Below w1.heap.size w1 W) => show W.cell? ⟨w.heap.size, 2, none⟩ = some (.slice ua un uc) ∧ W.cell? ⟨w.heap.size + 1, 1, none⟩ = some (.int .i64 an) ∧ W.cell? ⟨w.heap.size + 1, 4, none⟩ = some (.bool dd) ∧ W.frozen? ⟨w.heap.size, 2, none⟩ = false from
      ⟨(b.cell (p := ⟨w.heap.size, 2, none⟩) hz0).trans k2, (b.cell (p := ⟨w.heap.size + 1, 1, none⟩) hz1).trans e2, (b.cell (p := ⟨w.heap.size + 1, 4, none⟩) hz1).trans e3, (b.frozen (p := ⟨w.heap.size, 2, none⟩) hz0).trans l2⟩)
    have BA := (Below.refl w1.heap.size w1).alloc (Nat.le_refl _) L0
    have BB := (Below.refl w1.heap.size w1).alloc (Nat.le_refl _) L1
    have BC := BA.alloc (by simp) L1
    have BD := BB.alloc (by simp) L0
    obtain ⟨a1, a2, a3, a4⟩ := FF.out _ BA
    obtain ⟨b1, b2, b3, b4⟩ := FF.out _ BB
    obtain ⟨c1, c2, c3, c4⟩ := FF.out _ BC
    obtain ⟨d1, d2, d3, d4⟩ := FF.out _ BD
    have HL0 := Lib.hid hL0
    have HL1 := Lib.hid hL1
    rw [hL0] at BA BC BD a1 a2 a3 a4 c1 c2 c3 c4 d1 d2 d3 d4
    rw [hL1] at BB BC BD b1 b2 b3 b4 c1 c2 c3 c4 d1 d2 d3 d4
    have u2A := UW.on BA
    have u2C := UW.on BC
    have u2D := UW.on BD
    have hs1A : Sl (w1.alloc (.cells #[] 101)) w1.heap.size 2 (.slice (some ⟨w1.heap.size, 0, none⟩) 0 0) 0 [] := Sl.lit w1 w1.heap.size 2 0 #[] _ (Nat.le_refl _) (by decide) rfl
    have hs1C := hs1A.alloc (.cells #[.int .i64 (max an 0), .bool dd] 101)
    have litC : Sl ((w1.alloc (.cells #[] 101)).alloc (.cells #[.int .i64 (max an 0), .bool dd] 101)) w1.heap.size 2 (.slice (some ⟨w1.heap.size + 1, 0, none⟩) 1 1) 1 [.int .i64 (max an 0), .bool dd] := by
      have h := Sl.lit (w1.alloc (.cells #[] 101)) w1.heap.size 2 1 #[.int .i64 (max an 0), .bool dd] 101 (by simp) (by decide) rfl
      rw [World.size_alloc] at h
      exact h
    have litD0 : Sl (w1.alloc (.cells #[.int .i64 (max an 0), .bool dd] 101)) w1.heap.size 2 (.slice (some ⟨w1.heap.size, 0, none⟩) 1 1) 1 [.int .i64 (max an 0), .bool dd] := Sl.lit w1 w1.heap.size 2 1 #[.int .i64 (max an 0), .bool dd] 101 (Nat.le_refl _) (by decide) rfl
    have litD := litD0.alloc (.cells #[] 101)
    have hs1D : Sl ((w1.alloc (.cells #[.int .i64 (max an 0), .bool dd] 101)).alloc (.cells #[] 101)) w1.heap.size 2 (.slice (some ⟨w1.heap.size + 1, 0, none⟩) 0 0) 0 [] := by
      have h := Sl.lit (w1.alloc (.cells #[.int .i64 (max an 0), .bool dd] 101)) w1.heap.size 2 0 #[] 101 (by simp) (by decide) rfl
      rw [World.size_alloc] at h
      exact h
    have n3C : w1.heap.size ≤ ((w1.alloc (.cells #[] 101)).alloc (.cells #[.int .i64 (max an 0), .bool dd] 101)).heap.size := by simp; omega
    have n3D : w1.heap.size ≤ ((w1.alloc (.cells #[.int .i64 (max an 0), .bool dd] 101)).alloc (.cells #[] 101)).heap.size := by simp; omega
    have MV := Lib.hid (fun (W : World) (w5 : World) (g h : Nat) (v5 : Value) (n5 : Nat) (xs5 : List Value) (hx : Ext w1.heap.size 2 W (.slice (some ⟨g, 0, none⟩) 0 0) 0 [] w5 v5 n5 xs5) (hl : Sl W w1.heap.size 2 (.slice (some ⟨h, 0, none⟩) 1 1) 1 [.int .i64 (max an 0), .bool dd]) (hgh : g ≠ h) => show Sl w5 w1.heap.size 2 (.slice (some ⟨h, 0, none⟩) 1 1) 1 [.int .i64 (max an 0), .bool dd] from
      hl.same hx.grown.size fun k hk => hx.grown.block k (hl.lt k hk).2 (fun e => by cases e; cases hk; exact hgh rfl))
    have hn := HUA.out
    have n1 : 0 + A.length ≤ maxLen := by unfold maxLen; omega
    have n2 : (0 + A.length) * 16 ≤ 140737488355328 := by omega
    have n3 : w1.heap.size ≤ (w1.alloc (.cells #[] 101)).heap.size := by simp
    have n4 : 0 + A.length + 1 ≤ maxLen := by unfold maxLen; omega
    have n5 : (0 + A.length + 1) * 16 ≤ 140737488355328 := by omega
    have hone : ∀ u ∈ [Value.int .i64 (max an 0), .bool dd], u.oneCell' = true := by
      intro u hu
      simp only [List.mem_cons, List.not_mem_nil, or_false] at hu
      rcases hu with rfl | rfl <;> rfl
    clear hL0 hL1 hn
    refine wp_region_held_drew (S := (fun W => W.cell? ⟨w.heap.size + 1, 1, none⟩ = some (.int .i64 an) ∧ W.cell? ⟨w.heap.size + 1, 4, none⟩ = some (.bool dd))) (by kernel_rfl) ⟨e2, e3⟩ (fun hHeld => ?_)
    refine until_begin (T := fun W => W.cell? ⟨w.heap.size, 2, none⟩ = some (.slice ua un uc)) 15 ?_
    have hU := fun (L : Array Bool) => (show Until (fun W => W.cell? ⟨w.heap.size + 1, 1, none⟩ = some (.int .i64 an) ∧ W.cell? ⟨w.heap.size + 1, 4, none⟩ = some (.bool dd)) (fun W => W.cell? ⟨w.heap.size, 2, none⟩ = some (.slice ua un uc)) 15 L w1.drew from ⟨hHeld, fun _ => k2⟩)
    refine until_take (i := 1) (oi := ⟨some 17, _, _, _, _, _⟩) (v := ?_) rfl (by kernel_rfl) (by kernel_rfl) (by kernel_rfl) (fun _ _ _ h => h) (by decide) (Or.inl ⟨by rfl, ?_⟩) (hU _) ?_
    rotate_left
    · intro W hSw; (try dsimp only at hSw); go_simp; try with_reducible rfl
    try simp only [Act.put, List.setIfInBounds_toArray, List.set_cons_zero, List.set_cons_succ]
    refine until_take (i := 2) (oi := ⟨some 18, _, _, _, _, _⟩) (v := ?_) rfl (by kernel_rfl) (by kernel_rfl) (by kernel_rfl) (fun _ _ _ h => h) (by decide) (Or.inl ⟨by rfl, ?_⟩) (hU _) ?_
    rotate_left
    · intro W hSw; (try dsimp only at hSw); go_simp; try with_reducible rfl
    try simp only [Act.put, List.setIfInBounds_toArray, List.set_cons_zero, List.set_cons_succ]
    refine until_take' (i := 3) (oi := ⟨some 19, _, _, _, _, _⟩) (v := ?_) rfl (by kernel_rfl) (by kernel_rfl) (by kernel_rfl) (fun _ _ _ h => h) (by decide) (by kernel_rfl) (by kernel_rfl) (Or.inl ⟨by rfl, ?_⟩) (hU _) ?_
    rotate_left
    · intro W hSw; have c := hSw.2; (try dsimp only at hSw); go_simp; try with_reducible rfl
    try simp only [Act.put, List.setIfInBounds_toArray, List.set_cons_zero, List.set_cons_succ]
    refine until_take (i := 5) (oi := ⟨some 21, _, _, _, _, _⟩) (v := ?_) rfl (by kernel_rfl) (by kernel_rfl) (by kernel_rfl) (fun _ _ _ h => h) (by decide) (Or.inl ⟨by rfl, ?_⟩) (hU _) ?_
    rotate_left
    · intro W hSw; (try dsimp only at hSw); go_simp; try with_reducible rfl
    try simp only [Act.put, List.setIfInBounds_toArray, List.set_cons_zero, List.set_cons_succ]
    refine until_take (i := 6) (oi := ⟨some 22, _, _, _, _, _⟩) (v := ?_) rfl (by kernel_rfl) (by kernel_rfl) (by kernel_rfl) (fun _ _ _ h => h) (by decide) (Or.inl ⟨by rfl, ?_⟩) (hU _) ?_
    rotate_left
    · intro W hSw; (try dsimp only at hSw); go_simp; try with_reducible rfl
    try simp only [Act.put, List.setIfInBounds_toArray, List.set_cons_zero, List.set_cons_succ]
    refine until_take (i := 7) (oi := ⟨some 23, _, _, _, _, _⟩) (v := ?_) rfl (by kernel_rfl) (by kernel_rfl) (by kernel_rfl) (fun _ _ _ h => h) (by decide) (Or.inl ⟨by rfl, ?_⟩) (hU _) ?_
    rotate_left
    · intro W hSw; (try dsimp only at hSw); go_simp; try with_reducible rfl
    try simp only [Act.put, List.setIfInBounds_toArray, List.set_cons_zero, List.set_cons_succ]
    refine until_take (i := 8) (oi := ⟨some 24, _, _, _, _, _⟩) (v := ?_) rfl (by kernel_rfl) (by kernel_rfl) (by kernel_rfl) (fun _ _ _ h => h) (by decide) (Or.inl ⟨by rfl, ?_⟩) (hU _) ?_
    rotate_left
    · intro W hSw; (try dsimp only at hSw); go_simp; try with_reducible rfl
    try simp only [Act.put, List.setIfInBounds_toArray, List.set_cons_zero, List.set_cons_succ]
    refine until_take (i := 9) (oi := ⟨some 25, _, _, _, _, _⟩) (v := ?_) rfl (by kernel_rfl) (by kernel_rfl) (by kernel_rfl) (fun _ _ _ h => h) (by decide) (Or.inl ⟨by rfl, ?_⟩) (hU _) ?_
    rotate_left
    · intro W hSw; (try dsimp only at hSw); go_simp; try with_reducible rfl
    try simp only [Act.put, List.setIfInBounds_toArray, List.set_cons_zero, List.set_cons_succ]
    refine until_take (i := 10) (oi := ⟨some 26, _, _, _, _, _⟩) (v := ?_) rfl (by kernel_rfl) (by kernel_rfl) (by kernel_rfl) (fun _ _ _ h => h) (by decide) (Or.inl ⟨by rfl, ?_⟩) (hU _) ?_
    rotate_left
    · intro W hSw; (try dsimp only at hSw); go_simp; try with_reducible rfl
    try simp only [Act.put, List.setIfInBounds_toArray, List.set_cons_zero, List.set_cons_succ]
    refine until_two (i := 0) (j := 11) (o := ⟨some 16, _, _, _, _, _⟩) (oj := ⟨some 27, _, _, _, _, _⟩) (by kernel_rfl) rfl rfl (fun K hK => ?wA) (fun K hK => ?wB)
    case' wA =>
      go_simp
      refine hK.out _ _ ⟨a2, a3⟩ a1 (fun hB hT1 => ?_)
      clear hK K hB hT1
      try simp only [Act.put, List.setIfInBounds_toArray, List.set_cons_zero, List.set_cons_succ]
      refine until_two (i := 4) (j := 11) (o := ⟨some 20, _, _, _, _, _⟩) (oj := ⟨some 27, _, _, _, _, _⟩) (by kernel_rfl) rfl rfl (fun K hK => ?wA1) (fun K hK => ?wA2)
      case' wA1 =>
        refine step_append_sl2 rfl _ _ 26 rfl w1.heap.size 101 i0 (.agg #[.int .i64 0, .bool false]) 2 16 Try.underlying26 Hi.out Hz.out Hs.out Hb.out rfl (by decide) _ 0 [] rfl hs1A 0 _ A.length (ftc A) rfl u2A (ftc_one _) n1 n2 n3 ?_
        intro v5 w5 hx5
        have x5n := hx5.now
        have b5 : Below w1.heap.size w1 w5 := BA.drew.trans (hx5.below (Nat.le_refl _) n3)
        obtain ⟨p1, p2, p3, p4⟩ := FF.out w5 b5
        refine hK.out _ _ ⟨p2, p3⟩ p1 (fun hB hT1 => ?_)
        clear hK K hB hT1
        try simp only [Act.put, List.setIfInBounds_toArray, List.set_cons_zero, List.set_cons_succ]
        obtain ⟨s1, s2, s3, s4⟩ := FF.out _ (b5.alloc b5.size (.cells #[.int .i64 (max an 0), .bool dd] 101))
        refine until_call (i := 11) (o := ⟨some 27, _, _, _, _, _⟩) (by kernel_rfl) rfl (fun K hK => ?_)
        go_simp
        refine hK.out _ _ ⟨s2, s3⟩ s1 (fun hB hT1 => ?_)
        clear hK K hB hT1
        try simp only [Act.put, List.setIfInBounds_toArray, List.set_cons_zero, List.set_cons_succ]
        have x5l := x5n.alloc (.cells #[.int .i64 (max an 0), .bool dd] 101)
        have lit5 : Sl (w5.alloc (.cells #[.int .i64 (max an 0), .bool dd] 101)) w1.heap.size 2 (.slice (some ⟨w5.heap.size, 0, none⟩) 1 1) 1 [.int .i64 (max an 0), .bool dd] := Sl.lit w5 w1.heap.size 2 1 #[.int .i64 (max an 0), .bool dd] _ b5.size (by decide) rfl
        have n6 : w1.heap.size ≤ (w5.alloc (.cells #[.int .i64 (max an 0), .bool dd] 101)).heap.size := Nat.le_trans b5.size (by simp)
        refine until_call (i := 12) (o := ⟨some 28, _, _, _, _, _⟩) (by kernel_rfl) rfl (fun K hK => ?_)
        refine step_append_sl2 rfl _ _ 26 rfl w1.heap.size 101 i0 (.agg #[.int .i64 0, .bool false]) 2 16 Try.underlying26 Hi.out Hz.out Hs.out Hb.out rfl (by decide) _ (0 + A.length) ([] ++ ftc A) rfl x5l w1.heap.size _ 1 _ rfl lit5 hone n4 n5 n6 ?_
        intro v6 w6 hx6
        have x6n := hx6.now
        rw [Nat.zero_add, List.nil_append] at x6n
        obtain ⟨a6, c6, rfl⟩ := x6n.slice
        have b6 : Below w1.heap.size w1 w6 := (b5.alloc b5.size _).trans (hx6.below (Nat.le_refl _) n6)
        obtain ⟨q1, q2, q3, q4⟩ := FF.out w6 b6
        refine hK.out _ _ ⟨q2, q3⟩ q1 (fun hB hT1 => ?_)
        clear hK K hB hT1
        try simp only [Act.put, List.setIfInBounds_toArray, List.set_cons_zero, List.set_cons_succ]
      case' wA2 =>
        go_simp
        refine hK.out _ _ ⟨c2, c3⟩ c1 (fun hB hT1 => ?_)
        clear hK K hB hT1
        try simp only [Act.put, List.setIfInBounds_toArray, List.set_cons_zero, List.set_cons_succ]
        refine until_call (i := 4) (o := ⟨some 20, _, _, _, _, _⟩) (by kernel_rfl) rfl (fun K hK => ?_)
        refine step_append_sl2 rfl _ _ 26 rfl w1.heap.size 101 i0 (.agg #[.int .i64 0, .bool false]) 2 16 Try.underlying26 Hi.out Hz.out Hs.out Hb.out rfl (by decide) _ 0 [] rfl hs1C 0 _ A.length (ftc A) rfl u2C (ftc_one _) n1 n2 n3C ?_
        intro v5 w5 hx5
        have x5n := hx5.now
        have b5 : Below w1.heap.size w1 w5 := BC.drew.trans (hx5.below (Nat.le_refl _) n3C)
        obtain ⟨p1, p2, p3, p4⟩ := FF.out w5 b5
        refine hK.out _ _ ⟨p2, p3⟩ p1 (fun hB hT1 => ?_)
        clear hK K hB hT1
        try simp only [Act.put, List.setIfInBounds_toArray, List.set_cons_zero, List.set_cons_succ]
        have lit5 := MV.out _ _ _ _ _ _ _ hx5 litC (by omega)
        have n6 := b5.size
        refine until_call (i := 12) (o := ⟨some 28, _, _, _, _, _⟩) (by kernel_rfl) rfl (fun K hK => ?_)
        refine step_append_sl2 rfl _ _ 26 rfl w1.heap.size 101 i0 (.agg #[.int .i64 0, .bool false]) 2 16 Try.underlying26 Hi.out Hz.out Hs.out Hb.out rfl (by decide) _ (0 + A.length) ([] ++ ftc A) rfl x5n w1.heap.size _ 1 _ rfl lit5 hone n4 n5 n6 ?_
        intro v6 w6 hx6
        have x6n := hx6.now
        rw [Nat.zero_add, List.nil_append] at x6n
        obtain ⟨a6, c6, rfl⟩ := x6n.slice
        have b6 : Below w1.heap.size w1 w6 := b5.trans (hx6.below (Nat.le_refl _) n6)
        obtain ⟨q1, q2, q3, q4⟩ := FF.out w6 b6
        refine hK.out _ _ ⟨q2, q3⟩ q1 (fun hB hT1 => ?_)
        clear hK K hB hT1
        try simp only [Act.put, List.setIfInBounds_toArray, List.set_cons_zero, List.set_cons_succ]
    case' wB =>
      go_simp
      refine hK.out _ _ ⟨b2, b3⟩ b1 (fun hB hT1 => ?_)
      clear hK K hB hT1
      try simp only [Act.put, List.setIfInBounds_toArray, List.set_cons_zero, List.set_cons_succ]
      refine until_call (i := 0) (o := ⟨some 16, _, _, _, _, _⟩) (by kernel_rfl) rfl (fun K hK => ?_)
      go_simp
      refine hK.out _ _ ⟨d2, d3⟩ d1 (fun hB hT1 => ?_)
      clear hK K hB hT1
      try simp only [Act.put, List.setIfInBounds_toArray, List.set_cons_zero, List.set_cons_succ]
      refine until_call (i := 4) (o := ⟨some 20, _, _, _, _, _⟩) (by kernel_rfl) rfl (fun K hK => ?_)
      refine step_append_sl2 rfl _ _ 26 rfl w1.heap.size 101 i0 (.agg #[.int .i64 0, .bool false]) 2 16 Try.underlying26 Hi.out Hz.out Hs.out Hb.out rfl (by decide) _ 0 [] rfl hs1D 0 _ A.length (ftc A) rfl u2D (ftc_one _) n1 n2 n3D ?_
      intro v5 w5 hx5
      have x5n := hx5.now
      have b5 : Below w1.heap.size w1 w5 := BD.drew.trans (hx5.below (Nat.le_refl _) n3D)
      obtain ⟨p1, p2, p3, p4⟩ := FF.out w5 b5
      refine hK.out _ _ ⟨p2, p3⟩ p1 (fun hB hT1 => ?_)
      clear hK K hB hT1
      try simp only [Act.put, List.setIfInBounds_toArray, List.set_cons_zero, List.set_cons_succ]
      have lit5 := MV.out _ _ _ _ _ _ _ hx5 litD (by omega)
      have n6 := b5.size
      refine until_call (i := 12) (o := ⟨some 28, _, _, _, _, _⟩) (by kernel_rfl) rfl (fun K hK => ?_)
      refine step_append_sl2 rfl _ _ 26 rfl w1.heap.size 101 i0 (.agg #[.int .i64 0, .bool false]) 2 16 Try.underlying26 Hi.out Hz.out Hs.out Hb.out rfl (by decide) _ (0 + A.length) ([] ++ ftc A) rfl x5n w1.heap.size _ 1 _ rfl lit5 hone n4 n5 n6 ?_
      intro v6 w6 hx6
      have x6n := hx6.now
      rw [Nat.zero_add, List.nil_append] at x6n
      obtain ⟨a6, c6, rfl⟩ := x6n.slice
      have b6 : Below w1.heap.size w1 w6 := b5.trans (hx6.below (Nat.le_refl _) n6)
      obtain ⟨q1, q2, q3, q4⟩ := FF.out w6 b6
      refine hK.out _ _ ⟨q2, q3⟩ q1 (fun hB hT1 => ?_)
      clear hK K hB hT1
      try simp only [Act.put, List.setIfInBounds_toArray, List.set_cons_zero, List.set_cons_succ]
    all_goals
      clear hU
      have hU := fun (L : Array Bool) => (show Until (fun W => W.cell? ⟨w.heap.size + 1, 1, none⟩ = some (.int .i64 an) ∧ W.cell? ⟨w.heap.size + 1, 4, none⟩ = some (.bool dd)) (fun W => W.cell? ⟨w.heap.size, 2, none⟩ = some (.slice ua un uc)) 15 L w6 from ⟨⟨q2, q3⟩, fun _ => q1⟩)
      refine until_take (i := 13) (oi := ⟨some 29, _, _, _, _, _⟩) (v := ?_) rfl (by kernel_rfl) (by kernel_rfl) (by kernel_rfl) (fun _ _ _ h => h) (by decide) (Or.inl ⟨by rfl, ?_⟩) (hU _) ?_
      rotate_left
      · intro W hSw; (try dsimp only at hSw); go_simp; try with_reducible rfl
      try simp only [Act.put, List.setIfInBounds_toArray, List.set_cons_zero, List.set_cons_succ]
      refine until_take (i := 14) (oi := ⟨some 30, _, _, _, _, _⟩) (v := ?_) rfl (by kernel_rfl) (by kernel_rfl) (by kernel_rfl) (fun _ _ _ h => h) (by decide) (Or.inl ⟨by rfl, ?_⟩) (hU _) ?_
      rotate_left
      · intro W hSw; (try dsimp only at hSw); go_simp; try with_reducible rfl
      try simp only [Act.put, List.setIfInBounds_toArray, List.set_cons_zero, List.set_cons_succ]
      refine until_store (o := ⟨none, _, _, _, _, _⟩) (by kernel_rfl) rfl (by kernel_rfl) (fun K hK => ?_)
      go_simp
      have hB7 : (w6.setCell ⟨w.heap.size, 2, none⟩ (.slice a6 (A.length + 1) c6)).cell? ⟨w.heap.size + 1, 1, none⟩ = some (.int .i64 an) ∧ (w6.setCell ⟨w.heap.size, 2, none⟩ (.slice a6 (A.length + 1) c6)).cell? ⟨w.heap.size + 1, 4, none⟩ = some (.bool dd) :=
        ⟨by rw [cell_setCell_other _ _ _ _ _ (.inl (by simp only; omega))]; exact q2, by rw [cell_setCell_other _ _ _ _ _ (.inl (by simp only; omega))]; exact q3⟩
      refine hK.out _ _ hB7 (fun hH2 => ?_)
      clear hK K hU hH2 hB7
      refine wpAnyH_done (by kernel_rfl) ?_ _
      obtain ⟨W7, hW7⟩ : ∃ W7, W7 = w6.setCell ⟨w.heap.size, 2, none⟩ (.slice a6 (A.length + 1) c6) := ⟨_, rfl⟩
      have T7 : Turn (fun i => i = w.heap.size) w6 W7 := by rw [hW7]; exact Turn.setCell (S := fun i => i = w.heap.size) (Turn.refl _ w6) ⟨w.heap.size, 2, none⟩ _ rfl
      have T17 := (Turn.of_below (S := fun i => i = w.heap.size) b6).trans T7
      rw [← hW7]
      obtain ⟨⟨r0, r1, r2⟩, hfr, _⟩ := D0.out.res
      have hz2 : ¬ w.heap.size + 2 = w.heap.size := by omega
      go_wp2_with fail
      go_meet
      refine ⟨a6, c6, rfl, ?_, ?_, ?_, ⟨(T17.cell (p := ⟨w.heap.size + 2, 0, none⟩) hz hz2).trans r0, (T17.cell (p := ⟨w.heap.size + 2, 1, none⟩) hz hz2).trans r1, (T17.cell (p := ⟨w.heap.size + 2, 2, none⟩) hz hz2).trans r2⟩, fun o => (T17.frozen (p := ⟨w.heap.size + 2, o, none⟩) hz hz2).trans (hfr o), ?_, ?_⟩
      · rw [hW7, cell_setCell_other _ _ _ _ _ (.inr (by simp))]; exact (b6.cell (p := ⟨w.heap.size, 0, none⟩) hz0).trans k0
      · rw [hW7, cell_setCell_other _ _ _ _ _ (.inr (by simp))]; exact (b6.cell (p := ⟨w.heap.size, 1, none⟩) hz0).trans k1
      · rw [hW7]; exact cell_setCell_same _ _ _ _ (by rw [q1]; rfl)
      · exact x6n.same T7.size fun i hi => T7.block i (x6n.lt i hi).2 (by have := (x6n.lt i hi).1; omega)
      · exact (BV.out.trans (b6.mono BV.out.size)).trans (T7.below (by have := b6.size; omega) fun k hk => by omega)
  case rest =>
    obtain ⟨a6, c6, rfl, x0, x1, x2, ⟨r0, r1, r2⟩, hfr, hs6, hb6⟩ := hcut
    have f0 := hfr 0
    have f1 := hfr 1
    have f2 := hfr 2
    have h17 : ((A.length + 1 : Nat) : Int) ≤ 17 := by have := HUA.out; omega
    obtain ⟨N, hN⟩ : ∃ N, N = A.length + 1 := ⟨_, rfl⟩
    rw [← hN] at x2 hs6 h17
    have HN := Lib.hid hN
    have S6 := Lib.hid hs6
    have B6 := Lib.hid hb6
    clear hfr hN hs6 hb6 k0 k1 k2 e2 e3 l2 hz hz0 hz1 UW
    go_upto_region 4 with fail
    go_region
    all_goals
      go_wp2
      obtain ⟨W6, hW6⟩ : ∃ W6, W6 = ((wc.setCell ⟨w.heap.size + 2, 0, none⟩ (.slice va vn vc)).setCell ⟨w.heap.size + 2, 1, none⟩ (.int .i64 rm)).setCell ⟨w.heap.size + 2, 2, none⟩ (.slice a6 N c6) := ⟨_, rfl⟩
      have c0 : W6.cell? ⟨w.heap.size + 2, 0, none⟩ = some (.slice va vn vc) := by
        rw [hW6, cell_setCell_other _ _ _ _ _ (.inr (by simp)), cell_setCell_other _ _ _ _ _ (.inr (by simp))]
        exact cell_setCell_same _ _ _ _ (by rw [r0]; rfl)
      have c1 : W6.cell? ⟨w.heap.size + 2, 1, none⟩ = some (.int .i64 rm) := by
        rw [hW6, cell_setCell_other _ _ _ _ _ (.inr (by simp))]
        exact cell_setCell_same _ _ _ _ (by rw [cell_setCell_other _ _ _ _ _ (.inr (by simp)), r1]; rfl)
      have c2 : W6.cell? ⟨w.heap.size + 2, 2, none⟩ = some (.slice a6 N c6) := by
        rw [hW6]
        exact cell_setCell_same _ _ _ _ (by rw [cell_setCell_other _ _ _ _ _ (.inr (by simp)), cell_setCell_other _ _ _ _ _ (.inr (by simp)), r2]; rfl)
      have TW : Turn (fun i => i = w.heap.size + 2) wc W6 := by
        rw [hW6]
        exact Turn.setCell (S := fun i => i = w.heap.size + 2) (Turn.setCell (S := fun i => i = w.heap.size + 2) (Turn.setCell (S := fun i => i = w.heap.size + 2) (Turn.refl _ wc) ⟨w.heap.size + 2, 0, none⟩ _ rfl) ⟨w.heap.size + 2, 1, none⟩ _ rfl) ⟨w.heap.size + 2, 2, none⟩ _ rfl
      rw [← hW6]
      have c0' : W6.drew.cell? ⟨w.heap.size + 2, 0, none⟩ = some (.slice va vn vc) := c0
      have c1' : W6.drew.cell? ⟨w.heap.size + 2, 1, none⟩ = some (.int .i64 rm) := c1
      have c2' : W6.drew.cell? ⟨w.heap.size + 2, 2, none⟩ = some (.slice a6 N c6) := c2
      refine bodyPost_ret (by simp [results, Try.results27, go_sem, c0', c1', c2']; rfl) rfl ?_
      have e : ftc (A ++ [(max an 0, dd)]) = ftc A ++ [.int .i64 (max an 0), .bool dd] := by simp [ftc]
      refine ⟨_, rfl, ?_, (B6.out.trans (TW.below B6.out.size fun k hk => by omega)).drew⟩
      rw [e, ← HN.out]
      have h6 := S6.out
      have hzv := ZV.out
      exact (h6.same (show wc.heap.size ≤ W6.drew.heap.size from TW.size) fun i hi => TW.block i (h6.lt i hi).2 (by have := (h6.lt i hi).1; omega)).mono (by omega)
end Go.Proofs.Ytnjoojffefhgpaa
