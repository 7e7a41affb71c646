/- Layer 5: a call on both: kind 6, a fault armed. -/
import Derived.Test.YtnjoojffefhgpaaMPL
import Derived.Test.YtnjoojffefhgpaaMHeld
namespace Go.Proofs.Ytnjoojffefhgpaa
open Go.Conc Go.RowKit Go.Lib
set_option linter.unusedVariables false

section
variable {P : Program} {ops : Array Oper} {Q : Exit → Act → World → Prop} {md : Region.Mode}
/-- Operation p alone may come up, and writes: behind it B holds anew. -/
theorem until_write {B T : World → Prop} {p : Nat} {o : Oper} {fuel : Nat} {listed : Array Bool} {a : Act} {w : World} (hr : Region.ready md ops listed = [p]) (ho : ops[p]? = some o) (hp : (listed.setIfInBounds p true).getD p true = true)
    (h : ∀ K' : Act → World → Prop, Shut (∀ a w, B w → (B w → wpAnyH P md ops Q B fuel (listed.setIfInBounds p true) a w) → K' a w) → if Region.wanted o (yielded ops a.tmps) = true then Oper.wp P o a w K' Q else K' (a.put o.dst undef) w) :
    wpAnyL P md ops Q (Until B T p) (fuel + 1) listed a w := by
  refine until_ready hr (by simp) fun j hj => ?_
  obtain rfl : j = p := by simpa using hj
  exact wpOp_step ho (fun K' hK => h K' (fun a w hB hW => hK a w ⟨⟨hB, fun h0 => by rw [hp] at h0; cases h0⟩, until_end fuel _ _ _ hp (hW hB)⟩))
/-- One of two may come up. -/
theorem until_two {B T : World → Prop} {p i j : Nat} {o oj : Oper} {fuel : Nat} {listed : Array Bool} {a : Act} {w : World} (hr : Region.ready md ops listed = [i, j]) (ho : ops[i]? = some o) (hoj : ops[j]? = some oj)
    (h : ∀ K' : Act → World → Prop, Shut (∀ a w, B w → T w → (B w → T w → wpAnyL P md ops Q (Until B T p) fuel (listed.setIfInBounds i true) a w) → K' a w) → if Region.wanted o (yielded ops a.tmps) = true then Oper.wp P o a w K' Q else K' (a.put o.dst undef) w)
    (h2 : ∀ K' : Act → World → Prop, Shut (∀ a w, B w → T w → (B w → T w → wpAnyL P md ops Q (Until B T p) fuel (listed.setIfInBounds j true) a w) → K' a w) → if Region.wanted oj (yielded ops a.tmps) = true then Oper.wp P oj a w K' Q else K' (a.put oj.dst undef) w) :
    wpAnyL P md ops Q (Until B T p) (fuel + 1) listed a w := by
  refine until_ready hr (by simp) fun l hl => ?_
  simp only [List.mem_cons, List.not_mem_nil, or_false] at hl
  rcases hl with rfl | rfl
  · exact wpOp_step ho (fun K' hK => h K' (fun a w hB hT hW => hK a w ⟨⟨hB, fun _ => hT⟩, hW hB hT⟩))
  · exact wpOp_step hoj (fun K' hK => h2 K' (fun a w hB hT hW => hK a w ⟨⟨hB, fun _ => hT⟩, hW hB hT⟩))
end

theorem barm_T (k f c m : Nat) (os : List Ob) (A : List Ft) (a : Int) (dn : Bool) (w : World) (h : Bk k f c m os A w) (ha : Ft.Fits (a, dn)) :
    Calls Try.prog 21 #[.pointer (some ⟨f, 0, none⟩), .int .i64 a, .bool dn] w fun e w' => ∃ er A', e = .returned (.int .i64 er) ∧ ((er = 0 ∧ A' = A ++ [(max a 0, dn)]) ∨ (er = 7 ∧ A' = A)) ∧ Bk k f c m os A' w' ∧ Turn (Mb f c m) w w' := by
  obtain ⟨ck, h⟩ := h
  refine (arm_any f c A a dn w h.fuse ha).mono ?_
  rintro e w' (⟨rfl, hA, t⟩ | ⟨rfl, rfl⟩)
  · have n := BNow.tried h (Below.refl _ w) t hA
    exact ⟨_, _, rfl, .inl ⟨rfl, rfl⟩, n.1, n.2⟩
  · exact ⟨_, _, rfl, .inr ⟨rfl, rfl⟩, ⟨ck, h⟩, Turn.refl _ _⟩

/-- An append of whatever slice of one's own, as one step of a region that draws its order. -/
theorem step_append_sl2 {P : Program} {ops : Array Oper} {o : Oper} {a : Act} {w : World} {K : Act → World → Prop} {Q : Exit → Act → World → Prop} {E : Prop}
    (hg : o.guard = none) (s x : Operand) (t : TypeId) (ho : o.op = Op.call { callee := Callee.builtin Builtin.append, args := #[s, x], argTypes := #[t, t] })
    (base : Nat) (e : TypeId) (i : TypeInfo) (z : Value) (size bytes : Nat) (ht : P.underlying t = some (.slice e)) (hi : P.info? e = some i) (hz : i.zero = some z)
    (hsize : i.size = size) (hby : i.bytes = bytes) (hzs : z.cells.size = size) (hsz : 0 < size)
    (v : Value) (n : Nat) (xs : List Value) (hs : a.eval s = v) (hown : Sl w base size v n xs)
    (b2 : Nat) (xv : Value) (m : Nat) (news : List Value) (hx : a.eval x = xv) (hnew : Sl w b2 size xv m news) (h1 : ∀ u ∈ news, u.oneCell' = true)
    (h63 : n + m ≤ maxLen) (hbytes : (n + m) * bytes ≤ 140737488355328) (hbase : base ≤ w.heap.size)
    (hK : ∀ v' w', Ext base size w v n xs w' v' (n + m) (xs ++ news) → K (a.put o.dst v') w') :
    if Region.wanted o (yielded ops a.tmps) = true then Oper.wp P o a w K Q else E := by
  rcases hnew.2 with ⟨rfl, rfl⟩ | ⟨g, off, cap, rfl, _, _, _, _, _, _⟩
  · have hn : news = [] := List.eq_nil_of_length_eq_zero (by have := hnew.1; omega)
    subst hn
    have hw : Region.wanted o (yielded ops a.tmps) = true := by simp [Region.wanted, hg]
    rw [if_pos hw]
    have hr := run_append_none_sl (P := P) w base t o.type e i size ht hi v n xs hown
    unfold Oper.wp
    simp [execOp, ho, resolve, invoke, builtin, hs, hx, hr, Result.andThen]
    have := hK v w
    rw [Nat.add_zero, List.append_nil] at this
    exact this (Ext.refl hown)
  · exact step_append_sl hg s x t ho base e i z size bytes ht hi hz hsize hby hzs hsz v n xs hs hown ⟨g, off, none⟩ m cap news hx hnew.1 hnew.cells h1 h63 hbytes hbase hK

set_option maxHeartbeats 2000000 in
set_option maxRecDepth 100000 in
theorem does_arm (base k f c m ck : Nat) (os : List Ob) (v u : Value) (xs : List Rj) (A : List Ft) (an am : Int) (ta tb : ByteArray) (dd : Bool) (w : World) (hbk : BucketAt k f c m os A ck w) (hrel : RelB os xs) (hs : Sl w base 3 v xs.length (rjc xs)) (hlen : xs.length ≤ 900) (hu : Sl w base 2 u A.length (ftc A)) (hb : base ≤ w.heap.size) (hM : f < base ∧ c < base ∧ m < base) (hA : A.length ≤ 101) (hf : ∀ x ∈ A, Ft.Fits x) (hft : Ft.Fits (an, dd)):
    Calls Try.prog 13 #[.pointer (some ⟨k, 0, none⟩), rbv v u, .agg #[.int .i64 6, .int .i64 an, .int .i64 am, .string ta, .string tb, .bool dd]] w fun e w' => ∃ v' u' A', e = .returned (.tuple #[rbv v' u', .bool true]) ∧ Bk k f c m os A' w' ∧ (A' = A ++ [(max an 0, dd)] ∨ A' = A) ∧ Sl w' base 3 v' xs.length (rjc xs) ∧ Sl w' base 2 u' A'.length (ftc A') ∧ (∀ k, v'.ownBlock = some k → v.ownBlock = some k ∨ w.heap.size ≤ k) ∧ (∀ k, u'.ownBlock = some k → u.ownBlock = some k ∨ w.heap.size ≤ k) ∧ Turn (Mb f c m) w w' := by
  obtain ⟨i0, hi, hz0, hz1, hz2⟩ := info_parts zc_fault
  have Hz := Lib.hid hz0; have Hs := Lib.hid hz1; have Hb := Lib.hid hz2; have Hi := Lib.hid hi
  clear hz0 hz1 hz2 hi
  obtain ⟨name, hname⟩ : ∃ name, name = cutB ta 45 := ⟨_, rfl⟩
  have CU := Lib.hid (fun W => show Calls Try.prog 23 #[.string ta, .int .i64 45] W (fun e w' => e = .returned (.string name) ∧ W = w') by rw [hname]; exact cut_any ta 45 W (by omega))
  have hns : name.size ≤ 1000 := by rw [hname]; exact Nat.le_trans (cutB_le ta 45) (by decide)
  obtain ⟨va, vc, ev⟩ := hs.slice
  obtain ⟨ua, uc, eu⟩ := hu.slice
  obtain ⟨vn, hvn⟩ : ∃ n, n = xs.length := ⟨_, rfl⟩
  obtain ⟨un, hun⟩ : ∃ n, n = A.length := ⟨_, rfl⟩
  rw [← hvn] at ev
  rw [← hun] at eu
  subst ev eu
  obtain ⟨V, hV⟩ : ∃ V, V = (((w.alloc (.cells #[.slice va vn vc, .slice ua un uc] 52)).alloc (.cells #[.int .i64 6, .int .i64 an, .int .i64 am, .string ta, .string tb, .bool dd] 59)).alloc (.cells #[.slice none 0 0, .slice none 0 0] 52)) := ⟨_, rfl⟩
  have bV : Below w.heap.size w V := by rw [hV]; exact (((Below.refl _ _).alloc (Nat.le_refl _) _).alloc (by simp) _).alloc (by simp; omega) _
  have AR := Lib.hid (fun W (D : Bk k f c m os A W) => barm_T k f c m os A an dd W D hft)
  have UX := Lib.hid (fun W (t : Turn (Mb f c m) V W) => (hu.on bV).mb t hM)
  have BKV := Lib.hid (show Bk k f c m os A V from ⟨ck, hbk.below bV⟩)
  have hk3 : k ≠ f ∧ k ≠ c ∧ k ≠ m := ⟨hbk.kf, hbk.kc, hbk.km⟩
  have HUA := Lib.hid hA
  have VL := Lib.hid (fun k hk => (hs.lt k hk).2)
  have UL := Lib.hid (fun k hk => (hu.lt k hk).2)
  have KL := Lib.hid hbk.klt
  have R1 := Lib.hid hrel
  have HS := Lib.hid hs
  have HU := Lib.hid hu
  have HM := Lib.hid hM
  have HB := Lib.hid hb
  have HVN := Lib.hid hvn
  have s1 : (w.alloc (.cells #[.slice va vn vc, .slice ua un uc] 52)).heap.size = w.heap.size + 1 := by simp
  have s2 : ((w.alloc (.cells #[.slice va vn vc, .slice ua un uc] 52)).alloc (.cells #[.int .i64 6, .int .i64 an, .int .i64 am, .string ta, .string tb, .bool dd] 59)).heap.size = w.heap.size + 1 + 1 := by simp
  have z3 : V.heap.size = w.heap.size + 3 := by rw [hV]; simp
  have g0 : V.heap[w.heap.size]? = some (.cells #[.slice va vn vc, .slice ua un uc] 52) := by
    rw [hV, Below.heap_alloc _ _ _ (by omega), Below.heap_alloc _ _ _ (by omega)]; exact heap_alloc_new w _
  have g2 : V.heap[w.heap.size + 1 + 1]? = some (.cells #[.slice none 0 0, .slice none 0 0] 52) := by
    have := heap_alloc_new ((w.alloc (.cells #[.slice va vn vc, .slice ua un uc] 52)).alloc (.cells #[.int .i64 6, .int .i64 an, .int .i64 am, .string ta, .string tb, .bool dd] 59)) (.cells #[.slice none 0 0, .slice none 0 0] 52)
    rw [s2] at this
    rw [hV]; exact this
  have g1 : V.heap[w.heap.size + 1]? = some (.cells #[.int .i64 6, .int .i64 an, .int .i64 am, .string ta, .string tb, .bool dd] 59) := by
    rw [hV, Below.heap_alloc _ _ _ (by omega), ← s1]; exact heap_alloc_new _ _
  have G1 := Lib.hid (fun w1 (t : Turn (Mb f c m) V w1) => show w1.heap[w.heap.size + 1]? = _ from (t.block (w.heap.size + 1) (by omega) (by rintro (e | e | e) <;> omega)).trans g1)
  have G0 := Lib.hid (fun w1 (t : Turn (Mb f c m) V w1) => show w1.heap[w.heap.size]? = _ from (t.block w.heap.size (by omega) (by rintro (e | e | e) <;> omega)).trans g0)
  have G2 := Lib.hid (fun w1 (t : Turn (Mb f c m) V w1) => show w1.heap[w.heap.size + 1 + 1]? = _ from (t.block (w.heap.size + 1 + 1) (by omega) (by rintro (e | e | e) <;> omega)).trans g2)
  have BV := Lib.hid bV
  have Z3 := Lib.hid z3
  have HVd := Lib.hid hV
  have HUN := Lib.hid hun
  clear hbk hrel hs hlen hu hb hM hA hf hname hns hvn hun s1 s2 z3 g0 g2 bV hV hft
  unfold rbv
  go_enter Try.func13, Try.ntmps13
  go_wp2_with fail
  refine (CU.out _).mono ?_
  rintro e w0 ⟨rfl, rfl⟩
  go_upto_region 31 with fail
  rw [← HVd.out]
  have h1 := G1.out V (Turn.refl _ V)
  have n1 : V.cell? ⟨w.heap.size + 1, 1, none⟩ = some (.int .i64 an) := (cell_of_row _ _ 1 _ _ _ h1).trans rfl
  have n5 : V.cell? ⟨w.heap.size + 1, 5, none⟩ = some (.bool dd) := (cell_of_row _ _ 5 _ _ _ h1).trans rfl
  have c0 := BKV.out.c0
  have KEEP := Lib.hid (fun W' (D : Bk k f c m os A W' ∨ ∃ A', Bk k f c m os A' W') (t : Turn (Mb f c m) V W') => show W'.cell? ⟨k, 0, none⟩ = some (.pointer (some ⟨f, 0, none⟩)) ∧ W'.cell? ⟨w.heap.size + 1, 1, none⟩ = some (.int .i64 an) ∧ W'.cell? ⟨w.heap.size + 1, 5, none⟩ = some (.bool dd) from
    ⟨by rcases D with D | ⟨_, D⟩ <;> exact D.c0, (cell_of_row _ _ 1 _ _ _ (G1.out W' t)).trans rfl, (cell_of_row _ _ 5 _ _ _ (G1.out W' t)).trans rfl⟩)
  clear h1
  go_region_held3 (fun W => W.cell? ⟨k, 0, none⟩ = some (.pointer (some ⟨f, 0, none⟩)) ∧ W.cell? ⟨w.heap.size + 1, 1, none⟩ = some (.int .i64 an) ∧ W.cell? ⟨w.heap.size + 1, 5, none⟩ = some (.bool dd)) (first | exact ⟨c0, n1, n5⟩ | assumption)
    (first
      | (go_at_call 21; refine (AR.out _ (BKV.out.below (Below.refl _ V).drew)).mono ?_; rintro e w1 ⟨er, A2, rfl, hcase, D1, t1⟩; have d1 := KEEP.out w1 (.inr ⟨_, D1⟩) ((Turn.refl _ V).drew.trans t1))
      | fail)
  have T1 := Lib.hid ((Turn.refl _ V).drew.trans t1)
  have h0 := G0.out w1 T1.out
  have hR := G2.out w1 T1.out
  have k0 : w1.cell? ⟨w.heap.size, 0, none⟩ = some (.slice va vn vc) := (cell_of_row _ _ 0 _ _ _ h0).trans rfl
  have k1 : w1.cell? ⟨w.heap.size, 1, none⟩ = some (.slice ua un uc) := (cell_of_row _ _ 1 _ _ _ h0).trans rfl
  have l0 : w1.frozen? ⟨w.heap.size, 0, none⟩ = false := by simp only [World.frozen?, h0]; rfl
  have l1 : w1.frozen? ⟨w.heap.size, 1, none⟩ = false := by simp only [World.frozen?, h0]; rfl
  have r0 : w1.cell? ⟨w.heap.size + 1 + 1, 0, none⟩ = some (.slice none 0 0) := (cell_of_row _ _ 0 _ _ _ hR).trans rfl
  have r1 : w1.cell? ⟨w.heap.size + 1 + 1, 1, none⟩ = some (.slice none 0 0) := (cell_of_row _ _ 1 _ _ _ hR).trans rfl
  have f0 : w1.frozen? ⟨w.heap.size + 1 + 1, 0, none⟩ = false := by simp only [World.frozen?, hR]; rfl
  have f1 : w1.frozen? ⟨w.heap.size + 1 + 1, 1, none⟩ = false := by simp only [World.frozen?, hR]; rfl
  obtain ⟨e1, e2, e3⟩ := d1
  have T1' := T1.out.size
  have Z3' := Z3.out
  have hz : w.heap.size + 1 + 1 < w1.heap.size := by omega
  have HZ := Lib.hid hz
  clear h0 hR T1' Z3' hz t1
  rcases hcase with ⟨rfl, hA2⟩ | ⟨rfl, hA2⟩
  · have HA2 := Lib.hid hA2
    clear hA2
    go_upto_region 33 with fail
    have hz := HZ.out
    have hz0 : w.heap.size < w1.heap.size := by omega
    have hz1 : w.heap.size + 1 < w1.heap.size := by omega
    obtain ⟨L0, hL0⟩ : ∃ L0 : Obj, L0 = .cells #[] 101 := ⟨_, rfl⟩
    obtain ⟨L1, hL1⟩ : ∃ L1 : Obj, L1 = .cells #[.int .i64 (max an 0), .bool dd] 101 := ⟨_, rfl⟩
    have FF := Lib.hid (fun (W : World) (b : Below w1.heap.size w1 W) => show W.cell? ⟨w.heap.size, 1, none⟩ = some (.slice ua un uc) ∧ W.cell? ⟨w.heap.size + 1, 1, none⟩ = some (.int .i64 an) ∧ W.cell? ⟨w.heap.size + 1, 5, none⟩ = some (.bool dd) ∧ W.frozen? ⟨w.heap.size, 1, none⟩ = false from
      ⟨(b.cell (p := ⟨w.heap.size, 1, none⟩) hz0).trans k1, (b.cell (p := ⟨w.heap.size + 1, 1, none⟩) hz1).trans e2, (b.cell (p := ⟨w.heap.size + 1, 5, none⟩) hz1).trans e3, (b.frozen (p := ⟨w.heap.size, 1, none⟩) hz0).trans l1⟩)
    have BA := (Below.refl w1.heap.size w1).alloc (Nat.le_refl _) L0
    have BB := (Below.refl w1.heap.size w1).alloc (Nat.le_refl _) L1
    have BC := BA.alloc (by simp) L1
    have BD := BB.alloc (by simp) L0
    obtain ⟨a1, a2, a3, a4⟩ := FF.out _ BA
    obtain ⟨b1, b2, b3, b4⟩ := FF.out _ BB
    obtain ⟨c1, c2, c3, c4⟩ := FF.out _ BC
    obtain ⟨d1, d2, d3, d4⟩ := FF.out _ BD
    have HL0 := Lib.hid hL0
    have HL1 := Lib.hid hL1
    rw [hL0] at BA BC BD a1 a2 a3 a4 c1 c2 c3 c4 d1 d2 d3 d4
    rw [hL1] at BB BC BD b1 b2 b3 b4 c1 c2 c3 c4 d1 d2 d3 d4
    have UW := UX.out w1 T1.out
    have u2A := UW.on BA
    have u2C := UW.on BC
    have u2D := UW.on BD
    have hs1A : Sl (w1.alloc (.cells #[] 101)) w1.heap.size 2 (.slice (some ⟨w1.heap.size, 0, none⟩) 0 0) 0 [] := Sl.lit w1 w1.heap.size 2 0 #[] _ (Nat.le_refl _) (by decide) rfl
    have hs1C := hs1A.alloc (.cells #[.int .i64 (max an 0), .bool dd] 101)
    have litC : Sl ((w1.alloc (.cells #[] 101)).alloc (.cells #[.int .i64 (max an 0), .bool dd] 101)) w1.heap.size 2 (.slice (some ⟨w1.heap.size + 1, 0, none⟩) 1 1) 1 [.int .i64 (max an 0), .bool dd] := by
      have h := Sl.lit (w1.alloc (.cells #[] 101)) w1.heap.size 2 1 #[.int .i64 (max an 0), .bool dd] 101 (by simp) (by decide) rfl
      rw [World.size_alloc] at h
      exact h
    have litD0 : Sl (w1.alloc (.cells #[.int .i64 (max an 0), .bool dd] 101)) w1.heap.size 2 (.slice (some ⟨w1.heap.size, 0, none⟩) 1 1) 1 [.int .i64 (max an 0), .bool dd] := Sl.lit w1 w1.heap.size 2 1 #[.int .i64 (max an 0), .bool dd] 101 (Nat.le_refl _) (by decide) rfl
    have litD := litD0.alloc (.cells #[] 101)
    have hs1D : Sl ((w1.alloc (.cells #[.int .i64 (max an 0), .bool dd] 101)).alloc (.cells #[] 101)) w1.heap.size 2 (.slice (some ⟨w1.heap.size + 1, 0, none⟩) 0 0) 0 [] := by
      have h := Sl.lit (w1.alloc (.cells #[.int .i64 (max an 0), .bool dd] 101)) w1.heap.size 2 0 #[] 101 (by simp) (by decide) rfl
      rw [World.size_alloc] at h
      exact h
    have n3C : w1.heap.size ≤ ((w1.alloc (.cells #[] 101)).alloc (.cells #[.int .i64 (max an 0), .bool dd] 101)).heap.size := by simp; omega
    have n3D : w1.heap.size ≤ ((w1.alloc (.cells #[.int .i64 (max an 0), .bool dd] 101)).alloc (.cells #[] 101)).heap.size := by simp; omega
    have MV := Lib.hid (fun (W : World) (w5 : World) (g h : Nat) (v5 : Value) (n5 : Nat) (xs5 : List Value) (hx : Ext w1.heap.size 2 W (.slice (some ⟨g, 0, none⟩) 0 0) 0 [] w5 v5 n5 xs5) (hl : Sl W w1.heap.size 2 (.slice (some ⟨h, 0, none⟩) 1 1) 1 [.int .i64 (max an 0), .bool dd]) (hgh : g ≠ h) => show Sl w5 w1.heap.size 2 (.slice (some ⟨h, 0, none⟩) 1 1) 1 [.int .i64 (max an 0), .bool dd] from
      hl.same hx.grown.size fun k hk => hx.grown.block k (hl.lt k hk).2 (fun e => by cases e; cases hk; exact hgh rfl))
    have hn := HUA.out
    have n1 : 0 + A.length ≤ maxLen := by unfold maxLen; omega
    have n2 : (0 + A.length) * 16 ≤ 140737488355328 := by omega
    have n3 : w1.heap.size ≤ (w1.alloc (.cells #[] 101)).heap.size := by simp
    have n4 : 0 + A.length + 1 ≤ maxLen := by unfold maxLen; omega
    have n5 : (0 + A.length + 1) * 16 ≤ 140737488355328 := by omega
    have hone : ∀ u ∈ [Value.int .i64 (max an 0), .bool dd], u.oneCell' = true := by
      intro u hu
      simp only [List.mem_cons, List.not_mem_nil, or_false] at hu
      rcases hu with rfl | rfl <;> rfl
    clear hL0 hL1 hz hn
    refine wp_region_held_drew (S := (fun W => W.cell? ⟨w.heap.size + 1, 1, none⟩ = some (.int .i64 an) ∧ W.cell? ⟨w.heap.size + 1, 5, none⟩ = some (.bool dd))) (by kernel_rfl) ⟨e2, e3⟩ (fun hHeld => ?_)
    refine until_begin (T := fun W => W.cell? ⟨w.heap.size, 1, none⟩ = some (.slice ua un uc)) 15 ?_
    have hU := fun (L : Array Bool) => (show Until (fun W => W.cell? ⟨w.heap.size + 1, 1, none⟩ = some (.int .i64 an) ∧ W.cell? ⟨w.heap.size + 1, 5, none⟩ = some (.bool dd)) (fun W => W.cell? ⟨w.heap.size, 1, none⟩ = some (.slice ua un uc)) 15 L w1.drew from ⟨hHeld, fun _ => k1⟩)
    refine until_take (i := 1) (oi := ⟨some 171, _, _, _, _, _⟩) (v := ?_) rfl (by kernel_rfl) (by kernel_rfl) (by kernel_rfl) (fun _ _ _ h => h) (by decide) (Or.inl ⟨by rfl, ?_⟩) (hU _) ?_
    rotate_left
    · intro W hSw; (try dsimp only at hSw); go_simp; try with_reducible rfl
    try simp only [Act.put, List.setIfInBounds_toArray, List.set_cons_zero, List.set_cons_succ]
    refine until_take (i := 2) (oi := ⟨some 172, _, _, _, _, _⟩) (v := ?_) rfl (by kernel_rfl) (by kernel_rfl) (by kernel_rfl) (fun _ _ _ h => h) (by decide) (Or.inl ⟨by rfl, ?_⟩) (hU _) ?_
    rotate_left
    · intro W hSw; (try dsimp only at hSw); go_simp; try with_reducible rfl
    try simp only [Act.put, List.setIfInBounds_toArray, List.set_cons_zero, List.set_cons_succ]
    refine until_take' (i := 3) (oi := ⟨some 173, _, _, _, _, _⟩) (v := ?_) rfl (by kernel_rfl) (by kernel_rfl) (by kernel_rfl) (fun _ _ _ h => h) (by decide) (by kernel_rfl) (by kernel_rfl) (Or.inl ⟨by rfl, ?_⟩) (hU _) ?_
    rotate_left
    · intro W hSw; have c := hSw.2; (try dsimp only at hSw); go_simp; try with_reducible rfl
    try simp only [Act.put, List.setIfInBounds_toArray, List.set_cons_zero, List.set_cons_succ]
    refine until_take (i := 5) (oi := ⟨some 175, _, _, _, _, _⟩) (v := ?_) rfl (by kernel_rfl) (by kernel_rfl) (by kernel_rfl) (fun _ _ _ h => h) (by decide) (Or.inl ⟨by rfl, ?_⟩) (hU _) ?_
    rotate_left
    · intro W hSw; (try dsimp only at hSw); go_simp; try with_reducible rfl
    try simp only [Act.put, List.setIfInBounds_toArray, List.set_cons_zero, List.set_cons_succ]
    refine until_take (i := 6) (oi := ⟨some 176, _, _, _, _, _⟩) (v := ?_) rfl (by kernel_rfl) (by kernel_rfl) (by kernel_rfl) (fun _ _ _ h => h) (by decide) (Or.inl ⟨by rfl, ?_⟩) (hU _) ?_
    rotate_left
    · intro W hSw; (try dsimp only at hSw); go_simp; try with_reducible rfl
    try simp only [Act.put, List.setIfInBounds_toArray, List.set_cons_zero, List.set_cons_succ]
    refine until_take (i := 7) (oi := ⟨some 177, _, _, _, _, _⟩) (v := ?_) rfl (by kernel_rfl) (by kernel_rfl) (by kernel_rfl) (fun _ _ _ h => h) (by decide) (Or.inl ⟨by rfl, ?_⟩) (hU _) ?_
    rotate_left
    · intro W hSw; (try dsimp only at hSw); go_simp; try with_reducible rfl
    try simp only [Act.put, List.setIfInBounds_toArray, List.set_cons_zero, List.set_cons_succ]
    refine until_take (i := 8) (oi := ⟨some 178, _, _, _, _, _⟩) (v := ?_) rfl (by kernel_rfl) (by kernel_rfl) (by kernel_rfl) (fun _ _ _ h => h) (by decide) (Or.inl ⟨by rfl, ?_⟩) (hU _) ?_
    rotate_left
    · intro W hSw; (try dsimp only at hSw); go_simp; try with_reducible rfl
    try simp only [Act.put, List.setIfInBounds_toArray, List.set_cons_zero, List.set_cons_succ]
    refine until_take (i := 9) (oi := ⟨some 179, _, _, _, _, _⟩) (v := ?_) rfl (by kernel_rfl) (by kernel_rfl) (by kernel_rfl) (fun _ _ _ h => h) (by decide) (Or.inl ⟨by rfl, ?_⟩) (hU _) ?_
    rotate_left
    · intro W hSw; (try dsimp only at hSw); go_simp; try with_reducible rfl
    try simp only [Act.put, List.setIfInBounds_toArray, List.set_cons_zero, List.set_cons_succ]
    refine until_take (i := 10) (oi := ⟨some 180, _, _, _, _, _⟩) (v := ?_) rfl (by kernel_rfl) (by kernel_rfl) (by kernel_rfl) (fun _ _ _ h => h) (by decide) (Or.inl ⟨by rfl, ?_⟩) (hU _) ?_
    rotate_left
    · intro W hSw; (try dsimp only at hSw); go_simp; try with_reducible rfl
    try simp only [Act.put, List.setIfInBounds_toArray, List.set_cons_zero, List.set_cons_succ]
    refine until_two (i := 0) (j := 11) (o := ⟨some 170, _, _, _, _, _⟩) (oj := ⟨some 181, _, _, _, _, _⟩) (by kernel_rfl) rfl rfl (fun K hK => ?wA) (fun K hK => ?wB)
    case' wA =>
      go_simp
      refine hK.out _ _ ⟨a2, a3⟩ a1 (fun hB hT1 => ?_)
      clear hK K hB hT1
      try simp only [Act.put, List.setIfInBounds_toArray, List.set_cons_zero, List.set_cons_succ]
      refine until_two (i := 4) (j := 11) (o := ⟨some 174, _, _, _, _, _⟩) (oj := ⟨some 181, _, _, _, _, _⟩) (by kernel_rfl) rfl rfl (fun K hK => ?wA1) (fun K hK => ?wA2)
      case' wA1 =>
        refine step_append_sl2 rfl _ _ 26 rfl w1.heap.size 101 i0 (.agg #[.int .i64 0, .bool false]) 2 16 Try.underlying26 Hi.out Hz.out Hs.out Hb.out rfl (by decide) _ 0 [] rfl hs1A base _ A.length (ftc A) rfl u2A (ftc_one _) n1 n2 n3 ?_
        intro v5 w5 hx5
        have x5n := hx5.now
        have b5 : Below w1.heap.size w1 w5 := BA.drew.trans (hx5.below (Nat.le_refl _) n3)
        obtain ⟨p1, p2, p3, p4⟩ := FF.out w5 b5
        refine hK.out _ _ ⟨p2, p3⟩ p1 (fun hB hT1 => ?_)
        clear hK K hB hT1
        try simp only [Act.put, List.setIfInBounds_toArray, List.set_cons_zero, List.set_cons_succ]
        obtain ⟨s1, s2, s3, s4⟩ := FF.out _ (b5.alloc b5.size (.cells #[.int .i64 (max an 0), .bool dd] 101))
        refine until_call (i := 11) (o := ⟨some 181, _, _, _, _, _⟩) (by kernel_rfl) rfl (fun K hK => ?_)
        go_simp
        refine hK.out _ _ ⟨s2, s3⟩ s1 (fun hB hT1 => ?_)
        clear hK K hB hT1
        try simp only [Act.put, List.setIfInBounds_toArray, List.set_cons_zero, List.set_cons_succ]
        have x5l := x5n.alloc (.cells #[.int .i64 (max an 0), .bool dd] 101)
        have lit5 : Sl (w5.alloc (.cells #[.int .i64 (max an 0), .bool dd] 101)) w1.heap.size 2 (.slice (some ⟨w5.heap.size, 0, none⟩) 1 1) 1 [.int .i64 (max an 0), .bool dd] := Sl.lit w5 w1.heap.size 2 1 #[.int .i64 (max an 0), .bool dd] _ b5.size (by decide) rfl
        have n6 : w1.heap.size ≤ (w5.alloc (.cells #[.int .i64 (max an 0), .bool dd] 101)).heap.size := Nat.le_trans b5.size (by simp)
        refine until_call (i := 12) (o := ⟨some 182, _, _, _, _, _⟩) (by kernel_rfl) rfl (fun K hK => ?_)
        refine step_append_sl2 rfl _ _ 26 rfl w1.heap.size 101 i0 (.agg #[.int .i64 0, .bool false]) 2 16 Try.underlying26 Hi.out Hz.out Hs.out Hb.out rfl (by decide) _ (0 + A.length) ([] ++ ftc A) rfl x5l w1.heap.size _ 1 _ rfl lit5 hone n4 n5 n6 ?_
        intro v6 w6 hx6
        have x6n := hx6.now
        rw [Nat.zero_add, List.nil_append] at x6n
        obtain ⟨a6, c6, rfl⟩ := x6n.slice
        have b6 : Below w1.heap.size w1 w6 := (b5.alloc b5.size _).trans (hx6.below (Nat.le_refl _) n6)
        obtain ⟨q1, q2, q3, q4⟩ := FF.out w6 b6
        refine hK.out _ _ ⟨q2, q3⟩ q1 (fun hB hT1 => ?_)
        clear hK K hB hT1
        try simp only [Act.put, List.setIfInBounds_toArray, List.set_cons_zero, List.set_cons_succ]
      case' wA2 =>
        go_simp
        refine hK.out _ _ ⟨c2, c3⟩ c1 (fun hB hT1 => ?_)
        clear hK K hB hT1
        try simp only [Act.put, List.setIfInBounds_toArray, List.set_cons_zero, List.set_cons_succ]
        refine until_call (i := 4) (o := ⟨some 174, _, _, _, _, _⟩) (by kernel_rfl) rfl (fun K hK => ?_)
        refine step_append_sl2 rfl _ _ 26 rfl w1.heap.size 101 i0 (.agg #[.int .i64 0, .bool false]) 2 16 Try.underlying26 Hi.out Hz.out Hs.out Hb.out rfl (by decide) _ 0 [] rfl hs1C base _ A.length (ftc A) rfl u2C (ftc_one _) n1 n2 n3C ?_
        intro v5 w5 hx5
        have x5n := hx5.now
        have b5 : Below w1.heap.size w1 w5 := BC.drew.trans (hx5.below (Nat.le_refl _) n3C)
        obtain ⟨p1, p2, p3, p4⟩ := FF.out w5 b5
        refine hK.out _ _ ⟨p2, p3⟩ p1 (fun hB hT1 => ?_)
        clear hK K hB hT1
        try simp only [Act.put, List.setIfInBounds_toArray, List.set_cons_zero, List.set_cons_succ]
        have lit5 := MV.out _ _ _ _ _ _ _ hx5 litC (by omega)
        have n6 := b5.size
        refine until_call (i := 12) (o := ⟨some 182, _, _, _, _, _⟩) (by kernel_rfl) rfl (fun K hK => ?_)
        refine step_append_sl2 rfl _ _ 26 rfl w1.heap.size 101 i0 (.agg #[.int .i64 0, .bool false]) 2 16 Try.underlying26 Hi.out Hz.out Hs.out Hb.out rfl (by decide) _ (0 + A.length) ([] ++ ftc A) rfl x5n w1.heap.size _ 1 _ rfl lit5 hone n4 n5 n6 ?_
        intro v6 w6 hx6
        have x6n := hx6.now
        rw [Nat.zero_add, List.nil_append] at x6n
        obtain ⟨a6, c6, rfl⟩ := x6n.slice
        have b6 : Below w1.heap.size w1 w6 := b5.trans (hx6.below (Nat.le_refl _) n6)
        obtain ⟨q1, q2, q3, q4⟩ := FF.out w6 b6
        refine hK.out _ _ ⟨q2, q3⟩ q1 (fun hB hT1 => ?_)
        clear hK K hB hT1
        try simp only [Act.put, List.setIfInBounds_toArray, List.set_cons_zero, List.set_cons_succ]
    case' wB =>
      go_simp
      refine hK.out _ _ ⟨b2, b3⟩ b1 (fun hB hT1 => ?_)
      clear hK K hB hT1
      try simp only [Act.put, List.setIfInBounds_toArray, List.set_cons_zero, List.set_cons_succ]
      refine until_call (i := 0) (o := ⟨some 170, _, _, _, _, _⟩) (by kernel_rfl) rfl (fun K hK => ?_)
      go_simp
      refine hK.out _ _ ⟨d2, d3⟩ d1 (fun hB hT1 => ?_)
      clear hK K hB hT1
      try simp only [Act.put, List.setIfInBounds_toArray, List.set_cons_zero, List.set_cons_succ]
      refine until_call (i := 4) (o := ⟨some 174, _, _, _, _, _⟩) (by kernel_rfl) rfl (fun K hK => ?_)
      refine step_append_sl2 rfl _ _ 26 rfl w1.heap.size 101 i0 (.agg #[.int .i64 0, .bool false]) 2 16 Try.underlying26 Hi.out Hz.out Hs.out Hb.out rfl (by decide) _ 0 [] rfl hs1D base _ A.length (ftc A) rfl u2D (ftc_one _) n1 n2 n3D ?_
      intro v5 w5 hx5
      have x5n := hx5.now
      have b5 : Below w1.heap.size w1 w5 := BD.drew.trans (hx5.below (Nat.le_refl _) n3D)
      obtain ⟨p1, p2, p3, p4⟩ := FF.out w5 b5
      refine hK.out _ _ ⟨p2, p3⟩ p1 (fun hB hT1 => ?_)
      clear hK K hB hT1
      try simp only [Act.put, List.setIfInBounds_toArray, List.set_cons_zero, List.set_cons_succ]
      have lit5 := MV.out _ _ _ _ _ _ _ hx5 litD (by omega)
      have n6 := b5.size
      refine until_call (i := 12) (o := ⟨some 182, _, _, _, _, _⟩) (by kernel_rfl) rfl (fun K hK => ?_)
      refine step_append_sl2 rfl _ _ 26 rfl w1.heap.size 101 i0 (.agg #[.int .i64 0, .bool false]) 2 16 Try.underlying26 Hi.out Hz.out Hs.out Hb.out rfl (by decide) _ (0 + A.length) ([] ++ ftc A) rfl x5n w1.heap.size _ 1 _ rfl lit5 hone n4 n5 n6 ?_
      intro v6 w6 hx6
      have x6n := hx6.now
      rw [Nat.zero_add, List.nil_append] at x6n
      obtain ⟨a6, c6, rfl⟩ := x6n.slice
      have b6 : Below w1.heap.size w1 w6 := b5.trans (hx6.below (Nat.le_refl _) n6)
      obtain ⟨q1, q2, q3, q4⟩ := FF.out w6 b6
      refine hK.out _ _ ⟨q2, q3⟩ q1 (fun hB hT1 => ?_)
      clear hK K hB hT1
      try simp only [Act.put, List.setIfInBounds_toArray, List.set_cons_zero, List.set_cons_succ]
    all_goals
      clear hU
      have hU := fun (L : Array Bool) => (show Until (fun W => W.cell? ⟨w.heap.size + 1, 1, none⟩ = some (.int .i64 an) ∧ W.cell? ⟨w.heap.size + 1, 5, none⟩ = some (.bool dd)) (fun W => W.cell? ⟨w.heap.size, 1, none⟩ = some (.slice ua un uc)) 15 L w6 from ⟨⟨q2, q3⟩, fun _ => q1⟩)
      refine until_take (i := 13) (oi := ⟨some 183, _, _, _, _, _⟩) (v := ?_) rfl (by kernel_rfl) (by kernel_rfl) (by kernel_rfl) (fun _ _ _ h => h) (by decide) (Or.inl ⟨by rfl, ?_⟩) (hU _) ?_
      rotate_left
      · intro W hSw; (try dsimp only at hSw); go_simp; try with_reducible rfl
      try simp only [Act.put, List.setIfInBounds_toArray, List.set_cons_zero, List.set_cons_succ]
      refine until_take (i := 14) (oi := ⟨some 184, _, _, _, _, _⟩) (v := ?_) rfl (by kernel_rfl) (by kernel_rfl) (by kernel_rfl) (fun _ _ _ h => h) (by decide) (Or.inl ⟨by rfl, ?_⟩) (hU _) ?_
      rotate_left
      · intro W hSw; (try dsimp only at hSw); go_simp; try with_reducible rfl
      try simp only [Act.put, List.setIfInBounds_toArray, List.set_cons_zero, List.set_cons_succ]
      refine until_write (o := ⟨none, _, _, _, _, _⟩) (by kernel_rfl) rfl (by kernel_rfl) (fun K hK => ?_)
      go_simp
      have hz := HZ.out
      have hB7 : (w6.setCell ⟨w.heap.size, 1, none⟩ (.slice a6 (A.length + 1) c6)).cell? ⟨w.heap.size + 1, 1, none⟩ = some (.int .i64 an) ∧ (w6.setCell ⟨w.heap.size, 1, none⟩ (.slice a6 (A.length + 1) c6)).cell? ⟨w.heap.size + 1, 5, none⟩ = some (.bool dd) :=
        ⟨by rw [cell_setCell_other _ _ _ _ _ (.inl (by simp only; omega))]; exact q2, by rw [cell_setCell_other _ _ _ _ _ (.inl (by simp only; omega))]; exact q3⟩
      refine hK.out _ _ hB7 (fun hH2 => ?_)
      clear hK K hU hH2 hB7
      refine wpAnyH_done (by kernel_rfl) ?_ _
      have c0' := (b6.cell (p := ⟨w.heap.size, 0, none⟩) hz0).trans k0
      have r0' := (b6.cell (p := ⟨w.heap.size + 1 + 1, 0, none⟩) hz).trans r0
      have r1' := (b6.cell (p := ⟨w.heap.size + 1 + 1, 1, none⟩) hz).trans r1
      have f0' := (b6.frozen (p := ⟨w.heap.size + 1 + 1, 0, none⟩) hz).trans f0
      have f1' := (b6.frozen (p := ⟨w.heap.size + 1 + 1, 1, none⟩) hz).trans f1
      obtain ⟨W7, hW7⟩ : ∃ W7, W7 = w6.setCell ⟨w.heap.size, 1, none⟩ (.slice a6 (A.length + 1) c6) := ⟨_, rfl⟩
      have x0 : W7.cell? ⟨w.heap.size, 0, none⟩ = some (.slice va vn vc) := by rw [hW7, cell_setCell_other _ _ _ _ _ (.inr (by simp))]; exact c0'
      have x1 : W7.cell? ⟨w.heap.size, 1, none⟩ = some (.slice a6 (A.length + 1) c6) := by rw [hW7]; exact cell_setCell_same _ _ _ _ (by rw [q1]; rfl)
      have y0 : W7.cell? ⟨w.heap.size + 1 + 1, 0, none⟩ = some (.slice none 0 0) := by rw [hW7, cell_setCell_other _ _ _ _ _ (.inl (by simp only; omega))]; exact r0'
      have y1 : W7.cell? ⟨w.heap.size + 1 + 1, 1, none⟩ = some (.slice none 0 0) := by rw [hW7, cell_setCell_other _ _ _ _ _ (.inl (by simp only; omega))]; exact r1'
      have g0 : W7.frozen? ⟨w.heap.size + 1 + 1, 0, none⟩ = false := by rw [hW7, frozen_setCell]; exact f0'
      have g1 : W7.frozen? ⟨w.heap.size + 1 + 1, 1, none⟩ = false := by rw [hW7, frozen_setCell]; exact f1'
      have T7 : Turn (fun i => i = w.heap.size ∨ i = w.heap.size + 1 + 1) w6 W7 := by rw [hW7]; exact Turn.setCell (S := fun i => i = w.heap.size ∨ i = w.heap.size + 1 + 1) (Turn.refl _ w6) ⟨w.heap.size, 1, none⟩ _ (.inl rfl)
      rw [← hW7]
      have T7h := Lib.hid T7
      have X6 := Lib.hid x6n
      have B6 := Lib.hid b6
      (try clear hW7); (try clear hx5); (try clear hx6); (try clear x5n); (try clear x6n); (try clear b5); (try clear b6); (try clear q1); (try clear q2); (try clear q3); (try clear q4); (try clear p1); (try clear p2); (try clear p3); (try clear p4); (try clear a1); (try clear a2); (try clear a3); (try clear a4); (try clear b1); (try clear b2); (try clear b3); (try clear b4); (try clear c1); (try clear c2); (try clear c3); (try clear c4); (try clear d1); (try clear d2); (try clear d3); (try clear d4); (try clear n1); (try clear n2); (try clear n3); (try clear n3C); (try clear n3D); (try clear n4); (try clear n5); (try clear n6); (try clear hone); (try clear u2A); (try clear u2C); (try clear u2D); (try clear hs1A); (try clear hs1C); (try clear hs1D); (try clear litC); (try clear litD0); (try clear litD); (try clear lit5); (try clear BA); (try clear BB); (try clear BC); (try clear BD); (try clear UW); (try clear hHeld); (try clear k0); (try clear k1); (try clear l0); (try clear l1); (try clear r0); (try clear r1); (try clear f0); (try clear f1); (try clear e1); (try clear e2); (try clear e3); (try clear c0'); (try clear r0'); (try clear r1'); (try clear f0'); (try clear f1'); (try clear hz0); (try clear hz1); (try clear hz); (try clear T7); (try clear c0); (try clear n1); (try clear n5)
      go_wp2_with fail
      obtain ⟨W8, hW8⟩ : ∃ W8, W8 = (W7.setCell ⟨w.heap.size + 1 + 1, 0, none⟩ (.slice va vn vc)).setCell ⟨w.heap.size + 1 + 1, 1, none⟩ (.slice a6 (A.length + 1) c6) := ⟨_, rfl⟩
      have v0 : W8.cell? ⟨w.heap.size + 1 + 1, 0, none⟩ = some (.slice va vn vc) := by
        rw [hW8, cell_setCell_other _ _ _ _ _ (.inr (by simp))]
        exact cell_setCell_same _ _ _ _ (by rw [y0]; rfl)
      have v1 : W8.cell? ⟨w.heap.size + 1 + 1, 1, none⟩ = some (.slice a6 (A.length + 1) c6) := by
        rw [hW8]
        exact cell_setCell_same _ _ _ _ (by rw [cell_setCell_other _ _ _ _ _ (.inr (by simp)), y1]; rfl)
      have hM := HM.out
      have hB := HB.out
      have hk := KL.out
      have hz := HZ.out
      have T8 : Turn (fun i => i = w.heap.size ∨ i = w.heap.size + 1 + 1) w6 W8 := by
        rw [hW8]
        exact Turn.setCell (S := fun i => i = w.heap.size ∨ i = w.heap.size + 1 + 1) (Turn.setCell (S := fun i => i = w.heap.size ∨ i = w.heap.size + 1 + 1) T7h.out ⟨w.heap.size + 1 + 1, 0, none⟩ _ (.inr rfl)) ⟨w.heap.size + 1 + 1, 1, none⟩ _ (.inr rfl)
      have T18 := (Turn.of_below (S := fun i => i = w.heap.size ∨ i = w.heap.size + 1 + 1) B6.out).trans T8
      have hbk8 : Bk k f c m os A2 W8 := Bk.turn D1 T18 (by rintro (e | e) <;> omega) (by rintro (e | e) <;> omega) (by rintro (e | e) <;> omega) (by rintro (e | e) <;> omega)
      have TT : Turn (Mb f c m) w w1 := (Turn.of_below BV.out).trans T1.out
      have TW : Turn (Mb f c m) w W8 := ⟨T18.os.trans TT.os, T18.tape.trans TT.tape, T18.output.trans TT.output, Nat.le_trans TT.size T18.size, fun i hi hn => (T18.block i (by have := TT.size; omega) (by rintro (e | e) <;> omega)).trans (TT.block i hi hn)⟩
      have hs8 : Sl W8 base 3 (.slice va vn vc) xs.length (rjc xs) := HS.out.mb TW hM
      have hu8 : Sl W8 base 2 (.slice a6 (A.length + 1) c6) A2.length (ftc A2) := by
        have h6 := X6.out
        have h8 := h6.same T8.size fun i hi => T8.block i (h6.lt i hi).2 (by have := (h6.lt i hi).1; rintro (e | e) <;> omega)
        have h9 := h8.mono (base' := base) (by omega)
        rw [HA2.out]
        rw [List.length_append]
        have e : ftc (A ++ [(max an 0, dd)]) = ftc A ++ [.int .i64 (max an 0), .bool dd] := by simp [ftc]
        rw [e]
        exact h9
      rw [← hW8]
      refine bodyPost_ret (by simp [results, Try.results13, go_sem, v0, v1]; rfl) rfl ?_
      exact ⟨_, _, A2, rfl, hbk8, .inl HA2.out, hs8, hu8, fun _ h => .inl h, fun k hk => .inr (by have := (X6.out.lt k hk).1; omega), TW⟩
  · have HA2 := Lib.hid hA2
    clear hA2
    go_wp2_with fail
    obtain ⟨W6, hW6⟩ : ∃ W6, W6 = (w1.setCell ⟨w.heap.size + 1 + 1, 0, none⟩ (.slice va vn vc)).setCell ⟨w.heap.size + 1 + 1, 1, none⟩ (.slice ua un uc) := ⟨_, rfl⟩
    have c0 : W6.cell? ⟨w.heap.size + 1 + 1, 0, none⟩ = some (.slice va vn vc) := by
      rw [hW6, cell_setCell_other _ _ _ _ _ (.inr (by simp))]
      exact cell_setCell_same _ _ _ _ (by rw [r0]; rfl)
    have c1 : W6.cell? ⟨w.heap.size + 1 + 1, 1, none⟩ = some (.slice ua un uc) := by
      rw [hW6]
      exact cell_setCell_same _ _ _ _ (by rw [cell_setCell_other _ _ _ _ _ (.inr (by simp)), r1]; rfl)
    have hM := HM.out
    have hB := HB.out
    have hk := KL.out
    have TWW : Turn (fun i => i = w.heap.size + 1 + 1) w1 W6 := by
      rw [hW6]
      exact Turn.setCell (S := fun i => i = w.heap.size + 1 + 1) (Turn.setCell (S := fun i => i = w.heap.size + 1 + 1) (Turn.refl _ w1) ⟨w.heap.size + 1 + 1, 0, none⟩ _ rfl) ⟨w.heap.size + 1 + 1, 1, none⟩ _ rfl
    have bW6 : Below w.heap.size w1 W6 := by
      rw [hW6]
      exact ((Below.mono (Below.refl w1.heap.size w1) (by have := HZ.out; omega)).setCell (p := ⟨w.heap.size + 1 + 1, 0, none⟩) (by simp only; omega) _).setCell (p := ⟨w.heap.size + 1 + 1, 1, none⟩) (by simp only; omega) _
    have hbk6 : Bk k f c m os A2 W6 := Bk.turn D1 TWW (by omega) (by omega) (by omega) (by omega)
    have TT : Turn (Mb f c m) w w1 := (Turn.of_below BV.out).trans T1.out
    have TW : Turn (Mb f c m) w W6 := ⟨bW6.os.trans TT.os, bW6.tape.trans TT.tape, bW6.output.trans TT.output, Nat.le_trans TT.size bW6.size, fun i hi hn => (bW6.block i hi).trans (TT.block i hi hn)⟩
    have hs6 : Sl W6 base 3 (.slice va vn vc) xs.length (rjc xs) := HS.out.mb TW hM
    have hu6 : Sl W6 base 2 (.slice ua un uc) A2.length (ftc A2) := by rw [HA2.out]; exact HU.out.mb TW hM
    rw [← hW6]
    refine bodyPost_ret (by simp [results, Try.results13, go_sem, c0, c1]; rfl) rfl ?_
    exact ⟨_, _, A2, rfl, hbk6, .inr HA2.out, hs6, hu6, fun _ h => .inl h, fun _ h => .inl h, TW⟩
end Go.Proofs.Ytnjoojffefhgpaa
